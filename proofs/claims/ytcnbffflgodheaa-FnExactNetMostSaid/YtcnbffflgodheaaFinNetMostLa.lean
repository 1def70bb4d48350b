import Derived.Test.YtcnbffflgodheaaChipP
import Derived.Test.YtcnbffflgodheaaImpl1
import Derived.Test.YtcnbffflgodheaaOwn
import Derived.Deep.AppendLies
import Derived.Test.YtcnbffflgodheaaL2Size
import Derived.Laws.AppendOwn
import Derived.Laws.MakeOwn
import Derived.Test.YtcnbffflgodheaaNetG
import Derived.Test.YtcnbffflgodheaaTurnImpl
import Derived.Test.YtcnbffflgodheaaWR
import Derived.Test.YtcnbffflgodheaaGrid
import Derived.Test.YtcnbffflgodheaaMakeEntry
import Derived.StillTailTactics
import Derived.Test.YtcnbffflgodheaaOrdF
import Derived.Test.YtcnbffflgodheaaPartImpl
import Derived.Test.YtcnbffflgodheaaIter
import Derived.RangeFuncFrom
import Derived.RangeFuncBox
import Derived.RangeFuncNested
import Derived.Test.YtcnbffflgodheaaUnitImpl
import Derived.RangeFuncBound
import Derived.RangeFuncCalls
import Derived.RangeFuncLeaves
import Derived.Shelf.Abstract
import Derived.Shelf.RegionOpen
import Derived.WalkKit
import Derived.OwnWalkIn
import Derived.TacticsInMore
import Derived.LoopNIn
import Derived.LoopIn
import Derived.Laws.EntriesVeiled
import Derived.Deep.RegionHeld3
import Derived.Deep.QuietTactic
import Derived.BigQuiet

section
namespace Go.Proofs.Ytcnbffflgodheaa
open Go.RowKit Go.Deep

theorem bitI_fin : ∀ s : Fin 32, ∀ i : Fin 6, bits BinOp.and IntKind.i64 ((s.val : Int) / 2 ^ i.val) 1 = if s.val.testBit i.val then 1 else 0 := by decide +kernel
theorem bitI (s i : Nat) (hs : s ≤ 31) (hi : i ≤ 5) : bits BinOp.and IntKind.i64 ((s : Int) / 2 ^ i) 1 = if s.testBit i then 1 else 0 := bitI_fin ⟨s, by omega⟩ ⟨i, by omega⟩
theorem xor2_fin : ∀ s : Fin 32, ∀ i k : Fin 5, bits BinOp.xor IntKind.i64 (bits BinOp.xor IntKind.i64 (s.val : Int) (2 ^ i.val)) (2 ^ k.val) = ((s.val ^^^ 2 ^ i.val ^^^ 2 ^ k.val : Nat) : Int) ∧ s.val ^^^ 2 ^ i.val ^^^ 2 ^ k.val ≤ 31 := by decide +kernel
theorem xor2 (s i k : Nat) (hs : s ≤ 31) (hi : i ≤ 4) (hk : k ≤ 4) : bits BinOp.xor IntKind.i64 (bits BinOp.xor IntKind.i64 (s : Int) (2 ^ i)) (2 ^ k) = ((s ^^^ 2 ^ i ^^^ 2 ^ k : Nat) : Int) ∧ s ^^^ 2 ^ i ^^^ 2 ^ k ≤ 31 := xor2_fin ⟨s, by omega⟩ ⟨i, by omega⟩ ⟨k, by omega⟩
theorem p2w_fin : ∀ i : Fin 6, IntKind.i64.wrap (2 ^ i.val) = 2 ^ i.val ∧ wrap64 (2 ^ i.val) = 2 ^ i.val := by decide +kernel

set_option maxRecDepth 100000 in
set_option maxHeartbeats 400000 in
theorem fams_h (K : ByteArray) (V : Int) (M cap t b o s L  : Nat) (w : World) (P : Int) (hH : K.toList = [104]) (hL : L ≤ 4) (hw1 : IntKind.i64.wrap (V * P) = V * P) (hbit : bits BinOp.and IntKind.i64 ((s : Int) / 2 ^ L) 1 = 1) (IHP : ∀ (W : World) (q c' : Nat), w.Since w.heap.size W → (q = o + 3 ∨ cap = 1) → M ≤ c' → c' ≤ cap → Calls Try.prog 74 #[.slice (some ⟨b, q, none⟩) M c', .int .i64 s, .int .i64 t] W fun e w' => e = .returned (.int .i64 P) ∧ W.Since W.heap.size w') (hM : M + 1 ≤ 10) (hcap : M + 1 ≤ cap) (hc63 : cap ≤ 9223372036854775807)
    (k1 : w.cell? ⟨b, o, none⟩ = some (.string K)) (k2 : w.cell? ⟨b, o + 1, none⟩ = some (.int .i64 L)) (k3 : w.cell? ⟨b, o + 2, none⟩ = some (.int .i64 V)) :
    Calls Try.prog 74 #[.slice (some ⟨b, o, none⟩) (M + 1) cap, .int .i64 s, .int .i64 t] w fun e w' => e = .returned (.int .i64 (V * P)) ∧ w.Since w.heap.size w' := by
  obtain ⟨d1, d2, d3⟩ := chip_box w K L V 71
  have HS := Lib.hid ((World.Since.refl w.heap.size w).alloc (Nat.le_refl _) (.cells #[.string K, .int .i64 L, .int .i64 V] 71))
  replace IHP := Lib.hid IHP
  rcases Nat.lt_or_eq_of_le (show 1 ≤ cap by omega) with hc1 | rfl
  · have hb1 : (0 : Int) ≤ (M : Int) := by omega
    have hb2 : (1 : Int) ≤ (M : Int) + 1 := by omega
    have hb3 : (M : Int) + 1 ≤ (cap : Int) := by omega
    have hc2 : ¬ cap = 1 := by omega
    have hc3 : ¬ 1 = cap := by omega
    go_enter Try.func74, Try.ntmps74
    go_wp2_with fail
    go_region_held3 (fun w' => w'.cell? ⟨w.heap.size, 2, none⟩ = some (.int .i64 V)) (first | exact d3 | exact c4)
      (first | (go_at_call 74; refine (IHP.out _ _ _ HS.out.drew (by first | exact .inr trivial | exact .inr rfl | exact .inl rfl) (by omega) (by omega)).mono ?_; rintro e w1 ⟨rfl, hs1⟩; have c4 := (hs1.cell (a := ⟨w.heap.size, 2, none⟩) (by simp)).trans d3; have HS1 := Lib.hid hs1; clear hs1))
    all_goals
      go_wp2_with fail
      go_ret
      exact ⟨rfl, HS.out.trans (since_mono (since_of_drew HS1.out) HS.out.size)⟩
  · obtain rfl : M = 0 := by omega
    clear hM hcap hc63
    go_enter Try.func74, Try.ntmps74
    go_wp2_with fail
    go_region_held3 (fun w' => w'.cell? ⟨w.heap.size, 2, none⟩ = some (.int .i64 V)) (first | exact d3 | exact c4)
      (first | (go_at_call 74; refine (IHP.out _ _ _ HS.out.drew (by first | exact .inr trivial | exact .inr rfl | exact .inl rfl) (by omega) (by omega)).mono ?_; rintro e w1 ⟨rfl, hs1⟩; have c4 := (hs1.cell (a := ⟨w.heap.size, 2, none⟩) (by simp)).trans d3; have HS1 := Lib.hid hs1; clear hs1))
    all_goals
      go_wp2_with fail
      go_ret
      exact ⟨rfl, HS.out.trans (since_mono (since_of_drew HS1.out) HS.out.size)⟩

set_option maxRecDepth 100000 in
set_option maxHeartbeats 400000 in
theorem fams_g (K : ByteArray) (V : Int) (M cap t b o s L  : Nat) (w : World) (P : Int) (hH : K.toList = [104]) (hL : L ≤ 4) (hbit : bits BinOp.and IntKind.i64 ((s : Int) / 2 ^ L) 1 = 0) (IHP : ∀ (W : World) (q c' : Nat), w.Since w.heap.size W → (q = o + 3 ∨ cap = 1) → M ≤ c' → c' ≤ cap → Calls Try.prog 74 #[.slice (some ⟨b, q, none⟩) M c', .int .i64 s, .int .i64 t] W fun e w' => e = .returned (.int .i64 P) ∧ W.Since W.heap.size w') (hM : M + 1 ≤ 10) (hcap : M + 1 ≤ cap) (hc63 : cap ≤ 9223372036854775807)
    (k1 : w.cell? ⟨b, o, none⟩ = some (.string K)) (k2 : w.cell? ⟨b, o + 1, none⟩ = some (.int .i64 L)) (k3 : w.cell? ⟨b, o + 2, none⟩ = some (.int .i64 V)) :
    Calls Try.prog 74 #[.slice (some ⟨b, o, none⟩) (M + 1) cap, .int .i64 s, .int .i64 t] w fun e w' => e = .returned (.int .i64 (P)) ∧ w.Since w.heap.size w' := by
  obtain ⟨d1, d2, d3⟩ := chip_box w K L V 71
  have HS := Lib.hid ((World.Since.refl w.heap.size w).alloc (Nat.le_refl _) (.cells #[.string K, .int .i64 L, .int .i64 V] 71))
  replace IHP := Lib.hid IHP
  rcases Nat.lt_or_eq_of_le (show 1 ≤ cap by omega) with hc1 | rfl
  · have hb1 : (0 : Int) ≤ (M : Int) := by omega
    have hb2 : (1 : Int) ≤ (M : Int) + 1 := by omega
    have hb3 : (M : Int) + 1 ≤ (cap : Int) := by omega
    have hc2 : ¬ cap = 1 := by omega
    have hc3 : ¬ 1 = cap := by omega
    go_enter Try.func74, Try.ntmps74
    go_wp2_with (go_at_call 74; refine (IHP.out _ _ _ HS.out (by first | exact .inr trivial | exact .inr rfl | exact .inl rfl) (by omega) (by omega)).mono ?_; rintro e w1 ⟨rfl, hs1⟩)
    all_goals
      go_ret
      exact ⟨rfl, HS.out.trans (since_mono hs1 HS.out.size)⟩
  · obtain rfl : M = 0 := by omega
    clear hM hcap hc63
    go_enter Try.func74, Try.ntmps74
    go_wp2_with (go_at_call 74; refine (IHP.out _ _ _ HS.out (by first | exact .inr trivial | exact .inr rfl | exact .inl rfl) (by omega) (by omega)).mono ?_; rintro e w1 ⟨rfl, hs1⟩)
    all_goals
      go_ret
      exact ⟨rfl, HS.out.trans (since_mono hs1 HS.out.size)⟩

set_option maxRecDepth 100000 in
set_option maxHeartbeats 400000 in
theorem fams_n (K : ByteArray) (V : Int) (M cap t b o s L F T : Nat) (w : World) (P : Int) (hH : (K.toList == [104]) = false) (hF : F ≤ 4) (hbit : bits BinOp.and IntKind.i64 ((s : Int) / 2 ^ F) 1 = 0) (EF : ∀ W : World, Calls Try.prog 102 #[.agg #[.string K, .int .i64 L, .int .i64 V]] W fun e w' => e = .returned (.tuple #[.int .i64 F, .int .i64 T]) ∧ W.Since W.heap.size w') (IHP : ∀ (W : World) (q c' : Nat), w.Since w.heap.size W → (q = o + 3 ∨ cap = 1) → M ≤ c' → c' ≤ cap → Calls Try.prog 74 #[.slice (some ⟨b, q, none⟩) M c', .int .i64 s, .int .i64 t] W fun e w' => e = .returned (.int .i64 P) ∧ W.Since W.heap.size w') (hM : M + 1 ≤ 10) (hcap : M + 1 ≤ cap) (hc63 : cap ≤ 9223372036854775807)
    (k1 : w.cell? ⟨b, o, none⟩ = some (.string K)) (k2 : w.cell? ⟨b, o + 1, none⟩ = some (.int .i64 L)) (k3 : w.cell? ⟨b, o + 2, none⟩ = some (.int .i64 V)) :
    Calls Try.prog 74 #[.slice (some ⟨b, o, none⟩) (M + 1) cap, .int .i64 s, .int .i64 t] w fun e w' => e = .returned (.int .i64 (P)) ∧ w.Since w.heap.size w' := by
  obtain ⟨d1, d2, d3⟩ := chip_box w K L V 71
  have HS := Lib.hid ((World.Since.refl w.heap.size w).alloc (Nat.le_refl _) (.cells #[.string K, .int .i64 L, .int .i64 V] 71))
  replace IHP := Lib.hid IHP
  replace EF := Lib.hid EF
  rcases Nat.lt_or_eq_of_le (show 1 ≤ cap by omega) with hc1 | rfl
  · have hb1 : (0 : Int) ≤ (M : Int) := by omega
    have hb2 : (1 : Int) ≤ (M : Int) + 1 := by omega
    have hb3 : (M : Int) + 1 ≤ (cap : Int) := by omega
    have hc2 : ¬ cap = 1 := by omega
    have hc3 : ¬ 1 = cap := by omega
    go_enter Try.func74, Try.ntmps74
    go_wp2_with (first
      | (go_at_call 102; refine (EF.out _).mono ?_; rintro e w1 ⟨rfl, hs1⟩; have HS1 := Lib.hid (HS.out.trans (since_mono hs1 HS.out.size)); clear hs1)
      | (go_at_call 74; refine (IHP.out _ _ _ HS1.out (by first | exact .inr trivial | exact .inr rfl | exact .inl rfl) (by omega) (by omega)).mono ?_; rintro e w2 ⟨rfl, hs2⟩; have HS2 := Lib.hid (HS1.out.trans (since_mono hs2 HS1.out.size)); clear hs2))
    all_goals
      go_ret
      exact ⟨rfl, HS2.out⟩
  · obtain rfl : M = 0 := by omega
    clear hM hcap hc63
    go_enter Try.func74, Try.ntmps74
    go_wp2_with (first
      | (go_at_call 102; refine (EF.out _).mono ?_; rintro e w1 ⟨rfl, hs1⟩; have HS1 := Lib.hid (HS.out.trans (since_mono hs1 HS.out.size)); clear hs1)
      | (go_at_call 74; refine (IHP.out _ _ _ HS1.out (by first | exact .inr trivial | exact .inr rfl | exact .inl rfl) (by omega) (by omega)).mono ?_; rintro e w2 ⟨rfl, hs2⟩; have HS2 := Lib.hid (HS1.out.trans (since_mono hs2 HS1.out.size)); clear hs2))
    all_goals
      go_ret
      exact ⟨rfl, HS2.out⟩

set_option maxRecDepth 100000 in
set_option maxHeartbeats 400000 in
theorem fams_m (K : ByteArray) (V : Int) (M cap t b o s L F T : Nat) (w : World) (P : Int) (hH : (K.toList == [104]) = false) (hF : F ≤ 4) (hT : T ≤ 4) (hbit : bits BinOp.and IntKind.i64 ((s : Int) / 2 ^ F) 1 = 1) (hbit2 : bits BinOp.and IntKind.i64 ((s : Int) / 2 ^ T) 1 = 1) (EF : ∀ W : World, Calls Try.prog 102 #[.agg #[.string K, .int .i64 L, .int .i64 V]] W fun e w' => e = .returned (.tuple #[.int .i64 F, .int .i64 T]) ∧ W.Since W.heap.size w') (IHP : ∀ (W : World) (q c' : Nat), w.Since w.heap.size W → (q = o + 3 ∨ cap = 1) → M ≤ c' → c' ≤ cap → Calls Try.prog 74 #[.slice (some ⟨b, q, none⟩) M c', .int .i64 s, .int .i64 t] W fun e w' => e = .returned (.int .i64 P) ∧ W.Since W.heap.size w') (hM : M + 1 ≤ 10) (hcap : M + 1 ≤ cap) (hc63 : cap ≤ 9223372036854775807)
    (k1 : w.cell? ⟨b, o, none⟩ = some (.string K)) (k2 : w.cell? ⟨b, o + 1, none⟩ = some (.int .i64 L)) (k3 : w.cell? ⟨b, o + 2, none⟩ = some (.int .i64 V)) :
    Calls Try.prog 74 #[.slice (some ⟨b, o, none⟩) (M + 1) cap, .int .i64 s, .int .i64 t] w fun e w' => e = .returned (.int .i64 (P)) ∧ w.Since w.heap.size w' := by
  obtain ⟨d1, d2, d3⟩ := chip_box w K L V 71
  have HS := Lib.hid ((World.Since.refl w.heap.size w).alloc (Nat.le_refl _) (.cells #[.string K, .int .i64 L, .int .i64 V] 71))
  replace IHP := Lib.hid IHP
  replace EF := Lib.hid EF
  rcases Nat.lt_or_eq_of_le (show 1 ≤ cap by omega) with hc1 | rfl
  · have hb1 : (0 : Int) ≤ (M : Int) := by omega
    have hb2 : (1 : Int) ≤ (M : Int) + 1 := by omega
    have hb3 : (M : Int) + 1 ≤ (cap : Int) := by omega
    have hc2 : ¬ cap = 1 := by omega
    have hc3 : ¬ 1 = cap := by omega
    go_enter Try.func74, Try.ntmps74
    go_wp2_with (first
      | (go_at_call 102; refine (EF.out _).mono ?_; rintro e w1 ⟨rfl, hs1⟩; have HS1 := Lib.hid (HS.out.trans (since_mono hs1 HS.out.size)); clear hs1)
      | (go_at_call 74; refine (IHP.out _ _ _ HS1.out (by first | exact .inr trivial | exact .inr rfl | exact .inl rfl) (by omega) (by omega)).mono ?_; rintro e w2 ⟨rfl, hs2⟩; have HS2 := Lib.hid (HS1.out.trans (since_mono hs2 HS1.out.size)); clear hs2))
    all_goals
      go_ret
      exact ⟨rfl, HS2.out⟩
  · obtain rfl : M = 0 := by omega
    clear hM hcap hc63
    go_enter Try.func74, Try.ntmps74
    go_wp2_with (first
      | (go_at_call 102; refine (EF.out _).mono ?_; rintro e w1 ⟨rfl, hs1⟩; have HS1 := Lib.hid (HS.out.trans (since_mono hs1 HS.out.size)); clear hs1)
      | (go_at_call 74; refine (IHP.out _ _ _ HS1.out (by first | exact .inr trivial | exact .inr rfl | exact .inl rfl) (by omega) (by omega)).mono ?_; rintro e w2 ⟨rfl, hs2⟩; have HS2 := Lib.hid (HS1.out.trans (since_mono hs2 HS1.out.size)); clear hs2))
    all_goals
      go_ret
      exact ⟨rfl, HS2.out⟩

set_option maxRecDepth 100000 in
set_option maxHeartbeats 400000 in
theorem fams_o (K : ByteArray) (V : Int) (M cap t b o s L F T u : Nat) (w : World) (P R : Int) (hH : (K.toList == [104]) = false) (hF : F ≤ 4) (hT : T ≤ 4) (hbit : bits BinOp.and IntKind.i64 ((s : Int) / 2 ^ F) 1 = 1) (hbit2 : bits BinOp.and IntKind.i64 ((s : Int) / 2 ^ T) 1 = 0) (hw2 : IntKind.i64.wrap (V * R) = V * R) (hw3 : IntKind.i64.wrap (P + V * R) = P + V * R)
    (hx : bits BinOp.xor IntKind.i64 (bits BinOp.xor IntKind.i64 (s : Int) (2 ^ F)) (2 ^ T) = (u : Int)) (hpF : IntKind.i64.wrap (2 ^ F) = 2 ^ F) (hpT : IntKind.i64.wrap (2 ^ T) = 2 ^ T) (hmF : min F 64 = F) (hmT : min T 64 = T) (EF : ∀ W : World, Calls Try.prog 102 #[.agg #[.string K, .int .i64 L, .int .i64 V]] W fun e w' => e = .returned (.tuple #[.int .i64 F, .int .i64 T]) ∧ W.Since W.heap.size w') (IHP : ∀ (W : World) (q c' : Nat), w.Since w.heap.size W → (q = o + 3 ∨ cap = 1) → M ≤ c' → c' ≤ cap → Calls Try.prog 74 #[.slice (some ⟨b, q, none⟩) M c', .int .i64 s, .int .i64 t] W fun e w' => e = .returned (.int .i64 P) ∧ W.Since W.heap.size w')
    (IHR : ∀ (W : World) (q c' : Nat), w.Since w.heap.size W → (q = o + 3 ∨ cap = 1) → M ≤ c' → c' ≤ cap → Calls Try.prog 74 #[.slice (some ⟨b, q, none⟩) M c', .int .i64 u, .int .i64 t] W fun e w' => e = .returned (.int .i64 R) ∧ W.Since W.heap.size w') (hM : M + 1 ≤ 10) (hcap : M + 1 ≤ cap) (hc63 : cap ≤ 9223372036854775807)
    (k1 : w.cell? ⟨b, o, none⟩ = some (.string K)) (k2 : w.cell? ⟨b, o + 1, none⟩ = some (.int .i64 L)) (k3 : w.cell? ⟨b, o + 2, none⟩ = some (.int .i64 V)) :
    Calls Try.prog 74 #[.slice (some ⟨b, o, none⟩) (M + 1) cap, .int .i64 s, .int .i64 t] w fun e w' => e = .returned (.int .i64 (P + V * R)) ∧ w.Since w.heap.size w' := by
  obtain ⟨d1, d2, d3⟩ := chip_box w K L V 71
  have HS := Lib.hid ((World.Since.refl w.heap.size w).alloc (Nat.le_refl _) (.cells #[.string K, .int .i64 L, .int .i64 V] 71))
  replace IHP := Lib.hid IHP
  replace IHR := Lib.hid IHR
  replace EF := Lib.hid EF
  rcases Nat.lt_or_eq_of_le (show 1 ≤ cap by omega) with hc1 | rfl
  · have hb1 : (0 : Int) ≤ (M : Int) := by omega
    have hb2 : (1 : Int) ≤ (M : Int) + 1 := by omega
    have hb3 : (M : Int) + 1 ≤ (cap : Int) := by omega
    have hc2 : ¬ cap = 1 := by omega
    have hc3 : ¬ 1 = cap := by omega
    go_enter Try.func74, Try.ntmps74
    go_wp2_with (first
      | (go_at_call 102; refine (EF.out _).mono ?_; rintro e w1 ⟨rfl, hs1⟩; have c4 := (hs1.cell (a := ⟨w.heap.size, 2, none⟩) (by simp)).trans d3; have HS1 := Lib.hid (HS.out.trans (since_mono hs1 HS.out.size)); clear hs1)
      | (go_at_call 74; refine (IHP.out _ _ _ HS1.out (by first | exact .inr trivial | exact .inr rfl | exact .inl rfl) (by omega) (by omega)).mono ?_; rintro e w2 ⟨rfl, hs2⟩; have c5 := (hs2.cell (a := ⟨w.heap.size, 2, none⟩) (World.block_lt_of_cell? _ _ c4)).trans c4; have HS2 := Lib.hid (HS1.out.trans (since_mono hs2 HS1.out.size)); clear hs2 c4))
    all_goals
      go_region_held3 (fun w' => w'.cell? ⟨w.heap.size, 2, none⟩ = some (.int .i64 V)) (first | exact c5 | exact c6)
        (first | (go_at_call 74; refine (IHR.out _ _ _ HS2.out.drew (by first | exact .inr trivial | exact .inr rfl | exact .inl rfl) (by omega) (by omega)).mono ?_; rintro e w3 ⟨rfl, hs3⟩; have c6 := (hs3.cell (a := ⟨w.heap.size, 2, none⟩) (World.block_lt_of_cell? w2 _ c5)).trans c5; have HS3 := Lib.hid hs3; clear hs3))
    all_goals
      go_wp2_with fail
      go_ret
      exact ⟨rfl, HS2.out.trans (since_mono (since_of_drew HS3.out) HS2.out.size)⟩
  · obtain rfl : M = 0 := by omega
    clear hM hcap hc63
    go_enter Try.func74, Try.ntmps74
    go_wp2_with (first
      | (go_at_call 102; refine (EF.out _).mono ?_; rintro e w1 ⟨rfl, hs1⟩; have c4 := (hs1.cell (a := ⟨w.heap.size, 2, none⟩) (by simp)).trans d3; have HS1 := Lib.hid (HS.out.trans (since_mono hs1 HS.out.size)); clear hs1)
      | (go_at_call 74; refine (IHP.out _ _ _ HS1.out (by first | exact .inr trivial | exact .inr rfl | exact .inl rfl) (by omega) (by omega)).mono ?_; rintro e w2 ⟨rfl, hs2⟩; have c5 := (hs2.cell (a := ⟨w.heap.size, 2, none⟩) (World.block_lt_of_cell? _ _ c4)).trans c4; have HS2 := Lib.hid (HS1.out.trans (since_mono hs2 HS1.out.size)); clear hs2 c4))
    all_goals
      go_region_held3 (fun w' => w'.cell? ⟨w.heap.size, 2, none⟩ = some (.int .i64 V)) (first | exact c5 | exact c6)
        (first | (go_at_call 74; refine (IHR.out _ _ _ HS2.out.drew (by first | exact .inr trivial | exact .inr rfl | exact .inl rfl) (by omega) (by omega)).mono ?_; rintro e w3 ⟨rfl, hs3⟩; have c6 := (hs3.cell (a := ⟨w.heap.size, 2, none⟩) (World.block_lt_of_cell? w2 _ c5)).trans c5; have HS3 := Lib.hid hs3; clear hs3))
    all_goals
      go_wp2_with fail
      go_ret
      exact ⟨rfl, HS2.out.trans (since_mono (since_of_drew HS3.out) HS2.out.size)⟩

theorem toC_ok5 {c : RC} (h : chOk 5 (toC c)) : (toC c).2.1 ≤ 4 ∧ ((toC c).1 ≠ 2 → cFrom (toC c) ≤ 4 ∧ cTo (toC c) ≤ 4) := by
  obtain ⟨h1, h2⟩ := h
  by_cases e : (toC c).1 = 2
  · rw [if_pos e] at h2
    exact ⟨by omega, fun h => absurd e h⟩
  · rw [if_neg e] at h2
    refine ⟨by omega, fun _ => ?_⟩
    unfold cFrom cTo
    constructor <;> split <;> omega

set_option maxRecDepth 100000 in
set_option maxHeartbeats 400000 in
theorem l6cFamilies_any : ∀ (cs : List RC) (a : Option Addr) (N cap : Nat) (s t : Nat) (w : World), cs.length = N → N ≤ 10 → N ≤ cap → cap ≤ 9223372036854775807 → (∀ c ∈ cs, RCok c ∧ chOk 5 (toC c)) → s ≤ 31 → ChipsR w a cs →
    Calls Try.prog 74 #[.slice a N cap, .int .i64 s, .int .i64 t] w fun e w' => e = .returned (.int .i64 (famN (cs.map toC) s t)) ∧ w.Since w.heap.size w'
  | [], a, N, cap, s, t, w, hN, _, _, _, _, _, _ => by
    obtain rfl : N = 0 := hN.symm
    clear hN
    by_cases e : s = t
    · subst e
      have hp : famN (([] : List RC).map toC) s s = 1 := by show (if s = s then (1 : Int) else 0) = 1; rw [if_pos rfl]
      rw [hp]
      go_enter Try.func74, Try.ntmps74
      go_wp2_with fail
      go_ret
      exact ⟨rfl, World.Since.refl _ _⟩
    · have hp : famN (([] : List RC).map toC) s t = 0 := by show (if s = t then (1 : Int) else 0) = 0; rw [if_neg e]
      rw [hp]
      have he : (s == t) = false := by simp; omega
      have he2 : ((s : Int) == (t : Int)) = false := by simp; omega
      go_enter Try.func74, Try.ntmps74
      go_wp2_with fail
      go_ret
      exact ⟨rfl, World.Since.refl _ _⟩
  | ⟨K, l, V⟩ :: cs, a, N, cap, s, t, w, hN, h10, hcap, hc63, hok, hs, hm => by
    obtain ⟨b, o, rfl, ⟨k1, k2, k3⟩, ht⟩ := hm.split
    obtain ⟨⟨hk, hl, hv⟩, h5⟩ := hok ⟨K, l, V⟩ (by simp)
    obtain ⟨M, rfl⟩ : ∃ M, N = M + 1 := ⟨cs.length, by simpa using hN.symm⟩
    have hM : cs.length = M := by simpa using hN
    have IH := fun (j : Nat) (hj : j ≤ 31) (W : World) (q c' : Nat) (hs : w.Since w.heap.size W) (hq : q = o + 3 ∨ cap = 1) (h1 : M ≤ c') (h2 : c' ≤ cap) => l6cFamilies_any cs (some ⟨b, q, none⟩) M c' j t W hM (by omega) h1 (by omega) (fun c hc => hok c (by simp [hc])) hj (ht W q cap hs (by omega) hq)
    have hbd := fun (j : Nat) => fam_bd (cs.map toC) (fun d hd => by
      rw [List.mem_map] at hd
      obtain ⟨e, he, rfl⟩ := hd
      exact (hok e (by simp [he])).1.2.2) j t
    have hp10 : p10 (cs.map toC).length ≤ 10000000000 := p10_le (by rw [List.length_map]; omega)
    rw [List.map_cons]
    simp only at hk hl hv k1 k2 k3
    obtain ⟨L, rfl⟩ : ∃ L : Nat, l = L := ⟨l.toNat, by omega⟩
    have hPb : -10000000000 ≤ famN (cs.map toC) s t ∧ famN (cs.map toC) s t ≤ 10000000000 := by have := hbd s; omega
    obtain ⟨hw1, hb1, hb2⟩ := wrap_mul9 hv hPb
    obtain ⟨g1, g2⟩ := toC_ok5 h5
    by_cases hH : K.toList = [104]
    · rw [toC_h hH] at g1 ⊢
      simp only at g1
      have hbi := bitI s L hs (by omega)
      cases hb : s.testBit L with
      | true =>
        have hpc : famN ((2, L, V) :: cs.map toC) s t = V * famN (cs.map toC) s t := by
          show (if 2 = 2 then (if s.testBit L = true then _ else _) else _) = _
          rw [if_pos rfl, if_pos hb]
        rw [hpc]
        exact fams_h K V M cap t b o s L w _ hH g1 hw1 (by rw [hbi, hb]; rfl) (IH s hs) h10 hcap hc63 k1 k2 k3
      | false =>
        have hpc : famN ((2, L, V) :: cs.map toC) s t = famN (cs.map toC) s t := by
          show (if 2 = 2 then (if s.testBit L = true then _ else _) else _) = _
          rw [if_pos rfl, if_neg (by rw [hb]; simp)]
        rw [hpc]
        exact fams_g K V M cap t b o s L w _ hH g1 (by rw [hbi, hb]; rfl) (IH s hs) h10 hcap hc63 k1 k2 k3
    · have hHb : (K.toList == [104]) = false := by simpa using hH
      have EF := fun (W : World) => l6cFrom_any K L V W (by omega)
      obtain ⟨k, hk1, hk2, hft⟩ := toC_n (L := L) (V := V) hH hk
      rw [hk2] at g2 ⊢
      rw [hft] at EF
      obtain ⟨hF, hT⟩ := g2 (by show k ≠ 2; omega)
      obtain ⟨F, hFF⟩ : ∃ F, cFrom (k, L, V) = F := ⟨_, rfl⟩
      obtain ⟨T, hTT⟩ : ∃ T, cTo (k, L, V) = T := ⟨_, rfl⟩
      have hpc : famN ((k, L, V) :: cs.map toC) s t = famN (cs.map toC) s t + (if s.testBit F = true ∧ s.testBit T = false then V * famN (cs.map toC) (s ^^^ 2 ^ F ^^^ 2 ^ T) t else 0) := by
        rw [← hFF, ← hTT]
        show (if k = 2 then _ else _) = _
        rw [if_neg (by omega)]
      rw [hpc]
      rw [hFF] at hF EF
      rw [hTT] at hT EF
      have hbF := bitI s F hs (by omega)
      have hbT := bitI s T hs (by omega)
      cases hf : s.testBit F with
      | false =>
        rw [if_neg (fun h => by simp at h), Int.add_zero]
        exact fams_n K V M cap t b o s L F T w _ hHb hF (by rw [hbF, hf]; rfl) EF (IH s hs) h10 hcap hc63 k1 k2 k3
      | true =>
        cases ht' : s.testBit T with
        | true =>
          rw [if_neg (fun h => by simp at h), Int.add_zero]
          exact fams_m K V M cap t b o s L F T w _ hHb hF hT (by rw [hbF, hf]; rfl) (by rw [hbT, ht']; rfl) EF (IH s hs) h10 hcap hc63 k1 k2 k3
        | false =>
          rw [if_pos ⟨rfl, rfl⟩]
          obtain ⟨hx, hx31⟩ := xor2 s F T hs hF hT
          have hRb : -10000000000 ≤ famN (cs.map toC) (s ^^^ 2 ^ F ^^^ 2 ^ T) t ∧ famN (cs.map toC) (s ^^^ 2 ^ F ^^^ 2 ^ T) t ≤ 10000000000 := by have := hbd (s ^^^ 2 ^ F ^^^ 2 ^ T); omega
          obtain ⟨hw2, hb3, hb4⟩ := wrap_mul9 hv hRb
          exact fams_o K V M cap t b o s L F T _ w _ _ hHb hF hT (by rw [hbF, hf]; rfl) (by rw [hbT, ht']; rfl) hw2 (IntWalk.i64_in _ ⟨by omega, by omega⟩) hx (p2w_fin ⟨F, by omega⟩).1 (p2w_fin ⟨T, by omega⟩).1 (by omega) (by omega) EF (IH s hs) (IH _ hx31) h10 hcap hc63 k1 k2 k3

end Go.Proofs.Ytcnbffflgodheaa
end

section
namespace Go.Proofs.Ytcnbffflgodheaa
open Go.RowKit Go.Deep

theorem infoChip : (Try.prog.info? 71).map (fun i => (i.size, i.bytes)) = some (3, 32) := by kernel_rfl
theorem zeroChip : ((Try.prog.info? 71).bind (·.zero)) = some (.agg #[.string ⟨#[]⟩, .int .i64 0, .int .i64 0]) := by kernel_rfl
theorem infoChip_parts : ∃ i, Try.prog.info? 71 = some i ∧ i.zero = some (.agg #[.string ⟨#[]⟩, .int .i64 0, .int .i64 0]) ∧ i.size = 3 ∧ i.bytes = 32 := by
  have h := infoChip
  have hz := zeroChip
  cases e : Try.prog.info? 71 with
  | none => rw [e] at h; cases h
  | some i =>
    rw [e] at h hz
    simp only [Option.map_some, Option.some.injEq, Prod.mk.injEq] at h
    exact ⟨i, rfl, hz, h.1, h.2⟩

def ch3 (cs : List RC) : List Value := cs.flatMap fun c => [.string c.k, .int .i64 c.l, .int .i64 c.w]
theorem ch3_length : ∀ cs, (ch3 cs).length = cs.length * 3
  | [] => rfl
  | c :: cs => by
    have := ch3_length cs
    unfold ch3 at this ⊢
    rw [List.flatMap_cons, List.length_append, this, List.length_cons]
    simp only [List.length_cons, List.length_nil]
    omega
theorem ch3_app (xs ys : List RC) : ch3 (xs ++ ys) = ch3 xs ++ ch3 ys := by simp [ch3]
theorem ch3_snoc (cs : List RC) (c : RC) : ch3 (cs ++ [c]) = ch3 cs ++ [.string c.k, .int .i64 c.l, .int .i64 c.w] := by simp [ch3]
theorem ch3_get : ∀ (cs : List RC) (i : Nat), i < cs.length → (ch3 cs)[i * 3]? = some (.string (cs.getD i rc0).k) ∧ (ch3 cs)[i * 3 + 1]? = some (.int .i64 (cs.getD i rc0).l) ∧ (ch3 cs)[i * 3 + 2]? = some (.int .i64 (cs.getD i rc0).w)
  | [], i, h => by simp at h
  | c :: cs, 0, _ => ⟨rfl, rfl, rfl⟩
  | c :: cs, i + 1, h => by
    have := ch3_get cs i (by simp at h; omega)
    rw [show (i + 1) * 3 = i * 3 + 3 by omega]
    exact this
theorem ch3_one (cs : List RC) : ∀ u ∈ ch3 cs, u.oneCell' = true := fun u hu => by
  obtain ⟨c, _, hc⟩ := List.mem_flatMap.1 hu
  simp at hc
  rcases hc with rfl | rfl | rfl <;> rfl

def InC (lo hi : Nat) (w : World) (a : Option Addr) (cs : List RC) : Prop :=
  0 < cs.length → ∃ g o : Nat, a = some ⟨g, o, none⟩ ∧ (lo ≤ g ∧ g < hi) ∧ ∀ i, i < cs.length → w.cell? ⟨g, o + i * 3, none⟩ = some (.string (cs.getD i rc0).k) ∧ w.cell? ⟨g, o + i * 3 + 1, none⟩ = some (.int .i64 (cs.getD i rc0).l) ∧ w.cell? ⟨g, o + i * 3 + 2, none⟩ = some (.int .i64 (cs.getD i rc0).w)
def OwnC (lo hi : Nat) (w : World) (a : Option Addr) (cs : List RC) : Prop :=
  0 < cs.length → ∃ g : Nat, a = some ⟨g, 0, none⟩ ∧ (lo ≤ g ∧ g < hi) ∧ ∀ i, i < cs.length → (w.cell? ⟨g, i * 3, none⟩ = some (.string (cs.getD i rc0).k) ∧ w.cell? ⟨g, i * 3 + 1, none⟩ = some (.int .i64 (cs.getD i rc0).l) ∧ w.cell? ⟨g, i * 3 + 2, none⟩ = some (.int .i64 (cs.getD i rc0).w)) ∧
    (w.frozen? ⟨g, i * 3, none⟩ = false ∧ w.frozen? ⟨g, i * 3 + 1, none⟩ = false ∧ w.frozen? ⟨g, i * 3 + 2, none⟩ = false)
theorem OwnC.inC {lo hi : Nat} {w : World} {a : Option Addr} {x : List RC} (h : OwnC lo hi w a x) : InC lo hi w a x := fun h0 => by
  obtain ⟨g, e, hg, hc⟩ := h h0
  exact ⟨g, 0, e, hg, fun i hi => by rw [Nat.zero_add]; exact (hc i hi).1⟩
theorem InC.chips {lo hi : Nat} {w : World} {a : Option Addr} {x : List RC} (h : InC lo hi w a x) : ChipsR w a x := fun h0 => by
  obtain ⟨g, o, e, _, hc⟩ := h h0
  exact ⟨g, o, e, hc⟩
theorem OwnC.chips {lo hi : Nat} {w : World} {a : Option Addr} {x : List RC} (h : OwnC lo hi w a x) : ChipsR w a x := h.inC.chips
theorem InC.nil (lo hi : Nat) (w : World) (a : Option Addr) : InC lo hi w a [] := fun h => by simp at h
theorem OwnC.nil (lo hi : Nat) (w : World) (a : Option Addr) : OwnC lo hi w a [] := fun h => by simp at h
theorem InC.mono {lo hi lo' hi' : Nat} {w : World} {a : Option Addr} {x : List RC} (h : InC lo hi w a x) (h1 : lo' ≤ lo) (h2 : hi ≤ hi') : InC lo' hi' w a x := fun h0 => by
  obtain ⟨g, o, e, hg, hc⟩ := h h0
  exact ⟨g, o, e, by omega, hc⟩
theorem OwnC.mono {lo hi lo' hi' : Nat} {w : World} {a : Option Addr} {x : List RC} (h : OwnC lo hi w a x) (h1 : lo' ≤ lo) (h2 : hi ≤ hi') : OwnC lo' hi' w a x := fun h0 => by
  obtain ⟨g, e, hg, hc⟩ := h h0
  exact ⟨g, e, by omega, hc⟩
theorem InC.frame {lo hi lo' hi' : Nat} {w w' : World} {a : Option Addr} {x : List RC} (h : InC lo hi w a x) (hf : Frame lo' hi' w w') (hd : hi ≤ lo' ∨ hi' ≤ lo) : InC lo hi w' a x := fun h0 => by
  obtain ⟨g, o, e, hg, hc⟩ := h h0
  exact ⟨g, o, e, hg, fun i hi1 => ⟨hf.cell (hc i hi1).1 (by show g < lo' ∨ hi' ≤ g; omega), hf.cell (hc i hi1).2.1 (by show g < lo' ∨ hi' ≤ g; omega), hf.cell (hc i hi1).2.2 (by show g < lo' ∨ hi' ≤ g; omega)⟩⟩
theorem OwnC.frame {lo hi lo' hi' : Nat} {w w' : World} {a : Option Addr} {x : List RC} (h : OwnC lo hi w a x) (hf : Frame lo' hi' w w') (hd : hi ≤ lo' ∨ hi' ≤ lo) : OwnC lo hi w' a x := fun h0 => by
  obtain ⟨g, e, hg, hc⟩ := h h0
  refine ⟨g, e, hg, fun i hi1 => ?_⟩
  obtain ⟨⟨c1, c2, c3⟩, f1, f2, f3⟩ := hc i hi1
  exact ⟨⟨hf.cell c1 (by show g < lo' ∨ hi' ≤ g; omega), hf.cell c2 (by show g < lo' ∨ hi' ≤ g; omega), hf.cell c3 (by show g < lo' ∨ hi' ≤ g; omega)⟩,
    (hf.frozen c1 (by show g < lo' ∨ hi' ≤ g; omega)).trans f1, (hf.frozen c2 (by show g < lo' ∨ hi' ≤ g; omega)).trans f2, (hf.frozen c3 (by show g < lo' ∨ hi' ≤ g; omega)).trans f3⟩
theorem InC.since {lo hi : Nat} {w w' : World} {a : Option Addr} {x : List RC} (h : InC lo hi w a x) (hs : w.Since w.heap.size w') : InC lo hi w' a x := h.frame (frame_since hs hi hi) (.inl (Nat.le_refl _))
theorem OwnC.since {lo hi : Nat} {w w' : World} {a : Option Addr} {x : List RC} (h : OwnC lo hi w a x) (hs : w.Since w.heap.size w') : OwnC lo hi w' a x := h.frame (frame_since hs hi hi) (.inl (Nat.le_refl _))

structure CB (w wr : World) (v : Value) (cs : List RC) : Prop where
  since : w.Since w.heap.size wr
  own : wr.ownsRow w.heap.size 71 3 v cs.length (ch3 cs)
theorem cb_none (w : World) : CB w w (.slice none 0 0) [] := ⟨World.Since.refl _ _, World.ownsRow_nil _ _ _ _⟩
theorem cb_start (w : World) (cs : Array Value) (hc : cs.size = 0) : CB w (w.alloc (.cells cs 71)) (.slice (some ⟨w.heap.size, 0, none⟩) 0 0) [] :=
  ⟨(World.Since.refl _ _).alloc (Nat.le_refl _) _, World.ownsRow_made w cs 0 (Nat.le_refl _) (Nat.zero_le _) (by simpa using hc)⟩
theorem CB.ownC {w wr : World} {v : Value} {cs : List RC} (h : CB w wr v cs) : ∃ a cap, v = .slice a cs.length cap ∧ OwnC w.heap.size wr.heap.size wr a cs ∧ cs.length ≤ cap ∧ cap ≤ 9223372036854775807 := by
  have hm : maxLen = 9223372036854775807 := rfl
  rcases h.own.2 with ⟨hv, h0⟩ | ⟨g, cap, cur, rfl, hb, hg, hn, hmx, hs, ht⟩
  · have : cs = [] := List.length_eq_zero_iff.1 h0
    subst this
    exact ⟨none, 0, hv, OwnC.nil _ _ _ _, Nat.le_refl _, by omega⟩
  · refine ⟨_, cap, rfl, fun _ => ⟨g, rfl, ⟨hb, (Array.getElem?_eq_some_iff.1 hg).1⟩, fun i hi => ?_⟩, hn, by omega⟩
    obtain ⟨e1, e2, e3⟩ := ch3_get cs i hi
    have hf : ∀ j, wr.frozen? ⟨g, j, none⟩ = false := fun j => by simp [World.frozen?, hg]
    exact ⟨⟨(World.ownsRow.cellAt h.own (i * 3) (by omega)).trans e1, (World.ownsRow.cellAt h.own (i * 3 + 1) (by omega)).trans e2, (World.ownsRow.cellAt h.own (i * 3 + 2) (by omega)).trans e3⟩, hf _, hf _, hf _⟩
theorem CB.later {w wr w1 : World} {v : Value} {cs : List RC} (h : CB w wr v cs) (hs : wr.Since wr.heap.size w1) : CB w w1 v cs :=
  ⟨h.since.trans (since_mono hs h.since.size), h.own.kept (row := none) ⟨hs.os, hs.tape, hs.output, hs.size, fun k hk _ => hs.block k hk⟩ (by
      cases hv : v.ownBlock with
      | none => exact .inl rfl
      | some k => exact .inr (by simp))⟩
theorem CB.push {w wr w1 W : World} {v v' : Value} {cs ds : List RC} {n : Nat} (h : CB w wr v cs) (hn : n = cs.length + ds.length) (hs : wr.Since wr.heap.size W) (hown : w1.ownsRow w.heap.size 71 3 v' n (ch3 cs ++ ch3 ds)) (hg : W.grownBy w1 v.ownBlock) :
    CB w w1 v' (cs ++ ds) := by
  have hB : w.heap.size ≤ wr.heap.size := h.since.size
  have hBW := hs.size
  subst hn
  refine ⟨(h.since.trans (since_mono hs hB)).grown hg (by omega) (fun k e => (h.own.lt k e).1), ?_⟩
  rw [ch3_app, List.length_append]
  exact hown

theorem news3 (w : World) (c : RC) (T : TypeId) : ∀ j u, (ch3 [c])[j]? = some u → (w.alloc (.cells #[.string c.k, .int .i64 c.l, .int .i64 c.w] T)).cell? ((⟨w.heap.size, 0, none⟩ : Addr).add j) = some u :=
  World.news_of_block (World.alloc_heap_new w (.cells #[.string c.k, .int .i64 c.l, .int .i64 c.w] T))

end Go.Proofs.Ytcnbffflgodheaa
end

section
namespace Go.Proofs.Ytcnbffflgodheaa
open Go.RowKit Go.Deep

structure NetOk (n : Nat) (cs : List RC) : Prop where
  lo : 2 ≤ n
  hi : n ≤ 5
  len : cs.length ≤ 10
  ok : ∀ c ∈ cs, RCok c ∧ chOk n (toC c)
theorem chipB_ok {n : Nat} (hn : 2 ≤ n ∧ n ≤ 5) {c : RC} (h : chipB n c = true) : RCok c ∧ chOk n (toC c) := by
  obtain ⟨K, l, V⟩ := c
  unfold chipB kindB inB at h
  simp only [Bool.and_eq_true, decide_eq_true_eq] at h
  obtain ⟨h1, hv⟩ := h
  by_cases hH : K.toList = [104]
  · rw [if_pos hH] at h1
    simp only [decide_eq_true_eq] at h1
    obtain ⟨L, rfl⟩ : ∃ L : Nat, l = L := ⟨l.toNat, by omega⟩
    refine ⟨⟨.inl hH, ⟨by show (0 : Int) ≤ (L : Int); omega, by show (L : Int) ≤ 10; omega⟩, hv⟩, ?_⟩
    rw [toC_h hH]
    refine ⟨Nat.le_refl _, ?_⟩
    rw [if_pos rfl]
    show L < n
    omega
  · rw [if_neg hH] at h1
    by_cases hk : K.toList = [117] ∨ K.toList = [100]
    · rw [if_pos hk] at h1
      simp only [decide_eq_true_eq] at h1
      obtain ⟨L, rfl⟩ : ∃ L : Nat, l = L := ⟨l.toNat, by omega⟩
      have hk3 : K.toList = [104] ∨ K.toList = [117] ∨ K.toList = [100] := .inr hk
      refine ⟨⟨hk3, ⟨by show (0 : Int) ≤ (L : Int); omega, by show (L : Int) ≤ 10; omega⟩, hv⟩, ?_⟩
      obtain ⟨k, hk1, hk2, _⟩ := toC_n (L := L) (V := V) hH hk3
      rw [hk2]
      refine ⟨by show k ≤ 2; omega, ?_⟩
      rw [if_neg (by show ¬ k = 2; omega)]
      show L + 1 < n
      omega
    · rw [if_neg hk] at h1; cases h1
theorem netB_ok {n : Int} {cs : List RC} (h : netB n cs = true) : ∃ m : Nat, n = m ∧ NetOk m cs := by
  unfold netB inB at h
  simp only [Bool.and_eq_true, decide_eq_true_eq] at h
  obtain ⟨hn, hl, hc⟩ := h
  obtain ⟨m, rfl⟩ : ∃ m : Nat, n = m := ⟨n.toNat, by omega⟩
  exact ⟨m, rfl, by omega, by omega, hl, fun c hm => chipB_ok (by omega) (List.all_eq_true.1 hc c hm)⟩
theorem NetOk.rc {n : Nat} {cs : List RC} (h : NetOk n cs) : ∀ c ∈ cs, RCok c := fun c hc => (h.ok c hc).1
theorem NetOk.five {n : Nat} {cs : List RC} (h : NetOk n cs) : ∀ c ∈ cs, RCok c ∧ chOk 5 (toC c) := fun c hc => ⟨(h.ok c hc).1, by
  obtain ⟨h1, h2⟩ := (h.ok c hc).2
  have h5 := h.hi
  refine ⟨h1, ?_⟩
  by_cases e : (toC c).1 = 2
  · rw [if_pos e] at h2 ⊢; omega
  · rw [if_neg e] at h2 ⊢; omega⟩
theorem NetOk.ch {n : Nat} {cs : List RC} (h : NetOk n cs) : ∀ c ∈ cs.map toC, chOk n c := fun c hc => by
  obtain ⟨d, hd, rfl⟩ := List.mem_map.1 hc
  exact (h.ok d hd).2

noncomputable def linesB (n : Int) (cs : List RC) (i k : Int) : Bool := netB n cs && (inB i 0 (n - 1) && inB k 0 (n - 1))
noncomputable def pathsV (n : Int) (cs : List RC) (i k : Int) : Int := if linesB n cs i k = true then pathN (cs.map toC) i.toNat k.toNat else 0

theorem lines_ok {n i k : Int} {cs : List RC} (h : linesB n cs i k = true) : ∃ m j l : Nat, n = m ∧ NetOk m cs ∧ (i = j ∧ j < m) ∧ k = l ∧ l < m := by
  unfold linesB at h
  simp only [Bool.and_eq_true] at h
  obtain ⟨h1, h2, h3⟩ := h
  obtain ⟨m, rfl, hm⟩ := netB_ok h1
  unfold inB at h2 h3
  simp only [decide_eq_true_eq] at h2 h3
  exact ⟨m, i.toNat, k.toNat, rfl, hm, by omega, by omega, by omega⟩

noncomputable def famsB (n : Int) (cs : List RC) (s t : Int) : Bool := netB n cs && (inB s 0 (2 ^ n.toNat - 1) && (inB t 0 (2 ^ n.toNat - 1) && (popcS s.toNat == popcS t.toNat)))
noncomputable def famsV (n : Int) (cs : List RC) (s t : Int) : Int := if famsB n cs s t = true then famN (cs.map toC) s.toNat t.toNat else 0
theorem fams_ok {n s t : Int} {cs : List RC} (h : famsB n cs s t = true) : ∃ m j l : Nat, n = m ∧ NetOk m cs ∧ (s = j ∧ j < 2 ^ m ∧ j ≤ 31) ∧ (t = l ∧ l < 2 ^ m ∧ l ≤ 31) ∧ popcS j = popcS l := by
  unfold famsB at h
  simp only [Bool.and_eq_true, beq_iff_eq] at h
  obtain ⟨h1, h2, h3, h4⟩ := h
  obtain ⟨m, rfl, hm⟩ := netB_ok h1
  unfold inB at h2 h3
  simp only [decide_eq_true_eq, Int.toNat_natCast] at h2 h3
  have hp : 2 ^ m ≤ 2 ^ 5 := Nat.pow_le_pow_right (by omega) hm.hi
  have hc : ((2 : Int) ^ m) = ((2 ^ m : Nat) : Int) := by simp
  rw [hc] at h2 h3
  exact ⟨m, s.toNat, t.toNat, rfl, hm, by omega, by omega, h4⟩

theorem p5_fin : ∀ m : Fin 6, (wrap64 (2 ^ m.val) = ((2 ^ m.val : Nat) : Int) ∧ IntKind.i64.wrap (2 ^ m.val) = ((2 ^ m.val : Nat) : Int)) ∧ (2 : Int) ^ m.val = ((2 ^ m.val : Nat) : Int) ∧ 1 ≤ 2 ^ m.val ∧ 2 ^ m.val ≤ 32 := by decide +kernel

end Go.Proofs.Ytcnbffflgodheaa
end

section
namespace Go.Proofs.Ytcnbffflgodheaa
open Go.RowKit Go.Deep

def oneC (q : Int) (c : RC) : RC := ⟨c.k, c.l, if c.w = 0 then q else 1⟩
theorem take_map_snoc {α : Type} (f : RC → α) (cs : List RC) (r : Nat) (h : r < cs.length) : (cs.take (r + 1)).map f = (cs.take r).map f ++ [f (cs.getD r rc0)] := by
  rw [List.take_succ_eq_append_getElem h, List.map_append]
  congr 2
  simp [List.getD, h]
theorem ChipsR.at {W : World} {a : Option Addr} {cs : List RC} (h : ChipsR W a cs) {i : Nat} (hi : i < cs.length) : ∃ b o, a = some ⟨b, o, none⟩ ∧ W.cell? ⟨b, o + i * 3, none⟩ = some (.string (cs.getD i rc0).k) ∧ W.cell? ⟨b, o + i * 3 + 1, none⟩ = some (.int .i64 (cs.getD i rc0).l) ∧ W.cell? ⟨b, o + i * 3 + 2, none⟩ = some (.int .i64 (cs.getD i rc0).w) := by
  obtain ⟨b, o, e, hc⟩ := h (by omega)
  exact ⟨b, o, e, hc i hi⟩

set_option maxRecDepth 100000 in
set_option maxHeartbeats 1000000 in
theorem l6cOnes_any (a : Option Addr) (cap N : Nat) (q : Int) (cs : List RC) (w : World) (hN : cs.length = N) (h10 : N ≤ 10) (hm : ChipsR w a cs) :
    Calls Try.prog 73 #[.slice a N cap, .int .i64 q] w fun e w' => ∃ a' cap', e = .returned (.slice a' N cap') ∧ w.Since w.heap.size w' ∧ OwnC w.heap.size w'.heap.size w' a' (cs.map (oneC q)) ∧ N ≤ cap' ∧ cap' ≤ 9223372036854775807 := by
  obtain ⟨iC, hiC⟩ := infoChip_parts
  have HI := Lib.hid hiC
  have hst := cb_start w #[] rfl
  have HST := Lib.hid hst
  have HN := Lib.hid hN
  have HM := Lib.hid hm
  clear hiC hst hN hm
  go_enter Try.func73, Try.ntmps73
  go_wp2
  go_loopg [5, 6, 7] N (fun g v i _ wr => ∃ r : Nat, r ≤ N ∧ g = N - r ∧ i = .int .i64 r ∧ CB w wr v ((cs.take r).map (oneC q)))
  case atStart => exact ⟨0, Nat.zero_le _, rfl, rfl, HST.out⟩
  case round =>
    obtain ⟨r, hr, rfl, rfl, hC⟩ := hrel
    by_cases hlt : r < N
    · obtain ⟨b, o, rfl, k1, k2, k3⟩ := HM.out.at (show r < cs.length by rw [HN.out]; exact hlt)
      have c1 := (hC.since.cell (World.block_lt_of_cell? _ _ k1)).trans k1
      have c2 := (hC.since.cell (World.block_lt_of_cell? _ _ k2)).trans k2
      have c3 := (hC.since.cell (World.block_lt_of_cell? _ _ k3)).trans k3
      have hts := take_map_snoc (oneC q) cs r (by rw [HN.out]; exact hlt)
      have hlen : ((cs.take r).map (oneC q)).length = r := by rw [List.length_map, List.length_take, HN.out]; omega
      obtain ⟨K, hK⟩ : ∃ K, (cs.getD r rc0).k = K := ⟨_, rfl⟩
      obtain ⟨L, hL⟩ : ∃ L, (cs.getD r rc0).l = L := ⟨_, rfl⟩
      obtain ⟨V, hV⟩ : ∃ V, (cs.getD r rc0).w = V := ⟨_, rfl⟩
      have hoc : oneC q (cs.getD r rc0) = ⟨K, L, if V = 0 then q else 1⟩ := by unfold oneC; rw [hK, hL, hV]
      rw [hoc] at hts
      rw [hK] at c1; rw [hL] at c2; rw [hV] at c3
      obtain ⟨d1, d2, d3⟩ := chip_box wr K L V 71
      obtain ⟨xs, hxs⟩ : ∃ xs, (cs.take r).map (oneC q) = xs := ⟨_, rfl⟩
      rw [hxs] at hC hts hlen
      have HC := Lib.hid hC
      have HTS := Lib.hid hts
      have HLEN := Lib.hid hlen
      have hsz := hC.since.size
      clear k1 k2 k3 hts hlen hK hL hV hoc hC hxs
      by_cases hv : V = 0
      · rw [if_pos hv] at HTS
        have hvb : (V == 0) = true := by simpa using hv
        clear hv
        have HE := Lib.hid (show wr.Since wr.heap.size ((wr.alloc (.cells #[.string K, .int .i64 L, .int .i64 q] 71)).alloc (.cells #[.string K, .int .i64 L, .int .i64 q] 71)) from ((World.Since.refl _ _).alloc (Nat.le_refl _) _).alloc (by simp) _)
        go_wp2_with (at_builtin; (refine wpList_append_own _ rfl _ _ 38 rfl w.heap.size 71 iC (.agg #[.string ⟨#[]⟩, .int .i64 0, .int .i64 0]) 3 32 Try.underlying38 HI.out.1 HI.out.2.1 HI.out.2.2.1 HI.out.2.2.2 rfl (by decide) _ _ _ rfl ((HC.out.later HE.out).own) ⟨wr.heap.size + 1, 0, none⟩ 1 1 (ch3 [⟨K, L, q⟩]) rfl rfl (by have := news3 (wr.alloc (.cells #[.string K, .int .i64 L, .int .i64 q] 71)) ⟨K, L, q⟩ 71; simpa using this) (ch3_one _) (by rw [HLEN.out]; unfold maxLen; omega) (by rw [HLEN.out]; omega) (by simp; omega) ?_); intro v' w1 hown' hgrow _)
        have hP := HC.out.push (ds := [⟨K, L, q⟩]) rfl HE.out hown' hgrow
        have HP := Lib.hid hP
        clear hP hown' hgrow
        go_roundg (N - (r + 1))
        case measure => omega
        case rel => exact ⟨r + 1, by omega, rfl, by go_num, by rw [HTS.out]; exact HP.out⟩
      · rw [if_neg hv] at HTS
        have hvb : (V == 0) = false := by simpa using hv
        clear hv
        have HE := Lib.hid (show wr.Since wr.heap.size ((wr.alloc (.cells #[.string K, .int .i64 L, .int .i64 1] 71)).alloc (.cells #[.string K, .int .i64 L, .int .i64 1] 71)) from ((World.Since.refl _ _).alloc (Nat.le_refl _) _).alloc (by simp) _)
        go_wp2_with (at_builtin; (refine wpList_append_own _ rfl _ _ 38 rfl w.heap.size 71 iC (.agg #[.string ⟨#[]⟩, .int .i64 0, .int .i64 0]) 3 32 Try.underlying38 HI.out.1 HI.out.2.1 HI.out.2.2.1 HI.out.2.2.2 rfl (by decide) _ _ _ rfl ((HC.out.later HE.out).own) ⟨wr.heap.size + 1, 0, none⟩ 1 1 (ch3 [⟨K, L, 1⟩]) rfl rfl (by have := news3 (wr.alloc (.cells #[.string K, .int .i64 L, .int .i64 1] 71)) ⟨K, L, 1⟩ 71; simpa using this) (ch3_one _) (by rw [HLEN.out]; unfold maxLen; omega) (by rw [HLEN.out]; omega) (by simp; omega) ?_); intro v' w1 hown' hgrow _)
        have hP := HC.out.push (ds := [⟨K, L, 1⟩]) rfl HE.out hown' hgrow
        have HP := Lib.hid hP
        clear hP hown' hgrow
        go_roundg (N - (r + 1))
        case measure => omega
        case rel => exact ⟨r + 1, by omega, rfl, by go_num, by rw [HTS.out]; exact HP.out⟩
    · obtain rfl : r = N := by omega
      obtain ⟨a', cap', rfl, hO, h1, h2⟩ := hC.ownC
      have hlen : ((cs.take r).map (oneC q)).length = r := by rw [List.length_map, List.length_take, HN.out]; omega
      rw [hlen] at h1 ⊢
      rw [List.take_of_length_le (by rw [HN.out]; exact Nat.le_refl _)] at hO
      have HO := Lib.hid hO
      have HS := Lib.hid hC.since
      clear hO hC hlen
      go_wp2
      go_ret
      exact ⟨_, _, rfl, HS.out, HO.out, h1, h2⟩

end Go.Proofs.Ytcnbffflgodheaa
end

section
namespace Go.Proofs.Ytcnbffflgodheaa
open Go.RowKit Go.Deep

abbrev kU : ByteArray := ⟨#[117]⟩
abbrev kD : ByteArray := ⟨#[100]⟩
noncomputable def trC (c : RC) : RC := ⟨if c.k.toList = [117] then kD else if c.k.toList = [100] then kU else c.k, c.l, c.w⟩
noncomputable def turnC (cs : List RC) : List RC := cs.reverse.map trC
theorem drop_rev (f : RC → RC) (cs : List RC) (j : Nat) (h : j < cs.length) : (cs.drop j).reverse.map f = (cs.drop (j + 1)).reverse.map f ++ [f (cs.getD j rc0)] := by
  rw [List.drop_eq_getElem_cons h, List.reverse_cons, List.map_append]
  congr 2
  simp [List.getD, h]
def resC (ok : Bool) (cs : List RC) : List RC := if ok = true then cs else []

theorem addr_add (b o i : Nat) : (⟨b, o, none⟩ : Addr).add i = ⟨b, o + i, none⟩ := by unfold Addr.add; split <;> simp_all
theorem cells_ch3 {W : World} {b o : Nat} {cs : List RC} (h : ∀ i, i < cs.length → W.cell? ⟨b, o + i * 3, none⟩ = some (.string (cs.getD i rc0).k) ∧ W.cell? ⟨b, o + i * 3 + 1, none⟩ = some (.int .i64 (cs.getD i rc0).l) ∧ W.cell? ⟨b, o + i * 3 + 2, none⟩ = some (.int .i64 (cs.getD i rc0).w)) :
    ∀ j u, (ch3 cs)[j]? = some u → W.cell? ((⟨b, o, none⟩ : Addr).add j) = some u := fun j u hj => by
  have hl : j < cs.length * 3 := by
    have := (List.getElem?_eq_some_iff.1 hj).1
    rw [ch3_length] at this; exact this
  obtain ⟨e1, e2, e3⟩ := ch3_get cs (j / 3) (by omega)
  obtain ⟨h1, h2, h3⟩ := h (j / 3) (by omega)
  rw [addr_add]
  have hj3 : j = j / 3 * 3 ∨ j = j / 3 * 3 + 1 ∨ j = j / 3 * 3 + 2 := by omega
  rcases hj3 with e | e | e
  · rw [e] at hj ⊢
    rw [e1] at hj; cases hj
    exact h1
  · rw [e] at hj ⊢
    rw [e2] at hj; cases hj
    rw [← Nat.add_assoc]
    exact h2
  · rw [e] at hj ⊢
    rw [e3] at hj; cases hj
    rw [← Nat.add_assoc]
    exact h3
theorem ChipsR.cells {w W : World} {b o : Nat} {cs : List RC} (h : ChipsR w (some ⟨b, o, none⟩) cs) (hs : w.Since w.heap.size W) : ∀ j u, (ch3 cs)[j]? = some u → W.cell? ((⟨b, o, none⟩ : Addr).add j) = some u := fun j u hj => by
  by_cases h0 : 0 < cs.length
  · obtain ⟨b', o', e, hc⟩ := h.since hs h0
    simp only [Option.some.injEq, Addr.mk.injEq, and_true] at e
    obtain ⟨rfl, rfl⟩ := e
    exact cells_ch3 hc j u hj
  · have := (List.getElem?_eq_some_iff.1 hj).1
    rw [ch3_length] at this
    omega

noncomputable def joinB (n : Int) (cs ds : List RC) : Bool := netB n cs && (netB n ds && decide (cs.length + ds.length ≤ 10))

end Go.Proofs.Ytcnbffflgodheaa
end

section
namespace Go.Proofs.Ytcnbffflgodheaa
open Go.RowKit Go.Deep

theorem lchip_box (w : World) (K : ByteArray) (L V : Int) :
    (w.alloc (.cells #[.string K, .int .i64 L, .int .i64 V] 67)).cell? ⟨w.heap.size, 0, none⟩ = some (.string K) ∧ (w.alloc (.cells #[.string K, .int .i64 L, .int .i64 V] 67)).cell? ⟨w.heap.size, 1, none⟩ = some (.int .i64 L) ∧ (w.alloc (.cells #[.string K, .int .i64 L, .int .i64 V] 67)).cell? ⟨w.heap.size, 2, none⟩ = some (.int .i64 V) := chip_box w K L V _

def SzCP (left : Int) (w : World) (e : Ending) (w' : World) : Prop := ∃ r : Int, (e = .returned (.int .i64 r) ∧ r ≤ left) ∧ w.Since w.heap.size w'

set_option maxHeartbeats 400000 in
theorem szChip_any (K : ByteArray) (L V left : Int) (w : World) (hl : 0 ≤ left ∧ left ≤ 1048576) (hK : K.size ≤ 9223372036854775807) :
    Calls Try.prog 71 #[.agg #[.string K, .int .i64 L, .int .i64 V], .int .i64 left] w (SzCP left w) := by
  obtain ⟨d1, d2, d3⟩ := lchip_box w K L V
  have HS := Lib.hid ((World.Since.refl w.heap.size w).alloc (Nat.le_refl _) (.cells #[.string K, .int .i64 L, .int .i64 V] 67))
  obtain ⟨s, hs⟩ : ∃ s, K.size = s := ⟨_, rfl⟩
  have hw : IntKind.i64.wrap (left - (s : Int)) = left - (s : Int) := IntWalk.i64_in _ ⟨by omega, by omega⟩
  rw [hs] at hK
  by_cases hn : left - (s : Int) < 0
  · have hb : decide (left - (s : Int) < 0) = true := by simpa using hn
    go_enter Try.func71, Try.ntmps71
    go_wp2
    go_ret
    exact ⟨-1, ⟨rfl, by omega⟩, HS.out⟩
  · have hb : decide (left - (s : Int) < 0) = false := by simpa using hn
    go_enter Try.func71, Try.ntmps71
    go_wp2
    go_ret
    exact ⟨left - (s : Int), ⟨rfl, by omega⟩, HS.out⟩

set_option maxHeartbeats 400000 in
theorem toChip_any (K : ByteArray) (L V : Int) (w : World) :
    Calls Try.prog 75 #[.agg #[.string K, .int .i64 L, .int .i64 V]] w fun e w' => e = .returned (.agg #[.string K, .int .i64 L, .int .i64 V]) ∧ w.Since w.heap.size w' := by
  obtain ⟨d1, d2, d3⟩ := lchip_box w K L V
  go_enter Try.func75, Try.ntmps75
  go_wp2
  exact bodyPost_ret (v := .agg #[.string K, .int .i64 L, .int .i64 V]) (by simp [results, Try.f75, go_sem]) rfl ⟨rfl, (((World.Since.refl w.heap.size w).alloc (Nat.le_refl _) _).alloc (by simp) _).alloc (by simp; omega) _⟩

set_option maxHeartbeats 400000 in
theorem eqChip_same (K : ByteArray) (L V : Int) (w : World) :
    Calls Try.prog 78 #[.agg #[.string K, .int .i64 L, .int .i64 V], .agg #[.string K, .int .i64 L, .int .i64 V]] w fun e w' => e = .returned (.bool true) ∧ w.Since w.heap.size w' := by
  obtain ⟨d1, d2, d3⟩ := chip_box w K L V 71
  obtain ⟨e1, e2, e3⟩ := chip_box (w.alloc (.cells #[.string K, .int .i64 L, .int .i64 V] 71)) K L V 71
  rw [World.size_alloc] at e1 e2 e3
  have f1 := cell_alloc_l (.cells #[.string K, .int .i64 L, .int .i64 V] 71) d1
  have f2 := cell_alloc_l (.cells #[.string K, .int .i64 L, .int .i64 V] 71) d2
  have f3 := cell_alloc_l (.cells #[.string K, .int .i64 L, .int .i64 V] 71) d3
  go_enter Try.func78, Try.ntmps78
  go_wp2
  go_ret
  exact ⟨rfl, ((World.Since.refl w.heap.size w).alloc (Nat.le_refl _) _).alloc (by simp) _⟩

def SzCsP (left : Int) (N : Nat) (w : World) (e : Ending) (w' : World) : Prop := ∃ r : Int, (e = .returned (.int .i64 r) ∧ r ≤ left ∧ (0 ≤ r → (N : Int) ≤ left)) ∧ w.Since w.heap.size w'
def ShortL (cs : List RC) : Prop := ∀ i, i < cs.length → (cs.getD i rc0).k.size ≤ 9223372036854775807

set_option maxRecDepth 100000 in
set_option maxHeartbeats 400000 in
theorem szChipS_any (a : Option Addr) (cap N : Nat) (left : Int) (cs : List RC) (w : World) (hN : cs.length = N) (h63 : N ≤ 9223372036854775807) (hl : 0 ≤ left ∧ left ≤ 1048576) (hsh : ShortL cs) (hm : ChipsR w a cs) :
    Calls Try.prog 28 #[.slice a N cap, .int .i64 left] w (SzCsP left N w) := by
  have hw : IntKind.i64.wrap (left - (N : Int)) = left - (N : Int) := IntWalk.i64_in _ ⟨by omega, by omega⟩
  have HN := Lib.hid hN
  have HM := Lib.hid hm
  have HSH := Lib.hid hsh
  clear hN hm hsh
  by_cases hn : left - (N : Int) < 0
  · have hb : decide (left - (N : Int) < 0) = true := by simpa using hn
    go_enter Try.func28, Try.ntmps28
    go_wp2
    go_ret
    exact ⟨-1, ⟨rfl, by omega, fun h => by omega⟩, World.Since.refl _ _⟩
  · have hb : decide (left - (N : Int) < 0) = false := by simpa using hn
    go_enter Try.func28, Try.ntmps28
    go_wp2
    clear hb
    go_loopg [1, 5] N (fun g l i wr => ∃ (r : Nat) (x : Int), r ≤ N ∧ g = N - r ∧ i = .int .i64 r ∧ l = .int .i64 x ∧ 0 ≤ x ∧ x ≤ left ∧ w.Since w.heap.size wr)
    case atStart => exact ⟨0, _, Nat.zero_le _, rfl, rfl, rfl, by omega, by omega, World.Since.refl _ _⟩
    case round =>
      obtain ⟨r, x, hr, rfl, rfl, rfl, hx0, hx1, hS⟩ := hrel
      by_cases hlt : r < N
      · obtain ⟨b, o, rfl, k1, k2, k3⟩ := HM.out.at (show r < cs.length by rw [HN.out]; exact hlt)
        have c1 := (hS.cell (World.block_lt_of_cell? _ _ k1)).trans k1
        have c2 := (hS.cell (World.block_lt_of_cell? _ _ k2)).trans k2
        have c3 := (hS.cell (World.block_lt_of_cell? _ _ k3)).trans k3
        have hsz := HSH.out r (by rw [HN.out]; exact hlt)
        obtain ⟨c, hc⟩ : ∃ c, cs.getD r rc0 = c := ⟨_, rfl⟩
        rw [hc] at c1 c2 c3 hsz
        obtain ⟨K, L, V⟩ := c
        simp only at c1 c2 c3 hsz
        have E := Lib.hid (szChip_any K L V x wr ⟨hx0, by omega⟩ hsz)
        have HS := Lib.hid hS
        clear k1 k2 k3 hc hsz hS
        go_wp2_with fail
        refine (E.out).mono ?_
        rintro e w1 ⟨y, ⟨rfl, hy⟩, hs1⟩
        have HS1 := Lib.hid (HS.out.trans (since_mono hs1 HS.out.size))
        clear hs1
        by_cases hy0 : y < 0
        · have hb : decide (y < 0) = true := by simpa using hy0
          go_wp2_with fail
          go_ret
          exact ⟨-1, ⟨rfl, by omega, fun h => by omega⟩, HS1.out⟩
        · have hb : decide (y < 0) = false := by simpa using hy0
          go_wp2_with fail
          go_roundg (N - (r + 1))
          case measure => omega
          case rel => exact ⟨r + 1, y, by omega, rfl, by go_num, rfl, by omega, by omega, HS1.out⟩
      · obtain rfl : r = N := by omega
        have HS := Lib.hid hS
        clear hS
        go_wp2_with fail
        go_ret
        exact ⟨x, ⟨rfl, hx1, fun _ => by omega⟩, HS.out⟩

set_option maxRecDepth 100000 in
set_option maxHeartbeats 1000000 in
theorem eqChipS_same (a a2 : Option Addr) (cap cap2 N : Nat) (cs : List RC) (w : World) (hN : cs.length = N) (h63 : N ≤ 9223372036854775807) (hm : ChipsR w a cs) (hm2 : ChipsR w a2 cs) :
    Calls Try.prog 32 #[.slice a N cap, .slice a2 N cap2] w fun e w' => e = .returned (.bool true) ∧ w.Since w.heap.size w' := by
  have HN := Lib.hid hN
  have HM := Lib.hid hm
  have HM2 := Lib.hid hm2
  clear hN hm hm2
  go_enter Try.func32, Try.ntmps32
  go_wp2
  go_loopg [5] N (fun g i wr => ∃ r : Nat, r ≤ N ∧ g = N - r ∧ i = .int .i64 r ∧ w.Since w.heap.size wr)
  case atStart => exact ⟨0, Nat.zero_le _, rfl, rfl, World.Since.refl _ _⟩
  case round =>
    obtain ⟨r, hr, rfl, rfl, hS⟩ := hrel
    by_cases hlt : r < N
    · obtain ⟨b, o, rfl, k1, k2, k3⟩ := HM.out.at (show r < cs.length by rw [HN.out]; exact hlt)
      obtain ⟨b2, o2, rfl, m1, m2, m3⟩ := HM2.out.at (show r < cs.length by rw [HN.out]; exact hlt)
      have c1 := (hS.cell (World.block_lt_of_cell? _ _ k1)).trans k1
      have c2 := (hS.cell (World.block_lt_of_cell? _ _ k2)).trans k2
      have c3 := (hS.cell (World.block_lt_of_cell? _ _ k3)).trans k3
      have e1 := (hS.cell (World.block_lt_of_cell? _ _ m1)).trans m1
      have e2 := (hS.cell (World.block_lt_of_cell? _ _ m2)).trans m2
      have e3 := (hS.cell (World.block_lt_of_cell? _ _ m3)).trans m3
      obtain ⟨c, hc⟩ : ∃ c, cs.getD r rc0 = c := ⟨_, rfl⟩
      rw [hc] at c1 c2 c3 e1 e2 e3
      obtain ⟨K, L, V⟩ := c
      simp only at c1 c2 c3 e1 e2 e3
      have E := Lib.hid (fun (W : World) => eqChip_same K L V W)
      have HS := Lib.hid hS
      clear k1 k2 k3 m1 m2 m3 hc hS
      go_wp2_with fail
      go_region_held3 (fun W' => (W'.cell? ⟨b, o + r * 3, none⟩ = some (.string K) ∧ W'.cell? ⟨b, o + r * 3 + 1, none⟩ = some (.int .i64 L) ∧ W'.cell? ⟨b, o + r * 3 + 2, none⟩ = some (.int .i64 V)) ∧ W'.cell? ⟨b2, o2 + r * 3, none⟩ = some (.string K) ∧ W'.cell? ⟨b2, o2 + r * 3 + 1, none⟩ = some (.int .i64 L) ∧ W'.cell? ⟨b2, o2 + r * 3 + 2, none⟩ = some (.int .i64 V))
        (first | exact ⟨⟨c1, c2, c3⟩, e1, e2, e3⟩ | exact g9)
        (first | (go_at_call 78; refine (E.out _).mono ?_; rintro e w1 ⟨rfl, hs1⟩; have g9 : (w1.cell? ⟨b, o + r * 3, none⟩ = some (.string K) ∧ w1.cell? ⟨b, o + r * 3 + 1, none⟩ = some (.int .i64 L) ∧ w1.cell? ⟨b, o + r * 3 + 2, none⟩ = some (.int .i64 V)) ∧ w1.cell? ⟨b2, o2 + r * 3, none⟩ = some (.string K) ∧ w1.cell? ⟨b2, o2 + r * 3 + 1, none⟩ = some (.int .i64 L) ∧ w1.cell? ⟨b2, o2 + r * 3 + 2, none⟩ = some (.int .i64 V) := ⟨⟨(hs1.cell (World.block_lt_of_cell? wr _ c1)).trans c1, (hs1.cell (World.block_lt_of_cell? wr _ c2)).trans c2, (hs1.cell (World.block_lt_of_cell? wr _ c3)).trans c3⟩, (hs1.cell (World.block_lt_of_cell? wr _ e1)).trans e1, (hs1.cell (World.block_lt_of_cell? wr _ e2)).trans e2, (hs1.cell (World.block_lt_of_cell? wr _ e3)).trans e3⟩; have HS1 := Lib.hid (HS.out.trans (since_mono (since_of_drew hs1) HS.out.size)); clear hs1))
      all_goals
        clear g9
        go_wp2_with fail
        go_roundg (N - (r + 1))
        case measure => omega
        case rel => exact ⟨r + 1, by omega, rfl, by go_num, HS1.out⟩
    · obtain rfl : r = N := by omega
      have HS := Lib.hid hS
      clear hS
      go_wp2_with fail
      go_ret
      exact ⟨rfl, HS.out⟩

structure MC (w wr : World) (N : Nat) (cs : List RC) (r : Nat) : Prop where
  since : w.Since w.heap.size wr
  blk : ∃ cur, wr.heap[w.heap.size]? = some (.cells cur 71 (0, 0)) ∧ cur.size = N * 3 ∧ ∀ j, j < r → cur[j * 3]? = some (.string (cs.getD j rc0).k) ∧ cur[j * 3 + 1]? = some (.int .i64 (cs.getD j rc0).l) ∧ cur[j * 3 + 2]? = some (.int .i64 (cs.getD j rc0).w)
theorem mc_start (w : World) (N : Nat) (cs : List RC) (z : Array Value) : MC w (w.alloc (.cells (madeCells z (N * 3)) 71)) N cs 0 :=
  ⟨(World.Since.refl _ _).alloc (Nat.le_refl _) _, _, World.alloc_heap_new w _, by rw [size_madeCells], fun j hj => by omega⟩
theorem MC.later {w wr w1 : World} {N r : Nat} {cs : List RC} (h : MC w wr N cs r) (hs : wr.Since wr.heap.size w1) : MC w w1 N cs r := by
  obtain ⟨cur, h1, h2, h3⟩ := h.blk
  exact ⟨h.since.trans (since_mono hs h.since.size), cur, (hs.block _ (Array.getElem?_eq_some_iff.1 h1).1).trans h1, h2, h3⟩
theorem heap_set {W : World} {g j : Nat} {v : Value} {cur : Array Value} {T : TypeId} (h : W.heap[g]? = some (.cells cur T (0, 0))) : (W.setCell ⟨g, j, none⟩ v).heap[g]? = some (.cells (cur.setIfInBounds j v) T (0, 0)) := by
  obtain ⟨hlt, hk⟩ := Array.getElem?_eq_some_iff.1 h
  show (W.heap.modify g _)[g]? = _
  rw [Array.getElem?_eq_getElem (by rw [Array.size_modify]; exact hlt), Array.getElem_modify_self, hk]
  rfl
theorem MC.step {w wr : World} {N r : Nat} {cs : List RC} (h : MC w wr N cs r) (hr : r < N) : MC w (((wr.setCell ⟨w.heap.size, r * 3, none⟩ (.string (cs.getD r rc0).k)).setCell ⟨w.heap.size, r * 3 + 1, none⟩ (.int .i64 (cs.getD r rc0).l)).setCell ⟨w.heap.size, r * 3 + 2, none⟩ (.int .i64 (cs.getD r rc0).w)) N cs (r + 1) := by
  obtain ⟨cur, h1, h2, h3⟩ := h.blk
  refine ⟨((h.since.setCell (Nat.le_refl _) _).setCell (Nat.le_refl _) _).setCell (Nat.le_refl _) _, _, heap_set (heap_set (heap_set h1)), by simp [h2], fun j hj => ?_⟩
  have hz : r * 3 + 2 < cur.size := by omega
  by_cases e : j = r
  · subst e
    refine ⟨?_, ?_, ?_⟩ <;> simp [Array.getElem?_setIfInBounds, hz] <;> omega
  · obtain ⟨k1, k2, k3⟩ := h3 j (by omega)
    refine ⟨?_, ?_, ?_⟩
    · rw [Array.getElem?_setIfInBounds_ne (by omega), Array.getElem?_setIfInBounds_ne (by omega), Array.getElem?_setIfInBounds_ne (by omega)]; exact k1
    · rw [Array.getElem?_setIfInBounds_ne (by omega), Array.getElem?_setIfInBounds_ne (by omega), Array.getElem?_setIfInBounds_ne (by omega)]; exact k2
    · rw [Array.getElem?_setIfInBounds_ne (by omega), Array.getElem?_setIfInBounds_ne (by omega), Array.getElem?_setIfInBounds_ne (by omega)]; exact k3
theorem MC.cells {w wr : World} {N r : Nat} {cs : List RC} (h : MC w wr N cs r) {j : Nat} (hj : j < N * 3) : (∃ v, wr.cell? ⟨w.heap.size, j, none⟩ = some v) ∧ wr.frozen? ⟨w.heap.size, j, none⟩ = false := by
  obtain ⟨cur, h1, h2, h3⟩ := h.blk
  refine ⟨⟨cur[j]'(by omega), ?_⟩, by simp [World.frozen?, h1]⟩
  simp only [World.cell?, h1]
  exact Array.getElem?_eq_getElem (by omega)
theorem MC.ownC {w wr : World} {N : Nat} {cs : List RC} (h : MC w wr N cs N) (hN : cs.length = N) : OwnC w.heap.size wr.heap.size wr (some ⟨w.heap.size, 0, none⟩) cs := fun _ => by
  obtain ⟨cur, h1, h2, h3⟩ := h.blk
  refine ⟨w.heap.size, rfl, ⟨Nat.le_refl _, (Array.getElem?_eq_some_iff.1 h1).1⟩, fun i hi => ?_⟩
  obtain ⟨k1, k2, k3⟩ := h3 i (by omega)
  have hf : ∀ j, wr.frozen? ⟨w.heap.size, j, none⟩ = false := fun j => by simp [World.frozen?, h1]
  refine ⟨⟨?_, ?_, ?_⟩, hf _, hf _, hf _⟩ <;> (simp only [World.cell?, h1]; assumption)

set_option maxRecDepth 100000 in
set_option maxHeartbeats 400000 in
theorem toChipS_any (a : Option Addr) (cap N : Nat) (cs : List RC) (w : World) (hN : cs.length = N) (hn : N ≤ 1048576) (hm : ChipsR w a cs) :
    Calls Try.prog 30 #[.slice a N cap] w fun e w' => e = .returned (.slice (some ⟨w.heap.size, 0, none⟩) N N) ∧ w.Since w.heap.size w' ∧ OwnC w.heap.size w'.heap.size w' (some ⟨w.heap.size, 0, none⟩) cs := by
  obtain ⟨iC, hiC⟩ := infoChip_parts
  have hmk := run_makeSlice (P := Try.prog) w 38 71 iC (.agg #[.string ⟨#[]⟩, .int .i64 0, .int .i64 0]) Try.underlying38 hiC.1 hiC.2.1 .i64 .i64 (N : Int) (N : Int) (by omega) (by omega) (by rw [hiC.2.2.1]; omega) (by rw [hiC.2.2.2]; omega) (by omega)
  rw [Int.toNat_natCast, hiC.2.2.1] at hmk
  have hst := mc_start w N cs (Value.agg #[.string ⟨#[]⟩, .int .i64 0, .int .i64 0]).cells
  have HST := Lib.hid hst
  have HN := Lib.hid hN
  have HM := Lib.hid hm
  clear hN hm hiC hst
  go_enter Try.func30, Try.ntmps30
  go_wp2
  clear hmk
  go_loopg [4] N (fun g i wr => ∃ r : Nat, r ≤ N ∧ g = N - r ∧ i = .int .i64 r ∧ MC w wr N cs r)
  case atStart => exact ⟨0, Nat.zero_le _, rfl, rfl, HST.out⟩
  case round =>
    obtain ⟨r, hr, rfl, rfl, hC⟩ := hrel
    clear HST
    by_cases hlt : r < N
    · obtain ⟨b, o, rfl, k1, k2, k3⟩ := HM.out.at (show r < cs.length by rw [HN.out]; exact hlt)
      have hS := hC.since
      have c1 := (hS.cell (World.block_lt_of_cell? _ _ k1)).trans k1
      have c2 := (hS.cell (World.block_lt_of_cell? _ _ k2)).trans k2
      have c3 := (hS.cell (World.block_lt_of_cell? _ _ k3)).trans k3
      have hstep := fun (W : World) (h : MC w W N cs r) => h.step hlt
      obtain ⟨c, hc⟩ : ∃ c, cs.getD r rc0 = c := ⟨_, rfl⟩
      rw [hc] at c1 c2 c3
      simp only [hc] at hstep
      obtain ⟨K, L, V⟩ := c
      simp only at c1 c2 c3 hstep
      have E := Lib.hid (toChip_any K L V wr)
      have HC := Lib.hid hC
      have HSTEP := Lib.hid hstep
      clear k1 k2 k3 hc hS hC hstep
      go_wp2_with (go_at_call 75; refine (E.out).mono ?_; rintro e w1 ⟨rfl, hs1⟩; have HC1 := Lib.hid (HC.out.later hs1); obtain ⟨⟨v1, m1⟩, f1⟩ := HC1.out.cells (show r * 3 < N * 3 by omega); obtain ⟨⟨v2, m2⟩, f2⟩ := HC1.out.cells (show r * 3 + 1 < N * 3 by omega); obtain ⟨⟨v3, m3⟩, f3⟩ := HC1.out.cells (show r * 3 + 2 < N * 3 by omega); clear hs1)
      go_roundg (N - (r + 1))
      case measure => omega
      case rel => exact ⟨r + 1, by omega, rfl, by go_num, HSTEP.out _ HC1.out⟩
    · obtain rfl : r = N := by omega
      have HO := Lib.hid (And.intro hC.since (hC.ownC HN.out))
      clear hC
      go_wp2_with fail
      go_ret
      exact ⟨rfl, HO.out.1, HO.out.2⟩

end Go.Proofs.Ytcnbffflgodheaa
end

section
namespace Go.Proofs.Ytcnbffflgodheaa
open Go.RowKit Go.Deep

set_option maxRecDepth 100000 in
set_option maxHeartbeats 400000 in
theorem lawNetMost_aux (x0 : Int) (a1 : Option Addr) (cap1 n1 : Nat) (l1 : List RC) (v : Int) (ok : Bool) (w : World) (hn1 : l1.length = n1) (h631 : n1 ≤ 9223372036854775807) (hs1 : ShortL l1) (hm1 : ChipsR w a1 l1)
    (hspec : n1 ≤ 1048576 → ∀ (W : World) (b1 : Option Addr) (c1 : Nat), n1 ≤ c1 → c1 ≤ 9223372036854775807 → (∃ g, b1 = some ⟨g, 0, none⟩) → ChipsR W b1 l1 → Calls Try.prog 29 #[.int .i64 x0, .slice b1 n1 c1] W (fun e w' => e = .returned (.tuple #[.int .i64 v, .bool ok]) ∧ W.Since W.heap.size w'))
    (himpl : n1 ≤ 1048576 → ∀ (W : World) (b1 : Option Addr) (c1 : Nat), n1 ≤ c1 → c1 ≤ 9223372036854775807 → (∃ g, b1 = some ⟨g, 0, none⟩) → ChipsR W b1 l1 → Calls Try.prog 31 #[.int .i64 x0, .slice b1 n1 c1] W (fun e w' => e = .returned (.tuple #[.int .i64 v, .bool ok]) ∧ W.Since W.heap.size w')) :
    Calls Try.prog 7 #[.int .i64 x0, .slice a1 n1 cap1] w fun e w' => e = .returned (.bool true) ∧ w.Since w.heap.size w' := by
  have HN1 := Lib.hid hn1
  have HM1 := Lib.hid hm1
  have HH1 := Lib.hid hs1
  have HSPEC := Lib.hid hspec
  have HIMPL := Lib.hid himpl
  clear hspec himpl hn1 hm1 hs1
  go_enter Try.func7, Try.ntmps7
  have s0 : w.Since w.heap.size w := World.Since.refl _ _
  have HZ1 := Lib.hid (szChipS_any a1 cap1 n1 1048576 l1 w HN1.out h631 ⟨by omega, by omega⟩ HH1.out (HM1.out.since s0))
  go_wp2_with fail
  refine (HZ1.out).mono ?_
  rintro e w1 ⟨r1, ⟨rfl, hra1, hrb1⟩, t1⟩
  have s1 : w.Since w.heap.size w1 := s0.trans (since_mono t1 s0.size)
  clear t1
  by_cases hr01 : r1 < 0
  · have hb : decide (r1 < 0) = true := by simpa using hr01
    go_wp2_with fail
    go_ret
    exact ⟨rfl, s1⟩
  have hb1 : decide (r1 < 0) = false := by simpa using hr01
  have hle1 : n1 ≤ 1048576 := by have := hrb1 (by omega); omega
  clear hrb1
  go_wp2_with fail
  refine (toChipS_any a1 cap1 n1 l1 _ HN1.out hle1 (HM1.out.since s1)).mono ?_
  rintro e w2 ⟨rfl, t2, op1⟩
  have s2 : w.Since w.heap.size w2 := s1.trans (since_mono t2 s1.size)
  clear t2
  go_wp2_with fail
  refine (HSPEC.out hle1 _ _ _ (Nat.le_refl _) (by omega) ⟨_, rfl⟩ op1.chips).mono ?_
  rintro e w3 ⟨rfl, t3⟩
  have s3 : w.Since w.heap.size w3 := s2.trans (since_mono t3 s2.size)
  replace op1 := op1.since t3
  clear t3
  clear op1
  go_wp2_with fail
  refine (toChipS_any a1 cap1 n1 l1 _ HN1.out hle1 (HM1.out.since s3)).mono ?_
  rintro e w4 ⟨rfl, t4, ox1⟩
  have s4 : w.Since w.heap.size w4 := s3.trans (since_mono t4 s3.size)
  clear t4
  go_wp2_with fail
  refine (HIMPL.out hle1 _ _ _ (Nat.le_refl _) (by omega) ⟨_, rfl⟩ ox1.chips).mono ?_
  rintro e w5 ⟨rfl, t5⟩
  have s5 : w.Since w.heap.size w5 := s4.trans (since_mono t5 s4.size)
  replace ox1 := ox1.since t5
  clear t5
  cases ok
  all_goals
    go_wp2_with fail
    refine (toChipS_any a1 cap1 n1 l1 _ HN1.out hle1 (HM1.out.since s5)).mono ?_
    rintro e w6 ⟨rfl, t6, oy1⟩
    have s6 : w.Since w.heap.size w6 := s5.trans (since_mono t6 s5.size)
    replace ox1 := ox1.since t6
    clear t6
    go_wp2_with fail
    refine (eqChipS_same _ _ _ _ _ l1 _ HN1.out h631 ox1.chips oy1.chips).mono ?_
    rintro e w7 ⟨rfl, t7⟩
    have s7 : w.Since w.heap.size w7 := s6.trans (since_mono t7 s6.size)
    replace ox1 := ox1.since t7
    clear t7 oy1
    go_wp2_with fail
    go_ret
    exact ⟨rfl, s7⟩

end Go.Proofs.Ytcnbffflgodheaa
end

section
namespace Go.Proofs.Ytcnbffflgodheaa

def famL : List CH → Nat → Int → List (Nat × Int)
  | [], s, x => [(s, x)]
  | c :: cs, s, x => if c.1 = 2 then (if s.testBit c.2.1 = true then famL cs s (x * c.2.2) else famL cs s x)
    else if s.testBit (cFrom c) = true ∧ s.testBit (cTo c) = false then famL cs (s ^^^ 2 ^ cFrom c ^^^ 2 ^ cTo c) (x * c.2.2) ++ famL cs s x else famL cs s x
def twoP : Nat → Nat
  | 0 => 1
  | k + 1 => 2 * twoP k
theorem twoP_le {k : Nat} (h : k ≤ 10) : twoP k ≤ 1024 := by
  have : ∀ j : Fin 11, twoP j.val ≤ 1024 := by decide
  exact this ⟨k, by omega⟩
theorem twoP_pos : ∀ k, 1 ≤ twoP k
  | 0 => by decide
  | k + 1 => by have := twoP_pos k; show 1 ≤ 2 * twoP k; omega
theorem famL_len : ∀ (cs : List CH) (s : Nat) (x : Int), (famL cs s x).length ≤ twoP cs.length
  | [], s, x => by simp [famL, twoP]
  | c :: cs, s, x => by
    have h1 := famL_len cs s x
    have h2 := famL_len cs s (x * c.2.2)
    have h3 := famL_len cs (s ^^^ 2 ^ cFrom c ^^^ 2 ^ cTo c) (x * c.2.2)
    have e : twoP (c :: cs).length = 2 * twoP cs.length := rfl
    rw [e]
    unfold famL
    split
    · split <;> omega
    · split
      · rw [List.length_append]; omega
      · omega
def sumTo2 (t : Nat) (l : List (Nat × Int)) : Int := l.foldl (fun a y => if y.1 = t then a + y.2 else a) 0
theorem foldl_add (t : Nat) : ∀ (l : List (Nat × Int)) (a : Int), l.foldl (fun a y => if y.1 = t then a + y.2 else a) a = a + l.foldl (fun a y => if y.1 = t then a + y.2 else a) 0
  | [], a => by simp
  | y :: l, a => by
    simp only [List.foldl_cons]
    rw [foldl_add t l (if y.1 = t then a + y.2 else a), foldl_add t l (if y.1 = t then 0 + y.2 else 0)]
    split <;> omega
theorem sumTo2_app (t : Nat) (l m : List (Nat × Int)) : sumTo2 t (l ++ m) = sumTo2 t l + sumTo2 t m := by
  unfold sumTo2
  rw [List.foldl_append, foldl_add t m]
theorem famL_sum (t : Nat) : ∀ (cs : List CH) (s : Nat) (x : Int), sumTo2 t (famL cs s x) = x * famN cs s t
  | [], s, x => by
    unfold famL famN sumTo2
    by_cases e : s = t <;> simp [e]
  | c :: cs, s, x => by
    unfold famL famN
    split
    · split
      · rw [famL_sum t cs s, Int.mul_assoc]
      · exact famL_sum t cs s x
    · split
      · rw [sumTo2_app, famL_sum t cs, famL_sum t cs, Int.mul_add, Int.mul_assoc]; omega
      · rw [Int.add_zero]; exact famL_sum t cs s x
def nineP : Nat → Int
  | 0 => 1
  | k + 1 => 9 * nineP k
theorem nineP_pos : ∀ k, 1 ≤ nineP k
  | 0 => by decide
  | k + 1 => by have := nineP_pos k; show 1 ≤ 9 * nineP k; omega
theorem nineP_le {k : Nat} (h : k ≤ 10) : nineP k ≤ 10000000000 := by
  have : ∀ j : Fin 11, nineP j.val ≤ 10000000000 := by decide
  exact this ⟨k, by omega⟩
theorem famL_mem : ∀ (cs : List CH) (s : Nat) (x : Int) (y : Nat × Int), (∀ c ∈ cs, -9 ≤ c.2.2 ∧ c.2.2 ≤ 9) → y ∈ famL cs s x → ∀ B : Int, 0 ≤ B → -B ≤ x → x ≤ B → -(nineP cs.length * B) ≤ y.2 ∧ y.2 ≤ nineP cs.length * B
  | [], s, x, y, _, hy, B, h0, h1, h2 => by
    unfold famL at hy
    simp at hy
    subst hy
    simp [nineP, h1, h2]
  | c :: cs, s, x, y, hc, hy, B, h0, h1, h2 => by
    have hcc := hc c (by simp)
    have hc' : ∀ d ∈ cs, -9 ≤ d.2.2 ∧ d.2.2 ≤ 9 := fun d hd => hc d (by simp [hd])
    have hm : -(9 * B) ≤ x * c.2.2 ∧ x * c.2.2 ≤ 9 * B := by
      rw [Int.mul_comm x c.2.2]
      exact mul_bd9 hcc.1 hcc.2 h1 h2
    have e : nineP (c :: cs).length * B = nineP cs.length * (9 * B) := by
      show 9 * nineP cs.length * B = _
      rw [Int.mul_comm 9, Int.mul_assoc]
    have hp := nineP_pos cs.length
    have hq : nineP cs.length * B ≤ nineP cs.length * (9 * B) := Int.mul_le_mul_of_nonneg_left (by omega) (by omega)
    rw [e]
    have A1 := fun (h : y ∈ famL cs s (x * c.2.2)) => famL_mem cs s _ y hc' h (9 * B) (by omega) hm.1 hm.2
    have A2 := fun (h : y ∈ famL cs s x) => famL_mem cs s _ y hc' h B h0 h1 h2
    have A3 := fun (h : y ∈ famL cs (s ^^^ 2 ^ cFrom c ^^^ 2 ^ cTo c) (x * c.2.2)) => famL_mem cs _ _ y hc' h (9 * B) (by omega) hm.1 hm.2
    unfold famL at hy
    split at hy
    · split at hy
      · exact A1 hy
      · have := A2 hy; omega
    · split at hy
      · rcases List.mem_append.1 hy with hy | hy
        · exact A3 hy
        · have := A2 hy; omega
      · have := A2 hy; omega
theorem sumTo2_bd (t : Nat) {B : Int} (hB : 0 ≤ B) : ∀ (l : List (Nat × Int)), (∀ y ∈ l, -B ≤ y.2 ∧ y.2 ≤ B) → -(B * l.length) ≤ sumTo2 t l ∧ sumTo2 t l ≤ B * l.length
  | [], _ => by simp [sumTo2]
  | y :: l, h => by
    have h1 := sumTo2_bd t hB l (fun z hz => h z (by simp [hz]))
    have h2 := h y (by simp)
    have e : sumTo2 t (y :: l) = (if y.1 = t then y.2 else 0) + sumTo2 t l := by
      unfold sumTo2
      rw [List.foldl_cons, foldl_add]
      split <;> omega
    rw [e, List.length_cons]
    have e2 : B * ((l.length + 1 : Nat) : Int) = B * l.length + B := by rw [Int.natCast_add, Int.mul_add]; omega
    rw [e2]
    split <;> omega

end Go.Proofs.Ytcnbffflgodheaa
end

section
namespace Go.Proofs.Ytcnbffflgodheaa
open Go.RowKit Go.Deep

def timesL (l : List (List Int)) (f : Int) : List (List Int) := tabF l.length (l.getD 0 []).length fun i k => at2 l i k * f
theorem timesL_length (l : List (List Int)) (f : Int) : (timesL l f).length = l.length := tabF_length _ _ _
theorem mul_bd {a b : Int} (h1 : -30 ≤ a) (h2 : a ≤ 30) (h3 : -30 ≤ b) (h4 : b ≤ 30) : -900 ≤ a * b ∧ a * b ≤ 900 := by
  have h : ∀ x : Nat, ∀ y : Nat, x ≤ 30 → y ≤ 30 → x * y ≤ 900 := fun x y hx hy => Nat.le_trans (Nat.mul_le_mul hx hy) (by decide)
  have h5 := h a.natAbs b.natAbs (by omega) (by omega)
  rw [← Int.natAbs_mul] at h5
  omega

noncomputable def timesOk (l : List (List Int)) (f : Int) : Bool := tabIn l && (inB f (-30) 30 && tabIn (timesL l f))
theorem szL_times {l : List (List Int)} (f : Int) (h : TabIn l) : szL (timesL l f) ≤ 1048576 := szL_tabF _ _ _ (by have := h.2.1; omega) (by have := h.width; omega)

end Go.Proofs.Ytcnbffflgodheaa
end

section
namespace Go.Proofs.Ytcnbffflgodheaa
open Go.RowKit Go.Deep

theorem szL_timesOk (l : List (List Int)) (f : Int) (h : timesOk l f = true) : szL (timesL l f) ≤ 1048576 := by
  unfold timesOk at h
  rw [Bool.and_eq_true] at h
  exact szL_times f (tabIn_of h.1)

end Go.Proofs.Ytcnbffflgodheaa
end

section
namespace Go.Proofs.Ytcnbffflgodheaa
open Go.RowKit Go.Deep

def sumL (l u : List (List Int)) : List (List Int) := tabF l.length (l.getD 0 []).length fun i k => at2 l i k + at2 u i k
theorem sumL_length (l u : List (List Int)) : (sumL l u).length = l.length := tabF_length _ _ _

def alikeB (l u : List (List Int)) : Bool := (l.length == u.length) && ((l.getD 0 []).length == (u.getD 0 []).length)
noncomputable def sumOk (l u : List (List Int)) : Bool := tabIn l && (tabIn u && (alikeB l u && tabIn (sumL l u)))
theorem szL_sum {l : List (List Int)} (u : List (List Int)) (h : TabIn l) : szL (sumL l u) ≤ 1048576 := szL_tabF _ _ _ (by have := h.2.1; omega) (by have := h.width; omega)

end Go.Proofs.Ytcnbffflgodheaa
end

section
namespace Go.Proofs.Ytcnbffflgodheaa
open Go.RowKit Go.Deep

end Go.Proofs.Ytcnbffflgodheaa
end

section
namespace Go.Proofs.Ytcnbffflgodheaa
open Go.RowKit Go.Deep

theorem szL_sumOk (l u : List (List Int)) (h : sumOk l u = true) : szL (sumL l u) ≤ 1048576 := by
  unfold sumOk at h
  rw [Bool.and_eq_true] at h
  exact szL_sum u (tabIn_of h.1)

end Go.Proofs.Ytcnbffflgodheaa
end

section
namespace Go.Proofs.Ytcnbffflgodheaa
open Go.RowKit Go.Deep

def makeL (l u : List (List Int)) : List (List Int) := tabF l.length (u.getD 0 []).length fun i k => sumN (dotF l u i k) u.length
theorem makeL_length (l u : List (List Int)) : (makeL l u).length = l.length := tabF_length _ _ _

set_option maxRecDepth 100000 in
set_option maxHeartbeats 2000000 in
theorem product_any (a : Option Addr) (cap n : Nat) (l : List (List Int)) (a2 : Option Addr) (cap2 n2 : Nat) (u : List (List Int)) (w : World) (hn : l.length = n) (hT : TabIn l) (hm : MatR w a l) (hu : u.length = n2) (hTu : TabIn u) (huw : (l.getD 0 []).length = n2) (hmu : MatR w a2 u) :
    Calls Try.prog 110 #[.slice a n cap, .slice a2 n2 cap2] w fun e w' => e = .returned (.slice (some ⟨w.heap.size + 1 + 1, 0, none⟩) n n) ∧ w.Since w.heap.size w' ∧ OwnT w.heap.size w'.heap.size w' (some ⟨w.heap.size + 1 + 1, 0, none⟩) (makeL l u) := by
  have hw := hTu.width
  have h6 := hT.2.1
  rw [hn] at h6
  have g6 := hTu.2.1
  have g1 := hTu.1
  rw [hu] at g6 g1
  have hwid := fun (W : World) (hs : w.Since w.heap.size W) => width_any a2 cap2 n2 u W hu (by omega) (by omega) (hmu.since hs)
  obtain ⟨m2, hmm⟩ : ∃ m, (u.getD 0 []).length = m := ⟨_, rfl⟩
  have hnt := fun (W : World) (hs : w.Since w.heap.size W) (hb0 : W.cell? ⟨w.heap.size, 0, none⟩ = some (.slice a n cap)) (hb1 : W.cell? ⟨w.heap.size + 1, 0, none⟩ = some (.slice a2 n2 cap2)) =>
    newTable_any 128 #[.pointer (some ⟨w.heap.size + 1, 0, none⟩), .pointer (some ⟨w.heap.size, 0, none⟩)] n m2 (fun i k => sumN (dotF l u i k) n2) W (by omega) (by omega) (enters_of Try.func128 (by kernel_rfl) rfl)
      (fun W' i k hs' hi hk => prodEntry_any (w.heap.size + 1) w.heap.size i k n n2 n2 m2 cap cap2 a a2 l u W' hn hu hT hTu huw hmm rfl ((hs'.cell (a := ⟨w.heap.size + 1, 0, none⟩) (World.block_lt_of_cell? _ _ hb1)).trans hb1) ((hs'.cell (a := ⟨w.heap.size, 0, none⟩) (World.block_lt_of_cell? _ _ hb0)).trans hb0) (hm.since (hs.trans (since_mono hs' hs.size))) (hmu.since (hs.trans (since_mono hs' hs.size))) hi hk)
  have htl : makeL l u = tabF n m2 (fun i k => sumN (dotF l u i k) n2) := by unfold makeL; rw [hmm, hn, hu]
  rw [hmm] at hwid hw
  rw [htl]
  have HW := Lib.hid hwid
  have HNT := Lib.hid hnt
  have HS1 := Lib.hid (show w.Since w.heap.size ((w.alloc (.cells #[.slice a n cap] 54)).alloc (.cells #[.slice a2 n2 cap2] 54)) from (((World.Since.refl _ _).alloc (Nat.le_refl _) _).alloc (by simp) _))
  have hc0 := cell_new_l w (.slice a n cap) 54
  have hc1 := cell_new_l (w.alloc (.cells #[.slice a n cap] 54)) (.slice a2 n2 cap2) 54
  simp only [World.size_alloc] at hc1
  have hcb0 : ((w.alloc (.cells #[.slice a n cap] 54)).alloc (.cells #[.slice a2 n2 cap2] 54)).cell? ⟨w.heap.size, 0, none⟩ = some (.slice a n cap) := (cell_alloc_l _ hc0.1)
  have hcb1 : ((w.alloc (.cells #[.slice a n cap] 54)).alloc (.cells #[.slice a2 n2 cap2] 54)).cell? ⟨w.heap.size + 1, 0, none⟩ = some (.slice a2 n2 cap2) := hc1.1
  clear hwid hnt hm hT hn hmm htl hc0 hc1 hu hTu huw hmu
  go_enter Try.func110, Try.ntmps110
  go_wp2
  go_region_held3 (fun w' => w'.cell? ⟨w.heap.size, 0, none⟩ = some (.slice a n cap) ∧ w'.cell? ⟨w.heap.size + 1, 0, none⟩ = some (.slice a2 n2 cap2)) (go_keep)
    (first
      | (go_at_call 66; refine (HW.out _ ?_).mono ?_; (exact World.Since.drew HS1.out); rintro e w1 ⟨rfl, rfl⟩)
      | (go_at_call 93; refine (HNT.out _ ?_ ?_ ?_).mono ?_; (exact World.Since.drew HS1.out); (exact hcb0); (exact hcb1); rintro e w1 ⟨rfl, hs2, ho⟩; have hcc := hs2.cell (a := ⟨w.heap.size, 0, none⟩) (World.block_lt_of_cell? _ _ hcb0); simp only [World.cell?_drew, hcb0] at hcc; have hcd := hs2.cell (a := ⟨w.heap.size + 1, 0, none⟩) (World.block_lt_of_cell? _ _ hcb1); simp only [World.cell?_drew, hcb1] at hcd))
  all_goals
    go_wp2
    go_ret
    refine ⟨rfl, HS1.out.trans (since_mono (since_of_drew hs2) (by simp; omega)), ?_⟩
    have hz : ((w.alloc (.cells #[.slice a n cap] 54)).alloc (.cells #[.slice a2 n2 cap2] 54)).drew.heap.size = w.heap.size + 1 + 1 := by simp
    rw [hz] at ho
    exact ho.mono (by omega) (Nat.le_refl _)

noncomputable def makeOk (l u : List (List Int)) : Bool := tabIn l && (tabIn u && (((l.getD 0 []).length == u.length) && tabIn (makeL l u)))
theorem szL_make {l u : List (List Int)} (h : TabIn l) (hu : TabIn u) : szL (makeL l u) ≤ 1048576 := szL_tabF _ _ _ (by have := h.2.1; omega) (by have := hu.width; omega)

end Go.Proofs.Ytcnbffflgodheaa
end

section
namespace Go.Proofs.Ytcnbffflgodheaa
open Go.RowKit Go.Deep

def partF (f : Nat → Nat → Int) (n2 k j c : Nat) : Int := if c < k then sumN (f c) n2 else if c = k then sumN (f k) j else 0

structure MR (wo wr : World) (m2 : Nat) (f : Nat → Nat → Int) (n2 k j : Nat) : Prop where
  since : wo.Since wo.heap.size wr
  row : wr.rowIs wo.heap.size 3 m2 (fun c => .int .i64 (partF f n2 k j c))
theorem mr_start (wo : World) (m2 : Nat) (f : Nat → Nat → Int) (n2 : Nat) : MR wo (wo.alloc (.cells (madeCells #[.int .i64 0] m2) 3)) m2 f n2 0 0 :=
  ⟨(World.Since.refl _ _).alloc (Nat.le_refl _) _, (World.rowIs_made wo (.int .i64 0) m2 3).congr fun c _ => by
    unfold partF
    rw [if_neg (by omega)]
    by_cases e : c = 0
    · rw [if_pos e]; rfl
    · rw [if_neg e]⟩
theorem MR.facts {wo wr : World} {m2 n2 k j : Nat} {f : Nat → Nat → Int} (h : MR wo wr m2 f n2 k j) (hk : k < m2) : wr.cell? ⟨wo.heap.size, k, none⟩ = some (.int .i64 (sumN (f k) j)) ∧ wr.frozen? ⟨wo.heap.size, k, none⟩ = false := by
  refine ⟨?_, h.row.frozen k⟩
  have := h.row.cell hk
  unfold partF at this
  rw [if_neg (by omega), if_pos rfl] at this
  exact this
theorem MR.store {wo wr : World} {m2 n2 k j : Nat} {f : Nat → Nat → Int} (h : MR wo wr m2 f n2 k j) (q : Nat) (hk : k < m2) : MR wo ((wr.drewN q).setCell ⟨wo.heap.size, k, none⟩ (.int .i64 (sumN (f k) (j + 1)))) m2 f n2 k (j + 1) := by
  have hr : (wr.drewN q).rowIs wo.heap.size 3 m2 (fun c => .int .i64 (partF f n2 k j c)) := h.row
  refine ⟨(since_drewN h.since q).setCell (Nat.le_refl _) _, (hr.set k _).congr fun c _ => ?_⟩
  unfold partF
  by_cases e : c = k
  · subst e; simp
  · rw [if_neg e]
    by_cases e2 : c < k
    · rw [if_pos e2, if_pos e2]
    · rw [if_neg e2, if_neg e, if_neg e2, if_neg e]
theorem MR.next {wo wr : World} {m2 n2 k : Nat} {f : Nat → Nat → Int} (h : MR wo wr m2 f n2 k n2) : MR wo wr m2 f n2 (k + 1) 0 := by
  refine ⟨h.since, h.row.congr fun c _ => ?_⟩
  unfold partF
  by_cases e2 : c < k
  · rw [if_pos e2, if_pos (by omega)]
  · rw [if_neg e2]
    by_cases e : c = k
    · subst e; simp
    · rw [if_neg e, if_neg (by omega)]
      by_cases e3 : c = k + 1
      · rw [if_pos e3]; rfl
      · rw [if_neg e3]
theorem MR.rowB {wo wr : World} {m2 n2 : Nat} {f : Nat → Nat → Int} (h : MR wo wr m2 f n2 m2 0) : RowB wr wo.heap.size ((List.range m2).map fun c => sumN (f c) n2) :=
  RowB.of_rowIs h.row (by simp) fun i hi => by
    simp at hi
    unfold partF
    rw [if_pos hi]
    simp [List.getD, hi]

def makeTo (l u : List (List Int)) (m2 n2 i : Nat) : List (List Int) := tabF i m2 fun i k => sumN (dotF l u i k) n2
theorem makeTo_succ (l u : List (List Int)) (m2 n2 i : Nat) : makeTo l u m2 n2 (i + 1) = makeTo l u m2 n2 i ++ [(List.range m2).map fun k => sumN (dotF l u i k) n2] := by simp [makeTo, tabF, List.range_succ]
theorem makeTo_length (l u : List (List Int)) (m2 n2 i : Nat) : (makeTo l u m2 n2 i).length = i := tabF_length _ _ _
theorem sumN_bd (f : Nat → Int) : ∀ (n : Nat), (∀ j, j < n → -900 ≤ f j ∧ f j ≤ 900) → -(900 * (n : Int)) ≤ sumN f n ∧ sumN f n ≤ 900 * (n : Int)
  | 0, _ => by simp [sumN]
  | n + 1, h => by
    have h1 := sumN_bd f n (fun j hj => h j (by omega))
    have h2 := h n (by omega)
    unfold sumN
    omega

theorem szL_makeOk (l u : List (List Int)) (h : makeOk l u = true) : szL (makeL l u) ≤ 1048576 := by
  unfold makeOk at h
  rw [Bool.and_eq_true, Bool.and_eq_true] at h
  exact szL_make (tabIn_of h.1) (tabIn_of h.2.1)

end Go.Proofs.Ytcnbffflgodheaa
end

section
namespace Go.Proofs.Ytcnbffflgodheaa
open Go.RowKit Go.Deep

theorem MatR.gridR {w : World} {a : Option Addr} {l : List (List Int)} {n m : Nat} (h : MatR w a l) (hn : l.length = n) (hT : Rec l) (hm : (l.getD 0 []).length = m) :
    ∃ (b o : Nat) (A : Nat → Option Addr) (C : Nat → Nat), a = some ⟨b, o, none⟩ ∧ (∀ i, i < n → w.cell? ⟨b, o + i, none⟩ = some (.slice (A i) m (C i))) ∧
      ∀ i j, i < n → j < m → ∃ b' o', w.cell? ⟨b, o + i, none⟩ = some (.slice (some ⟨b', o', none⟩) m (C i)) ∧ w.cell? ⟨b', o' + j, none⟩ = some (.int .i64 (at2 l i j)) := by
  subst hn
  have hrow : ∀ r, r < l.length → (l.getD r []).length = m := fun r hr => by rw [hT.row hr, hm]
  obtain ⟨b, o, A, C, e, hc⟩ := h hT.low
  refine ⟨b, o, A, C, e, fun i hi => by rw [(hc i hi).1, hrow i hi], fun i j hi hj => ?_⟩
  obtain ⟨hc1, hc2⟩ := hc i hi
  have hrl := hrow i hi
  obtain ⟨b', o', e', h3⟩ := hc2 (by omega)
  rw [e', hrl] at hc1
  exact ⟨b', o', hc1, h3 j (by omega)⟩

end Go.Proofs.Ytcnbffflgodheaa
end

section
namespace Go.Proofs.Ytcnbffflgodheaa
open Go.RowKit Go.Deep

end Go.Proofs.Ytcnbffflgodheaa
end

section
namespace Go.Proofs.Ytcnbffflgodheaa
open Go.RowKit Go.Deep

set_option maxRecDepth 100000 in
set_option maxHeartbeats 4000000 in
theorem specUnitO_any (n : Nat) (w : World) (hn : n ≤ 1000) :
    Calls Try.prog 59 #[.int .i64 n] w fun e w' => ∃ a cap, e = .returned (.slice a n cap) ∧ w.Since w.heap.size w' ∧ OwnT w.heap.size w'.heap.size w' a (unitL n n) := by
  obtain ⟨i42, hi, hz0, hz1, hz2⟩ := info_parts Try.info42
  have hst := bt_start w (fun _ => none) (fun _ => 0) #[] rfl
  have hmk := run_make_row' (P := Try.prog) 42 3 (.int .i64 0) 8 Try.underlying42 Try.info3 rfl .i64 .i64 n (by omega) (by omega)
  have HI := Lib.hid hi
  have HZ := Lib.hid (And.intro hz0 (And.intro hz1 hz2))
  clear hi hz0 hz1 hz2
  go_enter Try.func59, Try.ntmps59
  go_wp2
  go_loopg [3, 4, 5] n (fun g v i _ wr => ∃ r : Nat, ∃ A C, r ≤ n ∧ g = n - r ∧ i = .int .i64 r ∧ BT w wr v (unitL n r) A C)
  case atStart => exact ⟨0, _, _, Nat.zero_le _, rfl, rfl, hst⟩
  case round =>
    obtain ⟨r, A, C, hr, rfl, rfl, hR⟩ := hrel
    clear hst
    by_cases hlt : r < n
    · have HR := Lib.hid hR
      have hsz := hR.since.size
      have hcell : (wr.alloc (.cells (madeCells #[.int .i64 0] n) 3)).cell? ⟨wr.heap.size, r, none⟩ = some (.int .i64 0) := (World.rowIs_made wr (.int .i64 0) n 3).cell hlt
      have hfz : (wr.alloc (.cells (madeCells #[.int .i64 0] n) 3)).frozen? ⟨wr.heap.size, r, none⟩ = false := (World.rowIs_made wr (.int .i64 0) n 3).frozen r
      have hlen := unitL_length n r
      clear hR
      go_wp2_with (at_builtin; (refine wpList_append_own _ rfl _ _ 22 rfl w.heap.size 42 i42 (.slice none 0 0) 1 24 Try.underlying22 HI.out HZ.out.1 HZ.out.2.1 HZ.out.2.2 rfl (by decide) _ _ _ rfl ((HR.out.own.alloc _).alloc _) ⟨wr.heap.size + 1, 0, none⟩ 1 1 [.slice (some ⟨wr.heap.size, 0, none⟩) n n] rfl rfl (cell_one_at _ _ _ (by simp)) (fun x hx => by simp at hx; subst hx; rfl) (by unfold maxLen; omega) (by omega) (by simp; omega) ?_); intro v' w1 hown' hgrow _)
      have hwr : wr.Since wr.heap.size (wr.alloc (.cells ((madeCells #[.int .i64 0] n).setIfInBounds r (.int .i64 1)) 3)) := (World.Since.refl _ _).alloc (Nat.le_refl _) _
      have hrow : RowB (wr.alloc (.cells ((madeCells #[.int .i64 0] n).setIfInBounds r (.int .i64 1)) 3)) wr.heap.size ((List.range n).map fun k => unitF r k) := by
        refine ⟨_, World.alloc_heap_new wr _, fun i hi => ?_⟩
        simp at hi
        rw [Array.getElem?_setIfInBounds]
        have hm : (madeCells #[Value.int .i64 0] n)[i]? = some (.int .i64 0) := by
          obtain ⟨c, h1, _, h3⟩ := World.rowIs_made wr (.int .i64 0) n 3
          have := World.alloc_heap_new wr (.cells (madeCells #[Value.int .i64 0] n) 3)
          rw [this] at h1
          simp at h1
          rw [h1]; exact h3 i hi
        have hz : (madeCells #[Value.int .i64 0] n).size = n := by
          obtain ⟨c, h1, h2, _⟩ := World.rowIs_made wr (.int .i64 0) n 3
          have := World.alloc_heap_new wr (.cells (madeCells #[Value.int .i64 0] n) 3)
          rw [this] at h1
          simp at h1
          rw [h1]; exact h2
        by_cases e : r = i
        · subst e; simp [hz, hi, unitF, List.getD]
        · simp [e, hm, unitF, List.getD, hi]
      have hP := (HR.out.later hwr).push (rv := .slice (some ⟨wr.heap.size, 0, none⟩) n n) (x := (List.range n).map fun k => unitF r k) (a := some ⟨wr.heap.size, 0, none⟩) (cp := n) (by simp)
        (fun _ => ⟨wr.heap.size, rfl, hsz, hrow⟩) (fun _ => HR.out.fresh rfl (Nat.le_refl _)) hown' hgrow
      rw [← unitL_succ] at hP
      have HP := Lib.hid hP
      clear hP hrow hwr hown' hgrow hcell hfz hlen
      go_roundg (n - (r + 1))
      case measure => omega
      case rel => exact ⟨r + 1, _, _, by omega, rfl, by go_num, HP.out⟩
    · have : r = n := by omega
      subst this
      clear hmk
      obtain ⟨a, cap, rfl, hin⟩ := hR.ownT
      go_wp2
      go_ret
      exact ⟨a, cap, by show Ending.returned (.slice a (unitL r r).length cap) = _; rw [unitL_length], hR.since, hin⟩

theorem OwnT.put {lo hi : Nat} {W : World} {a : Option Addr} {l : List (List Int)} (h : OwnT lo hi W a l) {r k : Nat} (hr : r < l.length) (hk : k < (l.getD r []).length) :
    ∃ b g c, a = some ⟨b, 0, none⟩ ∧ W.cell? ⟨b, r, none⟩ = some (.slice (some ⟨g, 0, none⟩) (l.getD r []).length c) ∧ W.cell? ⟨g, k, none⟩ = some (.int .i64 ((l.getD r []).getD k 0)) ∧ W.frozen? ⟨g, k, none⟩ = false ∧ (lo ≤ g ∧ g ≠ b) ∧
      ∀ v : Int, MatR (W.setCell ⟨g, k, none⟩ (.int .i64 v)) a (l.set r ((l.getD r []).set k v)) := by
  obtain ⟨b, A, G, C, e, hb, hc, hd⟩ := h (by omega)
  obtain ⟨c1, c2⟩ := hc r hr
  obtain ⟨d1, d2, d3⟩ := c2 (by omega)
  rw [d1] at c1
  refine ⟨b, G r, C r, e, c1, (d3 k hk).1, (d3 k hk).2, ⟨d2.1, d2.2.2⟩, fun v => ?_⟩
  subst e
  intro _
  refine ⟨b, 0, A, C, rfl, fun s hs => ?_⟩
  rw [List.length_set] at hs
  obtain ⟨s1, s2⟩ := hc s hs
  have hrow : (l.set r ((l.getD r []).set k v)).getD s [] = if s = r then (l.getD r []).set k v else l.getD s [] := by
    by_cases e : s = r
    · subst e; rw [if_pos rfl]; simp [List.getD, hs]
    · rw [if_neg e]; simp [List.getD, Ne.symm e]
  have hlen : ((l.set r ((l.getD r []).set k v)).getD s []).length = (l.getD s []).length := by
    rw [hrow]
    split
    · rename_i e; subst e; exact List.length_set
    · rfl
  rw [hlen, Nat.zero_add]
  refine ⟨cell_set_ne s1 (show b ≠ G r from fun e => d2.2.2 e.symm), fun h0 => ?_⟩
  rw [hlen] at h0
  obtain ⟨t1, t2, t3⟩ := s2 h0
  refine ⟨G s, 0, t1, fun i hi => ?_⟩
  rw [Nat.zero_add]
  rw [hlen] at hi
  by_cases e : s = r
  · subst e
    rw [hrow, if_pos rfl]
    by_cases ek : i = k
    · subst ek
      rw [World.cell?_setCell_same W _ _ (d3 i hk).1]
      have e3 : ((l.getD s []).set i v).getD i 0 = v := by
        generalize l.getD s [] = x at hk
        simp [List.getD, hk]
      rw [e3]
    · rw [World.cell?_setCell_other _ _ _ _ (by intro h; simp only [Addr.mk.injEq] at h; omega)]
      have e2 : ((l.getD s []).set k v).getD i 0 = (l.getD s []).getD i 0 := by simp [List.getD, Ne.symm ek]
      rw [e2]
      exact (d3 i hi).1
  · rw [hrow, if_neg e]
    exact cell_set_ne (t3 i hi).1 (show G s ≠ G r from fun e2 => e (hd s r hs hr h0 (by omega) e2))

def chT (n r k : Nat) (v : Int) : List (List Int) := (unitL n n).set r (((unitL n n).getD r []).set k v)
theorem unit_row {n i : Nat} (hi : i < n) : ((unitL n n).getD i []).length = n := tabF_len _ _ _ _ hi
theorem unit_at {n i j : Nat} (hi : i < n) (hj : j < n) : ((unitL n n).getD i []).getD j 0 = if i = j then 1 else 0 := by
  unfold unitL
  rw [tabF_at _ _ _ _ _ hi hj]
  unfold unitF
  by_cases e : i = j <;> simp [e]
theorem chT_length (n r k : Nat) (v : Int) : (chT n r k v).length = n := by unfold chT; rw [List.length_set, unitL_length]
theorem chT_get {n r k i : Nat} {v : Int} (hr : r < n) : (chT n r k v).getD i [] = if i = r then ((unitL n n).getD r []).set k v else (unitL n n).getD i [] := by
  unfold chT
  by_cases e : i = r
  · subst e
    rw [if_pos rfl]
    have := unitL_length n n
    simp [List.getD, this, hr]
  · rw [if_neg e]
    simp [List.getD, Ne.symm e]
theorem chT_row {n r k i : Nat} {v : Int} (hr : r < n) (hi : i < n) : ((chT n r k v).getD i []).length = n := by
  rw [chT_get hr]
  split
  · rw [List.length_set]; exact unit_row hr
  · exact unit_row hi
theorem chT_at {n r k i j : Nat} {v : Int} (hr : r < n) (hi : i < n) (hj : j < n) : at2 (chT n r k v) i j = if i = r ∧ j = k then v else if i = j then 1 else 0 := by
  unfold at2
  rw [chT_get hr]
  by_cases e : i = r
  · subst e
    rw [if_pos rfl]
    by_cases e2 : j = k
    · subst e2
      rw [if_pos ⟨rfl, rfl⟩]
      have := unit_row hi
      simp [List.getD, List.getD] at this ⊢
      simp [this, hj]
    · rw [if_neg (fun h => e2 h.2), ← unit_at hi hj]
      simp [List.getD, Ne.symm e2]
  · rw [if_neg e, if_neg (fun h => e h.1)]
    exact unit_at hi hj
def chR (c : CH) : Nat := if c.1 = 2 then c.2.1 else cFrom c
def chK (c : CH) : Nat := if c.1 = 2 then c.2.1 else cTo c
theorem chRK {n : Nat} {c : CH} (h : chOk n c) : chR c < n ∧ chK c < n := by
  unfold chR chK
  by_cases e : c.1 = 2
  · rw [if_pos e, if_pos e]
    have := h.2
    rw [if_pos e] at this
    exact ⟨this, this⟩
  · rw [if_neg e, if_neg e]
    have := ch_ft h e
    exact ⟨this.1, this.2.1⟩
theorem chT_ch {n : Nat} {c : CH} (h : chOk n c) {i j : Nat} (hi : i < n) (hj : j < n) : at2 (chT n (chR c) (chK c) c.2.2) i j = chM c i j := by
  rw [chT_at (chRK h).1 hi hj]
  unfold chM chR chK
  by_cases e : c.1 = 2
  · rw [if_pos e, if_pos e]
    by_cases e1 : i = j
    · subst e1
      by_cases e2 : i = c.2.1
      · rw [if_pos ⟨e2, e2⟩, if_pos rfl, if_pos ⟨e, e2⟩]
      · rw [if_neg (fun h => e2 h.1), if_pos rfl, if_pos rfl, if_neg (fun h => e2 h.2)]
    · rw [if_neg (fun h => e1 (h.1.trans h.2.symm)), if_neg e1, if_neg e1, if_neg (fun h => h.1 e)]
  · rw [if_neg e, if_neg e]
    have hne := (ch_ft h e).2.2
    by_cases e1 : i = j
    · subst e1
      rw [if_neg (fun h => hne (h.1.symm.trans h.2)), if_pos rfl, if_pos rfl, if_neg (fun h => e h.1)]
    · rw [if_neg e1, if_neg e1]
      by_cases e2 : i = cFrom c ∧ j = cTo c
      · rw [if_pos e2, if_pos ⟨e, e2.1, e2.2⟩]
      · rw [if_neg e2, if_neg (fun h => e2 h.2)]

def outT (n : Nat) (cs : List CH) : List (List Int) := tabF n n (netM n cs)
theorem outT_length (n : Nat) (cs : List CH) : (outT n cs).length = n := tabF_length _ _ _
theorem outT_row {n : Nat} (cs : List CH) {i : Nat} (hi : i < n) : ((outT n cs).getD i []).length = n := tabF_len _ _ _ _ hi
theorem outT_at {n : Nat} (cs : List CH) {i j : Nat} (hi : i < n) (hj : j < n) : at2 (outT n cs) i j = netM n cs i j := tabF_at _ _ _ _ _ hi hj
theorem outT_nil (n : Nat) : outT n [] = unitL n n := by
  unfold outT unitL tabF
  refine List.map_congr_left fun i _ => List.map_congr_left fun j _ => ?_
  show (if i = j then (1 : Int) else 0) = unitF i j
  unfold unitF
  by_cases e : i = j <;> simp [e]
theorem outT_snoc {n : Nat} (hn : 1 ≤ n) (xs : List CH) {c : CH} (hc : chOk n c) : makeL (outT n xs) (chT n (chR c) (chK c) c.2.2) = outT n (xs ++ [c]) := by
  unfold makeL
  rw [outT_length, chT_row (chRK hc).1 (by omega), chT_length]
  unfold outT
  unfold tabF
  refine List.map_congr_left fun i hi => List.map_congr_left fun k hk => ?_
  have hi' := List.mem_range.1 hi
  have hk' := List.mem_range.1 hk
  rw [net_app xs [c] i k hi']
  refine sumN_congr n fun j hj => ?_
  have e1 := outT_at xs hi' hj
  unfold outT tabF at e1
  unfold dotF
  rw [net_one c hk', ← chT_ch hc hj hk', ← e1]
theorem outT_rec {n : Nat} (h1 : 1 ≤ n) (h6 : n ≤ 6) (cs : List CH) : Rec (outT n cs) := ⟨by rw [outT_length]; exact h1, by rw [outT_length]; exact h6, by rw [outT_row cs (by omega)]; exact ⟨h1, h6⟩, fun hr => by rw [outT_length] at hr; rw [outT_row cs hr, outT_row cs (by omega)]⟩
theorem chT_rec {n r k : Nat} {v : Int} (h1 : 1 ≤ n) (h6 : n ≤ 6) (hr : r < n) : Rec (chT n r k v) := ⟨by rw [chT_length]; exact h1, by rw [chT_length]; exact h6, by rw [chT_row hr (by omega)]; exact ⟨h1, h6⟩, fun hi => by rw [chT_length] at hi; rw [chT_row hr hi, chT_row hr (by omega)]⟩
theorem outT_bd {n : Nat} {xs : List CH} (hc : ∀ c ∈ xs, chOk n c) (h9 : ∀ c ∈ xs, -9 ≤ c.2.2 ∧ c.2.2 ≤ 9) (hl : xs.length ≤ 10) {c : CH} (hcc : chOk n c) (hc9 : -9 ≤ c.2.2 ∧ c.2.2 ≤ 9) : ∀ i j k, i < n → j < n → k < n → -1000000000000 ≤ at2 (outT n xs) i j * at2 (chT n (chR c) (chK c) c.2.2) j k ∧ at2 (outT n xs) i j * at2 (chT n (chR c) (chK c) c.2.2) j k ≤ 1000000000000 := fun i j k hi hj hk => by
  rw [outT_at xs hi hj, ← path_net xs hc i j hi, chT_at (chRK hcc).1 hj hk, Int.mul_comm]
  have h1 := path_bd xs h9 i j
  have h2 := p10_le hl
  have h3 : -9 ≤ (if j = chR c ∧ k = chK c then c.2.2 else if j = k then 1 else 0) ∧ (if j = chR c ∧ k = chK c then c.2.2 else if j = k then 1 else 0) ≤ 9 := by
    split
    · exact hc9
    · split <;> omega
  have := mul_bd9 h3.1 h3.2 (show -10000000000 ≤ pathN xs i j by omega) (by omega)
  omega
theorem szL_outT {n : Nat} (h5 : n ≤ 5) (cs : List CH) : szL (outT n cs) ≤ 1048576 := by
  have h : ∀ r, r ≤ n → sumTo (outT n cs) r = r * n := by
    intro r
    induction r with
    | zero => intro _; simp [sumTo]
    | succ r ih =>
      intro hr
      unfold sumTo
      rw [ih (by omega), outT_row cs (by omega), Nat.succ_mul]
  unfold szL
  rw [outT_length, h n (Nat.le_refl _)]
  have : n * n ≤ 5 * 5 := Nat.mul_le_mul h5 h5
  omega

end Go.Proofs.Ytcnbffflgodheaa
end

section
namespace Go.Proofs.Ytcnbffflgodheaa
open Go.RowKit Go.Deep

theorem toC_w (c : RC) : (toC c).2.2 = c.w := rfl
noncomputable def outC (n : Nat) (cs : List RC) : List (List Int) := outT n (cs.map toC)
theorem outC_step {n : Nat} {cs : List RC} (ho : NetOk n cs) {r : Nat} (hr : r < cs.length) : makeL (outC n (cs.take r)) (chT n (chR (toC (cs.getD r rc0))) (chK (toC (cs.getD r rc0))) (toC (cs.getD r rc0)).2.2) = outC n (cs.take (r + 1)) := by
  have hm : cs.getD r rc0 ∈ cs := by
    have : cs.getD r rc0 = cs[r] := by simp [List.getD, hr]
    rw [this]; exact List.getElem_mem _
  unfold outC
  rw [outT_snoc (by have := ho.lo; omega) _ (ho.ok _ hm).2]
  congr 1
  rw [List.take_succ_eq_append_getElem hr, List.map_append]
  congr 2
  simp [List.getD, hr]
theorem outC_bd {n : Nat} {cs : List RC} (ho : NetOk n cs) {r : Nat} (hr : r < cs.length) : ∀ i j k, i < n → j < n → k < n → -1000000000000 ≤ at2 (outC n (cs.take r)) i j * at2 (chT n (chR (toC (cs.getD r rc0))) (chK (toC (cs.getD r rc0))) (toC (cs.getD r rc0)).2.2) j k ∧ at2 (outC n (cs.take r)) i j * at2 (chT n (chR (toC (cs.getD r rc0))) (chK (toC (cs.getD r rc0))) (toC (cs.getD r rc0)).2.2) j k ≤ 1000000000000 := by
  have hm : cs.getD r rc0 ∈ cs := by
    have : cs.getD r rc0 = cs[r] := by simp [List.getD, hr]
    rw [this]; exact List.getElem_mem _
  have h10 := ho.len
  refine outT_bd (fun c hc => ?_) (fun c hc => ?_) (by rw [List.length_map, List.length_take]; omega) (ho.ok _ hm).2 (ho.rc _ hm).2.2
  · obtain ⟨d, hd, rfl⟩ := List.mem_map.1 hc
    exact (ho.ok d (List.mem_of_mem_take hd)).2
  · obtain ⟨d, hd, rfl⟩ := List.mem_map.1 hc
    exact (ho.rc d (List.mem_of_mem_take hd)).2.2
noncomputable def ntabB (n : Int) (cs : List RC) : Bool := netB n cs && tabIn (outC n.toNat cs)
noncomputable def ntabL (n : Int) (cs : List RC) : List (List Int) := resT (ntabB n cs) (outC n.toNat cs)

end Go.Proofs.Ytcnbffflgodheaa
end

section
namespace Go.Proofs.Ytcnbffflgodheaa
open Go.RowKit Go.Deep Go.Shelf
attribute [local go_sem] Oper.semAt_some

abbrev kH : ByteArray := ⟨#[104]⟩
def kS (k : Nat) : ByteArray := if k = 0 then kU else if k = 1 then kD else kH
def posTo (n : Nat) : Nat → List (Nat × Nat)
  | 0 => []
  | k + 1 => if k + 1 = n then posTo n k ++ [(2, k)] else posTo n k ++ [(2, k), (0, k), (1, k)]
theorem posTo_len (n : Nat) : ∀ k, (posTo n k).length ≤ 3 * k
  | 0 => by simp [posTo]
  | k + 1 => by
    have := posTo_len n k
    unfold posTo
    split <;> simp <;> omega
theorem posTo_sub {n : Nat} {x : Nat × Nat} : ∀ {k m : Nat}, k ≤ m → x ∈ posTo n k → x ∈ posTo n m
  | k, 0, h, hx => by
    obtain rfl : k = 0 := by omega
    exact hx
  | k, m + 1, h, hx => by
    by_cases e : k = m + 1
    · subst e; exact hx
    · have := posTo_sub (n := n) (show k ≤ m by omega) hx
      unfold posTo
      split <;> simp [this]
theorem posTo_mem {n : Nat} {k i : Nat} : ∀ {m : Nat}, m ≤ n → ((k, i) ∈ posTo n m ↔ i < m ∧ ((k = 2) ∨ ((k = 0 ∨ k = 1) ∧ i + 1 ≠ n)))
  | 0, _ => by simp [posTo]
  | m + 1, hm => by
    have ih := posTo_mem (k := k) (i := i) (show m ≤ n by omega)
    unfold posTo
    by_cases e : m + 1 = n
    · rw [if_pos e, List.mem_append, ih]
      simp only [List.mem_singleton, Prod.mk.injEq]
      constructor
      · rintro (⟨h1, h2⟩ | ⟨h1, h2⟩)
        · exact ⟨by omega, h2⟩
        · exact ⟨by omega, .inl h1⟩
      · rintro ⟨h1, h2⟩
        by_cases h3 : i = m
        · rcases h2 with h2 | ⟨_, h2⟩
          · exact .inr ⟨h2, h3⟩
          · omega
        · exact .inl ⟨by omega, h2⟩
    · rw [if_neg e, List.mem_append, ih]
      simp only [List.mem_cons, List.not_mem_nil, or_false, Prod.mk.injEq]
      constructor
      · rintro (⟨h1, h2⟩ | ⟨h1, h2⟩ | ⟨h1, h2⟩ | ⟨h1, h2⟩)
        · exact ⟨by omega, h2⟩
        · exact ⟨by omega, .inl h1⟩
        · exact ⟨by omega, .inr ⟨.inl h1, by omega⟩⟩
        · exact ⟨by omega, .inr ⟨.inr h1, by omega⟩⟩
      · rintro ⟨h1, h2⟩
        by_cases h3 : i = m
        · rcases h2 with h2 | ⟨h2 | h2, _⟩
          · exact .inr (.inl ⟨h2, h3⟩)
          · exact .inr (.inr (.inl ⟨h2, h3⟩))
          · exact .inr (.inr (.inr ⟨h2, h3⟩))
        · exact .inl ⟨by omega, h2⟩

def encC (V : Int) (x : Nat × Nat) : Array Value := #[.agg #[.string (kS x.1), .int .i64 (x.2 : Int), .int .i64 V]]

set_option maxRecDepth 100000 in
set_option maxHeartbeats 1000000 in
theorem possible_in (q : Nat) (hq : 2 ≤ q) (l Bn Bw n : Nat) (V : Int) (hn : 1 ≤ n ∧ n ≤ 5) (Kp : World → World → Prop)
    (hK : ∀ X Y, Kp X Y → Y.cell? ⟨Bn, 0, none⟩ = X.cell? ⟨Bn, 0, none⟩ ∧ Y.cell? ⟨Bw, 0, none⟩ = X.cell? ⟨Bw, 0, none⟩) (J Jx : List (Nat × Nat) → World → Prop)
    (hY : ∀ pre x W, J pre W → pre.length < 15 → YieldAt Fence.wide (q - 1) Try.prog l (encC V x) W fun e W' =>
      (e = .returned (.bool true) ∧ J (pre ++ [x]) W' ∧ Kp W W') ∨ (e = .returned (.bool false) ∧ Jx (pre ++ [x]) W'))
    (W : World) (hBn : W.cell? ⟨Bn, 0, none⟩ = some (.int .i64 n)) (hBw : W.cell? ⟨Bw, 0, none⟩ = some (.int .i64 V)) (h0 : J [] W) :
    CallsIn Fence.wide q Try.prog 137 #[.func (.yield l) #[] #[], .pointer (some ⟨Bn, 0, none⟩), .pointer (some ⟨Bw, 0, none⟩)] W fun e W' => (∃ v, e = .returned v) ∧
      ((∃ ys, ys = posTo n n ∧ J ys W') ∨ (∃ pre, (∀ x ∈ pre, x ∈ posTo n n) ∧ Jx pre W')) := by
  obtain ⟨hn1, hn5⟩ := hn
  have hw1 : IntKind.i64.wrap ((n : Int) - 1) = (n : Int) - 1 := IntWalk.i64_in _ ⟨by omega, by omega⟩
  refine callsIn_of_wp Try.func137 rfl trivial ?_ rfl
  simp only [Try.ntmps137, List.size_toArray, List.length_cons, List.length_nil, Nat.reduceAdd, Nat.reduceSub, Array.replicate_succ, Array.replicate_zero, List.push_toArray, List.append_toArray, List.nil_append, List.cons_append]
  gi_wp2
  gi_loopw [4, 5, 7] (fun _ _ i wr => ∃ k : Nat, k ≤ n ∧ i = .int .i64 k ∧ J (posTo n k) wr ∧ wr.cell? ⟨Bn, 0, none⟩ = some (.int .i64 n) ∧ wr.cell? ⟨Bw, 0, none⟩ = some (.int .i64 V))
    (fun _ _ i _ => n - (intOf i).toNat)
  case atStart => exact ⟨0, Nat.zero_le _, rfl, h0, hBn, hBw⟩
  case round =>
    obtain ⟨k, hk, rfl, hJs, hcn, hcw⟩ := hrel
    by_cases hlt : k < n
    · have hpl := posTo_len n k
      obtain ⟨fn, tmps, assign, body, hy, hR⟩ := hY _ (2, k) wr hJs (by omega)
      dsimp only [encC, kS] at hy
      rw [if_neg (by simp), if_neg (by simp)] at hy
      have hm0 : ∀ x ∈ posTo n k, x ∈ posTo n n := fun x hx => posTo_sub (by omega) hx
      have hm2 : (2, k) ∈ posTo n n := (posTo_mem (Nat.le_refl n)).2 ⟨hlt, .inl rfl⟩
      have HM2 := Lib.hid (And.intro hm0 hm2)
      have HY := Lib.hid hY
      clear hBn hBw hY hm2 hm0
      gi_wp2
      refine ⟨fun _ => by omega, hR.mono ?_⟩
      rintro e W3 (⟨rfl, hJ3, hk3⟩ | ⟨rfl, hJx3⟩)
      · obtain ⟨g1, g2⟩ := hK _ _ hk3
        have hcn3 := g1.trans hcn
        have hcw3 := g2.trans hcw
        clear hy hR hk3 g1 g2 hcn hcw hJs
        by_cases hl : k + 1 = n
        · have hlb : ((k : Int) == (n : Int) - 1) = true := by simp; omega
          have hst : posTo n (k + 1) = posTo n k ++ [(2, k)] := by show (if k + 1 = n then _ else _) = _; rw [if_pos hl]
          rw [← hst] at hJ3
          clear hst hl
          gi_wp2
          repeat (refine ⟨fun _ h => (by cases h), ?_⟩; gi_wp2)
          case isFalse =>
            rename_i b h1 _
            exact absurd h1 (fun h => by cases h)
          all_goals
            go_roundw
            case rel => exact ⟨k + 1, by omega, by simp, hJ3, hcn3, hcw3⟩
            case measure => simp [intOf]; omega
        · have hlb : ((k : Int) == (n : Int) - 1) = false := by simp; omega
          have hst : posTo n (k + 1) = posTo n k ++ [(2, k), (0, k), (1, k)] := by show (if k + 1 = n then _ else _) = _; rw [if_neg hl]
          have HST := Lib.hid hst
          have HL := Lib.hid hl
          obtain ⟨fn, tmps, assign, body, hy, hR⟩ := HY.out _ (0, k) W3 hJ3 (by simp; omega)
          dsimp only [encC, kS] at hy
          rw [if_pos rfl] at hy
          clear hst hl hJ3
          gi_wp2
          refine ⟨fun _ => by omega, hR.mono ?_⟩
          rintro e W4 (⟨rfl, hJ4, hk4⟩ | ⟨rfl, hJx4⟩)
          · obtain ⟨g1, g2⟩ := hK _ _ hk4
            have hcn4 := g1.trans hcn3
            have hcw4 := g2.trans hcw3
            obtain ⟨fn, tmps, assign, body, hy, hR⟩ := HY.out _ (1, k) W4 hJ4 (by simp; omega)
            dsimp only [encC, kS] at hy
            rw [if_neg (by simp), if_pos rfl] at hy
            clear hk4 g1 g2 hcn3 hcw3 hJ4
            gi_wp2
            refine ⟨fun _ => by omega, hR.mono ?_⟩
            rintro e W5 (⟨rfl, hJ5, hk5⟩ | ⟨rfl, hJx5⟩)
            · obtain ⟨g1, g2⟩ := hK _ _ hk5
              have hcn5 := g1.trans hcn4
              have hcw5 := g2.trans hcw4
              gi_wp2
              go_roundw
              case rel => exact ⟨k + 1, by omega, by simp, by rw [HST.out]; simpa using hJ5, hcn5, hcw5⟩
              case measure => simp [intOf]; omega
            · gi_wp2
              refine bodyPost_ret (results_none rfl _ _ _) rfl ?_
              refine ⟨⟨_, rfl⟩, .inr ⟨_, fun x hx => ?_, hJx5⟩⟩
              simp only [List.append_assoc, List.mem_append, List.mem_cons, List.not_mem_nil, or_false] at hx
              rcases hx with hx | rfl | rfl | rfl
              · exact HM2.out.1 x hx
              · exact HM2.out.2
              · exact (posTo_mem (Nat.le_refl n)).2 ⟨hlt, .inr ⟨.inl rfl, HL.out⟩⟩
              · exact (posTo_mem (Nat.le_refl n)).2 ⟨hlt, .inr ⟨.inr rfl, HL.out⟩⟩
          · gi_wp2
            repeat (refine ⟨fun _ h => (by cases h), ?_⟩; gi_wp2)
            refine bodyPost_ret (results_none rfl _ _ _) rfl ?_
            refine ⟨⟨_, rfl⟩, .inr ⟨_, fun x hx => ?_, hJx4⟩⟩
            simp only [List.append_assoc, List.mem_append, List.mem_cons, List.not_mem_nil, or_false] at hx
            rcases hx with hx | rfl | rfl
            · exact HM2.out.1 x hx
            · exact HM2.out.2
            · exact (posTo_mem (Nat.le_refl n)).2 ⟨hlt, .inr ⟨.inl rfl, HL.out⟩⟩
      · gi_wp2
        refine bodyPost_ret (results_none rfl _ _ _) rfl ?_
        refine ⟨⟨_, rfl⟩, .inr ⟨_, fun x hx => ?_, hJx3⟩⟩
        simp only [List.mem_append, List.mem_singleton] at hx
        rcases hx with hx | rfl
        · exact HM2.out.1 x hx
        · exact HM2.out.2
    · obtain rfl : k = n := by omega
      gi_wp2
      go_end0
      exact ⟨⟨_, rfl⟩, .inl ⟨_, rfl, hJs⟩⟩

theorem possible_stops (q : Nat) (hq : 2 ≤ q) (Bn Bw n n₀ : Nat) (V : Int) (hn : 1 ≤ n ∧ n ≤ 5) (w : World) (h0 : n₀ ≤ w.heap.size) (h1 : Bn < n₀) (h2 : Bw < n₀) (hBn : w.cell? ⟨Bn, 0, none⟩ = some (.int .i64 n)) (hBw : w.cell? ⟨Bw, 0, none⟩ = some (.int .i64 V)) :
    SeqStopsK Fence.wide q Try.prog 137 #[.pointer (some ⟨Bn, 0, none⟩), .pointer (some ⟨Bw, 0, none⟩)] (encC V) (Below n₀) (fun ys => ys = posTo n n) (fun pre => ∀ x ∈ pre, x ∈ posTo n n) 15 w := fun l J Jx W hW _ _ hY hJ =>
  possible_in q hq l Bn Bw n V hn (Below n₀) (fun X Y h => ⟨h.cell (p := ⟨Bn, 0, none⟩) h1, h.cell (p := ⟨Bw, 0, none⟩) h2⟩) J Jx hY W
    ((hW.cell (p := ⟨Bn, 0, none⟩) (by show Bn < _; omega)).trans hBn) ((hW.cell (p := ⟨Bw, 0, none⟩) (by show Bw < _; omega)).trans hBw) hJ

theorem possibleChips_any (n V : Int) (w : World) :
    Calls Try.prog 119 #[.int .i64 n, .int .i64 V] w fun e w' => e = .returned (.func (.func 137) #[] #[.pointer (some ⟨w.heap.size, 0, none⟩), .pointer (some ⟨w.heap.size + 1, 0, none⟩)])
      ∧ w' = (w.alloc (.cells #[.int .i64 n] 3)).alloc (.cells #[.int .i64 V] 3) := by
  go_enter Try.func119, Try.ntmps119
  go_wp2
  go_ret
  exact ⟨rfl, rfl⟩

end Go.Proofs.Ytcnbffflgodheaa
end

section
namespace Go.Proofs.Ytcnbffflgodheaa
open Go.RowKit Go.Deep Go.Shelf
attribute [local go_sem] Oper.semAt_some

def Box3 (W : World) (B : Nat) (K : ByteArray) (L V : Int) : Prop := W.heap[B]? = some (.cells #[.string K, .int .i64 L, .int .i64 V] 71 (0, 0))
theorem Box3.lt {W : World} {B : Nat} {K : ByteArray} {L V : Int} (h : Box3 W B K L V) : B < W.heap.size := (Array.getElem?_eq_some_iff.1 h).1
theorem Box3.cells {W : World} {B : Nat} {K : ByteArray} {L V : Int} (h : Box3 W B K L V) : W.cell? ⟨B, 0, none⟩ = some (.string K) ∧ W.cell? ⟨B, 1, none⟩ = some (.int .i64 L) ∧ W.cell? ⟨B, 2, none⟩ = some (.int .i64 V) := by
  have h' : W.heap[B]? = _ := h
  refine ⟨?_, ?_, ?_⟩ <;> (unfold World.cell?; rw [h']; rfl)
theorem Box3.new (W : World) (K : ByteArray) (L V : Int) : Box3 (W.alloc (.cells #[.string K, .int .i64 L, .int .i64 V] 71)) W.heap.size K L V := World.alloc_heap_new W _
theorem Box3.kept {W W' : World} {row : Option Nat} {B : Nat} {K : ByteArray} {L V : Int} (h : Box3 W B K L V) (hg : W.grownBy W' row) (hne : some B ≠ row) : Box3 W' B K L V := (hg.block B h.lt hne).trans h
theorem Box3.alloc {W : World} {B : Nat} {K : ByteArray} {L V : Int} (h : Box3 W B K L V) (o : Obj) : Box3 (W.alloc o) B K L V := h.kept (World.grownBy_alloc W o none) (by simp)
theorem Box3.own {W W' : World} {row : Option Nat} {B : Nat} {K : ByteArray} {L V : Int} (h : Box3 W B K L V) (hg : W.grownBy W' row) (hr : ∀ r, row = some r → ∃ o : Obj, W.heap[r]? = some o ∧ o.isCells = false) : Box3 W' B K L V := h.kept hg (fun e => by
  obtain ⟨o, ho, hc⟩ := hr B e.symm
  have h' : W.heap[B]? = _ := h
  rw [h'] at ho; cases ho; cases hc)
def isC (K : ByteArray) (L : Int) (x : Nat × Nat) : Prop := K.toList = (kS x.1).toList ∧ L = x.2
theorem kS_list : (kS 0).toList = [117] ∧ (kS 1).toList = [100] ∧ (kS 2).toList = [104] := by decide +kernel
theorem kind_some {n : Nat} {K : ByteArray} {L V : Int} {x : Nat × Nat} (hx : x ∈ posTo n n) (h : isC K L x) : kindB n ⟨K, L, V⟩ = true := by
  obtain ⟨k, i⟩ := x
  obtain ⟨h1, h2⟩ := h
  simp only at h1 h2
  subst h2
  obtain ⟨h3, h4⟩ := (posTo_mem (Nat.le_refl n)).1 hx
  obtain ⟨s0, s1, s2⟩ := kS_list
  unfold kindB inB
  simp only
  rcases h4 with rfl | ⟨rfl | rfl, h5⟩
  · rw [s2] at h1
    rw [if_pos h1]
    exact decide_eq_true ⟨by omega, by omega⟩
  · rw [s0] at h1
    rw [if_neg (by rw [h1]; decide), if_pos (.inl h1)]
    exact decide_eq_true ⟨by omega, by omega⟩
  · rw [s1] at h1
    rw [if_neg (by rw [h1]; decide), if_pos (.inr h1)]
    exact decide_eq_true ⟨by omega, by omega⟩
theorem kind_none {n : Nat} {K : ByteArray} {L V : Int} (h : ∀ x ∈ posTo n n, ¬ isC K L x) : kindB n ⟨K, L, V⟩ = false := by
  obtain ⟨s0, s1, s2⟩ := kS_list
  cases e : kindB n ⟨K, L, V⟩ with
  | false => rfl
  | true =>
    exfalso
    unfold kindB inB at e
    simp only at e
    by_cases hH : K.toList = [104]
    · rw [if_pos hH] at e
      have e := of_decide_eq_true e
      exact h (2, L.toNat) ((posTo_mem (Nat.le_refl n)).2 ⟨by omega, .inl rfl⟩) ⟨by rw [s2]; exact hH, by show L = ((L.toNat : Nat) : Int); omega⟩
    · rw [if_neg hH] at e
      by_cases hu : K.toList = [117]
      · rw [if_pos (.inl hu)] at e
        have e := of_decide_eq_true e
        exact h (0, L.toNat) ((posTo_mem (Nat.le_refl n)).2 ⟨by omega, .inr ⟨.inl rfl, by omega⟩⟩) ⟨by rw [s0]; exact hu, by show L = ((L.toNat : Nat) : Int); omega⟩
      · by_cases hd : K.toList = [100]
        · rw [if_pos (.inr hd)] at e
          have e := of_decide_eq_true e
          exact h (1, L.toNat) ((posTo_mem (Nat.le_refl n)).2 ⟨by omega, .inr ⟨.inr rfl, by omega⟩⟩) ⟨by rw [s1]; exact hd, by show L = ((L.toNat : Nat) : Int); omega⟩
        · rw [if_neg (fun h => h.elim hu hd)] at e
          cases e

set_option maxRecDepth 100000 in
set_option maxHeartbeats 1000000 in
theorem isIn_any (K : ByteArray) (L V : Int) (n : Nat) (hn2 : 2 ≤ n) (hn5 : n ≤ 5) (w : World) :
    Calls Try.prog 105 #[.agg #[.string K, .int .i64 L, .int .i64 V], .int .i64 n] w fun e w' => e = .returned (.bool (chipB n ⟨K, L, V⟩)) ∧ w.Since w.heap.size w' := by
  refine (callsIn_wide (n := 9)).1 ?_
  refine callsIn_of_wp_marks Try.func105 rfl trivial ?_ rfl
  simp only [Try.ntmps105, List.size_toArray, List.length_cons, List.length_nil, Nat.reduceAdd, Nat.reduceSub, Array.replicate_succ, Array.replicate_zero, List.push_toArray, List.append_toArray, List.nil_append, List.cons_append]
  obtain ⟨d1, d2, d3⟩ := chip_box w K L V 71
  gi_wp2_with (first
    | (refine ⟨trivial, ?_⟩; gi_at_call 119; refine (callsIn_wide.2 (possibleChips_any _ _ _)).mono ?_; rintro e w' ⟨rfl, rfl⟩))
  obtain ⟨W0, hW0⟩ : ∃ W0, W0 = ((((w.alloc (.cells #[.string K, .int .i64 L, .int .i64 V] 71)).alloc (.cells #[.bool false] 4)).alloc (.cells #[.int .i64 n] 3)).alloc (.cells #[.int .i64 V] 3)) := ⟨_, rfl⟩
  rw [← hW0]
  have hsz0 : W0.heap.size = w.heap.size + 4 := by rw [hW0]; simp
  have hB0 : Below w.heap.size w W0 := by rw [hW0]; exact ((((Below.refl _ w).alloc (Nat.le_refl _) _).alloc (by simp) _).alloc (by simp; omega) _).alloc (by simp; omega) _
  have b3 : Box3 W0 w.heap.size K L V := by rw [hW0]; exact (((Box3.new w K L V).alloc _).alloc _).alloc _
  have bR : Boxed W0 (w.heap.size + 1) 4 (.bool false) := by
    have h := Boxed.new (w.alloc (.cells #[.string K, .int .i64 L, .int .i64 V] 71)) 4 (.bool false)
    rw [World.size_alloc] at h
    rw [hW0]; exact (h.alloc _).alloc _
  have bN : Boxed W0 (w.heap.size + 1 + 1) 3 (.int .i64 n) := by
    have h := Boxed.new ((w.alloc (.cells #[.string K, .int .i64 L, .int .i64 V] 71)).alloc (.cells #[.bool false] 4)) 3 (.int .i64 n)
    rw [World.size_alloc, World.size_alloc] at h
    rw [hW0]; exact h.alloc _
  have bV : Boxed W0 (w.heap.size + 1 + 1 + 1) 3 (.int .i64 V) := by
    have h := Boxed.new (((w.alloc (.cells #[.string K, .int .i64 L, .int .i64 V] 71)).alloc (.cells #[.bool false] 4)).alloc (.cells #[.int .i64 n] 3)) 3 (.int .i64 V)
    rw [World.size_alloc, World.size_alloc, World.size_alloc] at h
    rw [hW0]; exact h
  clear hW0 d1 d2 d3
  refine wpIn_rangeFunc_ownH (F := Fence.wide) (n := 9) rfl (by omega) (gf := 137) (lb := #[.pointer (some ⟨w.heap.size + 1 + 1, 0, none⟩), .pointer (some ⟨w.heap.size + 1 + 1 + 1, 0, none⟩)]) rfl trivial (enters_of Try.func137 (by kernel_rfl) rfl)
    (possible_stops 8 (by omega) (w.heap.size + 1 + 1) (w.heap.size + 1 + 1 + 1) n W0.heap.size V ⟨by omega, hn5⟩ W0 (Nat.le_refl _) (by omega) (by omega) bN.cell bV.cell)
    (fun h k => h.trans k) (belowK_b (Nat.le_refl _)) (Below.refl _ _) (fun _ => rfl)
    (fun pre W => (Box3 W w.heap.size K L V ∧ Boxed W (w.heap.size + 1) 4 (.bool false) ∧ w.heap.size + 4 ≤ W.heap.size ∧ ∀ x ∈ pre, ¬ isC K L x) ∧ Below w.heap.size w W)
    (fun c pre W => (c = .ret ∧ Boxed W (w.heap.size + 1) 4 (.bool (inB V (-9) 9)) ∧ ∃ x ∈ pre, isC K L x) ∧ Below w.heap.size w W)
    (OwnFrom.and (Own.from (fun s A B row hs hg hr => ⟨hs.1.own hg hr, boxed_own (w.heap.size + 1) 4 (fun (_ : Unit) => Value.bool false) () A B row hs.2.1 hg hr, Nat.le_trans hs.2.2.1 hg.size, hs.2.2.2⟩) _) (ownFrom_below (Nat.le_refl _) (by omega)))
    (fun c => OwnFrom.and (Own.from (fun s A B row hs hg hr => ⟨hs.1, boxed_own (w.heap.size + 1) 4 (fun (_ : Unit) => Value.bool (inB V (-9) 9)) () A B row hs.2.1 hg hr, hs.2.2⟩) _) (ownFrom_below (Nat.le_refl _) (by omega)))
    ⟨⟨b3, bR, by omega, by simp⟩, hB0⟩
    (fun x a' W => ∃ Bx, w.heap.size + 4 ≤ Bx ∧ Box3 W Bx (kS x.1) (x.2 : Int) V ∧ a' = { tmps := #[.agg #[.string K, .int .i64 L, .int .i64 V], .int .i64 n, .pointer (some ⟨w.heap.size, 0, none⟩), undef, .pointer (some ⟨w.heap.size + 1, 0, none⟩), .pointer (some ⟨Bx, 0, none⟩), .int .i64 n, .pointer (some ⟨w.heap.size, 2, none⟩), .int .i64 V, .func (.func 137) #[] #[.pointer (some ⟨w.heap.size + 1 + 1, 0, none⟩), .pointer (some ⟨w.heap.size + 1 + 1 + 1, 0, none⟩)], .agg #[.string (kS x.1), .int .i64 (x.2 : Int), .int .i64 V], undef, undef, undef, undef, undef, undef], defers := [] })
    (fun x a' _ X Y row hs hg hr => by obtain ⟨Bx, h1, h2, h3⟩ := hs; exact ⟨Bx, h1, h2.own hg (fun r e => (hr r e).2), h3⟩)
    ?assign ?body ?done ?stop
  case assign =>
    rintro l2 pre x W Kq ⟨⟨h1, h2, h3, h4⟩, hb⟩ hK
    simp only [encC]
    gi_wp2
    exact hK _ _ ((KeepsOthers.alloc _ _).from _) ((Below.refl _ _).alloc (by omega) _) ⟨⟨h1.alloc _, h2.alloc _, by simp; omega, h4⟩, hb.alloc (by omega) _⟩ ⟨W.heap.size, h3, Box3.new W _ _ _, rfl⟩
  case body =>
    rintro l2 pre x a' W hl ⟨r, hr⟩ ⟨⟨h1, h2, h3, h4⟩, hb⟩ ⟨Bx, hBx, bX, rfl⟩ hlt
    obtain ⟨c1, c2, c3⟩ := h1.cells
    obtain ⟨e1, e2, e3⟩ := bX.cells
    have cR := h2.cell
    have fR := h2.frozen
    have HF := Lib.hid (fun (h : ¬ isC K L x) => show ∀ y ∈ pre ++ [x], ¬ isC K L y from fun y hy => by
      rcases List.mem_append.1 hy with hy | hy
      · exact h4 y hy
      · simp at hy; subst hy; exact h)
    have HT := Lib.hid (fun (h : isC K L x) => show ∃ y ∈ pre ++ [x], isC K L y from ⟨x, by simp, h⟩)
    have H1 := Lib.hid h1
    have H2 := Lib.hid h2
    have HB := Lib.hid hb
    clear h1 h2 h4 hb
    by_cases hk : K.toList = (kS x.1).toList
    · by_cases hL : L = x.2
      · have HC := Lib.hid (HT.out ⟨hk, hL⟩)
        have hL' : (L == (x.2 : Int)) = true := by simpa using hL
        have HLL := Lib.hid hL
        clear hL
        gi_wp2_with (first
          | (refine ⟨trivial, ?_⟩; gi_at_call 60; refine (CallsIn.inRound l2 (callsIn_wide.2 (inRange_any _ _ _ _))).mono ?_; rintro e w' ⟨rfl, rfl⟩))
        exact ⟨(KeepsOthers.setCell _ _ _).from _, ⟨rfl, H2.out.set _, HC.out⟩, HB.out.setCell (p := ⟨w.heap.size + 1, 0, none⟩) (by simp) _⟩
      · have HC := Lib.hid (HF.out (fun h => hL h.2))
        have hL' : (L == (x.2 : Int)) = false := by simpa using hL
        gi_wp2_with fail
        exact ⟨(KeepsOthers.refl _).from _, Below.refl _ _, ⟨H1.out, H2.out, h3, HC.out⟩, HB.out⟩
    · have HC := Lib.hid (HF.out (fun h => hk h.1))
      have hk' : (K.toList == (kS x.1).toList) = false := by simpa using hk
      gi_wp2_with fail
      exact ⟨(KeepsOthers.refl _).from _, Below.refl _ _, ⟨H1.out, H2.out, h3, HC.out⟩, HB.out⟩
  case done =>
    rintro D ys W hD rfl ⟨⟨h1, h2, h3, h4⟩, hb⟩ hK
    have hv : chipB n ⟨K, L, V⟩ = false := by unfold chipB; rw [kind_none h4, Bool.false_and]
    have HV := Lib.hid hv
    have cR := h2.cell
    have fR := h2.frozen
    have H2 := Lib.hid (h2.set (.bool false))
    have HB := Lib.hid hb
    clear h1 h2 h4 hv hb b3 bR bN bV hB0
    gi_wp2
    have hK' := (KeepsOthers.setCell W ⟨w.heap.size + 1, 0, none⟩ (.bool false)).same D _ hK rfl
    refine ⟨by simp, .inl ⟨_, _, rfl, run_takeDeferred hK', ?_⟩⟩
    have hc5 := (H2.out.kept (grownBy_putObj' _ D (.deferred none)) (fun e => by injection e; omega)).cell
    refine ⟨.bool false, ?_, ret_bool HV.out.symm, below_since ((HB.out.setCell (p := ⟨w.heap.size + 1, 0, none⟩) (by simp) _).trans (belowK_b (w := w) (Nat.le_refl _) _ D _ _ (by omega) hK' rfl rfl))⟩
    simp [results, Try.f105, go_sem, hc5]
  case stop =>
    rintro D c pre W hD hpre ⟨⟨rfl, h2, x, hx, hc⟩, hb⟩ hK
    have hv : chipB n ⟨K, L, V⟩ = inB V (-9) 9 := by unfold chipB; rw [kind_some (hpre x hx) hc, Bool.true_and]
    have HV := Lib.hid hv
    have H2 := Lib.hid h2
    have HB := Lib.hid hb
    clear h2 hv hb b3 bR bN bV hB0
    gi_wp2
    refine ⟨by simp, .inl ⟨_, _, rfl, run_takeDeferred hK, ?_⟩⟩
    have hc5 := (H2.out.kept (grownBy_putObj' _ D (.deferred none)) (fun e => by injection e; omega)).cell
    refine ⟨.bool (inB V (-9) 9), ?_, ret_bool HV.out.symm, below_since (HB.out.trans (belowK_b (w := w) (Nat.le_refl _) W D _ _ (by omega) hK rfl rfl))⟩
    simp [results, Try.f105, go_sem, hc5]

end Go.Proofs.Ytcnbffflgodheaa
end

section
namespace Go.Proofs.Ytcnbffflgodheaa
open Go.RowKit Go.Deep

set_option maxRecDepth 100000 in
set_option maxHeartbeats 400000 in
theorem ends_h (K : ByteArray) (L : Nat) (V : Int) (w : World) (hK : K.toList = [104]) :
    Calls Try.prog 122 #[.agg #[.string K, .int .i64 L, .int .i64 V]] w fun e w' => e = .returned (.tuple #[.int .i64 ((L : Nat) : Int), .int .i64 ((L : Nat) : Int)]) ∧ w.Since w.heap.size w' := by
  obtain ⟨d1, d2, d3⟩ := chip_box w K L V 71
  have HS := Lib.hid ((World.Since.refl w.heap.size w).alloc (Nat.le_refl _) (.cells #[.string K, .int .i64 L, .int .i64 V] 71))
  have hq1 : (K.toList == [117]) = false := by rw [hK]; decide
  have hq2 : (K.toList == [100]) = false := by rw [hK]; decide
  go_enter Try.func122, Try.ntmps122
  go_wp2
  go_region
  all_goals
    go_wp2
    go_ret2
    exact ⟨rfl, HS.out.drew⟩

set_option maxRecDepth 100000 in
set_option maxHeartbeats 400000 in
theorem ends_u (K : ByteArray) (L : Nat) (V : Int) (w : World) (hL : L ≤ 10) (hK : K.toList = [117]) :
    Calls Try.prog 122 #[.agg #[.string K, .int .i64 L, .int .i64 V]] w fun e w' => e = .returned (.tuple #[.int .i64 ((L : Nat) : Int), .int .i64 (((L + 1) : Nat) : Int)]) ∧ w.Since w.heap.size w' := by
  obtain ⟨d1, d2, d3⟩ := chip_box w K L V 71
  have HS := Lib.hid ((World.Since.refl w.heap.size w).alloc (Nat.le_refl _) (.cells #[.string K, .int .i64 L, .int .i64 V] 71))
  have hw1 : IntKind.i64.wrap ((L : Int) + 1) = (L : Int) + 1 := IntWalk.i64_in _ ⟨by omega, by omega⟩
  go_enter Try.func122, Try.ntmps122
  go_wp2
  go_region
  all_goals
    go_wp2
    go_ret2
    exact ⟨rfl, HS.out.drew⟩

set_option maxRecDepth 100000 in
set_option maxHeartbeats 400000 in
theorem ends_d (K : ByteArray) (L : Nat) (V : Int) (w : World) (hL : L ≤ 10) (hK : K.toList = [100]) :
    Calls Try.prog 122 #[.agg #[.string K, .int .i64 L, .int .i64 V]] w fun e w' => e = .returned (.tuple #[.int .i64 (((L + 1) : Nat) : Int), .int .i64 ((L : Nat) : Int)]) ∧ w.Since w.heap.size w' := by
  obtain ⟨d1, d2, d3⟩ := chip_box w K L V 71
  have HS := Lib.hid ((World.Since.refl w.heap.size w).alloc (Nat.le_refl _) (.cells #[.string K, .int .i64 L, .int .i64 V] 71))
  have hq1 : (K.toList == [117]) = false := by rw [hK]; decide
  have hw1 : IntKind.i64.wrap ((L : Int) + 1) = (L : Int) + 1 := IntWalk.i64_in _ ⟨by omega, by omega⟩
  go_enter Try.func122, Try.ntmps122
  go_wp2
  go_region
  all_goals
    go_wp2
    go_ret2
    exact ⟨rfl, HS.out.drew⟩

theorem ends_any (c : RC) (w : World) (hok : RCok c) :
    Calls Try.prog 122 #[.agg #[.string c.k, .int .i64 c.l, .int .i64 c.w]] w fun e w' => e = .returned (.tuple #[.int .i64 (chR (toC c) : Nat), .int .i64 (chK (toC c) : Nat)]) ∧ w.Since w.heap.size w' := by
  obtain ⟨K, l, V⟩ := c
  obtain ⟨hk, hl, hv⟩ := hok
  simp only at hk hl hv
  obtain ⟨L, rfl⟩ : ∃ L : Nat, l = L := ⟨l.toNat, by omega⟩
  rcases hk with h | h | h
  · rw [toC_h h]
    exact ends_h K L V w h
  · have e : toC ⟨K, (L : Int), V⟩ = (0, L, V) := by unfold toC; simp [h]
    rw [e]
    exact ends_u K L V w (by omega) h
  · have e : toC ⟨K, (L : Int), V⟩ = (1, L, V) := by unfold toC; simp [h]
    rw [e]
    exact ends_d K L V w (by omega) h

end Go.Proofs.Ytcnbffflgodheaa
end

section
namespace Go.Proofs.Ytcnbffflgodheaa
open Go.RowKit Go.Deep Go.Shelf

def FromB {β : Type} (B : Nat) (J : β → World → Prop) : Prop := ∀ s W W' row, J s W → W.grownBy W' row → (∀ r, row = some r → B ≤ r) → J s W'
theorem FromB.and {β : Type} {B : Nat} {I J : β → World → Prop} (h : FromB B I) (k : FromB B J) : FromB B (fun s W => I s W ∧ J s W) := fun s W W' row hs hg hr => ⟨h s W W' row hs.1 hg hr, k s W W' row hs.2 hg hr⟩
theorem FromB.alloc {β : Type} {B : Nat} {J : β → World → Prop} (h : FromB B J) {s : β} {W : World} (o : Obj) (hs : J s W) : J s (W.alloc o) := h s W _ none hs (World.grownBy_alloc W o none) (fun r e => by cases e)
theorem FromB.put {β : Type} {B : Nat} {J : β → World → Prop} (h : FromB B J) {s : β} {W : World} {l : Nat} (o : Obj) (hs : J s W) (hl : B ≤ l) : J s (W.putObj l o) := h s W _ (some l) hs (grownBy_putObj' W l o) (fun r e => by cases e; exact hl)

structure Keeps (own : Nat → Prop) (W W' : World) : Prop where
  size : W.heap.size ≤ W'.heap.size
  same : ∀ k o, ¬ own k → W.heap[k]? = some o → W'.heap[k]? = some o
theorem Keeps.refl (own : Nat → Prop) (W : World) : Keeps own W W := ⟨Nat.le_refl _, fun _ _ _ h => h⟩
theorem Keeps.trans {own : Nat → Prop} {A B C : World} (h : Keeps own A B) (k : Keeps own B C) : Keeps own A C := ⟨Nat.le_trans h.size k.size, fun i o hi ho => k.same i o hi (h.same i o hi ho)⟩
theorem Keeps.mono {own own' : Nat → Prop} {A B : World} (h : Keeps own A B) (hw : ∀ k, own k → own' k) : Keeps own' A B := ⟨h.size, fun k o hk ho => h.same k o (fun h => hk (hw k h)) ho⟩
theorem Keeps.grown {own : Nat → Prop} {A B : World} {row : Option Nat} (h : A.grownBy B row) (hr : ∀ r, row = some r → own r) : Keeps own A B :=
  ⟨h.size, fun k _ hk ho => (h.block k (Array.getElem?_eq_some_iff.1 ho).1 (fun e => hk (hr k e.symm))).trans ho⟩
theorem Keeps.cell {own : Nat → Prop} {A B : World} (h : Keeps own A B) {a : Addr} {v : Value} (ha : ¬ own a.block) (hc : A.cell? a = some v) : B.cell? a = some v := by
  obtain ⟨o, ho, _⟩ := cells_of_cell hc
  have := h.same _ _ ha ho
  unfold World.cell? at hc ⊢
  rw [ho] at hc
  rw [this]
  exact hc

def SeqC {α : Type} (F : Fence) (n : Nat) (P : Program) (g : Nat) (lb : Array Value) (encs : α → Array Value) (Px : α → World → Prop) (need : Nat → Prop) (S : List α → Prop) (N : Nat) (w : World) : Prop :=
  ∀ (l : Nat) (J : List α → World → Prop) (own : Nat → Prop) (W : World), Below w.heap.size w W → (∀ k, own k → k < W.heap.size ∧ ¬ need k) → FromB W.heap.size J →
    (∀ pre x W1, J pre W1 → Px x W1 → pre.length < N → YieldAt F (n - 1) P l (encs x) W1 fun e W' => e = .returned (.bool true) ∧ J (pre ++ [x]) W' ∧ Keeps own W1 W') →
    J [] W →
    CallsIn F n P g (#[.func (.yield l) #[] #[]] ++ lb) W fun e W' => (∃ v, e = .returned v) ∧ ∃ xs, S xs ∧ J xs W'

def roundC {α : Type} (own : Nat → Prop) (I : List α → World → Prop) (xs : List α) (W : World) : Exit → Act → World → Prop
  | .normal, _, W' => Keeps own W W' ∧ I xs W'
  | _, _, _ => False

theorem Keeps.put (own : Nat → Prop) (W : World) {l : Nat} (o : Obj) (hl : own l) : Keeps own W (W.putObj l o) := Keeps.grown (grownBy_putObj' W l o) (fun r e => by cases e; exact hl)

set_option maxHeartbeats 1000000 in
theorem rangeC {F : Fence} {n : Nat} {P : Program} {w : World} {α : Type} {g : Operand} {ps : Array Tmp} {assign body : Code} {Q : Exit → Act → World → Prop} {a : Act}
    (hro : F.round = none) (h1 : 1 ≤ n) {gf : Nat} {lb : Array Value} (hg : a.eval g = .func (.func gf) #[] lb) (hFg : F.fn gf) (eg : ∀ args w, (callFunc gf args).run P w = .ok (.enter gf args) w)
    {encs : α → Array Value} {Px : α → World → Prop} {need : Nat → Prop} {S : List α → Prop} {N : Nat} (hseq : SeqC F (n - 1) P gf lb encs Px need S N w) (hps : ∀ x, (encs x).size = ps.size)
    (hPx : ∀ x W l o o', Px x W → W.heap[l]? = some o → o.isCells = false → Px x (W.putObj l o'))
    (own : Nat → Prop) (hown : ∀ k, own k → k < w.heap.size ∧ ¬ need k) (hneed : ∀ k, need k → k < w.heap.size)
    (I : List α → World → Prop) (hI : FromB w.heap.size I) (h0 : I [] w) (a₁ : α → Act)
    (hassign : ∀ (l : Nat) (x : α) (W : World) (K : Act → World → Prop), K (a₁ x) W →
      assign.wpIn (F.inRound l) (n - 1 - 1) P (Exit.then K (fun _ _ _ => False)) { tmps := (ps.zip (encs x)).foldl (fun t (p, v) => t.setIfInBounds p v) a.tmps, defers := [] } W)
    (hbody : ∀ (l : Nat) (pre : List α) (x : α) (W : World), w.heap.size ≤ l → I pre W → Px x W → pre.length < N → body.wpIn (F.inRound l) (n - 1 - 1) P (roundC own I (pre ++ [x]) W) (a₁ x) W)
    (hdone : ∀ (D : Nat) (xs : List α) (W : World), w.heap.size ≤ D → S xs → I xs W → W.heap[D]? = some (.deferred (some [])) → Q .normal { a with defers := { target := .collected D, args := #[] } :: a.defers } W) :
    (Code.rangeFunc g ps assign body).wpIn F n P Q a w := by
  refine wpIn_rangeFunc fun fn hfn => ?_
  rw [hro]
  -- the two blocks of the loop: w.heap.size for deferred calls, L for its record
  obtain ⟨L, hL⟩ : ∃ L, L = w.heap.size + 1 := ⟨_, rfl⟩
  let R : LoopState → Option Code → Obj := fun st pe => .loop { state := st, pending := pe, fn := fn, tmps := a.tmps, params := ps, assign := assign, body := body, defers := w.heap.size }
  obtain ⟨V, hV⟩ : ∃ V, V = (w.alloc (.deferred (some []))).alloc (R .ready none) := ⟨_, rfl⟩
  have sV : V.heap.size = L + 1 := by rw [hV, hL]; simp
  have lV : V.heap[L]? = some (R .ready none) := by
    have := World.alloc_heap_new (w.alloc (.deferred (some []))) (R .ready none)
    rw [World.size_alloc] at this
    rw [hV, hL]; exact this
  have dV : V.heap[w.heap.size]? = some (.deferred (some [])) := by
    rw [hV]; exact (Below.heap_alloc _ _ _ (by simp)).trans (World.alloc_heap_new w _)
  have bV : Below w.heap.size w V := by rw [hV]; exact ((Below.refl _ w).alloc (Nat.le_refl _) _).alloc (by simp) _
  have iV : I [] V := by rw [hV]; exact hI.alloc _ (hI.alloc _ h0)
  have hen : (Instr.enterLoop fn a.tmps ps assign body none).run P w = .ok (L, [{ target := .collected w.heap.size, args := #[] }]) V := by
    rw [hV, hL]; exact run_enterLoop_outer _ _ _ _ _
  clear hV
  have hrec : FromB V.heap.size (fun (_ : Unit) W => W.heap[L]? = some (R .ready none) ∧ W.heap[w.heap.size]? = some (.deferred (some []))) := fun _ A B row hs hgr hr =>
    ⟨(hgr.block L (Array.getElem?_eq_some_iff.1 hs.1).1 (fun e => by have := hr L e.symm; omega)).trans hs.1, (hgr.block _ (Array.getElem?_eq_some_iff.1 hs.2).1 (fun e => by have := hr _ e.symm; omega)).trans hs.2⟩
  refine ⟨L, _, V, { target := .fn (.func gf) lb, args := #[.func (.yield L) #[] #[]] }, V, gf, #[.func (.yield L) #[] #[]] ++ lb, V, hen, ?_, ?_, ?_, fun _ => h1, ?_⟩
  · simp only [resolve, hg]
    simp [go_sem]
  · intro f' hf'
    simp [Target.leads] at hf'
    subst hf'
    exact hFg
  · simp [invoke, go_sem, eg]
  refine (hseq L (fun pre W => I pre W ∧ W.heap[L]? = some (R .ready none) ∧ W.heap[w.heap.size]? = some (.deferred (some [])))
    (fun k => own k ∨ k = L) V bV ?_ ?_ ?_ ⟨iV, lV, dV⟩).mono ?_
  · rintro k (hk | rfl)
    · exact ⟨by have := (hown k hk).1; omega, (hown k hk).2⟩
    · exact ⟨by omega, fun h => by have := hneed _ h; omega⟩
  · intro s A B row hs hgr hr
    exact ⟨hI s A B row hs.1 hgr (fun r e => by have := hr r e; omega), hrec () A B row hs.2 hgr hr⟩
  · rintro pre x W ⟨hi, hl, hd⟩ hpx hlen
    have lt : L < W.heap.size := (Array.getElem?_eq_some_iff.1 hl).1
    refine ⟨fn, _, assign, body, run_yield hl (hps x), roundIn_of_wpIn hfn (hassign L x W _ ⟨_, run_beginRound hl rfl, ?_⟩)⟩
    obtain ⟨X, hX⟩ : ∃ X, X = W.putObj L (R .busy none) := ⟨_, rfl⟩
    have lX : X.heap[L]? = some (R .busy none) := by rw [hX]; exact World.putObj_heap_same lt
    have dX : X.heap[w.heap.size]? = some (.deferred (some [])) := by rw [hX]; exact (World.putObj_heap_other (by omega)).trans hd
    have iX : I pre X := by rw [hX]; exact hI.put _ hi (by omega)
    have pX : Px x X := by rw [hX]; exact hPx x W L _ _ hpx hl rfl
    have kX : Keeps (fun k => own k ∨ k = L) W X := by rw [hX]; exact Keeps.put _ W _ (.inr rfl)
    have hno : ¬ own L := fun h => by have := (hown _ h).1; omega
    have hno2 : ¬ own w.heap.size := fun h => by have := (hown _ h).1; omega
    refine wpIn_mono (by rw [← hX]; exact hbody L pre x X (by omega) iX pX hlen) ?_
    rintro e b Y hp
    cases e with
    | normal =>
      have lY := hp.1.same _ _ hno lX
      have dY := hp.1.same _ _ hno2 dX
      exact ⟨_, _, run_endRound none lY, rfl, ⟨hI.put _ hp.2 (by omega), World.putObj_heap_same (Array.getElem?_eq_some_iff.1 lY).1, (World.putObj_heap_other (by omega)).trans dY⟩, (kX.trans (hp.1.mono fun _ h => .inl h)).trans (Keeps.put _ Y _ (.inr rfl))⟩
    | ret => exact hp.elim
    | exit id => exact hp.elim
    | goto t => exact hp.elim
    | panic ch => exact hp.elim
    | outgrown => exact hp.elim
  · rintro e Y ⟨⟨v, rfl⟩, xs, hS, hi, hl, hd⟩
    exact ⟨none, _, run_endLoop hl (by simp), hdone _ xs _ (Nat.le_refl _) hS (hI.put _ hi (by omega)) ((World.putObj_heap_other (by omega)).trans hd)⟩

end Go.Proofs.Ytcnbffflgodheaa
end

section
namespace Go.Proofs.Ytcnbffflgodheaa
open Go.RowKit Go.Deep Go.Shelf

def SeqE {α : Type} (F : Fence) (n : Nat) (P : Program) (g : Nat) (lb : Array Value) (encs : α → Array Value) (Px : α → World → Prop) (need : Nat → Prop) (S Sp : List α → Prop) (N : Nat) (w : World) : Prop :=
  ∀ (l : Nat) (J Jx : List α → World → Prop) (own : Nat → Prop) (W : World), Below w.heap.size w W → (∀ k, own k → k < W.heap.size ∧ ¬ need k) → FromB W.heap.size J → FromB W.heap.size Jx →
    (∀ pre x W1, J pre W1 → Px x W1 → pre.length < N → YieldAt F (n - 1) P l (encs x) W1 fun e W' => (e = .returned (.bool true) ∧ J (pre ++ [x]) W' ∧ Keeps own W1 W') ∨ (e = .returned (.bool false) ∧ Jx (pre ++ [x]) W' ∧ Keeps own W1 W')) →
    J [] W →
    CallsIn F n P g (#[.func (.yield l) #[] #[]] ++ lb) W fun e W' => (∃ v, e = .returned v) ∧ ((∃ xs, S xs ∧ J xs W') ∨ (∃ pre, Sp pre ∧ Jx pre W'))

def roundE {α : Type} (own : Nat → Prop) (I : List α → World → Prop) (Ix : Code → List α → World → Prop) (xs : List α) (W : World) : Exit → Act → World → Prop
  | .normal, _, W' => Keeps own W W' ∧ I xs W'
  | .ret, _, W' => Keeps own W W' ∧ Ix .ret xs W'
  | _, _, _ => False

set_option maxHeartbeats 1000000 in
theorem rangeE {F : Fence} {n : Nat} {P : Program} {w : World} {α : Type} {g : Operand} {ps : Array Tmp} {assign body : Code} {Q : Exit → Act → World → Prop} {a : Act}
    (hro : F.round = none) (h1 : 1 ≤ n) {gf : Nat} {lb : Array Value} (hg : a.eval g = .func (.func gf) #[] lb) (hFg : F.fn gf) (eg : ∀ args w, (callFunc gf args).run P w = .ok (.enter gf args) w)
    {encs : α → Array Value} {Px : α → World → Prop} {need : Nat → Prop} {S Sp : List α → Prop} {N : Nat} (hseq : SeqE F (n - 1) P gf lb encs Px need S Sp N w) (hps : ∀ x, (encs x).size = ps.size)
    (hPx : ∀ x W l o o', Px x W → W.heap[l]? = some o → o.isCells = false → Px x (W.putObj l o'))
    (own : Nat → Prop) (hown : ∀ k, own k → k < w.heap.size ∧ ¬ need k) (hneed : ∀ k, need k → k < w.heap.size)
    (I : List α → World → Prop) (Ix : Code → List α → World → Prop) (hI : FromB w.heap.size I) (hIx : ∀ c, FromB w.heap.size (Ix c)) (h0 : I [] w) (a₁ : α → Act)
    (hassign : ∀ (l : Nat) (x : α) (W : World) (K : Act → World → Prop), K (a₁ x) W →
      assign.wpIn (F.inRound l) (n - 1 - 1) P (Exit.then K (fun _ _ _ => False)) { tmps := (ps.zip (encs x)).foldl (fun t (p, v) => t.setIfInBounds p v) a.tmps, defers := [] } W)
    (hbody : ∀ (l : Nat) (pre : List α) (x : α) (W : World), w.heap.size ≤ l → I pre W → Px x W → pre.length < N → body.wpIn (F.inRound l) (n - 1 - 1) P (roundE own I Ix (pre ++ [x]) W) (a₁ x) W)
    (hdone : ∀ (D : Nat) (xs : List α) (W : World), w.heap.size ≤ D → S xs → I xs W → W.heap[D]? = some (.deferred (some [])) → Q .normal { a with defers := { target := .collected D, args := #[] } :: a.defers } W)
    (hstop : ∀ (D : Nat) (c : Code) (pre : List α) (W : World), w.heap.size ≤ D → Sp pre → Ix c pre W → W.heap[D]? = some (.deferred (some [])) → c.wpIn F n P Q { a with defers := { target := .collected D, args := #[] } :: a.defers } W) :
    (Code.rangeFunc g ps assign body).wpIn F n P Q a w := by
  refine wpIn_rangeFunc fun fn hfn => ?_
  rw [hro]
  -- the two blocks of the loop: w.heap.size for deferred calls, L for its record
  obtain ⟨L, hL⟩ : ∃ L, L = w.heap.size + 1 := ⟨_, rfl⟩
  let R : LoopState → Option Code → Obj := fun st pe => .loop { state := st, pending := pe, fn := fn, tmps := a.tmps, params := ps, assign := assign, body := body, defers := w.heap.size }
  obtain ⟨V, hV⟩ : ∃ V, V = (w.alloc (.deferred (some []))).alloc (R .ready none) := ⟨_, rfl⟩
  have sV : V.heap.size = L + 1 := by rw [hV, hL]; simp
  have lV : V.heap[L]? = some (R .ready none) := by
    have := World.alloc_heap_new (w.alloc (.deferred (some []))) (R .ready none)
    rw [World.size_alloc] at this
    rw [hV, hL]; exact this
  have dV : V.heap[w.heap.size]? = some (.deferred (some [])) := by
    rw [hV]; exact (Below.heap_alloc _ _ _ (by simp)).trans (World.alloc_heap_new w _)
  have bV : Below w.heap.size w V := by rw [hV]; exact ((Below.refl _ w).alloc (Nat.le_refl _) _).alloc (by simp) _
  have iV : I [] V := by rw [hV]; exact hI.alloc _ (hI.alloc _ h0)
  have hen : (Instr.enterLoop fn a.tmps ps assign body none).run P w = .ok (L, [{ target := .collected w.heap.size, args := #[] }]) V := by
    rw [hV, hL]; exact run_enterLoop_outer _ _ _ _ _
  clear hV
  have hrec : FromB V.heap.size (fun (_ : Unit) W => W.heap[L]? = some (R .ready none) ∧ W.heap[w.heap.size]? = some (.deferred (some []))) := fun _ A B row hs hgr hr =>
    ⟨(hgr.block L (Array.getElem?_eq_some_iff.1 hs.1).1 (fun e => by have := hr L e.symm; omega)).trans hs.1, (hgr.block _ (Array.getElem?_eq_some_iff.1 hs.2).1 (fun e => by have := hr _ e.symm; omega)).trans hs.2⟩
  refine ⟨L, _, V, { target := .fn (.func gf) lb, args := #[.func (.yield L) #[] #[]] }, V, gf, #[.func (.yield L) #[] #[]] ++ lb, V, hen, ?_, ?_, ?_, fun _ => h1, ?_⟩
  · simp only [resolve, hg]
    simp [go_sem]
  · intro f' hf'
    simp [Target.leads] at hf'
    subst hf'
    exact hFg
  · simp [invoke, go_sem, eg]
  refine (hseq L (fun pre W => I pre W ∧ W.heap[L]? = some (R .ready none) ∧ W.heap[w.heap.size]? = some (.deferred (some [])))
    (fun pre W => Ix .ret pre W ∧ W.heap[L]? = some (R .done (some .ret)) ∧ W.heap[w.heap.size]? = some (.deferred (some [])))
    (fun k => own k ∨ k = L) V bV ?_ ?_ ?_ ?_ ⟨iV, lV, dV⟩).mono ?_
  · rintro k (hk | rfl)
    · exact ⟨by have := (hown k hk).1; omega, (hown k hk).2⟩
    · exact ⟨by omega, fun h => by have := hneed _ h; omega⟩
  · intro s A B row hs hgr hr
    exact ⟨hI s A B row hs.1 hgr (fun r e => by have := hr r e; omega), hrec () A B row hs.2 hgr hr⟩
  · intro s A B row hs hgr hr
    exact ⟨hIx _ s A B row hs.1 hgr (fun r e => by have := hr r e; omega), (hgr.block L (Array.getElem?_eq_some_iff.1 hs.2.1).1 (fun e => by have := hr L e.symm; omega)).trans hs.2.1, (hgr.block _ (Array.getElem?_eq_some_iff.1 hs.2.2).1 (fun e => by have := hr _ e.symm; omega)).trans hs.2.2⟩
  · rintro pre x W ⟨hi, hl, hd⟩ hpx hlen
    have lt : L < W.heap.size := (Array.getElem?_eq_some_iff.1 hl).1
    refine ⟨fn, _, assign, body, run_yield hl (hps x), roundIn_of_wpIn hfn (hassign L x W _ ⟨_, run_beginRound hl rfl, ?_⟩)⟩
    obtain ⟨X, hX⟩ : ∃ X, X = W.putObj L (R .busy none) := ⟨_, rfl⟩
    have lX : X.heap[L]? = some (R .busy none) := by rw [hX]; exact World.putObj_heap_same lt
    have dX : X.heap[w.heap.size]? = some (.deferred (some [])) := by rw [hX]; exact (World.putObj_heap_other (by omega)).trans hd
    have iX : I pre X := by rw [hX]; exact hI.put _ hi (by omega)
    have pX : Px x X := by rw [hX]; exact hPx x W L _ _ hpx hl rfl
    have kX : Keeps (fun k => own k ∨ k = L) W X := by rw [hX]; exact Keeps.put _ W _ (.inr rfl)
    have hno : ¬ own L := fun h => by have := (hown _ h).1; omega
    have hno2 : ¬ own w.heap.size := fun h => by have := (hown _ h).1; omega
    refine wpIn_mono (by rw [← hX]; exact hbody L pre x X (by omega) iX pX hlen) ?_
    rintro e b Y hp
    cases e with
    | normal =>
      have lY := hp.1.same _ _ hno lX
      have dY := hp.1.same _ _ hno2 dX
      exact ⟨_, _, run_endRound none lY, .inl ⟨rfl, ⟨hI.put _ hp.2 (by omega), World.putObj_heap_same (Array.getElem?_eq_some_iff.1 lY).1, (World.putObj_heap_other (by omega)).trans dY⟩, (kX.trans (hp.1.mono fun _ h => .inl h)).trans (Keeps.put _ Y _ (.inr rfl))⟩⟩
    | ret =>
      have lY := hp.1.same _ _ hno lX
      have dY := hp.1.same _ _ hno2 dX
      exact ⟨_, _, run_endRound (some .ret) lY, .inr ⟨rfl, ⟨(hIx _).put _ hp.2 (by omega), World.putObj_heap_same (Array.getElem?_eq_some_iff.1 lY).1, (World.putObj_heap_other (by omega)).trans dY⟩, (kX.trans (hp.1.mono fun _ h => .inl h)).trans (Keeps.put _ Y _ (.inr rfl))⟩⟩
    | exit id => exact hp.elim
    | goto t => exact hp.elim
    | panic ch => exact hp.elim
    | outgrown => exact hp.elim
  · rintro e Y ⟨⟨v, rfl⟩, (⟨xs, hS, hi, hl, hd⟩ | ⟨pre, hSp, hi, hl, hd⟩)⟩
    · exact ⟨none, _, run_endLoop hl (by simp), hdone _ xs _ (Nat.le_refl _) hS (hI.put _ hi (by omega)) ((World.putObj_heap_other (by omega)).trans hd)⟩
    · exact ⟨some .ret, _, run_endLoop hl (by simp), hstop _ .ret pre _ (Nat.le_refl _) hSp ((hIx _).put _ hi (by omega)) ((World.putObj_heap_other (by omega)).trans hd)⟩

theorem SeqE.toC {α : Type} {F : Fence} {n : Nat} {P : Program} {g : Nat} {lb : Array Value} {encs : α → Array Value} {Px : α → World → Prop} {need : Nat → Prop} {S Sp : List α → Prop} {N : Nat} {w : World} (h : SeqE F n P g lb encs Px need S Sp N w) :
    SeqC F n P g lb encs Px need S N w := fun l J own W hW hown hJ hY hj =>
  (h l J (fun _ _ => False) own W hW hown hJ (fun _ _ _ _ hs _ _ => hs) (fun pre x W1 h1 h2 h3 => (hY pre x W1 h1 h2 h3).mono fun _ _ hh => .inl hh) hj).mono fun _ _ hh => ⟨hh.1, by
    rcases hh.2 with hh | ⟨_, _, hh⟩
    · exact hh
    · exact hh.elim⟩

end Go.Proofs.Ytcnbffflgodheaa
end

section
namespace Go.Proofs.Ytcnbffflgodheaa
open Go.RowKit Go.Deep Go.Shelf
attribute [local go_sem] Oper.semAt_some

def encF (x : Nat × Int) : Array Value := #[.int .i64 (x.1 : Int), .int .i64 x.2]
structure FB (By Bg l : Nat) (W : World) : Prop where
  yb : W.cell? ⟨By, 0, none⟩ = some (.func (.yield l) #[] #[])
  bg : W.cell? ⟨Bg, 0, none⟩ = some (.func (.func 121) #[] #[.pointer (some ⟨By, 0, none⟩), .pointer (some ⟨Bg, 0, none⟩)])
theorem FB.keeps {By Bg l : Nat} {W W' : World} {own : Nat → Prop} (h : FB By Bg l W) (hk : Keeps own W W') (h1 : ¬ own By) (h2 : ¬ own Bg) : FB By Bg l W' := ⟨hk.cell (a := ⟨By, 0, none⟩) h1 h.yb, hk.cell (a := ⟨Bg, 0, none⟩) h2 h.bg⟩
def FE (own : Nat → Prop) (J Jx : List (Nat × Int) → World → Prop) (all : List (Nat × Int)) (W : World) (e : Ending) (W' : World) : Prop :=
  (e = .returned (.bool true) ∧ J all W' ∧ Keeps own W W') ∨ (e = .returned (.bool false) ∧ (∃ q, q <+: all ∧ Jx q W') ∧ Keeps own W W')

set_option maxRecDepth 100000 in
set_option maxHeartbeats 1000000 in
theorem goF_nil (l By Bg N : Nat) (own : Nat → Prop) (J Jx : List (Nat × Int) → World → Prop)
    (hY : ∀ m pre x W, J pre W → pre.length < N → YieldAt Fence.wide m Try.prog l (encF x) W fun e W' => (e = .returned (.bool true) ∧ J (pre ++ [x]) W' ∧ Keeps own W W') ∨ (e = .returned (.bool false) ∧ Jx (pre ++ [x]) W' ∧ Keeps own W W'))
    (a : Option Addr) (cap s : Nat) (x : Int) (pre : List (Nat × Int)) (W : World) (hb : FB By Bg l W) (hj : J pre W) (hN : pre.length < N) :
    Calls Try.prog 121 #[.slice a 0 cap, .int .i64 s, .int .i64 x, .pointer (some ⟨By, 0, none⟩), .pointer (some ⟨Bg, 0, none⟩)] W (FE own J Jx (pre ++ [(s, x)]) W) := by
  obtain ⟨fn, tmps, assign, body, hy, hR⟩ := hY 7 pre (s, x) W hj hN
  have hyb := hb.yb
  dsimp only [encF] at hy
  clear hb hj hN
  refine (callsIn_wide (n := 8)).1 ?_
  refine callsIn_of_wp Try.func121 rfl trivial ?_ rfl
  simp only [Try.ntmps121, List.size_toArray, List.length_cons, List.length_nil, Nat.reduceAdd, Nat.reduceSub, Array.replicate_succ, Array.replicate_zero, List.push_toArray, List.append_toArray, List.nil_append, List.cons_append]
  gi_wp2
  refine hR.mono ?_
  rintro e W3 (⟨rfl, hJ3, hk3⟩ | ⟨rfl, hx3, hk3⟩)
  · gi_wp2
    go_ret
    exact .inl ⟨rfl, hJ3, hk3⟩
  · gi_wp2
    go_ret
    exact .inr ⟨rfl, ⟨_, List.prefix_refl _, hx3⟩, hk3⟩

theorem keeps_since {own : Nat → Prop} {W V : World} (h : W.Since W.heap.size V) : Keeps own W V := Keeps.grown (row := none) ⟨h.os, h.tape, h.output, h.size, fun k hk _ => h.block k hk⟩ (fun r e => by cases e)
theorem FE.from {own : Nat → Prop} {J Jx : List (Nat × Int) → World → Prop} {all : List (Nat × Int)} {W V W' : World} {e : Ending} (h : FE own J Jx all V e W') (hk : Keeps own W V) : FE own J Jx all W e W' := by
  rcases h with ⟨he, hj, hk2⟩ | ⟨he, hj, hk2⟩
  · exact .inl ⟨he, hj, hk.trans hk2⟩
  · exact .inr ⟨he, hj, hk.trans hk2⟩

set_option maxRecDepth 100000 in
set_option maxHeartbeats 400000 in
theorem goF_g (By Bg l : Nat) (own : Nat → Prop) (J Jx : List (Nat × Int) → World → Prop) (all : List (Nat × Int)) (K : ByteArray) (V x : Int) (M cap b o s L F T : Nat) (W : World) (hF : F ≤ 4) (hs : s ≤ 31) (hsF : s.testBit F = false)
    (EF : ∀ W : World, Calls Try.prog 122 #[.agg #[.string K, .int .i64 L, .int .i64 V]] W fun e w' => e = .returned (.tuple #[.int .i64 F, .int .i64 T]) ∧ W.Since W.heap.size w')
    (hb : FB By Bg l W)
    (IHP : ∀ (X : World) (q c' : Nat), W.Since W.heap.size X → (q = o + 3 ∨ cap = 1) → M ≤ c' → c' ≤ cap → Calls Try.prog 121 #[.slice (some ⟨b, q, none⟩) M c', .int .i64 s, .int .i64 x, .pointer (some ⟨By, 0, none⟩), .pointer (some ⟨Bg, 0, none⟩)] X (FE own J Jx all X)) (hM : M + 1 ≤ 10) (hcap : M + 1 ≤ cap) (hc63 : cap ≤ 9223372036854775807)
    (k1 : W.cell? ⟨b, o, none⟩ = some (.string K)) (k2 : W.cell? ⟨b, o + 1, none⟩ = some (.int .i64 L)) (k3 : W.cell? ⟨b, o + 2, none⟩ = some (.int .i64 V)) :
    Calls Try.prog 121 #[.slice (some ⟨b, o, none⟩) (M + 1) cap, .int .i64 s, .int .i64 x, .pointer (some ⟨By, 0, none⟩), .pointer (some ⟨Bg, 0, none⟩)] W (FE own J Jx all W) := by
  obtain ⟨d1, d2, d3⟩ := chip_box W K L V 71
  have HS := Lib.hid ((World.Since.refl W.heap.size W).alloc (Nat.le_refl _) (.cells #[.string K, .int .i64 L, .int .i64 V] 71))
  have E1 := fun X => inSet_any s F (by omega) (by omega) X
  simp only [hsF] at E1
  replace E1 := Lib.hid E1
  replace EF := Lib.hid EF
  replace IHP := Lib.hid IHP
  have HB := Lib.hid hb
  clear hb hsF
  rcases Nat.lt_or_eq_of_le (show 1 ≤ cap by omega) with hc1 | rfl
  · have hb1 : (0 : Int) ≤ (M : Int) := by omega
    have hb2 : (1 : Int) ≤ (M : Int) + 1 := by omega
    have hb3 : (M : Int) + 1 ≤ (cap : Int) := by omega
    have hc2 : ¬ cap = 1 := by omega
    have hc3 : ¬ 1 = cap := by omega
    go_enter Try.func121, Try.ntmps121
    have a1 := fun ob => cell_alloc_l ob k1
    have a2 := fun ob => cell_alloc_l ob k2
    have a3 := fun ob => cell_alloc_l ob k3
    have hbg := cell_alloc_l (.cells #[.string K, .int .i64 L, .int .i64 V] 71) HB.out.bg
    have hbl := World.block_lt_of_cell? _ _ hbg
    go_wp2_with fail
    go_region
    clear a1 a2 a3
    go_wp2_with (first
      | (go_at_call 122; refine (EF.out _).mono ?_; rintro e w1 ⟨rfl, hs1⟩; replace hs1 := since_of_drew hs1; have hbg1 := (hs1.cell hbl).trans hbg; have HS1 := Lib.hid (HS.out.trans (since_mono hs1 HS.out.size)); clear hs1)
      | (go_at_call 123; refine (E1.out _).mono ?_; rintro e w2 ⟨rfl, rfl⟩))
    go_quiet ((go_at_call 123; exact Calls.quiet_of_same ((E1.out _).mono fun _ _ h => ⟨h.1, h.2.symm⟩)))
    have hs3 : W.Since W.heap.size (w1.drewN nq) := since_drewN HS1.out nq
    have hbg3 : (w1.drewN nq).cell? ⟨Bg, 0, none⟩ = _ := hbg1
    have HS3 := Lib.hid hs3
    clear hs3
    go_wp2_with fail
    refine (IHP.out _ _ _ HS3.out (by first | exact .inr trivial | exact .inr rfl | exact .inl rfl) (by omega) (by omega)).mono ?_
    rintro e w4 hE
    replace hE := hE.from (keeps_since HS3.out)
    rcases hE with ⟨rfl, hJ4, hk4⟩ | ⟨rfl, hx4, hk4⟩
    · go_wp2_with fail
      go_ret
      exact .inl ⟨rfl, hJ4, hk4⟩
    · go_wp2_with fail
      go_ret
      exact .inr ⟨rfl, hx4, hk4⟩
  · obtain rfl : M = 0 := by omega
    clear hM hcap hc63
    go_enter Try.func121, Try.ntmps121
    have a1 := fun ob => cell_alloc_l ob k1
    have a2 := fun ob => cell_alloc_l ob k2
    have a3 := fun ob => cell_alloc_l ob k3
    have hbg := cell_alloc_l (.cells #[.string K, .int .i64 L, .int .i64 V] 71) HB.out.bg
    have hbl := World.block_lt_of_cell? _ _ hbg
    go_wp2_with fail
    go_region
    clear a1 a2 a3
    go_wp2_with (first
      | (go_at_call 122; refine (EF.out _).mono ?_; rintro e w1 ⟨rfl, hs1⟩; replace hs1 := since_of_drew hs1; have hbg1 := (hs1.cell hbl).trans hbg; have HS1 := Lib.hid (HS.out.trans (since_mono hs1 HS.out.size)); clear hs1)
      | (go_at_call 123; refine (E1.out _).mono ?_; rintro e w2 ⟨rfl, rfl⟩))
    go_quiet ((go_at_call 123; exact Calls.quiet_of_same ((E1.out _).mono fun _ _ h => ⟨h.1, h.2.symm⟩)))
    have hs3 : W.Since W.heap.size (w1.drewN nq) := since_drewN HS1.out nq
    have hbg3 : (w1.drewN nq).cell? ⟨Bg, 0, none⟩ = _ := hbg1
    have HS3 := Lib.hid hs3
    clear hs3
    go_wp2_with fail
    refine (IHP.out _ _ _ HS3.out (by first | exact .inr trivial | exact .inr rfl | exact .inl rfl) (by omega) (by omega)).mono ?_
    rintro e w4 hE
    replace hE := hE.from (keeps_since HS3.out)
    rcases hE with ⟨rfl, hJ4, hk4⟩ | ⟨rfl, hx4, hk4⟩
    · go_wp2_with fail
      go_ret
      exact .inl ⟨rfl, hJ4, hk4⟩
    · go_wp2_with fail
      go_ret
      exact .inr ⟨rfl, hx4, hk4⟩

set_option maxRecDepth 100000 in
set_option maxHeartbeats 400000 in
theorem goF_h (By Bg l : Nat) (own : Nat → Prop) (J Jx : List (Nat × Int) → World → Prop) (all : List (Nat × Int)) (K : ByteArray) (V x : Int) (M cap b o s L F : Nat) (W : World) (hF : F ≤ 4) (hs : s ≤ 31) (hsF : s.testBit F = true) (hw1 : IntKind.i64.wrap (x * V) = x * V)
    (EF : ∀ W : World, Calls Try.prog 122 #[.agg #[.string K, .int .i64 L, .int .i64 V]] W fun e w' => e = .returned (.tuple #[.int .i64 F, .int .i64 F]) ∧ W.Since W.heap.size w')
    (hb : FB By Bg l W)
    (IHP : ∀ (X : World) (q c' : Nat), W.Since W.heap.size X → (q = o + 3 ∨ cap = 1) → M ≤ c' → c' ≤ cap → Calls Try.prog 121 #[.slice (some ⟨b, q, none⟩) M c', .int .i64 s, .int .i64 (x * V), .pointer (some ⟨By, 0, none⟩), .pointer (some ⟨Bg, 0, none⟩)] X (FE own J Jx all X)) (hM : M + 1 ≤ 10) (hcap : M + 1 ≤ cap) (hc63 : cap ≤ 9223372036854775807)
    (k1 : W.cell? ⟨b, o, none⟩ = some (.string K)) (k2 : W.cell? ⟨b, o + 1, none⟩ = some (.int .i64 L)) (k3 : W.cell? ⟨b, o + 2, none⟩ = some (.int .i64 V)) :
    Calls Try.prog 121 #[.slice (some ⟨b, o, none⟩) (M + 1) cap, .int .i64 s, .int .i64 x, .pointer (some ⟨By, 0, none⟩), .pointer (some ⟨Bg, 0, none⟩)] W (FE own J Jx all W) := by
  obtain ⟨d1, d2, d3⟩ := chip_box W K L V 71
  have HS := Lib.hid ((World.Since.refl W.heap.size W).alloc (Nat.le_refl _) (.cells #[.string K, .int .i64 L, .int .i64 V] 71))
  have E1 := fun X => inSet_any s F (by omega) (by omega) X
  simp only [hsF] at E1
  replace E1 := Lib.hid E1
  replace EF := Lib.hid EF
  replace IHP := Lib.hid IHP
  have HB := Lib.hid hb
  clear hb hsF
  rcases Nat.lt_or_eq_of_le (show 1 ≤ cap by omega) with hc1 | rfl
  · have hb1 : (0 : Int) ≤ (M : Int) := by omega
    have hb2 : (1 : Int) ≤ (M : Int) + 1 := by omega
    have hb3 : (M : Int) + 1 ≤ (cap : Int) := by omega
    have hc2 : ¬ cap = 1 := by omega
    have hc3 : ¬ 1 = cap := by omega
    go_enter Try.func121, Try.ntmps121
    have a1 := fun ob => cell_alloc_l ob k1
    have a2 := fun ob => cell_alloc_l ob k2
    have a3 := fun ob => cell_alloc_l ob k3
    have hbg := cell_alloc_l (.cells #[.string K, .int .i64 L, .int .i64 V] 71) HB.out.bg
    have hbl := World.block_lt_of_cell? _ _ hbg
    go_wp2_with fail
    go_region
    clear a1 a2 a3
    go_wp2_with (first
      | (go_at_call 122; refine (EF.out _).mono ?_; rintro e w1 ⟨rfl, hs1⟩; replace hs1 := since_of_drew hs1; have hbg1 := (hs1.cell hbl).trans hbg; have hw3 := (hs1.cell (World.block_lt_of_cell? _ _ d3)).trans d3; have HS1 := Lib.hid (HS.out.trans (since_mono hs1 HS.out.size)); clear hs1)
      | (go_at_call 123; refine (E1.out _).mono ?_; rintro e w2 ⟨rfl, rfl⟩))
    have HS3 := HS1
    refine (IHP.out _ _ _ HS3.out (by first | exact .inr trivial | exact .inr rfl | exact .inl rfl) (by omega) (by omega)).mono ?_
    rintro e w4 hE
    replace hE := hE.from (keeps_since HS3.out)
    rcases hE with ⟨rfl, hJ4, hk4⟩ | ⟨rfl, hx4, hk4⟩
    · go_wp2_with fail
      go_ret
      exact .inl ⟨rfl, hJ4, hk4⟩
    · go_wp2_with fail
      go_ret
      exact .inr ⟨rfl, hx4, hk4⟩
  · obtain rfl : M = 0 := by omega
    clear hM hcap hc63
    go_enter Try.func121, Try.ntmps121
    have a1 := fun ob => cell_alloc_l ob k1
    have a2 := fun ob => cell_alloc_l ob k2
    have a3 := fun ob => cell_alloc_l ob k3
    have hbg := cell_alloc_l (.cells #[.string K, .int .i64 L, .int .i64 V] 71) HB.out.bg
    have hbl := World.block_lt_of_cell? _ _ hbg
    go_wp2_with fail
    go_region
    clear a1 a2 a3
    go_wp2_with (first
      | (go_at_call 122; refine (EF.out _).mono ?_; rintro e w1 ⟨rfl, hs1⟩; replace hs1 := since_of_drew hs1; have hbg1 := (hs1.cell hbl).trans hbg; have hw3 := (hs1.cell (World.block_lt_of_cell? _ _ d3)).trans d3; have HS1 := Lib.hid (HS.out.trans (since_mono hs1 HS.out.size)); clear hs1)
      | (go_at_call 123; refine (E1.out _).mono ?_; rintro e w2 ⟨rfl, rfl⟩))
    have HS3 := HS1
    refine (IHP.out _ _ _ HS3.out (by first | exact .inr trivial | exact .inr rfl | exact .inl rfl) (by omega) (by omega)).mono ?_
    rintro e w4 hE
    replace hE := hE.from (keeps_since HS3.out)
    rcases hE with ⟨rfl, hJ4, hk4⟩ | ⟨rfl, hx4, hk4⟩
    · go_wp2_with fail
      go_ret
      exact .inl ⟨rfl, hJ4, hk4⟩
    · go_wp2_with fail
      go_ret
      exact .inr ⟨rfl, hx4, hk4⟩

end Go.Proofs.Ytcnbffflgodheaa
end

section
namespace Go.Proofs.Ytcnbffflgodheaa
open Go.RowKit Go.Deep Go.Shelf
attribute [local go_sem] Oper.semAt_some

set_option maxRecDepth 100000 in
set_option maxHeartbeats 400000 in
theorem goF_m (By Bg l : Nat) (own : Nat → Prop) (J Jx : List (Nat × Int) → World → Prop) (all : List (Nat × Int)) (K : ByteArray) (V x : Int) (M cap b o s L F T : Nat) (W : World) (hF : F ≤ 4) (hT : T ≤ 4) (hs : s ≤ 31) (hFT : F ≠ T) (hsF : s.testBit F = true) (hsT : s.testBit T = true)
    (EF : ∀ W : World, Calls Try.prog 122 #[.agg #[.string K, .int .i64 L, .int .i64 V]] W fun e w' => e = .returned (.tuple #[.int .i64 F, .int .i64 T]) ∧ W.Since W.heap.size w')
    (hb : FB By Bg l W)
    (IHP : ∀ (X : World) (q c' : Nat), W.Since W.heap.size X → (q = o + 3 ∨ cap = 1) → M ≤ c' → c' ≤ cap → Calls Try.prog 121 #[.slice (some ⟨b, q, none⟩) M c', .int .i64 s, .int .i64 x, .pointer (some ⟨By, 0, none⟩), .pointer (some ⟨Bg, 0, none⟩)] X (FE own J Jx all X)) (hM : M + 1 ≤ 10) (hcap : M + 1 ≤ cap) (hc63 : cap ≤ 9223372036854775807)
    (k1 : W.cell? ⟨b, o, none⟩ = some (.string K)) (k2 : W.cell? ⟨b, o + 1, none⟩ = some (.int .i64 L)) (k3 : W.cell? ⟨b, o + 2, none⟩ = some (.int .i64 V)) :
    Calls Try.prog 121 #[.slice (some ⟨b, o, none⟩) (M + 1) cap, .int .i64 s, .int .i64 x, .pointer (some ⟨By, 0, none⟩), .pointer (some ⟨Bg, 0, none⟩)] W (FE own J Jx all W) := by
  obtain ⟨d1, d2, d3⟩ := chip_box W K L V 71
  have HS := Lib.hid ((World.Since.refl W.heap.size W).alloc (Nat.le_refl _) (.cells #[.string K, .int .i64 L, .int .i64 V] 71))
  have E1 := fun X => inSet_any s F (by omega) (by omega) X
  simp only [hsF] at E1
  replace E1 := Lib.hid E1
  have E2 := fun X => inSet_any s T (by omega) (by omega) X
  simp only [hsT] at E2
  replace E2 := Lib.hid E2
  have hftb : ((F : Int) == (T : Int)) = false := by simp; omega
  replace EF := Lib.hid EF
  replace IHP := Lib.hid IHP
  have HB := Lib.hid hb
  clear hb hsF hsT
  rcases Nat.lt_or_eq_of_le (show 1 ≤ cap by omega) with hc1 | rfl
  · have hb1 : (0 : Int) ≤ (M : Int) := by omega
    have hb2 : (1 : Int) ≤ (M : Int) + 1 := by omega
    have hb3 : (M : Int) + 1 ≤ (cap : Int) := by omega
    have hc2 : ¬ cap = 1 := by omega
    have hc3 : ¬ 1 = cap := by omega
    go_enter Try.func121, Try.ntmps121
    have a1 := fun ob => cell_alloc_l ob k1
    have a2 := fun ob => cell_alloc_l ob k2
    have a3 := fun ob => cell_alloc_l ob k3
    have hbg := cell_alloc_l (.cells #[.string K, .int .i64 L, .int .i64 V] 71) HB.out.bg
    have hbl := World.block_lt_of_cell? _ _ hbg
    go_wp2_with fail
    go_region
    clear a1 a2 a3
    go_wp2_with (first
      | (go_at_call 122; refine (EF.out _).mono ?_; rintro e w1 ⟨rfl, hs1⟩; replace hs1 := since_of_drew hs1; have hbg1 := (hs1.cell hbl).trans hbg; have HS1 := Lib.hid (HS.out.trans (since_mono hs1 HS.out.size)); clear hs1)
      | (go_at_call 123; ((with_reducible refine (E1.out _).mono ?_); rintro e w2 ⟨rfl, rfl⟩)))
    go_quiet (first | (go_at_call 123; with_reducible exact Calls.quiet_of_same ((E1.out _).mono fun _ _ h => ⟨h.1, h.2.symm⟩)) | (go_at_call 123; with_reducible exact Calls.quiet_of_same ((E2.out _).mono fun _ _ h => ⟨h.1, h.2.symm⟩)))
    have hs3 : W.Since W.heap.size (w1.drewN nq) := since_drewN HS1.out nq
    have hbg3 : (w1.drewN nq).cell? ⟨Bg, 0, none⟩ = _ := hbg1
    have HS3 := Lib.hid hs3
    clear hs3
    go_wp2_with fail
    refine (IHP.out _ _ _ HS3.out (by first | exact .inr trivial | exact .inr rfl | exact .inl rfl) (by omega) (by omega)).mono ?_
    rintro e w4 hE
    replace hE := hE.from (keeps_since HS3.out)
    rcases hE with ⟨rfl, hJ4, hk4⟩ | ⟨rfl, hx4, hk4⟩
    · go_wp2_with fail
      go_ret
      exact .inl ⟨rfl, hJ4, hk4⟩
    · go_wp2_with fail
      go_ret
      exact .inr ⟨rfl, hx4, hk4⟩
  · obtain rfl : M = 0 := by omega
    clear hM hcap hc63
    go_enter Try.func121, Try.ntmps121
    have a1 := fun ob => cell_alloc_l ob k1
    have a2 := fun ob => cell_alloc_l ob k2
    have a3 := fun ob => cell_alloc_l ob k3
    have hbg := cell_alloc_l (.cells #[.string K, .int .i64 L, .int .i64 V] 71) HB.out.bg
    have hbl := World.block_lt_of_cell? _ _ hbg
    go_wp2_with fail
    go_region
    clear a1 a2 a3
    go_wp2_with (first
      | (go_at_call 122; refine (EF.out _).mono ?_; rintro e w1 ⟨rfl, hs1⟩; replace hs1 := since_of_drew hs1; have hbg1 := (hs1.cell hbl).trans hbg; have HS1 := Lib.hid (HS.out.trans (since_mono hs1 HS.out.size)); clear hs1)
      | (go_at_call 123; ((with_reducible refine (E1.out _).mono ?_); rintro e w2 ⟨rfl, rfl⟩)))
    go_quiet (first | (go_at_call 123; with_reducible exact Calls.quiet_of_same ((E1.out _).mono fun _ _ h => ⟨h.1, h.2.symm⟩)) | (go_at_call 123; with_reducible exact Calls.quiet_of_same ((E2.out _).mono fun _ _ h => ⟨h.1, h.2.symm⟩)))
    have hs3 : W.Since W.heap.size (w1.drewN nq) := since_drewN HS1.out nq
    have hbg3 : (w1.drewN nq).cell? ⟨Bg, 0, none⟩ = _ := hbg1
    have HS3 := Lib.hid hs3
    clear hs3
    go_wp2_with fail
    refine (IHP.out _ _ _ HS3.out (by first | exact .inr trivial | exact .inr rfl | exact .inl rfl) (by omega) (by omega)).mono ?_
    rintro e w4 hE
    replace hE := hE.from (keeps_since HS3.out)
    rcases hE with ⟨rfl, hJ4, hk4⟩ | ⟨rfl, hx4, hk4⟩
    · go_wp2_with fail
      go_ret
      exact .inl ⟨rfl, hJ4, hk4⟩
    · go_wp2_with fail
      go_ret
      exact .inr ⟨rfl, hx4, hk4⟩

end Go.Proofs.Ytcnbffflgodheaa
end

section
namespace Go.Proofs.Ytcnbffflgodheaa
open Go.RowKit Go.Deep Go.Shelf
attribute [local go_sem] Oper.semAt_some

theorem FE.one {own : Nat → Prop} {J Jx : List (Nat × Int) → World → Prop} {all : List (Nat × Int)} {W W' : World} {e : Ending} (h : FE own J Jx all W e W') : ∃ bb, e = .returned (.bool bb) ∧ Keeps own W W' ∧ (bb = true → J all W') ∧ (bb = false → ∃ q, q <+: all ∧ Jx q W') := by
  rcases h with ⟨he, hj, hk⟩ | ⟨he, hj, hk⟩
  · exact ⟨true, he, hk, fun _ => hj, fun h => by simp at h⟩
  · exact ⟨false, he, hk, fun h => by simp at h, fun _ => hj⟩
set_option maxRecDepth 100000 in
set_option maxHeartbeats 400000 in
theorem goF_o (By Bg l : Nat) (own : Nat → Prop) (J Jx : List (Nat × Int) → World → Prop) (mid all : List (Nat × Int)) (hmid : mid <+: all) (K : ByteArray) (V x : Int) (M cap b o s L F T : Nat) (W : World) (hF : F ≤ 4) (hT : T ≤ 4) (hs : s ≤ 31) (hFT : F ≠ T) (hsF : s.testBit F = true) (hsT : s.testBit T = false) (hw1 : IntKind.i64.wrap (x * V) = x * V) (u : Nat) (hu : bits BinOp.xor IntKind.i64 (s : Int) (bits BinOp.or IntKind.i64 (2 ^ F) (2 ^ T)) = (u : Int)) (hB1 : ¬ own Bg) (hown : ∀ k, own k → k < W.heap.size)
    (EF : ∀ W : World, Calls Try.prog 122 #[.agg #[.string K, .int .i64 L, .int .i64 V]] W fun e w' => e = .returned (.tuple #[.int .i64 F, .int .i64 T]) ∧ W.Since W.heap.size w')
    (hb : FB By Bg l W)
    (IHO : ∀ (X : World) (q c' : Nat), W.Since W.heap.size X → (q = o + 3 ∨ cap = 1) → M ≤ c' → c' ≤ cap → Calls Try.prog 121 #[.slice (some ⟨b, q, none⟩) M c', .int .i64 u, .int .i64 (x * V), .pointer (some ⟨By, 0, none⟩), .pointer (some ⟨Bg, 0, none⟩)] X (FE own J Jx mid X))
    (IHP : ∀ (X : World) (q c' : Nat), J mid X → Keeps own W X → (q = o + 3 ∨ cap = 1) → M ≤ c' → c' ≤ cap → Calls Try.prog 121 #[.slice (some ⟨b, q, none⟩) M c', .int .i64 s, .int .i64 x, .pointer (some ⟨By, 0, none⟩), .pointer (some ⟨Bg, 0, none⟩)] X (FE own J Jx all X)) (hM : M + 1 ≤ 10) (hcap : M + 1 ≤ cap) (hc63 : cap ≤ 9223372036854775807)
    (k1 : W.cell? ⟨b, o, none⟩ = some (.string K)) (k2 : W.cell? ⟨b, o + 1, none⟩ = some (.int .i64 L)) (k3 : W.cell? ⟨b, o + 2, none⟩ = some (.int .i64 V)) :
    Calls Try.prog 121 #[.slice (some ⟨b, o, none⟩) (M + 1) cap, .int .i64 s, .int .i64 x, .pointer (some ⟨By, 0, none⟩), .pointer (some ⟨Bg, 0, none⟩)] W (FE own J Jx all W) := by
  obtain ⟨d1, d2, d3⟩ := chip_box W K L V 71
  have HS := Lib.hid ((World.Since.refl W.heap.size W).alloc (Nat.le_refl _) (.cells #[.string K, .int .i64 L, .int .i64 V] 71))
  have E1 := fun X => inSet_any s F (by omega) (by omega) X
  simp only [hsF] at E1
  replace E1 := Lib.hid E1
  have E2 := fun X => inSet_any s T (by omega) (by omega) X
  simp only [hsT] at E2
  replace E2 := Lib.hid E2
  have hftb : ((F : Int) == (T : Int)) = false := by simp; omega
  replace EF := Lib.hid EF
  replace IHP := Lib.hid IHP
  replace IHO := Lib.hid IHO
  have HU := Lib.hid hu
  have HMid := Lib.hid hmid
  obtain ⟨p1, _⟩ := p2w_fin ⟨F, by omega⟩
  obtain ⟨p2, _⟩ := p2w_fin ⟨T, by omega⟩
  simp only at p1 p2
  have hm1 : min F 64 = F := by omega
  have hm2 : min T 64 = T := by omega
  clear hu hmid
  have HB := Lib.hid hb
  clear hb hsF hsT
  rcases Nat.lt_or_eq_of_le (show 1 ≤ cap by omega) with hc1 | rfl
  · have hb1 : (0 : Int) ≤ (M : Int) := by omega
    have hb2 : (1 : Int) ≤ (M : Int) + 1 := by omega
    have hb3 : (M : Int) + 1 ≤ (cap : Int) := by omega
    have hc2 : ¬ cap = 1 := by omega
    have hc3 : ¬ 1 = cap := by omega
    go_enter Try.func121, Try.ntmps121
    have a1 := fun ob => cell_alloc_l ob k1
    have a2 := fun ob => cell_alloc_l ob k2
    have a3 := fun ob => cell_alloc_l ob k3
    have hbg := cell_alloc_l (.cells #[.string K, .int .i64 L, .int .i64 V] 71) HB.out.bg
    have hbl := World.block_lt_of_cell? _ _ hbg
    go_wp2_with fail
    go_region
    clear a1 a2 a3
    go_wp2_with (first
      | (go_at_call 122; refine (EF.out _).mono ?_; rintro e w1 ⟨rfl, hs1⟩; replace hs1 := since_of_drew hs1; have hbg1 := (hs1.cell hbl).trans hbg; have hw3 := (hs1.cell (World.block_lt_of_cell? _ _ d3)).trans d3; have HS1 := Lib.hid (HS.out.trans (since_mono hs1 HS.out.size)); clear hs1)
      | (go_at_call 123; ((with_reducible refine (E1.out _).mono ?_); rintro e w2 ⟨rfl, rfl⟩)))
    have hS7 : w1.cell? ⟨Bg, 0, none⟩ = some (.func (.func 121) #[] #[.pointer (some ⟨By, 0, none⟩), .pointer (some ⟨Bg, 0, none⟩)]) ∧ w1.cell? ⟨W.heap.size, 2, none⟩ = some (.int .i64 V) := ⟨hbg1, hw3⟩
    have hu := HU.out
    have hKC := fun (X : World) (hk : Keeps own w1 X) => show X.cell? ⟨Bg, 0, none⟩ = some (.func (.func 121) #[] #[.pointer (some ⟨By, 0, none⟩), .pointer (some ⟨Bg, 0, none⟩)]) ∧ X.cell? ⟨W.heap.size, 2, none⟩ = some (.int .i64 V) from ⟨hk.cell (a := ⟨Bg, 0, none⟩) hB1 hbg1, hk.cell (a := ⟨W.heap.size, 2, none⟩) (fun h => by have := hown _ h; simp at this) hw3⟩
    have HKC := Lib.hid hKC
    clear hKC
    go_region_held3 (fun W' => W'.cell? ⟨Bg, 0, none⟩ = some (.func (.func 121) #[] #[.pointer (some ⟨By, 0, none⟩), .pointer (some ⟨Bg, 0, none⟩)]) ∧ W'.cell? ⟨W.heap.size, 2, none⟩ = some (.int .i64 V))
      (first | exact g9 | exact hS7)
      (first
        | (go_at_call 123; ((with_reducible refine (E1.out _).mono ?_); rintro e w2 ⟨rfl, rfl⟩))
        | (go_at_call 123; ((with_reducible refine (E2.out _).mono ?_); rintro e w2 ⟨rfl, rfl⟩))
        | (go_at_call 121; refine (IHO.out _ _ _ HS1.out.drew (by first | exact .inr trivial | exact .inr rfl | exact .inl rfl) (by omega) (by omega)).mono ?_; rintro e w5 hE; obtain ⟨bb, rfl, hk5, hJ5, hx5⟩ := hE.one; have g9 := HKC.out _ ((keeps_since ((World.Since.refl w1.heap.size w1).drew)).trans hk5); have HK5 := Lib.hid ((keeps_since (own := own) (HS1.out.drew)).trans hk5); have HJ5 := Lib.hid hJ5; have HX5 := Lib.hid hx5; clear hk5 hJ5 hx5))
    all_goals
      obtain ⟨hg5, _⟩ := g9
      cases bb
      · obtain ⟨q5, hq5, hx5⟩ := HX5.out rfl
        go_wp2_with fail
        go_ret
        exact .inr ⟨rfl, ⟨q5, hq5.trans HMid.out, hx5⟩, HK5.out⟩
      · have hJ5 := HJ5.out rfl
        go_wp2_with fail
        refine (IHP.out _ _ _ hJ5 HK5.out (by first | exact .inr trivial | exact .inr rfl | exact .inl rfl) (by omega) (by omega)).mono ?_
        rintro e w6 hE
        replace hE := hE.from HK5.out
        rcases hE with ⟨rfl, hJ6, hk6⟩ | ⟨rfl, hx6, hk6⟩
        · go_wp2_with fail
          go_ret
          exact .inl ⟨rfl, hJ6, hk6⟩
        · go_wp2_with fail
          go_ret
          exact .inr ⟨rfl, hx6, hk6⟩
  · obtain rfl : M = 0 := by omega
    clear hM hcap hc63
    go_enter Try.func121, Try.ntmps121
    have a1 := fun ob => cell_alloc_l ob k1
    have a2 := fun ob => cell_alloc_l ob k2
    have a3 := fun ob => cell_alloc_l ob k3
    have hbg := cell_alloc_l (.cells #[.string K, .int .i64 L, .int .i64 V] 71) HB.out.bg
    have hbl := World.block_lt_of_cell? _ _ hbg
    go_wp2_with fail
    go_region
    clear a1 a2 a3
    go_wp2_with (first
      | (go_at_call 122; refine (EF.out _).mono ?_; rintro e w1 ⟨rfl, hs1⟩; replace hs1 := since_of_drew hs1; have hbg1 := (hs1.cell hbl).trans hbg; have hw3 := (hs1.cell (World.block_lt_of_cell? _ _ d3)).trans d3; have HS1 := Lib.hid (HS.out.trans (since_mono hs1 HS.out.size)); clear hs1)
      | (go_at_call 123; ((with_reducible refine (E1.out _).mono ?_); rintro e w2 ⟨rfl, rfl⟩)))
    have hS7 : w1.cell? ⟨Bg, 0, none⟩ = some (.func (.func 121) #[] #[.pointer (some ⟨By, 0, none⟩), .pointer (some ⟨Bg, 0, none⟩)]) ∧ w1.cell? ⟨W.heap.size, 2, none⟩ = some (.int .i64 V) := ⟨hbg1, hw3⟩
    have hu := HU.out
    have hKC := fun (X : World) (hk : Keeps own w1 X) => show X.cell? ⟨Bg, 0, none⟩ = some (.func (.func 121) #[] #[.pointer (some ⟨By, 0, none⟩), .pointer (some ⟨Bg, 0, none⟩)]) ∧ X.cell? ⟨W.heap.size, 2, none⟩ = some (.int .i64 V) from ⟨hk.cell (a := ⟨Bg, 0, none⟩) hB1 hbg1, hk.cell (a := ⟨W.heap.size, 2, none⟩) (fun h => by have := hown _ h; simp at this) hw3⟩
    have HKC := Lib.hid hKC
    clear hKC
    go_region_held3 (fun W' => W'.cell? ⟨Bg, 0, none⟩ = some (.func (.func 121) #[] #[.pointer (some ⟨By, 0, none⟩), .pointer (some ⟨Bg, 0, none⟩)]) ∧ W'.cell? ⟨W.heap.size, 2, none⟩ = some (.int .i64 V))
      (first | exact g9 | exact hS7)
      (first
        | (go_at_call 123; ((with_reducible refine (E1.out _).mono ?_); rintro e w2 ⟨rfl, rfl⟩))
        | (go_at_call 123; ((with_reducible refine (E2.out _).mono ?_); rintro e w2 ⟨rfl, rfl⟩))
        | (go_at_call 121; refine (IHO.out _ _ _ HS1.out.drew (by first | exact .inr trivial | exact .inr rfl | exact .inl rfl) (by omega) (by omega)).mono ?_; rintro e w5 hE; obtain ⟨bb, rfl, hk5, hJ5, hx5⟩ := hE.one; have g9 := HKC.out _ ((keeps_since ((World.Since.refl w1.heap.size w1).drew)).trans hk5); have HK5 := Lib.hid ((keeps_since (own := own) (HS1.out.drew)).trans hk5); have HJ5 := Lib.hid hJ5; have HX5 := Lib.hid hx5; clear hk5 hJ5 hx5))
    all_goals
      obtain ⟨hg5, _⟩ := g9
      cases bb
      · obtain ⟨q5, hq5, hx5⟩ := HX5.out rfl
        go_wp2_with fail
        go_ret
        exact .inr ⟨rfl, ⟨q5, hq5.trans HMid.out, hx5⟩, HK5.out⟩
      · have hJ5 := HJ5.out rfl
        go_wp2_with fail
        refine (IHP.out _ _ _ hJ5 HK5.out (by first | exact .inr trivial | exact .inr rfl | exact .inl rfl) (by omega) (by omega)).mono ?_
        rintro e w6 hE
        replace hE := hE.from HK5.out
        rcases hE with ⟨rfl, hJ6, hk6⟩ | ⟨rfl, hx6, hk6⟩
        · go_wp2_with fail
          go_ret
          exact .inl ⟨rfl, hJ6, hk6⟩
        · go_wp2_with fail
          go_ret
          exact .inr ⟨rfl, hx6, hk6⟩

end Go.Proofs.Ytcnbffflgodheaa
end

section
namespace Go.Proofs.Ytcnbffflgodheaa
open Go.RowKit Go.Deep Go.Shelf
attribute [local go_sem] Oper.semAt_some

theorem xorO_fin : ∀ s : Fin 32, ∀ i k : Fin 5, i ≠ k → bits BinOp.xor IntKind.i64 (s.val : Int) (bits BinOp.or IntKind.i64 (2 ^ i.val) (2 ^ k.val)) = ((s.val ^^^ 2 ^ i.val ^^^ 2 ^ k.val : Nat) : Int) ∧ s.val ^^^ 2 ^ i.val ^^^ 2 ^ k.val ≤ 31 := by decide +kernel
theorem ChipsR.keeps {own : Nat → Prop} {W X : World} {b o : Nat} {cs : List RC} (h : ChipsR W (some ⟨b, o, none⟩) cs) (hk : Keeps own W X) (hb : ¬ own b) : ChipsR X (some ⟨b, o, none⟩) cs := fun h0 => by
  obtain ⟨b', o', e, hc⟩ := h h0
  simp only [Option.some.injEq, Addr.mk.injEq, and_true] at e
  obtain ⟨rfl, rfl⟩ := e
  exact ⟨b, o, rfl, fun i hi => ⟨hk.cell (a := ⟨b, o + i * 3, none⟩) hb (hc i hi).1, hk.cell (a := ⟨b, o + i * 3 + 1, none⟩) hb (hc i hi).2.1, hk.cell (a := ⟨b, o + i * 3 + 2, none⟩) hb (hc i hi).2.2⟩⟩
theorem FB.since {By Bg l : Nat} {W X : World} (h : FB By Bg l W) (hs : W.Since W.heap.size X) : FB By Bg l X := h.keeps (own := fun _ => False) (keeps_since hs) (fun h => h) (fun h => h)
theorem nine_w {x V B : Int} (hv : -9 ≤ V ∧ V ≤ 9) (hx : -B ≤ x ∧ x ≤ B) : -(9 * B) ≤ x * V ∧ x * V ≤ 9 * B := by
  have h : V = -9 ∨ V = -8 ∨ V = -7 ∨ V = -6 ∨ V = -5 ∨ V = -4 ∨ V = -3 ∨ V = -2 ∨ V = -1 ∨ V = 0 ∨ V = 1 ∨ V = 2 ∨ V = 3 ∨ V = 4 ∨ V = 5 ∨ V = 6 ∨ V = 7 ∨ V = 8 ∨ V = 9 := by omega
  rcases h with rfl | rfl | rfl | rfl | rfl | rfl | rfl | rfl | rfl | rfl | rfl | rfl | rfl | rfl | rfl | rfl | rfl | rfl | rfl <;> omega

def pxF (x : Nat × Int) : Prop := x.1 ≤ 31 ∧ -(nineP 10) ≤ x.2 ∧ x.2 ≤ nineP 10

set_option maxRecDepth 100000 in
set_option maxHeartbeats 1000000 in
theorem goF_one (l By Bg : Nat) (own : Nat → Prop) (J Jx : List (Nat × Int) → World → Prop)
    (a : Option Addr) (cap s : Nat) (x : Int) (pre : List (Nat × Int)) (W : World) (hb : FB By Bg l W) (hY : YieldAt Fence.wide 7 Try.prog l (encF (s, x)) W fun e W' => (e = .returned (.bool true) ∧ J (pre ++ [(s, x)]) W' ∧ Keeps own W W') ∨ (e = .returned (.bool false) ∧ Jx (pre ++ [(s, x)]) W' ∧ Keeps own W W')) :
    Calls Try.prog 121 #[.slice a 0 cap, .int .i64 s, .int .i64 x, .pointer (some ⟨By, 0, none⟩), .pointer (some ⟨Bg, 0, none⟩)] W (FE own J Jx (pre ++ [(s, x)]) W) := by
  obtain ⟨fn, tmps, assign, body, hy, hR⟩ := hY
  have hyb := hb.yb
  dsimp only [encF] at hy
  clear hb
  refine (callsIn_wide (n := 8)).1 ?_
  refine callsIn_of_wp Try.func121 rfl trivial ?_ rfl
  simp only [Try.ntmps121, List.size_toArray, List.length_cons, List.length_nil, Nat.reduceAdd, Nat.reduceSub, Array.replicate_succ, Array.replicate_zero, List.push_toArray, List.append_toArray, List.nil_append, List.cons_append]
  gi_wp2
  refine hR.mono ?_
  rintro e W3 (⟨rfl, hJ3, hk3⟩ | ⟨rfl, hx3, hk3⟩)
  · gi_wp2
    go_ret
    exact .inl ⟨rfl, hJ3, hk3⟩
  · gi_wp2
    go_ret
    exact .inr ⟨rfl, ⟨_, List.prefix_refl _, hx3⟩, hk3⟩

theorem goF_any (l By Bg NN B : Nat) (own : Nat → Prop) (J Jx : List (Nat × Int) → World → Prop) (hJ : FromB B J) (hBy : B ≤ By) (hBg : B ≤ Bg) (hown : ∀ k, own k → k < B)
    (hY : ∀ m pre x W, J pre W → pxF x → pre.length < NN → YieldAt Fence.wide m Try.prog l (encF x) W fun e W' => (e = .returned (.bool true) ∧ J (pre ++ [x]) W' ∧ Keeps own W W') ∨ (e = .returned (.bool false) ∧ Jx (pre ++ [x]) W' ∧ Keeps own W W')) :
    ∀ (cs : List RC) (a : Option Addr) (N cap s : Nat) (x : Int) (pre : List (Nat × Int)) (W : World), cs.length = N → N ≤ 10 → N ≤ cap → cap ≤ 9223372036854775807 → (∀ c ∈ cs, RCok c ∧ chOk 5 (toC c)) → s ≤ 31 → -(nineP (10 - N)) ≤ x ∧ x ≤ nineP (10 - N) → FB By Bg l W → ChipsR W a cs → (0 < N → ∀ b o, a = some ⟨b, o, none⟩ → ¬ own b) → J pre W → pre.length + (famL (cs.map toC) s x).length ≤ NN →
    Calls Try.prog 121 #[.slice a N cap, .int .i64 s, .int .i64 x, .pointer (some ⟨By, 0, none⟩), .pointer (some ⟨Bg, 0, none⟩)] W (FE own J Jx (pre ++ famL (cs.map toC) s x) W)
  | [], a, N, cap, s, x, pre, W, hN, _, _, _, _, hs, hx, hb, _, _, hj, hl => by
    obtain rfl : N = 0 := hN.symm
    exact goF_one l By Bg own J Jx a cap s x pre W hb (hY 7 pre (s, x) W hj ⟨hs, hx⟩ (by simp [famL] at hl; omega))
  | c :: cs, a, N, cap, s, x, pre, W, hN, h10, hcap, hc63, hok, hs, hx, hb, hm, hnb, hj, hl => by
    obtain ⟨b, o, rfl, ⟨k1, k2, k3⟩, ht⟩ := hm.split
    obtain ⟨hrc, h5⟩ := hok c (by simp)
    obtain ⟨M, rfl⟩ : ∃ M, N = M + 1 := ⟨cs.length, by simpa using hN.symm⟩
    have hM : cs.length = M := by simpa using hN
    have hbn := hnb (by omega) b o rfl
    have hBl : B ≤ W.heap.size := by have := World.block_lt_of_cell? _ _ hb.yb; simp only at this; omega
    have e9 : nineP (10 - M) = 9 * nineP (10 - (M + 1)) := by rw [show 10 - M = (10 - (M + 1)) + 1 by omega]; rfl
    have hp9 := nineP_le (k := 10 - M) (by omega)
    have hq9 := nineP_pos (10 - (M + 1))
    have hxw := nine_w hrc.2.2 hx
    have hw1 : IntKind.i64.wrap (x * c.w) = x * c.w := IntWalk.i64_in _ ⟨by omega, by omega⟩
    have IH := fun (X : World) (q c' s' : Nat) (x' : Int) (pre' : List (Nat × Int)) (hk : Keeps own W X) (hcr : ChipsR W (some ⟨b, q, none⟩) cs) (h1 : M ≤ c') (h2 : c' ≤ cap) (hs' : s' ≤ 31) (hx' : -(nineP (10 - M)) ≤ x' ∧ x' ≤ nineP (10 - M)) (hj' : J pre' X) (hl' : pre'.length + (famL (cs.map toC) s' x').length ≤ NN) =>
      goF_any l By Bg NN B own J Jx hJ hBy hBg hown hY cs (some ⟨b, q, none⟩) M c' s' x' pre' X hM (by omega) h1 (by omega) (fun c hc => hok c (by simp [hc])) hs' hx' (hb.keeps hk (fun h => by have := hown _ h; omega) (fun h => by have := hown _ h; omega)) (hcr.keeps hk hbn) (fun _ b' o' e => by injection e with e; injection e with e1; subst e1; exact hbn) hj' hl'
    have hJs := fun (X : World) (h : W.Since W.heap.size X) => hJ pre W X none hj ⟨h.os, h.tape, h.output, h.size, fun k hk _ => h.block k hk⟩ (fun r e => by cases e)
    have htW := fun (q : Nat) (hq : q = o + 3 ∨ cap = 1) => ht W q cap (World.Since.refl _ _) (by omega) hq
    have EF := fun (X : World) => ends_any c X hrc
    have hxs : -(nineP (10 - M)) ≤ x ∧ x ≤ nineP (10 - M) := by omega
    have hxv : -(nineP (10 - M)) ≤ x * c.w ∧ x * c.w ≤ nineP (10 - M) := by omega
    obtain ⟨g1, g2⟩ := toC_ok5 h5
    obtain ⟨K, l', V⟩ := c
    obtain ⟨hkk, ⟨hl0, hl10⟩, hv9⟩ := hrc
    simp only at k1 k2 k3 hw1 hxv EF hl0 hv9
    obtain ⟨L, rfl⟩ : ∃ L : Nat, l' = L := ⟨l'.toNat, by omega⟩
    have hCw : (toC ⟨K, (L : Int), V⟩).2.2 = V := toC_w _
    rw [List.map_cons] at hl ⊢
    obtain ⟨CC, hCC⟩ : ∃ CC, toC ⟨K, (L : Int), V⟩ = CC := ⟨_, rfl⟩
    rw [hCC] at hl g1 g2 h5 hCw ⊢
    simp only [hCC] at EF
    by_cases e2 : CC.1 = 2
    · have c1 : chR CC = CC.2.1 := if_pos e2
      have c2 : chK CC = CC.2.1 := if_pos e2
      rw [c1, c2] at EF
      cases hbit : s.testBit CC.2.1 with
      | true =>
        have hf : famL (CC :: cs.map toC) s x = famL (cs.map toC) s (x * V) := by
          show (if CC.1 = 2 then _ else _) = _
          rw [if_pos e2, if_pos hbit, hCw]
        rw [hf] at hl ⊢
        exact goF_h By Bg l own J Jx _ K V x M cap b o s L CC.2.1 W g1 hs hbit hw1 EF hb (fun X q c' h hq h1 h2 => IH X q c' s (x * V) pre (keeps_since h) (htW q hq) h1 h2 hs hxv (hJs X h) hl) h10 hcap hc63 k1 k2 k3
      | false =>
        have hf : famL (CC :: cs.map toC) s x = famL (cs.map toC) s x := by
          show (if CC.1 = 2 then _ else _) = _
          rw [if_pos e2, if_neg (by rw [hbit]; simp)]
        rw [hf] at hl ⊢
        exact goF_g By Bg l own J Jx _ K V x M cap b o s L CC.2.1 CC.2.1 W g1 hs hbit EF hb (fun X q c' h hq h1 h2 => IH X q c' s x pre (keeps_since h) (htW q hq) h1 h2 hs hxs (hJs X h) hl) h10 hcap hc63 k1 k2 k3
    · have c1 : chR CC = cFrom CC := if_neg e2
      have c2 : chK CC = cTo CC := if_neg e2
      rw [c1, c2] at EF
      obtain ⟨hF, hT⟩ := g2 e2
      have hne := (ch_ft h5 e2).2.2
      cases hbF : s.testBit (cFrom CC) with
      | false =>
        have hf : famL (CC :: cs.map toC) s x = famL (cs.map toC) s x := by
          show (if CC.1 = 2 then _ else _) = _
          rw [if_neg e2, if_neg (by rw [hbF]; simp)]
        rw [hf] at hl ⊢
        exact goF_g By Bg l own J Jx _ K V x M cap b o s L (cFrom CC) (cTo CC) W hF hs hbF EF hb (fun X q c' h hq h1 h2 => IH X q c' s x pre (keeps_since h) (htW q hq) h1 h2 hs hxs (hJs X h) hl) h10 hcap hc63 k1 k2 k3
      | true =>
        cases hbT : s.testBit (cTo CC) with
        | true =>
          have hf : famL (CC :: cs.map toC) s x = famL (cs.map toC) s x := by
            show (if CC.1 = 2 then _ else _) = _
            rw [if_neg e2, if_neg (by rw [hbT]; simp)]
          rw [hf] at hl ⊢
          exact goF_m By Bg l own J Jx _ K V x M cap b o s L (cFrom CC) (cTo CC) W hF hT hs hne hbF hbT EF hb (fun X q c' h hq h1 h2 => IH X q c' s x pre (keeps_since h) (htW q hq) h1 h2 hs hxs (hJs X h) hl) h10 hcap hc63 k1 k2 k3
        | false =>
          have hf : famL (CC :: cs.map toC) s x = famL (cs.map toC) (s ^^^ 2 ^ cFrom CC ^^^ 2 ^ cTo CC) (x * V) ++ famL (cs.map toC) s x := by
            show (if CC.1 = 2 then _ else _) = _
            rw [if_neg e2, if_pos ⟨hbF, hbT⟩, hCw]
          rw [hf] at hl ⊢
          obtain ⟨u1, u2⟩ := xorO_fin ⟨s, by omega⟩ ⟨cFrom CC, by omega⟩ ⟨cTo CC, by omega⟩ (fun e => hne (by injection e))
          simp only at u1 u2
          rw [List.length_append] at hl
          rw [← List.append_assoc]
          exact goF_o By Bg l own J Jx (pre ++ famL (cs.map toC) (s ^^^ 2 ^ cFrom CC ^^^ 2 ^ cTo CC) (x * V)) _ (List.prefix_append _ _) K V x M cap b o s L (cFrom CC) (cTo CC) W hF hT hs hne hbF hbT hw1 _ u1 (fun h => by have := hown _ h; omega) (fun k h => by have := hown _ h; omega) EF hb
            (fun X q c' h hq h1 h2 => IH X q c' _ (x * V) pre (keeps_since h) (htW q hq) h1 h2 u2 hxv (hJs X h) (by omega))
            (fun X q c' hm hk hq h1 h2 => IH X q c' s x _ hk (htW q hq) h1 h2 hs hxs hm (by rw [List.length_append]; omega)) h10 hcap hc63 k1 k2 k3

end Go.Proofs.Ytcnbffflgodheaa
end

section
namespace Go.Proofs.Ytcnbffflgodheaa
open Go.RowKit Go.Deep Go.Shelf
attribute [local go_sem] Oper.semAt_some

theorem room_any (k : Nat) : Fence.wide.room k := fun d h => by cases h
theorem yieldAt_any {m m' : Nat} {P : Program} {l : Nat} {args : Array Value} {W : World} {R : Ending → World → Prop} (h : YieldAt Fence.wide m P l args W R) : YieldAt Fence.wide m' P l args W R := by
  obtain ⟨fn, tmps, assign, body, hy, hR⟩ := h
  exact ⟨fn, tmps, assign, body, hy, hR.1, fun c cs _ => hR.2 c cs (room_any _)⟩

theorem step_append_fitsG {P : Program} (w : World) {ops : Array Oper} {o : Oper} {a : Act} {K : Act → World → Prop} {Q : Exit → Act → World → Prop} {E : Prop} (hw : Region.wanted o (yielded ops a.tmps) = true) (s x : Operand) (t : TypeId)
    (hop : o.op = Op.call { callee := Callee.builtin Builtin.append, args := #[s, x], argTypes := #[t, t] })
    (base : Nat) (e : TypeId) (i : TypeInfo) (size : Nat) (h1 : P.underlying t = some (.slice e)) (h2 : P.info? e = some i) (h4 : i.size = size)
    (g k cap : Nat) (xs : List Value) (hs : a.eval s = .slice (some ⟨g, 0, none⟩) k cap) (hown : w.ownsRow base e size (.slice (some ⟨g, 0, none⟩) k cap) k xs) (ad : Addr) (m c : Nat) (news : List Value) (hx : a.eval x = .slice (some ad) m c) (hn : news.length = m * size)
    (hc : ∀ j u, news[j]? = some u → w.cell? (ad.add j) = some u) (h1c : ∀ u ∈ news, u.oneCell' = true) (b1 : k + m ≤ cap)
    (hK : ∀ w', w'.ownsRow base e size (.slice (some ⟨g, 0, none⟩) (k + m) cap) (k + m) (xs ++ news) → w.grownBy w' (some g) → K (a.put o.dst (.slice (some ⟨g, 0, none⟩) (k + m) cap)) w') :
    if Region.wanted o (yielded ops a.tmps) = true then Oper.wp P o a w K Q else E := by
  rw [if_pos hw]
  obtain ⟨w', hrun, r1, r2⟩ := run_append_fits (P := P) w base t o.type e i size h1 h2 h4 g k cap xs hown ad m c news hn hc h1c b1
  unfold Oper.wp
  simp [execOp, hop, resolve, invoke, builtin, hs, hx, hrun, Result.andThen]
  exact hK w' r1 r2

theorem grown_drewC (w : World) (n : Nat) : w.grownBy (w.drewN n) none := ⟨rfl, rfl, rfl, Nat.le_refl _, fun _ _ _ => rfl⟩
theorem undrew {a b : World} {row : Option Nat} (h : a.drew.grownBy b row) : a.grownBy b row := ⟨h.os, h.tape, h.output, h.size, h.block⟩

theorem map_snd {α : Type} (g : Nat) (L : List α) : (([] : List (Nat × α)) ++ L.map (Prod.mk g)).map (fun x => x.2) = L := by
  rw [List.nil_append]
  induction L with
  | nil => rfl
  | cons x L ih => rw [List.map_cons, List.map_cons, ih]

theorem since_rowC {w X Y : World} {row : Option Nat} (h : w.Since w.heap.size X) (hg : X.grownBy Y row) (hr : ∀ r, row = some r → w.heap.size ≤ r) : w.Since w.heap.size Y :=
  ⟨hg.os.trans h.os, hg.tape.trans h.tape, hg.output.trans h.output, Nat.le_trans h.size hg.size, fun k hk => (hg.block k (by have := h.size; omega) (fun e => by have := hr k e.symm; omega)).trans (h.block k hk)⟩

end Go.Proofs.Ytcnbffflgodheaa
end

section
namespace Go.Proofs.Ytcnbffflgodheaa
open Go.RowKit Go.Deep Go.Shelf
attribute [local go_sem] Oper.semAt_some

theorem families_any (a : Option Addr) (N cap : Nat) (s : Int) (w : World) :
    Calls Try.prog 106 #[.slice a N cap, .int .i64 s] w fun e w' => e = .returned (.func (.func 120) #[] #[.pointer (some ⟨w.heap.size, 0, none⟩), .pointer (some ⟨w.heap.size + 1, 0, none⟩)]) ∧ w' = (w.alloc (.cells #[.slice a N cap] 38)).alloc (.cells #[.int .i64 s] 3) := by
  go_enter Try.func106, Try.ntmps106
  go_wp2
  go_ret
  exact ⟨rfl, by simp⟩

set_option maxRecDepth 100000 in
set_option maxHeartbeats 1000000 in
theorem families_stops (k Bc Bf N cap s : Nat) (a : Option Addr) (cs : List RC) (w : World) (hN : cs.length = N) (h10 : N ≤ 10) (hcap : N ≤ cap) (hc63 : cap ≤ 9223372036854775807) (hok : ∀ c ∈ cs, RCok c ∧ chOk 5 (toC c)) (hs : s ≤ 31) (hm : ChipsR w a cs) (hc : w.cell? ⟨Bc, 0, none⟩ = some (.slice a N cap)) (hf : w.cell? ⟨Bf, 0, none⟩ = some (.int .i64 s)) :
    SeqE Fence.wide k Try.prog 120 #[.pointer (some ⟨Bc, 0, none⟩), .pointer (some ⟨Bf, 0, none⟩)] encF (fun x _ => pxF x) (fun q => q = Bc ∨ q = Bf ∨ (0 < N ∧ ∃ b o, a = some ⟨b, o, none⟩ ∧ q = b)) (fun ys => ys = famL (cs.map toC) s 1) (fun ys => ys <+: famL (cs.map toC) s 1) 1025 w := by
  intro l J Jx own W hW hown hJ hJx hY hj
  refine callsIn_wide.2 ?_
  have hlc := World.block_lt_of_cell? _ _ hc
  have hlf := World.block_lt_of_cell? _ _ hf
  have c1 := (hW.cell (p := ⟨Bc, 0, none⟩) hlc).trans hc
  have c2 := (hW.cell (p := ⟨Bf, 0, none⟩) hlf).trans hf
  have hl : (famL (cs.map toC) s 1).length ≤ 1024 := by
    have h1 := famL_len (cs.map toC) s 1
    have h2 := twoP_le (k := (cs.map toC).length) (by rw [List.length_map]; omega)
    omega
  have hmW : ChipsR W a cs := fun h0 => by
    obtain ⟨b, o, e, hh⟩ := hm h0
    have hbl := World.block_lt_of_cell? _ _ (hh 0 h0).1
    exact ⟨b, o, e, fun i hi => ⟨(hW.cell (p := ⟨b, o + i * 3, none⟩) hbl).trans (hh i hi).1, (hW.cell (p := ⟨b, o + i * 3 + 1, none⟩) hbl).trans (hh i hi).2.1, (hW.cell (p := ⟨b, o + i * 3 + 2, none⟩) hbl).trans (hh i hi).2.2⟩⟩
  have hn1 := nineP_pos (10 - N)
  have HG := Lib.hid (fun (V : World) (hs2 : W.Since W.heap.size V) (hb : FB W.heap.size (W.heap.size + 1) l V) (hjv : J [] V) =>
    goF_any l W.heap.size (W.heap.size + 1) 1025 W.heap.size own J Jx hJ (Nat.le_refl _) (by omega) (fun k hk => (hown k hk).1) (fun m pre x V' hp hpx hl => yieldAt_any (hY pre x V' hp hpx hl)) cs a N cap s 1 [] V hN h10 hcap hc63 hok hs ⟨by omega, by omega⟩ hb (hmW.since hs2) (fun h0 b o e h => (hown _ h).2 (.inr (.inr ⟨h0, b, o, e, rfl⟩))) hjv (by simp; omega))
  have HJ := Lib.hid hJ
  have HJJ := Lib.hid hj
  have d1 := fun o1 o2 => cell_alloc_l o2 (cell_alloc_l o1 c1)
  have d2 := fun o1 o2 => cell_alloc_l o2 (cell_alloc_l o1 c2)
  clear hJ hJx hY hj hown hmW hm hok hl
  go_enter Try.func120, Try.ntmps120
  go_wp2_with fail
  refine (HG.out _ (((World.Since.refl _ _).alloc (Nat.le_refl _) _).alloc (by simp) _) ⟨cell_alloc_l _ (cell_new_l W _ _).1, ?hbg⟩ (HJ.out.alloc _ (HJ.out.alloc _ HJJ.out))).mono ?_
  case hbg => rw [← World.size_alloc W (.cells #[.func (.yield l) #[] #[]] 62)]; exact (cell_new_l _ _ _).1
  rintro e w2 (⟨rfl, hj2, hk2⟩ | ⟨rfl, ⟨q, hqp, hq⟩, hk2⟩)
  · go_wp2_with fail
    go_end0
    exact ⟨⟨_, rfl⟩, .inl ⟨_, rfl, hj2⟩⟩
  · go_wp2_with fail
    go_end0
    exact ⟨⟨_, rfl⟩, .inr ⟨_, hqp, hq⟩⟩

end Go.Proofs.Ytcnbffflgodheaa
end

section
namespace Go.Proofs.Ytcnbffflgodheaa
open Go.RowKit Go.Deep

set_option maxHeartbeats 400000 in
theorem netIn1_any (K : ByteArray) (L V : Int) (n Bn : Nat) (hn2 : 2 ≤ n) (hn5 : n ≤ 5) (w : World) (hb : w.cell? ⟨Bn, 0, none⟩ = some (.int .i64 n)) :
    Calls Try.prog 104 #[.agg #[.string K, .int .i64 L, .int .i64 V], .pointer (some ⟨Bn, 0, none⟩)] w fun e w' => e = .returned (.bool (!chipB n ⟨K, L, V⟩)) ∧ w.Since w.heap.size w' := by
  have E := Lib.hid (fun (W : World) => isIn_any K L V n hn2 hn5 W)
  obtain ⟨d1, d2, d3⟩ := chip_box w K L V 71
  have HS := Lib.hid ((World.Since.refl w.heap.size w).alloc (Nat.le_refl _) (.cells #[.string K, .int .i64 L, .int .i64 V] 71))
  have hb' := cell_alloc_l (.cells #[.string K, .int .i64 L, .int .i64 V] 71) hb
  clear hb
  go_enter Try.func104, Try.ntmps104
  go_wp2_with (go_at_call 105; refine (E.out _).mono ?_; rintro e w1 ⟨rfl, hs1⟩; have HS1 := Lib.hid (HS.out.trans (since_mono hs1 HS.out.size)); clear hs1)
  go_ret
  exact ⟨rfl, HS1.out⟩

theorem all_no {n : Int} {cs : List RC} {i : Nat} (hi : i < cs.length) (h : chipB n (cs.getD i rc0) = false) : cs.all (chipB n) = false := by
  cases e : cs.all (chipB n) with
  | false => rfl
  | true =>
    have h1 := List.all_eq_true.1 e (cs.getD i rc0) (by
      have : cs.getD i rc0 = cs[i] := by simp [List.getD, hi]
      rw [this]; exact List.getElem_mem _)
    rw [h] at h1; cases h1
theorem all_yes {n : Int} {cs : List RC} (h : ∀ i, i < cs.length → chipB n (cs.getD i rc0) = true) : cs.all (chipB n) = true := List.all_eq_true.2 fun c hc => by
  obtain ⟨i, hi, e⟩ := List.mem_iff_getElem.1 hc
  have := h i hi
  rw [show cs.getD i rc0 = cs[i] by simp [List.getD, hi], e] at this
  exact this

def IdxPost (b : Bool) (w : World) (e : Ending) (w' : World) : Prop := ∃ z : Int, e = .returned (.int .i64 z) ∧ decide (0 ≤ z) = !b ∧ w.Since w.heap.size w'

set_option maxRecDepth 100000 in
set_option maxHeartbeats 400000 in
theorem indexF_any (a : Option Addr) (cap N n Bn : Nat) (cs : List RC) (w : World) (hN : cs.length = N) (h10 : N ≤ 10) (hn2 : 2 ≤ n) (hn5 : n ≤ 5) (hm : ChipsR w a cs) (hb : w.cell? ⟨Bn, 0, none⟩ = some (.int .i64 n)) :
    Calls Try.prog 118 #[.slice a N cap, .func (.func 104) #[] #[.pointer (some ⟨Bn, 0, none⟩)]] w (IdxPost (cs.all (chipB n)) w) := by
  have E := Lib.hid (fun (W : World) (hs : w.Since w.heap.size W) (K : ByteArray) (L V : Int) => netIn1_any K L V n Bn hn2 hn5 W ((hs.cell (World.block_lt_of_cell? _ _ hb)).trans hb))
  have HN := Lib.hid hN
  have HM := Lib.hid hm
  have HF := Lib.hid (fun (i : Nat) (hi : i < N) h => all_no (n := n) (cs := cs) (i := i) (by omega) h)
  have HT := Lib.hid (fun h => all_yes (n := (n : Int)) (cs := cs) h)
  clear hN hm hb
  go_enter Try.func118, Try.ntmps118
  go_wp2_with fail
  go_loopg [5, 8] N (fun g _ i wr => ∃ r : Nat, r ≤ N ∧ g = N - r ∧ i = .int .i64 r ∧ w.Since w.heap.size wr ∧ ∀ j, j < r → chipB n (cs.getD j rc0) = true)
  case atStart => exact ⟨0, Nat.zero_le _, rfl, rfl, World.Since.refl _ _, fun j hj => by omega⟩
  case round =>
    obtain ⟨r, hr, rfl, rfl, hS, hall⟩ := hrel
    by_cases hlt : r < N
    · obtain ⟨b, o, rfl, k1, k2, k3⟩ := HM.out.at (show r < cs.length by rw [HN.out]; exact hlt)
      have c1 := (hS.cell (World.block_lt_of_cell? _ _ k1)).trans k1
      have c2 := (hS.cell (World.block_lt_of_cell? _ _ k2)).trans k2
      have c3 := (hS.cell (World.block_lt_of_cell? _ _ k3)).trans k3
      have hf := HF.out r hlt
      have ht := fun (h : chipB n (cs.getD r rc0) = true) => show ∀ j, j < r + 1 → chipB n (cs.getD j rc0) = true from fun j hj => by
        by_cases e : j = r
        · subst e; exact h
        · exact hall j (by omega)
      obtain ⟨c, hc⟩ : ∃ c, cs.getD r rc0 = c := ⟨_, rfl⟩
      rw [hc] at c1 c2 c3 hf ht
      obtain ⟨K, L, V⟩ := c
      simp only at c1 c2 c3
      have E1 := E.out wr hS K L V
      have HS := Lib.hid hS
      have HTT := Lib.hid ht
      cases hcb : chipB n ⟨K, L, V⟩ with
      | false =>
        have HFF := Lib.hid (hf hcb)
        rw [hcb] at E1
        replace E1 := Lib.hid E1
        clear k1 k2 k3 hc hcb hf hall hS ht
        go_wp2_with (go_at_call 104; refine (E1.out).mono ?_; rintro e w1 ⟨rfl, hs1⟩; have HS1 := Lib.hid (HS.out.trans (since_mono hs1 HS.out.size)); clear hs1)
        go_ret
        exact ⟨_, rfl, by rw [HFF.out]; simp, HS1.out⟩
      | true =>
        rw [hcb] at E1
        replace E1 := Lib.hid E1
        have HTA := Lib.hid (ht hcb)
        clear k1 k2 k3 hc hcb hf hall hS ht HTT
        go_wp2_with (go_at_call 104; refine (E1.out).mono ?_; rintro e w1 ⟨rfl, hs1⟩; have HS1 := Lib.hid (HS.out.trans (since_mono hs1 HS.out.size)); clear hs1)
        go_roundg (N - (r + 1))
        case measure => omega
        case rel => exact ⟨r + 1, by omega, rfl, by go_num, HS1.out, HTA.out⟩
    · obtain rfl : r = N := by omega
      have HTA := Lib.hid (HT.out (fun i hi => hall i (by rw [HN.out] at hi; exact hi)))
      have HS := Lib.hid hS
      clear hall hS
      go_wp2_with fail
      go_ret
      exact ⟨_, rfl, by rw [HTA.out]; rfl, HS.out⟩

set_option maxHeartbeats 400000 in
theorem containsF_any (a : Option Addr) (cap N n Bn : Nat) (cs : List RC) (w : World) (hN : cs.length = N) (h10 : N ≤ 10) (hn2 : 2 ≤ n) (hn5 : n ≤ 5) (hm : ChipsR w a cs) (hb : w.cell? ⟨Bn, 0, none⟩ = some (.int .i64 n)) :
    Calls Try.prog 103 #[.slice a N cap, .func (.func 104) #[] #[.pointer (some ⟨Bn, 0, none⟩)]] w fun e w' => e = .returned (.bool (!cs.all (chipB n))) ∧ w.Since w.heap.size w' := by
  have E := Lib.hid (indexF_any a cap N n Bn cs w hN h10 hn2 hn5 hm hb)
  obtain ⟨b, hbb⟩ : ∃ b, cs.all (chipB n) = b := ⟨_, rfl⟩
  rw [hbb] at E ⊢
  clear hbb hN hm hb
  go_enter Try.func103, Try.ntmps103
  go_wp2_with (go_at_call 118; refine (E.out).mono ?_; rintro e w1 ⟨z, rfl, hz, hs1⟩; have HZ := Lib.hid hz; have HS1 := Lib.hid hs1; clear hs1 hz)
  go_ret
  exact ⟨ret_bool HZ.out, HS1.out⟩

set_option maxHeartbeats 400000 in
theorem implNetIn_any (a : Option Addr) (cap N : Nat) (n : Int) (cs : List RC) (w : World) (hN : cs.length = N) (h63 : N ≤ 9223372036854775807) (hm : ChipsR w a cs) :
    Calls Try.prog 76 #[.int .i64 n, .slice a N cap] w fun e w' => e = .returned (.bool (netB n cs)) ∧ w.Since w.heap.size w' := by
  have hv : netB n cs = (inB n 2 5 && (decide (N ≤ 10) && cs.all (chipB n))) := by unfold netB; rw [hN]
  have HS := Lib.hid ((World.Since.refl w.heap.size w).alloc (Nat.le_refl _) (.cells #[.int .i64 n] 3))
  have hbx := (cell_new_l w (.int .i64 n) 3).1
  obtain ⟨b, hbb⟩ : ∃ b, inB n 2 5 = b := ⟨_, rfl⟩
  rw [hbb] at hv
  have E := fun (W : World) => inRange_any n 2 5 W
  simp only [hbb] at E
  replace E := Lib.hid E
  cases b with
  | false =>
    rw [hv, Bool.false_and]
    clear hv hbb hN hm
    go_enter Try.func76, Try.ntmps76
    go_wp2_with (go_at_call 60; refine (E.out _).mono ?_; rintro e w' ⟨rfl, rfl⟩)
    go_ret
    exact ⟨rfl, HS.out⟩
  | true =>
    unfold inB at hbb
    have hbb := of_decide_eq_true hbb
    obtain ⟨m, rfl⟩ : ∃ m : Nat, n = m := ⟨n.toNat, by omega⟩
    rw [Bool.true_and] at hv
    by_cases h10 : N ≤ 10
    · rw [decide_eq_true h10, Bool.true_and] at hv
      have hl' : decide ((10 : Int) < (N : Int)) = false := by simp; omega
      have E2 := Lib.hid (containsF_any a cap N m w.heap.size cs (w.alloc (.cells #[.int .i64 m] 3)) hN h10 (by omega) (by omega) (hm.since ((World.Since.refl w.heap.size w).alloc (Nat.le_refl _) _)) hbx)
      obtain ⟨q, hq⟩ : ∃ q, cs.all (chipB m) = q := ⟨_, rfl⟩
      rw [hq] at hv E2
      rw [hv]
      clear hv hbb hN hm hq
      go_enter Try.func76, Try.ntmps76
      go_wp2_with (first
        | (go_at_call 60; refine (E.out _).mono ?_; rintro e w' ⟨rfl, rfl⟩)
        | (go_at_call 103; refine (E2.out).mono ?_; rintro e w1 ⟨rfl, hs1⟩; have HS1 := Lib.hid (HS.out.trans (since_mono hs1 HS.out.size)); clear hs1))
      go_ret
      exact ⟨by simp, HS1.out⟩
    · rw [decide_eq_false h10, Bool.false_and] at hv
      have hl' : decide ((10 : Int) < (N : Int)) = true := by simp; omega
      rw [hv]
      clear hv hbb hN hm
      go_enter Try.func76, Try.ntmps76
      go_wp2_with (go_at_call 60; refine (E.out _).mono ?_; rintro e w' ⟨rfl, rfl⟩)
      go_ret
      exact ⟨rfl, HS.out⟩

end Go.Proofs.Ytcnbffflgodheaa
end
