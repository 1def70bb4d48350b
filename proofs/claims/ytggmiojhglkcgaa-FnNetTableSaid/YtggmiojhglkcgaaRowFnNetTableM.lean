import Derived.Test.YtggmiojhglkcgaaRowFnNetTableL
import Derived.Test.YtggmiojhglkcgaaImpl1
import Derived.Test.YtggmiojhglkcgaaL2Size
import Derived.Laws.AppendOwn
import Derived.StillTailTactics
import Derived.Test.YtggmiojhglkcgaaOrdF
import Derived.Test.YtggmiojhglkcgaaPartImpl
import Derived.Test.YtggmiojhglkcgaaWR
import Derived.Test.YtggmiojhglkcgaaOrdDet
import Derived.Test.YtggmiojhglkcgaaL2Square
import Derived.Test.YtggmiojhglkcgaaIter
import Derived.RangeFuncFrom
import Derived.RangeFuncBox
import Derived.RangeFuncNested
import Derived.Test.YtggmiojhglkcgaaUnitImpl
import Derived.Test.YtggmiojhglkcgaaMakeEntry
import Derived.Deep.QuietTactic
import Derived.BigQuiet
import Derived.LaidEqlPtr
import Derived.Lib.SliceRun
import Derived.Test.YtggmiojhglkcgaaRound
import Derived.OrdersHeld
import Derived.Test.YtggmiojhglkcgaaOrdersI
import Derived.Test.YtggmiojhglkcgaaSquareV
import Derived.Maps.AppendAt
import Derived.Test.YtggmiojhglkcgaaRows
import Derived.Test.YtggmiojhglkcgaaData
import Derived.ProofKit
import Derived.Deep.Matrix

section
namespace Go.Proofs.Ytggmiojhglkcgaa
open Go.RowKit Go.Deep

theorem bitI_fin : ∀ s : Fin 32, ∀ i : Fin 6, bits BinOp.and IntKind.i64 ((s.val : Int) / 2 ^ i.val) 1 = if s.val.testBit i.val then 1 else 0 := by decide +kernel
theorem bitI (s i : Nat) (hs : s ≤ 31) (hi : i ≤ 5) : bits BinOp.and IntKind.i64 ((s : Int) / 2 ^ i) 1 = if s.testBit i then 1 else 0 := bitI_fin ⟨s, by omega⟩ ⟨i, by omega⟩
theorem xor2_fin : ∀ s : Fin 32, ∀ i k : Fin 5, bits BinOp.xor IntKind.i64 (bits BinOp.xor IntKind.i64 (s.val : Int) (2 ^ i.val)) (2 ^ k.val) = ((s.val ^^^ 2 ^ i.val ^^^ 2 ^ k.val : Nat) : Int) ∧ s.val ^^^ 2 ^ i.val ^^^ 2 ^ k.val ≤ 31 := by decide +kernel
theorem xor2 (s i k : Nat) (hs : s ≤ 31) (hi : i ≤ 4) (hk : k ≤ 4) : bits BinOp.xor IntKind.i64 (bits BinOp.xor IntKind.i64 (s : Int) (2 ^ i)) (2 ^ k) = ((s ^^^ 2 ^ i ^^^ 2 ^ k : Nat) : Int) ∧ s ^^^ 2 ^ i ^^^ 2 ^ k ≤ 31 := xor2_fin ⟨s, by omega⟩ ⟨i, by omega⟩ ⟨k, by omega⟩
theorem p2w_fin : ∀ i : Fin 6, IntKind.i64.wrap (2 ^ i.val) = 2 ^ i.val ∧ wrap64 (2 ^ i.val) = 2 ^ i.val := by decide +kernel

set_option maxRecDepth 100000 in
set_option maxHeartbeats 400000 in
theorem fams_h (K : ByteArray) (V : Int) (M cap t b o s L  : Nat) (w : World) (P : Int) (hH : K.toList = [104]) (hL : L ≤ 4) (hw1 : IntKind.i64.wrap (V * P) = V * P) (hbit : bits BinOp.and IntKind.i64 ((s : Int) / 2 ^ L) 1 = 1) (IHP : ∀ (W : World) (q c' : Nat), w.Since w.heap.size W → (q = o + 3 ∨ cap = 1) → M ≤ c' → c' ≤ cap → Calls Try.prog 86 #[.slice (some ⟨b, q, none⟩) M c', .int .i64 s, .int .i64 t] W fun e w' => e = .returned (.int .i64 P) ∧ W.Since W.heap.size w') (hM : M + 1 ≤ 10) (hcap : M + 1 ≤ cap) (hc63 : cap ≤ 9223372036854775807)
    (k1 : w.cell? ⟨b, o, none⟩ = some (.string K)) (k2 : w.cell? ⟨b, o + 1, none⟩ = some (.int .i64 L)) (k3 : w.cell? ⟨b, o + 2, none⟩ = some (.int .i64 V)) :
    Calls Try.prog 86 #[.slice (some ⟨b, o, none⟩) (M + 1) cap, .int .i64 s, .int .i64 t] w fun e w' => e = .returned (.int .i64 (V * P)) ∧ w.Since w.heap.size w' := by
  obtain ⟨d1, d2, d3⟩ := chip_box w K L V 35
  have HS := Lib.hid ((World.Since.refl w.heap.size w).alloc (Nat.le_refl _) (.cells #[.string K, .int .i64 L, .int .i64 V] 35))
  replace IHP := Lib.hid IHP
  rcases Nat.lt_or_eq_of_le (show 1 ≤ cap by omega) with hc1 | rfl
  · have hb1 : (0 : Int) ≤ (M : Int) := by omega
    have hb2 : (1 : Int) ≤ (M : Int) + 1 := by omega
    have hb3 : (M : Int) + 1 ≤ (cap : Int) := by omega
    have hc2 : ¬ cap = 1 := by omega
    have hc3 : ¬ 1 = cap := by omega
    go_enter Try.func86, Try.ntmps86
    go_wp2_with fail
    go_region_held3 (fun w' => w'.cell? ⟨w.heap.size, 2, none⟩ = some (.int .i64 V)) (first | exact d3 | exact c4)
      (first | (go_at_call 86; refine (IHP.out _ _ _ HS.out.drew (by first | exact .inr trivial | exact .inr rfl | exact .inl rfl) (by omega) (by omega)).mono ?_; rintro e w1 ⟨rfl, hs1⟩; have c4 := (hs1.cell (a := ⟨w.heap.size, 2, none⟩) (by simp)).trans d3; have HS1 := Lib.hid hs1; clear hs1))
    all_goals
      go_wp2_with fail
      go_ret
      exact ⟨rfl, HS.out.trans (since_mono (since_of_drew HS1.out) HS.out.size)⟩
  · obtain rfl : M = 0 := by omega
    clear hM hcap hc63
    go_enter Try.func86, Try.ntmps86
    go_wp2_with fail
    go_region_held3 (fun w' => w'.cell? ⟨w.heap.size, 2, none⟩ = some (.int .i64 V)) (first | exact d3 | exact c4)
      (first | (go_at_call 86; refine (IHP.out _ _ _ HS.out.drew (by first | exact .inr trivial | exact .inr rfl | exact .inl rfl) (by omega) (by omega)).mono ?_; rintro e w1 ⟨rfl, hs1⟩; have c4 := (hs1.cell (a := ⟨w.heap.size, 2, none⟩) (by simp)).trans d3; have HS1 := Lib.hid hs1; clear hs1))
    all_goals
      go_wp2_with fail
      go_ret
      exact ⟨rfl, HS.out.trans (since_mono (since_of_drew HS1.out) HS.out.size)⟩

set_option maxRecDepth 100000 in
set_option maxHeartbeats 400000 in
theorem fams_g (K : ByteArray) (V : Int) (M cap t b o s L  : Nat) (w : World) (P : Int) (hH : K.toList = [104]) (hL : L ≤ 4) (hbit : bits BinOp.and IntKind.i64 ((s : Int) / 2 ^ L) 1 = 0) (IHP : ∀ (W : World) (q c' : Nat), w.Since w.heap.size W → (q = o + 3 ∨ cap = 1) → M ≤ c' → c' ≤ cap → Calls Try.prog 86 #[.slice (some ⟨b, q, none⟩) M c', .int .i64 s, .int .i64 t] W fun e w' => e = .returned (.int .i64 P) ∧ W.Since W.heap.size w') (hM : M + 1 ≤ 10) (hcap : M + 1 ≤ cap) (hc63 : cap ≤ 9223372036854775807)
    (k1 : w.cell? ⟨b, o, none⟩ = some (.string K)) (k2 : w.cell? ⟨b, o + 1, none⟩ = some (.int .i64 L)) (k3 : w.cell? ⟨b, o + 2, none⟩ = some (.int .i64 V)) :
    Calls Try.prog 86 #[.slice (some ⟨b, o, none⟩) (M + 1) cap, .int .i64 s, .int .i64 t] w fun e w' => e = .returned (.int .i64 (P)) ∧ w.Since w.heap.size w' := by
  obtain ⟨d1, d2, d3⟩ := chip_box w K L V 35
  have HS := Lib.hid ((World.Since.refl w.heap.size w).alloc (Nat.le_refl _) (.cells #[.string K, .int .i64 L, .int .i64 V] 35))
  replace IHP := Lib.hid IHP
  rcases Nat.lt_or_eq_of_le (show 1 ≤ cap by omega) with hc1 | rfl
  · have hb1 : (0 : Int) ≤ (M : Int) := by omega
    have hb2 : (1 : Int) ≤ (M : Int) + 1 := by omega
    have hb3 : (M : Int) + 1 ≤ (cap : Int) := by omega
    have hc2 : ¬ cap = 1 := by omega
    have hc3 : ¬ 1 = cap := by omega
    go_enter Try.func86, Try.ntmps86
    go_wp2_with (go_at_call 86; refine (IHP.out _ _ _ HS.out (by first | exact .inr trivial | exact .inr rfl | exact .inl rfl) (by omega) (by omega)).mono ?_; rintro e w1 ⟨rfl, hs1⟩)
    all_goals
      go_ret
      exact ⟨rfl, HS.out.trans (since_mono hs1 HS.out.size)⟩
  · obtain rfl : M = 0 := by omega
    clear hM hcap hc63
    go_enter Try.func86, Try.ntmps86
    go_wp2_with (go_at_call 86; refine (IHP.out _ _ _ HS.out (by first | exact .inr trivial | exact .inr rfl | exact .inl rfl) (by omega) (by omega)).mono ?_; rintro e w1 ⟨rfl, hs1⟩)
    all_goals
      go_ret
      exact ⟨rfl, HS.out.trans (since_mono hs1 HS.out.size)⟩

set_option maxRecDepth 100000 in
set_option maxHeartbeats 400000 in
theorem fams_n (K : ByteArray) (V : Int) (M cap t b o s L F T : Nat) (w : World) (P : Int) (hH : (K.toList == [104]) = false) (hF : F ≤ 4) (hbit : bits BinOp.and IntKind.i64 ((s : Int) / 2 ^ F) 1 = 0) (EF : ∀ W : World, Calls Try.prog 117 #[.agg #[.string K, .int .i64 L, .int .i64 V]] W fun e w' => e = .returned (.tuple #[.int .i64 F, .int .i64 T]) ∧ W.Since W.heap.size w') (IHP : ∀ (W : World) (q c' : Nat), w.Since w.heap.size W → (q = o + 3 ∨ cap = 1) → M ≤ c' → c' ≤ cap → Calls Try.prog 86 #[.slice (some ⟨b, q, none⟩) M c', .int .i64 s, .int .i64 t] W fun e w' => e = .returned (.int .i64 P) ∧ W.Since W.heap.size w') (hM : M + 1 ≤ 10) (hcap : M + 1 ≤ cap) (hc63 : cap ≤ 9223372036854775807)
    (k1 : w.cell? ⟨b, o, none⟩ = some (.string K)) (k2 : w.cell? ⟨b, o + 1, none⟩ = some (.int .i64 L)) (k3 : w.cell? ⟨b, o + 2, none⟩ = some (.int .i64 V)) :
    Calls Try.prog 86 #[.slice (some ⟨b, o, none⟩) (M + 1) cap, .int .i64 s, .int .i64 t] w fun e w' => e = .returned (.int .i64 (P)) ∧ w.Since w.heap.size w' := by
  obtain ⟨d1, d2, d3⟩ := chip_box w K L V 35
  have HS := Lib.hid ((World.Since.refl w.heap.size w).alloc (Nat.le_refl _) (.cells #[.string K, .int .i64 L, .int .i64 V] 35))
  replace IHP := Lib.hid IHP
  replace EF := Lib.hid EF
  rcases Nat.lt_or_eq_of_le (show 1 ≤ cap by omega) with hc1 | rfl
  · have hb1 : (0 : Int) ≤ (M : Int) := by omega
    have hb2 : (1 : Int) ≤ (M : Int) + 1 := by omega
    have hb3 : (M : Int) + 1 ≤ (cap : Int) := by omega
    have hc2 : ¬ cap = 1 := by omega
    have hc3 : ¬ 1 = cap := by omega
    go_enter Try.func86, Try.ntmps86
    go_wp2_with (first
      | (go_at_call 117; refine (EF.out _).mono ?_; rintro e w1 ⟨rfl, hs1⟩; have HS1 := Lib.hid (HS.out.trans (since_mono hs1 HS.out.size)); clear hs1)
      | (go_at_call 86; refine (IHP.out _ _ _ HS1.out (by first | exact .inr trivial | exact .inr rfl | exact .inl rfl) (by omega) (by omega)).mono ?_; rintro e w2 ⟨rfl, hs2⟩; have HS2 := Lib.hid (HS1.out.trans (since_mono hs2 HS1.out.size)); clear hs2))
    all_goals
      go_ret
      exact ⟨rfl, HS2.out⟩
  · obtain rfl : M = 0 := by omega
    clear hM hcap hc63
    go_enter Try.func86, Try.ntmps86
    go_wp2_with (first
      | (go_at_call 117; refine (EF.out _).mono ?_; rintro e w1 ⟨rfl, hs1⟩; have HS1 := Lib.hid (HS.out.trans (since_mono hs1 HS.out.size)); clear hs1)
      | (go_at_call 86; refine (IHP.out _ _ _ HS1.out (by first | exact .inr trivial | exact .inr rfl | exact .inl rfl) (by omega) (by omega)).mono ?_; rintro e w2 ⟨rfl, hs2⟩; have HS2 := Lib.hid (HS1.out.trans (since_mono hs2 HS1.out.size)); clear hs2))
    all_goals
      go_ret
      exact ⟨rfl, HS2.out⟩

set_option maxRecDepth 100000 in
set_option maxHeartbeats 400000 in
theorem fams_m (K : ByteArray) (V : Int) (M cap t b o s L F T : Nat) (w : World) (P : Int) (hH : (K.toList == [104]) = false) (hF : F ≤ 4) (hT : T ≤ 4) (hbit : bits BinOp.and IntKind.i64 ((s : Int) / 2 ^ F) 1 = 1) (hbit2 : bits BinOp.and IntKind.i64 ((s : Int) / 2 ^ T) 1 = 1) (EF : ∀ W : World, Calls Try.prog 117 #[.agg #[.string K, .int .i64 L, .int .i64 V]] W fun e w' => e = .returned (.tuple #[.int .i64 F, .int .i64 T]) ∧ W.Since W.heap.size w') (IHP : ∀ (W : World) (q c' : Nat), w.Since w.heap.size W → (q = o + 3 ∨ cap = 1) → M ≤ c' → c' ≤ cap → Calls Try.prog 86 #[.slice (some ⟨b, q, none⟩) M c', .int .i64 s, .int .i64 t] W fun e w' => e = .returned (.int .i64 P) ∧ W.Since W.heap.size w') (hM : M + 1 ≤ 10) (hcap : M + 1 ≤ cap) (hc63 : cap ≤ 9223372036854775807)
    (k1 : w.cell? ⟨b, o, none⟩ = some (.string K)) (k2 : w.cell? ⟨b, o + 1, none⟩ = some (.int .i64 L)) (k3 : w.cell? ⟨b, o + 2, none⟩ = some (.int .i64 V)) :
    Calls Try.prog 86 #[.slice (some ⟨b, o, none⟩) (M + 1) cap, .int .i64 s, .int .i64 t] w fun e w' => e = .returned (.int .i64 (P)) ∧ w.Since w.heap.size w' := by
  obtain ⟨d1, d2, d3⟩ := chip_box w K L V 35
  have HS := Lib.hid ((World.Since.refl w.heap.size w).alloc (Nat.le_refl _) (.cells #[.string K, .int .i64 L, .int .i64 V] 35))
  replace IHP := Lib.hid IHP
  replace EF := Lib.hid EF
  rcases Nat.lt_or_eq_of_le (show 1 ≤ cap by omega) with hc1 | rfl
  · have hb1 : (0 : Int) ≤ (M : Int) := by omega
    have hb2 : (1 : Int) ≤ (M : Int) + 1 := by omega
    have hb3 : (M : Int) + 1 ≤ (cap : Int) := by omega
    have hc2 : ¬ cap = 1 := by omega
    have hc3 : ¬ 1 = cap := by omega
    go_enter Try.func86, Try.ntmps86
    go_wp2_with (first
      | (go_at_call 117; refine (EF.out _).mono ?_; rintro e w1 ⟨rfl, hs1⟩; have HS1 := Lib.hid (HS.out.trans (since_mono hs1 HS.out.size)); clear hs1)
      | (go_at_call 86; refine (IHP.out _ _ _ HS1.out (by first | exact .inr trivial | exact .inr rfl | exact .inl rfl) (by omega) (by omega)).mono ?_; rintro e w2 ⟨rfl, hs2⟩; have HS2 := Lib.hid (HS1.out.trans (since_mono hs2 HS1.out.size)); clear hs2))
    all_goals
      go_ret
      exact ⟨rfl, HS2.out⟩
  · obtain rfl : M = 0 := by omega
    clear hM hcap hc63
    go_enter Try.func86, Try.ntmps86
    go_wp2_with (first
      | (go_at_call 117; refine (EF.out _).mono ?_; rintro e w1 ⟨rfl, hs1⟩; have HS1 := Lib.hid (HS.out.trans (since_mono hs1 HS.out.size)); clear hs1)
      | (go_at_call 86; refine (IHP.out _ _ _ HS1.out (by first | exact .inr trivial | exact .inr rfl | exact .inl rfl) (by omega) (by omega)).mono ?_; rintro e w2 ⟨rfl, hs2⟩; have HS2 := Lib.hid (HS1.out.trans (since_mono hs2 HS1.out.size)); clear hs2))
    all_goals
      go_ret
      exact ⟨rfl, HS2.out⟩

set_option maxRecDepth 100000 in
set_option maxHeartbeats 400000 in
theorem fams_o (K : ByteArray) (V : Int) (M cap t b o s L F T u : Nat) (w : World) (P R : Int) (hH : (K.toList == [104]) = false) (hF : F ≤ 4) (hT : T ≤ 4) (hbit : bits BinOp.and IntKind.i64 ((s : Int) / 2 ^ F) 1 = 1) (hbit2 : bits BinOp.and IntKind.i64 ((s : Int) / 2 ^ T) 1 = 0) (hw2 : IntKind.i64.wrap (V * R) = V * R) (hw3 : IntKind.i64.wrap (P + V * R) = P + V * R)
    (hx : bits BinOp.xor IntKind.i64 (bits BinOp.xor IntKind.i64 (s : Int) (2 ^ F)) (2 ^ T) = (u : Int)) (hpF : IntKind.i64.wrap (2 ^ F) = 2 ^ F) (hpT : IntKind.i64.wrap (2 ^ T) = 2 ^ T) (hmF : min F 64 = F) (hmT : min T 64 = T) (EF : ∀ W : World, Calls Try.prog 117 #[.agg #[.string K, .int .i64 L, .int .i64 V]] W fun e w' => e = .returned (.tuple #[.int .i64 F, .int .i64 T]) ∧ W.Since W.heap.size w') (IHP : ∀ (W : World) (q c' : Nat), w.Since w.heap.size W → (q = o + 3 ∨ cap = 1) → M ≤ c' → c' ≤ cap → Calls Try.prog 86 #[.slice (some ⟨b, q, none⟩) M c', .int .i64 s, .int .i64 t] W fun e w' => e = .returned (.int .i64 P) ∧ W.Since W.heap.size w')
    (IHR : ∀ (W : World) (q c' : Nat), w.Since w.heap.size W → (q = o + 3 ∨ cap = 1) → M ≤ c' → c' ≤ cap → Calls Try.prog 86 #[.slice (some ⟨b, q, none⟩) M c', .int .i64 u, .int .i64 t] W fun e w' => e = .returned (.int .i64 R) ∧ W.Since W.heap.size w') (hM : M + 1 ≤ 10) (hcap : M + 1 ≤ cap) (hc63 : cap ≤ 9223372036854775807)
    (k1 : w.cell? ⟨b, o, none⟩ = some (.string K)) (k2 : w.cell? ⟨b, o + 1, none⟩ = some (.int .i64 L)) (k3 : w.cell? ⟨b, o + 2, none⟩ = some (.int .i64 V)) :
    Calls Try.prog 86 #[.slice (some ⟨b, o, none⟩) (M + 1) cap, .int .i64 s, .int .i64 t] w fun e w' => e = .returned (.int .i64 (P + V * R)) ∧ w.Since w.heap.size w' := by
  obtain ⟨d1, d2, d3⟩ := chip_box w K L V 35
  have HS := Lib.hid ((World.Since.refl w.heap.size w).alloc (Nat.le_refl _) (.cells #[.string K, .int .i64 L, .int .i64 V] 35))
  replace IHP := Lib.hid IHP
  replace IHR := Lib.hid IHR
  replace EF := Lib.hid EF
  rcases Nat.lt_or_eq_of_le (show 1 ≤ cap by omega) with hc1 | rfl
  · have hb1 : (0 : Int) ≤ (M : Int) := by omega
    have hb2 : (1 : Int) ≤ (M : Int) + 1 := by omega
    have hb3 : (M : Int) + 1 ≤ (cap : Int) := by omega
    have hc2 : ¬ cap = 1 := by omega
    have hc3 : ¬ 1 = cap := by omega
    go_enter Try.func86, Try.ntmps86
    go_wp2_with (first
      | (go_at_call 117; refine (EF.out _).mono ?_; rintro e w1 ⟨rfl, hs1⟩; have c4 := (hs1.cell (a := ⟨w.heap.size, 2, none⟩) (by simp)).trans d3; have HS1 := Lib.hid (HS.out.trans (since_mono hs1 HS.out.size)); clear hs1)
      | (go_at_call 86; refine (IHP.out _ _ _ HS1.out (by first | exact .inr trivial | exact .inr rfl | exact .inl rfl) (by omega) (by omega)).mono ?_; rintro e w2 ⟨rfl, hs2⟩; have c5 := (hs2.cell (a := ⟨w.heap.size, 2, none⟩) (World.block_lt_of_cell? _ _ c4)).trans c4; have HS2 := Lib.hid (HS1.out.trans (since_mono hs2 HS1.out.size)); clear hs2 c4))
    all_goals
      go_region_held3 (fun w' => w'.cell? ⟨w.heap.size, 2, none⟩ = some (.int .i64 V)) (first | exact c5 | exact c6)
        (first | (go_at_call 86; refine (IHR.out _ _ _ HS2.out.drew (by first | exact .inr trivial | exact .inr rfl | exact .inl rfl) (by omega) (by omega)).mono ?_; rintro e w3 ⟨rfl, hs3⟩; have c6 := (hs3.cell (a := ⟨w.heap.size, 2, none⟩) (World.block_lt_of_cell? w2 _ c5)).trans c5; have HS3 := Lib.hid hs3; clear hs3))
    all_goals
      go_wp2_with fail
      go_ret
      exact ⟨rfl, HS2.out.trans (since_mono (since_of_drew HS3.out) HS2.out.size)⟩
  · obtain rfl : M = 0 := by omega
    clear hM hcap hc63
    go_enter Try.func86, Try.ntmps86
    go_wp2_with (first
      | (go_at_call 117; refine (EF.out _).mono ?_; rintro e w1 ⟨rfl, hs1⟩; have c4 := (hs1.cell (a := ⟨w.heap.size, 2, none⟩) (by simp)).trans d3; have HS1 := Lib.hid (HS.out.trans (since_mono hs1 HS.out.size)); clear hs1)
      | (go_at_call 86; refine (IHP.out _ _ _ HS1.out (by first | exact .inr trivial | exact .inr rfl | exact .inl rfl) (by omega) (by omega)).mono ?_; rintro e w2 ⟨rfl, hs2⟩; have c5 := (hs2.cell (a := ⟨w.heap.size, 2, none⟩) (World.block_lt_of_cell? _ _ c4)).trans c4; have HS2 := Lib.hid (HS1.out.trans (since_mono hs2 HS1.out.size)); clear hs2 c4))
    all_goals
      go_region_held3 (fun w' => w'.cell? ⟨w.heap.size, 2, none⟩ = some (.int .i64 V)) (first | exact c5 | exact c6)
        (first | (go_at_call 86; refine (IHR.out _ _ _ HS2.out.drew (by first | exact .inr trivial | exact .inr rfl | exact .inl rfl) (by omega) (by omega)).mono ?_; rintro e w3 ⟨rfl, hs3⟩; have c6 := (hs3.cell (a := ⟨w.heap.size, 2, none⟩) (World.block_lt_of_cell? w2 _ c5)).trans c5; have HS3 := Lib.hid hs3; clear hs3))
    all_goals
      go_wp2_with fail
      go_ret
      exact ⟨rfl, HS2.out.trans (since_mono (since_of_drew HS3.out) HS2.out.size)⟩

theorem toC_ok5 {c : RC} (h : chOk 5 (toC c)) : (toC c).2.1 ≤ 4 ∧ ((toC c).1 ≠ 2 → cFrom (toC c) ≤ 4 ∧ cTo (toC c) ≤ 4) := by
  obtain ⟨h1, h2⟩ := h
  by_cases e : (toC c).1 = 2
  · rw [if_pos e] at h2
    exact ⟨by omega, fun h => absurd e h⟩
  · rw [if_neg e] at h2
    refine ⟨by omega, fun _ => ?_⟩
    unfold cFrom cTo
    constructor <;> split <;> omega

set_option maxRecDepth 100000 in
set_option maxHeartbeats 400000 in
theorem l6cFamilies_any : ∀ (cs : List RC) (a : Option Addr) (N cap : Nat) (s t : Nat) (w : World), cs.length = N → N ≤ 10 → N ≤ cap → cap ≤ 9223372036854775807 → (∀ c ∈ cs, RCok c ∧ chOk 5 (toC c)) → s ≤ 31 → ChipsR w a cs →
    Calls Try.prog 86 #[.slice a N cap, .int .i64 s, .int .i64 t] w fun e w' => e = .returned (.int .i64 (famN (cs.map toC) s t)) ∧ w.Since w.heap.size w'
  | [], a, N, cap, s, t, w, hN, _, _, _, _, _, _ => by
    obtain rfl : N = 0 := hN.symm
    clear hN
    by_cases e : s = t
    · subst e
      have hp : famN (([] : List RC).map toC) s s = 1 := by show (if s = s then (1 : Int) else 0) = 1; rw [if_pos rfl]
      rw [hp]
      go_enter Try.func86, Try.ntmps86
      go_wp2_with fail
      go_ret
      exact ⟨rfl, World.Since.refl _ _⟩
    · have hp : famN (([] : List RC).map toC) s t = 0 := by show (if s = t then (1 : Int) else 0) = 0; rw [if_neg e]
      rw [hp]
      have he : (s == t) = false := by simp; omega
      have he2 : ((s : Int) == (t : Int)) = false := by simp; omega
      go_enter Try.func86, Try.ntmps86
      go_wp2_with fail
      go_ret
      exact ⟨rfl, World.Since.refl _ _⟩
  | ⟨K, l, V⟩ :: cs, a, N, cap, s, t, w, hN, h10, hcap, hc63, hok, hs, hm => by
    obtain ⟨b, o, rfl, ⟨k1, k2, k3⟩, ht⟩ := hm.split
    obtain ⟨⟨hk, hl, hv⟩, h5⟩ := hok ⟨K, l, V⟩ (by simp)
    obtain ⟨M, rfl⟩ : ∃ M, N = M + 1 := ⟨cs.length, by simpa using hN.symm⟩
    have hM : cs.length = M := by simpa using hN
    have IH := fun (j : Nat) (hj : j ≤ 31) (W : World) (q c' : Nat) (hs : w.Since w.heap.size W) (hq : q = o + 3 ∨ cap = 1) (h1 : M ≤ c') (h2 : c' ≤ cap) => l6cFamilies_any cs (some ⟨b, q, none⟩) M c' j t W hM (by omega) h1 (by omega) (fun c hc => hok c (by simp [hc])) hj (ht W q cap hs (by omega) hq)
    have hbd := fun (j : Nat) => fam_bd (cs.map toC) (fun d hd => by
      rw [List.mem_map] at hd
      obtain ⟨e, he, rfl⟩ := hd
      exact (hok e (by simp [he])).1.2.2) j t
    have hp10 : p10 (cs.map toC).length ≤ 10000000000 := p10_le (by rw [List.length_map]; omega)
    rw [List.map_cons]
    simp only at hk hl hv k1 k2 k3
    obtain ⟨L, rfl⟩ : ∃ L : Nat, l = L := ⟨l.toNat, by omega⟩
    have hPb : -10000000000 ≤ famN (cs.map toC) s t ∧ famN (cs.map toC) s t ≤ 10000000000 := by have := hbd s; omega
    obtain ⟨hw1, hb1, hb2⟩ := wrap_mul9 hv hPb
    obtain ⟨g1, g2⟩ := toC_ok5 h5
    by_cases hH : K.toList = [104]
    · rw [toC_h hH] at g1 ⊢
      simp only at g1
      have hbi := bitI s L hs (by omega)
      cases hb : s.testBit L with
      | true =>
        have hpc : famN ((2, L, V) :: cs.map toC) s t = V * famN (cs.map toC) s t := by
          show (if 2 = 2 then (if s.testBit L = true then _ else _) else _) = _
          rw [if_pos rfl, if_pos hb]
        rw [hpc]
        exact fams_h K V M cap t b o s L w _ hH g1 hw1 (by rw [hbi, hb]; rfl) (IH s hs) h10 hcap hc63 k1 k2 k3
      | false =>
        have hpc : famN ((2, L, V) :: cs.map toC) s t = famN (cs.map toC) s t := by
          show (if 2 = 2 then (if s.testBit L = true then _ else _) else _) = _
          rw [if_pos rfl, if_neg (by rw [hb]; simp)]
        rw [hpc]
        exact fams_g K V M cap t b o s L w _ hH g1 (by rw [hbi, hb]; rfl) (IH s hs) h10 hcap hc63 k1 k2 k3
    · have hHb : (K.toList == [104]) = false := by simpa using hH
      have EF := fun (W : World) => l6cFrom_any K L V W (by omega)
      obtain ⟨k, hk1, hk2, hft⟩ := toC_n (L := L) (V := V) hH hk
      rw [hk2] at g2 ⊢
      rw [hft] at EF
      obtain ⟨hF, hT⟩ := g2 (by show k ≠ 2; omega)
      obtain ⟨F, hFF⟩ : ∃ F, cFrom (k, L, V) = F := ⟨_, rfl⟩
      obtain ⟨T, hTT⟩ : ∃ T, cTo (k, L, V) = T := ⟨_, rfl⟩
      have hpc : famN ((k, L, V) :: cs.map toC) s t = famN (cs.map toC) s t + (if s.testBit F = true ∧ s.testBit T = false then V * famN (cs.map toC) (s ^^^ 2 ^ F ^^^ 2 ^ T) t else 0) := by
        rw [← hFF, ← hTT]
        show (if k = 2 then _ else _) = _
        rw [if_neg (by omega)]
      rw [hpc]
      rw [hFF] at hF EF
      rw [hTT] at hT EF
      have hbF := bitI s F hs (by omega)
      have hbT := bitI s T hs (by omega)
      cases hf : s.testBit F with
      | false =>
        rw [if_neg (fun h => by simp at h), Int.add_zero]
        exact fams_n K V M cap t b o s L F T w _ hHb hF (by rw [hbF, hf]; rfl) EF (IH s hs) h10 hcap hc63 k1 k2 k3
      | true =>
        cases ht' : s.testBit T with
        | true =>
          rw [if_neg (fun h => by simp at h), Int.add_zero]
          exact fams_m K V M cap t b o s L F T w _ hHb hF hT (by rw [hbF, hf]; rfl) (by rw [hbT, ht']; rfl) EF (IH s hs) h10 hcap hc63 k1 k2 k3
        | false =>
          rw [if_pos ⟨rfl, rfl⟩]
          obtain ⟨hx, hx31⟩ := xor2 s F T hs hF hT
          have hRb : -10000000000 ≤ famN (cs.map toC) (s ^^^ 2 ^ F ^^^ 2 ^ T) t ∧ famN (cs.map toC) (s ^^^ 2 ^ F ^^^ 2 ^ T) t ≤ 10000000000 := by have := hbd (s ^^^ 2 ^ F ^^^ 2 ^ T); omega
          obtain ⟨hw2, hb3, hb4⟩ := wrap_mul9 hv hRb
          exact fams_o K V M cap t b o s L F T _ w _ _ hHb hF hT (by rw [hbF, hf]; rfl) (by rw [hbT, ht']; rfl) hw2 (IntWalk.i64_in _ ⟨by omega, by omega⟩) hx (p2w_fin ⟨F, by omega⟩).1 (p2w_fin ⟨T, by omega⟩).1 (by omega) (by omega) EF (IH s hs) (IH _ hx31) h10 hcap hc63 k1 k2 k3

end Go.Proofs.Ytggmiojhglkcgaa
end

section
namespace Go.Proofs.Ytggmiojhglkcgaa
open Go.RowKit Go.Deep

structure NetOk (n : Nat) (cs : List RC) : Prop where
  lo : 2 ≤ n
  hi : n ≤ 5
  len : cs.length ≤ 10
  ok : ∀ c ∈ cs, RCok c ∧ chOk n (toC c)
theorem chipB_ok {n : Nat} (hn : 2 ≤ n ∧ n ≤ 5) {c : RC} (h : chipB n c = true) : RCok c ∧ chOk n (toC c) := by
  obtain ⟨K, l, V⟩ := c
  unfold chipB kindB inB at h
  simp only [Bool.and_eq_true, decide_eq_true_eq] at h
  obtain ⟨h1, hv⟩ := h
  by_cases hH : K.toList = [104]
  · rw [if_pos hH] at h1
    simp only [decide_eq_true_eq] at h1
    obtain ⟨L, rfl⟩ : ∃ L : Nat, l = L := ⟨l.toNat, by omega⟩
    refine ⟨⟨.inl hH, ⟨by show (0 : Int) ≤ (L : Int); omega, by show (L : Int) ≤ 10; omega⟩, hv⟩, ?_⟩
    rw [toC_h hH]
    refine ⟨Nat.le_refl _, ?_⟩
    rw [if_pos rfl]
    show L < n
    omega
  · rw [if_neg hH] at h1
    by_cases hk : K.toList = [117] ∨ K.toList = [100]
    · rw [if_pos hk] at h1
      simp only [decide_eq_true_eq] at h1
      obtain ⟨L, rfl⟩ : ∃ L : Nat, l = L := ⟨l.toNat, by omega⟩
      have hk3 : K.toList = [104] ∨ K.toList = [117] ∨ K.toList = [100] := .inr hk
      refine ⟨⟨hk3, ⟨by show (0 : Int) ≤ (L : Int); omega, by show (L : Int) ≤ 10; omega⟩, hv⟩, ?_⟩
      obtain ⟨k, hk1, hk2, _⟩ := toC_n (L := L) (V := V) hH hk3
      rw [hk2]
      refine ⟨by show k ≤ 2; omega, ?_⟩
      rw [if_neg (by show ¬ k = 2; omega)]
      show L + 1 < n
      omega
    · rw [if_neg hk] at h1; cases h1
theorem netB_ok {n : Int} {cs : List RC} (h : netB n cs = true) : ∃ m : Nat, n = m ∧ NetOk m cs := by
  unfold netB inB at h
  simp only [Bool.and_eq_true, decide_eq_true_eq] at h
  obtain ⟨hn, hl, hc⟩ := h
  obtain ⟨m, rfl⟩ : ∃ m : Nat, n = m := ⟨n.toNat, by omega⟩
  exact ⟨m, rfl, by omega, by omega, hl, fun c hm => chipB_ok (by omega) (List.all_eq_true.1 hc c hm)⟩
theorem NetOk.rc {n : Nat} {cs : List RC} (h : NetOk n cs) : ∀ c ∈ cs, RCok c := fun c hc => (h.ok c hc).1
theorem NetOk.five {n : Nat} {cs : List RC} (h : NetOk n cs) : ∀ c ∈ cs, RCok c ∧ chOk 5 (toC c) := fun c hc => ⟨(h.ok c hc).1, by
  obtain ⟨h1, h2⟩ := (h.ok c hc).2
  have h5 := h.hi
  refine ⟨h1, ?_⟩
  by_cases e : (toC c).1 = 2
  · rw [if_pos e] at h2 ⊢; omega
  · rw [if_neg e] at h2 ⊢; omega⟩
theorem NetOk.ch {n : Nat} {cs : List RC} (h : NetOk n cs) : ∀ c ∈ cs.map toC, chOk n c := fun c hc => by
  obtain ⟨d, hd, rfl⟩ := List.mem_map.1 hc
  exact (h.ok d hd).2

noncomputable def linesB (n : Int) (cs : List RC) (i k : Int) : Bool := netB n cs && (inB i 0 (n - 1) && inB k 0 (n - 1))
noncomputable def pathsV (n : Int) (cs : List RC) (i k : Int) : Int := if linesB n cs i k = true then pathN (cs.map toC) i.toNat k.toNat else 0

set_option maxHeartbeats 400000 in
theorem l6cLines_any (a : Option Addr) (cap N : Nat) (n i k : Int) (cs : List RC) (w : World) (hN : cs.length = N) (h63 : N ≤ 9223372036854775807) (hm : ChipsR w a cs) :
    Calls Try.prog 75 #[.int .i64 n, .slice a N cap, .int .i64 i, .int .i64 k] w fun e w' => e = .returned (.bool (linesB n cs i k)) ∧ w.Since w.heap.size w' := by
  have E := specNetIn_any a cap N n cs w hN h63 hm
  unfold linesB
  obtain ⟨b, hb⟩ : ∃ b, netB n cs = b := ⟨_, rfl⟩
  have hr : b = true → 2 ≤ n ∧ n ≤ 5 := fun h => by
    obtain ⟨m, rfl, ho⟩ := netB_ok (hb.trans h)
    have := ho.lo; have := ho.hi
    omega
  rw [hb] at E ⊢
  replace E := Lib.hid E
  clear hb hm hN
  cases b with
  | false =>
    clear hr
    go_enter Try.func75, Try.ntmps75
    go_wp2_with (go_at_call 16; refine (E.out).mono ?_; rintro e w1 ⟨rfl, hs1⟩; have HS1 := Lib.hid hs1; clear hs1)
    go_ret
    exact ⟨rfl, HS1.out⟩
  | true =>
    obtain ⟨hn2, hn5⟩ := hr rfl
    clear hr
    have hw1 : IntKind.i64.wrap (n - 1) = n - 1 := IntWalk.i64_in _ ⟨by omega, by omega⟩
    rw [Bool.true_and]
    obtain ⟨b1, hb1⟩ : ∃ b, inB i 0 (n - 1) = b := ⟨_, rfl⟩
    obtain ⟨b2, hb2⟩ : ∃ b, inB k 0 (n - 1) = b := ⟨_, rfl⟩
    rw [hb1, hb2]
    have E1 := Lib.hid (fun (W : World) => l6In_at i 0 (n - 1) b1 W hb1)
    have E2 := Lib.hid (fun (W : World) => l6In_at k 0 (n - 1) b2 W hb2)
    clear hb1 hb2
    cases b1 <;> cases b2
    all_goals
      go_enter Try.func75, Try.ntmps75
      go_wp2_with (first
        | (go_at_call 16; refine (E.out).mono ?_; rintro e w1 ⟨rfl, hs1⟩; have HS1 := Lib.hid hs1; clear hs1)
        | (go_at_call 60; ((with_reducible refine (E1.out _).mono ?_); rintro e w2 ⟨rfl, rfl⟩))
        | (go_at_call 60; ((with_reducible refine (E2.out _).mono ?_); rintro e w2 ⟨rfl, rfl⟩)))
      go_ret
      exact ⟨rfl, HS1.out⟩

theorem lines_ok {n i k : Int} {cs : List RC} (h : linesB n cs i k = true) : ∃ m j l : Nat, n = m ∧ NetOk m cs ∧ (i = j ∧ j < m) ∧ k = l ∧ l < m := by
  unfold linesB at h
  simp only [Bool.and_eq_true] at h
  obtain ⟨h1, h2, h3⟩ := h
  obtain ⟨m, rfl, hm⟩ := netB_ok h1
  unfold inB at h2 h3
  simp only [decide_eq_true_eq] at h2 h3
  exact ⟨m, i.toNat, k.toNat, rfl, hm, by omega, by omega, by omega⟩

set_option maxHeartbeats 400000 in
theorem specNetPaths_any (a : Option Addr) (cap N : Nat) (n i k : Int) (cs : List RC) (w : World) (hN : cs.length = N) (hcap : N ≤ cap) (h63 : cap ≤ 9223372036854775807) (hm : ChipsR w a cs) :
    Calls Try.prog 24 #[.int .i64 n, .slice a N cap, .int .i64 i, .int .i64 k] w fun e w' => e = .returned (.tuple #[.int .i64 (pathsV n cs i k), .bool (linesB n cs i k)]) ∧ w.Since w.heap.size w' := by
  have E := l6cLines_any a cap N n i k cs w hN (by omega) hm
  unfold pathsV
  cases hb : linesB n cs i k with
  | false =>
    rw [hb] at E
    replace E := Lib.hid E
    rw [if_neg (by simp)]
    clear hb hm hN
    go_enter Try.func24, Try.ntmps24
    go_wp2_with (go_at_call 75; refine (E.out).mono ?_; rintro e w1 ⟨rfl, hs1⟩; have HS1 := Lib.hid hs1; clear hs1)
    go_ret2
    exact ⟨rfl, HS1.out⟩
  | true =>
    rw [hb] at E
    replace E := Lib.hid E
    rw [if_pos rfl]
    obtain ⟨m, j, l, rfl, ho, ⟨rfl, hj⟩, rfl, hl⟩ := lines_ok hb
    have hm5 := ho.hi
    have h10 := ho.len
    have E2 := Lib.hid (fun (W : World) (hs : w.Since w.heap.size W) => l6cPaths_any cs a N cap j l W hN (by omega) hcap h63 ho.rc (by omega) (hm.since hs))
    show Calls Try.prog 24 #[.int .i64 m, .slice a N cap, .int .i64 j, .int .i64 l] w fun e w' => e = .returned (.tuple #[.int .i64 (pathN (cs.map toC) j l), .bool true]) ∧ w.Since w.heap.size w'
    obtain ⟨P, hP⟩ : ∃ P, pathN (cs.map toC) j l = P := ⟨_, rfl⟩
    rw [hP] at E2 ⊢
    clear hb hm hN hP h10
    go_enter Try.func24, Try.ntmps24
    go_wp2_with (first
      | (go_at_call 75; refine (E.out).mono ?_; rintro e w1 ⟨rfl, hs1⟩; have HS1 := Lib.hid hs1; clear hs1)
      | (go_at_call 76; refine (E2.out _ HS1.out).mono ?_; rintro e w2 ⟨rfl, hs2⟩; have HS2 := Lib.hid (HS1.out.trans (since_mono hs2 HS1.out.size)); clear hs2))
    go_ret2
    exact ⟨rfl, HS2.out⟩

noncomputable def famsB (n : Int) (cs : List RC) (s t : Int) : Bool := netB n cs && (inB s 0 (2 ^ n.toNat - 1) && (inB t 0 (2 ^ n.toNat - 1) && (popcS s.toNat == popcS t.toNat)))
noncomputable def famsV (n : Int) (cs : List RC) (s t : Int) : Int := if famsB n cs s t = true then famN (cs.map toC) s.toNat t.toNat else 0
theorem fams_ok {n s t : Int} {cs : List RC} (h : famsB n cs s t = true) : ∃ m j l : Nat, n = m ∧ NetOk m cs ∧ (s = j ∧ j < 2 ^ m ∧ j ≤ 31) ∧ (t = l ∧ l < 2 ^ m ∧ l ≤ 31) ∧ popcS j = popcS l := by
  unfold famsB at h
  simp only [Bool.and_eq_true, beq_iff_eq] at h
  obtain ⟨h1, h2, h3, h4⟩ := h
  obtain ⟨m, rfl, hm⟩ := netB_ok h1
  unfold inB at h2 h3
  simp only [decide_eq_true_eq, Int.toNat_natCast] at h2 h3
  have hp : 2 ^ m ≤ 2 ^ 5 := Nat.pow_le_pow_right (by omega) hm.hi
  have hc : ((2 : Int) ^ m) = ((2 ^ m : Nat) : Int) := by simp
  rw [hc] at h2 h3
  exact ⟨m, s.toNat, t.toNat, rfl, hm, by omega, by omega, h4⟩

theorem p5_fin : ∀ m : Fin 6, (wrap64 (2 ^ m.val) = ((2 ^ m.val : Nat) : Int) ∧ IntKind.i64.wrap (2 ^ m.val) = ((2 ^ m.val : Nat) : Int)) ∧ (2 : Int) ^ m.val = ((2 ^ m.val : Nat) : Int) ∧ 1 ≤ 2 ^ m.val ∧ 2 ^ m.val ≤ 32 := by decide +kernel

set_option maxHeartbeats 400000 in
theorem specNetFamilies_any (a : Option Addr) (cap N : Nat) (n s t : Int) (cs : List RC) (w : World) (hN : cs.length = N) (hcap : N ≤ cap) (h63 : cap ≤ 9223372036854775807) (hm : ChipsR w a cs) :
    Calls Try.prog 28 #[.int .i64 n, .slice a N cap, .int .i64 s, .int .i64 t] w fun e w' => e = .returned (.tuple #[.int .i64 (famsV n cs s t), .bool (famsB n cs s t)]) ∧ w.Since w.heap.size w' := by
  have E := specNetIn_any a cap N n cs w hN (by omega) hm
  cases hb : netB n cs with
  | false =>
    have hf : famsB n cs s t = false := by unfold famsB; rw [hb, Bool.false_and]
    unfold famsV
    rw [hf, if_neg (by simp)]
    rw [hb] at E
    replace E := Lib.hid E
    clear hb hm hN hf
    go_enter Try.func28, Try.ntmps28
    go_wp2_with (go_at_call 16; refine (E.out).mono ?_; rintro e w1 ⟨rfl, hs1⟩; have HS1 := Lib.hid hs1; clear hs1)
    go_ret2
    exact ⟨rfl, HS1.out⟩
  | true =>
    obtain ⟨m, rfl, ho⟩ := netB_ok hb
    rw [hb] at E
    replace E := Lib.hid E
    have hm5 := ho.hi
    have h10 := ho.len
    obtain ⟨⟨p1, p2⟩, p3, p4, p5⟩ := p5_fin ⟨m, by omega⟩
    simp only at p1 p2 p3 p4 p5
    have hfB : famsB m cs s t = (inB s 0 ((2 ^ m : Nat) - 1 : Int) && (inB t 0 ((2 ^ m : Nat) - 1 : Int) && (popcS s.toNat == popcS t.toNat))) := by
      unfold famsB; rw [hb, Bool.true_and, Int.toNat_natCast, p3]
    obtain ⟨M, hM⟩ : ∃ M : Nat, 2 ^ m = M := ⟨_, rfl⟩
    rw [hM] at p1 p2 p3 p4 p5 hfB
    have hw : IntKind.i64.wrap ((M : Int) - 1) = (M : Int) - 1 := IntWalk.i64_in _ ⟨by omega, by omega⟩
    obtain ⟨b1, hb1⟩ : ∃ b, inB s 0 ((M : Int) - 1) = b := ⟨_, rfl⟩
    obtain ⟨b2, hb2⟩ : ∃ b, inB t 0 ((M : Int) - 1) = b := ⟨_, rfl⟩
    have E1 := Lib.hid (fun (W : World) => l6In_at s 0 ((M : Int) - 1) b1 W hb1)
    have E2 := Lib.hid (fun (W : World) => l6In_at t 0 ((M : Int) - 1) b2 W hb2)
    rw [hb1, hb2] at hfB
    by_cases hbb : b1 = true ∧ b2 = true
    · obtain ⟨rfl, rfl⟩ := hbb
      unfold inB at hb1 hb2
      simp only [decide_eq_true_eq] at hb1 hb2
      obtain ⟨j, rfl⟩ : ∃ j : Nat, s = j := ⟨s.toNat, by omega⟩
      obtain ⟨l, rfl⟩ : ∃ l : Nat, t = l := ⟨t.toNat, by omega⟩
      rw [Bool.true_and, Bool.true_and, Int.toNat_natCast, Int.toNat_natCast] at hfB
      have HP1 := Lib.hid (fun (W : World) => l2Size_any j (by omega) W)
      have HP2 := Lib.hid (fun (W : World) => l2Size_any l (by omega) W)
      have E3 := Lib.hid (fun (W : World) (hs : w.Since w.heap.size W) => l6cFamilies_any cs a N cap j l W hN (by omega) hcap h63 ho.five (by omega) (hm.since hs))
      have hV : famsV (m : Int) cs (j : Int) (l : Int) = if famsB m cs j l = true then famN (cs.map toC) j l else 0 := rfl
      obtain ⟨P, hP⟩ : ∃ P, famN (cs.map toC) j l = P := ⟨_, rfl⟩
      obtain ⟨A, hA⟩ : ∃ A, popcS j = A := ⟨_, rfl⟩
      obtain ⟨B, hB⟩ : ∃ B, popcS l = B := ⟨_, rfl⟩
      have hA6 : A ≤ 6 := by rw [← hA]; exact sel_length j 6 6
      have hB6 : B ≤ 6 := by rw [← hB]; exact sel_length l 6 6
      rw [hP] at E3 hV
      rw [hA] at HP1 hfB
      rw [hB] at HP2 hfB
      rw [hV, hfB]
      clear hb hm hN hP hA hB h10 hV hfB hM p3
      by_cases e : A = B
      · subst e
        have e1 : (A == A) = true := by simp
        rw [e1, if_pos rfl]
        clear e1
        go_enter Try.func28, Try.ntmps28
        go_wp2_with (first
          | (go_at_call 16; refine (E.out).mono ?_; rintro e w1 ⟨rfl, hs1⟩; have HS1 := Lib.hid hs1; clear hs1)
          | (go_at_call 60; ((with_reducible refine (E1.out _).mono ?_); rintro e w2 ⟨rfl, rfl⟩))
          | (go_at_call 60; ((with_reducible refine (E2.out _).mono ?_); rintro e w2 ⟨rfl, rfl⟩))
          | (go_at_call 85; ((with_reducible refine (HP1.out _).mono ?_); rintro e w2 ⟨rfl, rfl⟩))
          | (go_at_call 85; ((with_reducible refine (HP2.out _).mono ?_); rintro e w2 ⟨rfl, rfl⟩))
          | (go_at_call 86; refine (E3.out _ HS1.out).mono ?_; rintro e w2 ⟨rfl, hs2⟩; have HS2 := Lib.hid (HS1.out.trans (since_mono hs2 HS1.out.size)); clear hs2))
        go_ret2
        exact ⟨rfl, HS2.out⟩
      · have e1 : (A == B) = false := by simpa using e
        have e2 : (A != B) = true := by simpa using e
        have e3 : ((A : Int) == (B : Int)) = false := by simp; omega
        have e4 : ((A : Int) != (B : Int)) = true := by simp; omega
        rw [e1, if_neg (by simp)]
        clear e
        go_enter Try.func28, Try.ntmps28
        go_wp2_with (first
          | (go_at_call 16; refine (E.out).mono ?_; rintro e w1 ⟨rfl, hs1⟩; have HS1 := Lib.hid hs1; clear hs1)
          | (go_at_call 60; ((with_reducible refine (E1.out _).mono ?_); rintro e w2 ⟨rfl, rfl⟩))
          | (go_at_call 60; ((with_reducible refine (E2.out _).mono ?_); rintro e w2 ⟨rfl, rfl⟩))
          | (go_at_call 85; ((with_reducible refine (HP1.out _).mono ?_); rintro e w2 ⟨rfl, rfl⟩))
          | (go_at_call 85; ((with_reducible refine (HP2.out _).mono ?_); rintro e w2 ⟨rfl, rfl⟩)))
        go_ret2
        exact ⟨rfl, HS1.out⟩
    · have hf : famsB (m : Int) cs s t = false := by
        rw [hfB]
        cases b1 <;> cases b2 <;> simp at hbb ⊢
      unfold famsV
      rw [hf, if_neg (by simp)]
      clear hb hm hN hf hfB hb1 hb2 h10 hM p3
      cases b1 <;> cases b2
      case true.true => exact absurd ⟨rfl, rfl⟩ hbb
      all_goals
        clear hbb
        go_enter Try.func28, Try.ntmps28
        go_wp2_with (first
          | (go_at_call 16; refine (E.out).mono ?_; rintro e w1 ⟨rfl, hs1⟩; have HS1 := Lib.hid hs1; clear hs1)
          | (go_at_call 60; ((with_reducible refine (E1.out _).mono ?_); rintro e w2 ⟨rfl, rfl⟩))
          | (go_at_call 60; ((with_reducible refine (E2.out _).mono ?_); rintro e w2 ⟨rfl, rfl⟩)))
        go_ret2
        exact ⟨rfl, HS1.out⟩

end Go.Proofs.Ytggmiojhglkcgaa
end

section
namespace Go.Proofs.Ytggmiojhglkcgaa
open Go.RowKit Go.Deep

def oneC (q : Int) (c : RC) : RC := ⟨c.k, c.l, if c.w = 0 then q else 1⟩
theorem take_map_snoc {α : Type} (f : RC → α) (cs : List RC) (r : Nat) (h : r < cs.length) : (cs.take (r + 1)).map f = (cs.take r).map f ++ [f (cs.getD r rc0)] := by
  rw [List.take_succ_eq_append_getElem h, List.map_append]
  congr 2
  simp [List.getD, h]
theorem ChipsR.at {W : World} {a : Option Addr} {cs : List RC} (h : ChipsR W a cs) {i : Nat} (hi : i < cs.length) : ∃ b o, a = some ⟨b, o, none⟩ ∧ W.cell? ⟨b, o + i * 3, none⟩ = some (.string (cs.getD i rc0).k) ∧ W.cell? ⟨b, o + i * 3 + 1, none⟩ = some (.int .i64 (cs.getD i rc0).l) ∧ W.cell? ⟨b, o + i * 3 + 2, none⟩ = some (.int .i64 (cs.getD i rc0).w) := by
  obtain ⟨b, o, e, hc⟩ := h (by omega)
  exact ⟨b, o, e, hc i hi⟩

set_option maxRecDepth 100000 in
set_option maxHeartbeats 1000000 in
theorem l6cOnes_any (a : Option Addr) (cap N : Nat) (q : Int) (cs : List RC) (w : World) (hN : cs.length = N) (h10 : N ≤ 10) (hm : ChipsR w a cs) :
    Calls Try.prog 93 #[.slice a N cap, .int .i64 q] w fun e w' => ∃ a' cap', e = .returned (.slice a' N cap') ∧ w.Since w.heap.size w' ∧ OwnC w.heap.size w'.heap.size w' a' (cs.map (oneC q)) ∧ N ≤ cap' ∧ cap' ≤ 9223372036854775807 := by
  obtain ⟨iC, hiC⟩ := infoChip_parts
  have HI := Lib.hid hiC
  have hst := cb_start w #[] rfl
  have HST := Lib.hid hst
  have HN := Lib.hid hN
  have HM := Lib.hid hm
  clear hiC hst hN hm
  go_enter Try.func93, Try.ntmps93
  go_wp2
  go_loopg [5, 6, 7] N (fun g v i _ wr => ∃ r : Nat, r ≤ N ∧ g = N - r ∧ i = .int .i64 r ∧ CB w wr v ((cs.take r).map (oneC q)))
  case atStart => exact ⟨0, Nat.zero_le _, rfl, rfl, HST.out⟩
  case round =>
    obtain ⟨r, hr, rfl, rfl, hC⟩ := hrel
    by_cases hlt : r < N
    · obtain ⟨b, o, rfl, k1, k2, k3⟩ := HM.out.at (show r < cs.length by rw [HN.out]; exact hlt)
      have c1 := (hC.since.cell (World.block_lt_of_cell? _ _ k1)).trans k1
      have c2 := (hC.since.cell (World.block_lt_of_cell? _ _ k2)).trans k2
      have c3 := (hC.since.cell (World.block_lt_of_cell? _ _ k3)).trans k3
      have hts := take_map_snoc (oneC q) cs r (by rw [HN.out]; exact hlt)
      have hlen : ((cs.take r).map (oneC q)).length = r := by rw [List.length_map, List.length_take, HN.out]; omega
      obtain ⟨K, hK⟩ : ∃ K, (cs.getD r rc0).k = K := ⟨_, rfl⟩
      obtain ⟨L, hL⟩ : ∃ L, (cs.getD r rc0).l = L := ⟨_, rfl⟩
      obtain ⟨V, hV⟩ : ∃ V, (cs.getD r rc0).w = V := ⟨_, rfl⟩
      have hoc : oneC q (cs.getD r rc0) = ⟨K, L, if V = 0 then q else 1⟩ := by unfold oneC; rw [hK, hL, hV]
      rw [hoc] at hts
      rw [hK] at c1; rw [hL] at c2; rw [hV] at c3
      obtain ⟨d1, d2, d3⟩ := chip_box wr K L V 35
      obtain ⟨xs, hxs⟩ : ∃ xs, (cs.take r).map (oneC q) = xs := ⟨_, rfl⟩
      rw [hxs] at hC hts hlen
      have HC := Lib.hid hC
      have HTS := Lib.hid hts
      have HLEN := Lib.hid hlen
      have hsz := hC.since.size
      clear k1 k2 k3 hts hlen hK hL hV hoc hC hxs
      by_cases hv : V = 0
      · rw [if_pos hv] at HTS
        have hvb : (V == 0) = true := by simpa using hv
        clear hv
        have HE := Lib.hid (show wr.Since wr.heap.size ((wr.alloc (.cells #[.string K, .int .i64 L, .int .i64 q] 35)).alloc (.cells #[.string K, .int .i64 L, .int .i64 q] 35)) from ((World.Since.refl _ _).alloc (Nat.le_refl _) _).alloc (by simp) _)
        go_wp2_with (at_builtin; (refine wpList_append_own _ rfl _ _ 23 rfl w.heap.size 35 iC (.agg #[.string ⟨#[]⟩, .int .i64 0, .int .i64 0]) 3 32 Try.underlying23 HI.out.1 HI.out.2.1 HI.out.2.2.1 HI.out.2.2.2 rfl (by decide) _ _ _ rfl ((HC.out.later HE.out).own) ⟨wr.heap.size + 1, 0, none⟩ 1 1 (ch3 [⟨K, L, q⟩]) rfl rfl (by have := news3 (wr.alloc (.cells #[.string K, .int .i64 L, .int .i64 q] 35)) ⟨K, L, q⟩ 35; simpa using this) (ch3_one _) (by rw [HLEN.out]; unfold maxLen; omega) (by rw [HLEN.out]; omega) (by simp; omega) ?_); intro v' w1 hown' hgrow _)
        have hP := HC.out.push (ds := [⟨K, L, q⟩]) rfl HE.out hown' hgrow
        have HP := Lib.hid hP
        clear hP hown' hgrow
        go_roundg (N - (r + 1))
        case measure => omega
        case rel => exact ⟨r + 1, by omega, rfl, by go_num, by rw [HTS.out]; exact HP.out⟩
      · rw [if_neg hv] at HTS
        have hvb : (V == 0) = false := by simpa using hv
        clear hv
        have HE := Lib.hid (show wr.Since wr.heap.size ((wr.alloc (.cells #[.string K, .int .i64 L, .int .i64 1] 35)).alloc (.cells #[.string K, .int .i64 L, .int .i64 1] 35)) from ((World.Since.refl _ _).alloc (Nat.le_refl _) _).alloc (by simp) _)
        go_wp2_with (at_builtin; (refine wpList_append_own _ rfl _ _ 23 rfl w.heap.size 35 iC (.agg #[.string ⟨#[]⟩, .int .i64 0, .int .i64 0]) 3 32 Try.underlying23 HI.out.1 HI.out.2.1 HI.out.2.2.1 HI.out.2.2.2 rfl (by decide) _ _ _ rfl ((HC.out.later HE.out).own) ⟨wr.heap.size + 1, 0, none⟩ 1 1 (ch3 [⟨K, L, 1⟩]) rfl rfl (by have := news3 (wr.alloc (.cells #[.string K, .int .i64 L, .int .i64 1] 35)) ⟨K, L, 1⟩ 35; simpa using this) (ch3_one _) (by rw [HLEN.out]; unfold maxLen; omega) (by rw [HLEN.out]; omega) (by simp; omega) ?_); intro v' w1 hown' hgrow _)
        have hP := HC.out.push (ds := [⟨K, L, 1⟩]) rfl HE.out hown' hgrow
        have HP := Lib.hid hP
        clear hP hown' hgrow
        go_roundg (N - (r + 1))
        case measure => omega
        case rel => exact ⟨r + 1, by omega, rfl, by go_num, by rw [HTS.out]; exact HP.out⟩
    · obtain rfl : r = N := by omega
      obtain ⟨a', cap', rfl, hO, h1, h2⟩ := hC.ownC
      have hlen : ((cs.take r).map (oneC q)).length = r := by rw [List.length_map, List.length_take, HN.out]; omega
      rw [hlen] at h1 ⊢
      rw [List.take_of_length_le (by rw [HN.out]; exact Nat.le_refl _)] at hO
      have HO := Lib.hid hO
      have HS := Lib.hid hC.since
      clear hO hC hlen
      go_wp2
      go_ret
      exact ⟨_, _, rfl, HS.out, HO.out, h1, h2⟩

end Go.Proofs.Ytggmiojhglkcgaa
end

section
namespace Go.Proofs.Ytggmiojhglkcgaa
open Go.RowKit Go.Deep

abbrev kU : ByteArray := ⟨#[117]⟩
abbrev kD : ByteArray := ⟨#[100]⟩
noncomputable def trC (c : RC) : RC := ⟨if c.k.toList = [117] then kD else if c.k.toList = [100] then kU else c.k, c.l, c.w⟩
noncomputable def turnC (cs : List RC) : List RC := cs.reverse.map trC
theorem drop_rev (f : RC → RC) (cs : List RC) (j : Nat) (h : j < cs.length) : (cs.drop j).reverse.map f = (cs.drop (j + 1)).reverse.map f ++ [f (cs.getD j rc0)] := by
  rw [List.drop_eq_getElem_cons h, List.reverse_cons, List.map_append]
  congr 2
  simp [List.getD, h]
def resC (ok : Bool) (cs : List RC) : List RC := if ok = true then cs else []

theorem addr_add (b o i : Nat) : (⟨b, o, none⟩ : Addr).add i = ⟨b, o + i, none⟩ := by unfold Addr.add; split <;> simp_all
theorem cells_ch3 {W : World} {b o : Nat} {cs : List RC} (h : ∀ i, i < cs.length → W.cell? ⟨b, o + i * 3, none⟩ = some (.string (cs.getD i rc0).k) ∧ W.cell? ⟨b, o + i * 3 + 1, none⟩ = some (.int .i64 (cs.getD i rc0).l) ∧ W.cell? ⟨b, o + i * 3 + 2, none⟩ = some (.int .i64 (cs.getD i rc0).w)) :
    ∀ j u, (ch3 cs)[j]? = some u → W.cell? ((⟨b, o, none⟩ : Addr).add j) = some u := fun j u hj => by
  have hl : j < cs.length * 3 := by
    have := (List.getElem?_eq_some_iff.1 hj).1
    rw [ch3_length] at this; exact this
  obtain ⟨e1, e2, e3⟩ := ch3_get cs (j / 3) (by omega)
  obtain ⟨h1, h2, h3⟩ := h (j / 3) (by omega)
  rw [addr_add]
  have hj3 : j = j / 3 * 3 ∨ j = j / 3 * 3 + 1 ∨ j = j / 3 * 3 + 2 := by omega
  rcases hj3 with e | e | e
  · rw [e] at hj ⊢
    rw [e1] at hj; cases hj
    exact h1
  · rw [e] at hj ⊢
    rw [e2] at hj; cases hj
    rw [← Nat.add_assoc]
    exact h2
  · rw [e] at hj ⊢
    rw [e3] at hj; cases hj
    rw [← Nat.add_assoc]
    exact h3
theorem ChipsR.cells {w W : World} {b o : Nat} {cs : List RC} (h : ChipsR w (some ⟨b, o, none⟩) cs) (hs : w.Since w.heap.size W) : ∀ j u, (ch3 cs)[j]? = some u → W.cell? ((⟨b, o, none⟩ : Addr).add j) = some u := fun j u hj => by
  by_cases h0 : 0 < cs.length
  · obtain ⟨b', o', e, hc⟩ := h.since hs h0
    simp only [Option.some.injEq, Addr.mk.injEq, and_true] at e
    obtain ⟨rfl, rfl⟩ := e
    exact cells_ch3 hc j u hj
  · have := (List.getElem?_eq_some_iff.1 hj).1
    rw [ch3_length] at this
    omega

set_option maxRecDepth 100000 in
set_option maxHeartbeats 1000000 in
theorem specNetTurn_any (a : Option Addr) (cap N : Nat) (n : Int) (cs : List RC) (w : World) (hN : cs.length = N) (h63 : N ≤ 9223372036854775807) (hm : ChipsR w a cs) :
    Calls Try.prog 32 #[.int .i64 n, .slice a N cap] w fun e w' => ∃ a' cap', e = .returned (.tuple #[.slice a' (resC (netB n cs) (turnC cs)).length cap', .bool (netB n cs)]) ∧ w.Since w.heap.size w' ∧ InC w.heap.size w'.heap.size w' a' (resC (netB n cs) (turnC cs)) ∧ (resC (netB n cs) (turnC cs)).length ≤ cap' ∧ cap' ≤ 9223372036854775807 := by
  have E := fun (W : World) (hs : w.Since w.heap.size W) => specNetIn_any a cap N n cs W hN h63 (hm.since hs)
  have hst := cb_start w #[] rfl
  cases hb : netB n cs with
  | false =>
    simp only [hb] at E
    replace E := Lib.hid E
    have HST := Lib.hid hst
    clear hst hb hm hN
    go_enter Try.func32, Try.ntmps32
    go_wp2_with (go_at_call 16; refine (E.out _ HST.out.since).mono ?_; rintro e w1 ⟨rfl, hs1⟩; have HS1 := Lib.hid (HST.out.since.trans (since_mono hs1 HST.out.since.size)); clear hs1)
    go_ret2
    exact ⟨_, _, rfl, HS1.out, InC.nil _ _ _ _, Nat.le_refl _, by decide⟩
  | true =>
    have hl : (resC true (turnC cs)).length = N := by unfold resC turnC; rw [if_pos rfl, List.length_map, List.length_reverse, hN]
    rw [hl]
    have hres : resC true (turnC cs) = turnC cs := rfl
    rw [hres]
    obtain ⟨m, rfl, ho⟩ := netB_ok hb
    have h10 := ho.len
    rw [hN] at h10
    simp only [hb] at E
    replace E := Lib.hid E
    obtain ⟨iC, hiC⟩ := infoChip_parts
    have HI := Lib.hid hiC
    have HST := Lib.hid hst
    have HN := Lib.hid hN
    have HM := Lib.hid hm
    have hw1 : IntKind.i64.wrap ((N : Int) - 1) = (N : Int) - 1 := IntWalk.i64_in _ ⟨by omega, by omega⟩
    clear hst hb hm hN hl hres hiC ho
    go_enter Try.func32, Try.ntmps32
    go_wp2_with (go_at_call 16; refine (E.out _ HST.out.since).mono ?_; rintro e w1 ⟨rfl, hs1⟩; have HC1 := Lib.hid (HST.out.later hs1); clear hs1)
    go_loopg [6, 7, 8] N (fun g v i _ wr => ∃ (k : Nat) (z : Int), k ≤ N ∧ g = k + 0 ∧ i = .int .i64 z ∧ z + 1 = k ∧ CB w wr v ((cs.drop k).reverse.map trC))
    case atStart => exact ⟨N, _, Nat.le_refl _, rfl, rfl, by omega, by rw [List.drop_of_length_le (by rw [HN.out]; exact Nat.le_refl _)]; exact HC1.out⟩
    case round =>
      obtain ⟨k, z, hk, hgk, rfl, hz, hC⟩ := hrel
      rw [Nat.add_zero] at hgk
      replace hgk := hgk.symm
      subst hgk
      by_cases hlt : 0 ≤ z
      · obtain ⟨r, rfl⟩ : ∃ r : Nat, z = r := ⟨z.toNat, by omega⟩
        obtain rfl : k = r + 1 := by omega
        clear hz
        have hrN : r < N := by omega
        obtain ⟨b, o, rfl, k1, k2, k3⟩ := HM.out.at (show r < cs.length by rw [HN.out]; omega)
        have c1 := (hC.since.cell (World.block_lt_of_cell? _ _ k1)).trans k1
        have c2 := (hC.since.cell (World.block_lt_of_cell? _ _ k2)).trans k2
        have c3 := (hC.since.cell (World.block_lt_of_cell? _ _ k3)).trans k3
        have hts := drop_rev trC cs r (by rw [HN.out]; omega)
        have hlen : ((cs.drop (r + 1)).reverse.map trC).length ≤ 10 := by rw [List.length_map, List.length_reverse, List.length_drop, HN.out]; omega
        obtain ⟨K, hK⟩ : ∃ K, (cs.getD r rc0).k = K := ⟨_, rfl⟩
        obtain ⟨L, hL⟩ : ∃ L, (cs.getD r rc0).l = L := ⟨_, rfl⟩
        obtain ⟨V, hV⟩ : ∃ V, (cs.getD r rc0).w = V := ⟨_, rfl⟩
        have hoc : trC (cs.getD r rc0) = ⟨if K.toList = [117] then kD else if K.toList = [100] then kU else K, L, V⟩ := by unfold trC; rw [hK, hL, hV]
        rw [hoc] at hts
        rw [hK] at c1; rw [hL] at c2; rw [hV] at c3
        obtain ⟨d1, d2, d3⟩ := chip_box wr K L V 35
        obtain ⟨xs, hxs⟩ : ∃ xs, (cs.drop (r + 1)).reverse.map trC = xs := ⟨_, rfl⟩
        rw [hxs] at hC hts hlen
        have HC := Lib.hid hC
        have HTS := Lib.hid hts
        have HLEN := Lib.hid hlen
        have hsz := hC.since.size
        have hw2 : IntKind.i64.wrap ((r : Int) - 1) = (r : Int) - 1 := IntWalk.i64_in _ ⟨by omega, by omega⟩
        clear k1 k2 k3 hts hlen hK hL hV hoc hC hxs
        by_cases hu : K.toList = [117]
        · rw [if_pos hu] at HTS
          have HE := Lib.hid (show wr.Since wr.heap.size ((wr.alloc (.cells #[.string kD, .int .i64 L, .int .i64 V] 35)).alloc (.cells #[.string kD, .int .i64 L, .int .i64 V] 35)) from ((World.Since.refl _ _).alloc (Nat.le_refl _) _).alloc (by simp) _)
          go_wp2_with (at_builtin; (refine wpList_append_own _ rfl _ _ 23 rfl w.heap.size 35 iC (.agg #[.string ⟨#[]⟩, .int .i64 0, .int .i64 0]) 3 32 Try.underlying23 HI.out.1 HI.out.2.1 HI.out.2.2.1 HI.out.2.2.2 rfl (by decide) _ _ _ rfl ((HC.out.later HE.out).own) ⟨wr.heap.size + 1, 0, none⟩ 1 1 (ch3 [⟨kD, L, V⟩]) rfl rfl (by have := news3 (wr.alloc (.cells #[.string kD, .int .i64 L, .int .i64 V] 35)) ⟨kD, L, V⟩ 35; simpa using this) (ch3_one _) (by have := HLEN.out; unfold maxLen; omega) (by have := HLEN.out; omega) (by simp; omega) ?_); intro v' w1 hown' hgrow _)
          have hP := HC.out.push (ds := [⟨kD, L, V⟩]) rfl HE.out hown' hgrow
          have HP := Lib.hid hP
          clear hP hown' hgrow
          go_roundg r
          case measure => omega
          case rel => exact ⟨r, _, by omega, rfl, rfl, by omega, by rw [HTS.out]; exact HP.out⟩
        · rw [if_neg hu] at HTS
          have hub : (K.toList == [117]) = false := by simpa using hu
          by_cases hd : K.toList = [100]
          · rw [if_pos hd] at HTS
            clear hu hub
            have HE := Lib.hid (show wr.Since wr.heap.size ((wr.alloc (.cells #[.string kU, .int .i64 L, .int .i64 V] 35)).alloc (.cells #[.string kU, .int .i64 L, .int .i64 V] 35)) from ((World.Since.refl _ _).alloc (Nat.le_refl _) _).alloc (by simp) _)
            go_wp2_with (at_builtin; (refine wpList_append_own _ rfl _ _ 23 rfl w.heap.size 35 iC (.agg #[.string ⟨#[]⟩, .int .i64 0, .int .i64 0]) 3 32 Try.underlying23 HI.out.1 HI.out.2.1 HI.out.2.2.1 HI.out.2.2.2 rfl (by decide) _ _ _ rfl ((HC.out.later HE.out).own) ⟨wr.heap.size + 1, 0, none⟩ 1 1 (ch3 [⟨kU, L, V⟩]) rfl rfl (by have := news3 (wr.alloc (.cells #[.string kU, .int .i64 L, .int .i64 V] 35)) ⟨kU, L, V⟩ 35; simpa using this) (ch3_one _) (by have := HLEN.out; unfold maxLen; omega) (by have := HLEN.out; omega) (by simp; omega) ?_); intro v' w1 hown' hgrow _)
            have hP := HC.out.push (ds := [⟨kU, L, V⟩]) rfl HE.out hown' hgrow
            have HP := Lib.hid hP
            clear hP hown' hgrow
            go_roundg r
            case measure => omega
            case rel => exact ⟨r, _, by omega, rfl, rfl, by omega, by rw [HTS.out]; exact HP.out⟩
          · rw [if_neg hd] at HTS
            have hdb : (K.toList == [100]) = false := by simpa using hd
            clear hu hd
            have HE := Lib.hid (show wr.Since wr.heap.size ((wr.alloc (.cells #[.string K, .int .i64 L, .int .i64 V] 35)).alloc (.cells #[.string K, .int .i64 L, .int .i64 V] 35)) from ((World.Since.refl _ _).alloc (Nat.le_refl _) _).alloc (by simp) _)
            go_wp2_with (at_builtin; (refine wpList_append_own _ rfl _ _ 23 rfl w.heap.size 35 iC (.agg #[.string ⟨#[]⟩, .int .i64 0, .int .i64 0]) 3 32 Try.underlying23 HI.out.1 HI.out.2.1 HI.out.2.2.1 HI.out.2.2.2 rfl (by decide) _ _ _ rfl ((HC.out.later HE.out).own) ⟨wr.heap.size + 1, 0, none⟩ 1 1 (ch3 [⟨K, L, V⟩]) rfl rfl (by have := news3 (wr.alloc (.cells #[.string K, .int .i64 L, .int .i64 V] 35)) ⟨K, L, V⟩ 35; simpa using this) (ch3_one _) (by have := HLEN.out; unfold maxLen; omega) (by have := HLEN.out; omega) (by simp; omega) ?_); intro v' w1 hown' hgrow _)
            have hP := HC.out.push (ds := [⟨K, L, V⟩]) rfl HE.out hown' hgrow
            have HP := Lib.hid hP
            clear hP hown' hgrow
            go_roundg r
            case measure => omega
            case rel => exact ⟨r, _, by omega, rfl, rfl, by omega, by rw [HTS.out]; exact HP.out⟩
      · obtain rfl : k = 0 := by omega
        obtain rfl : z = -1 := by omega
        obtain ⟨a', cap', rfl, hO, h1, h2⟩ := hC.ownC
        have hlen : ((cs.drop 0).reverse.map trC).length = N := by rw [List.length_map, List.length_reverse, List.drop_zero, HN.out]
        rw [hlen] at h1 ⊢
        rw [List.drop_zero] at hO
        have HO := Lib.hid hO.inC
        have HS := Lib.hid hC.since
        clear hO hC hlen hz hlt
        go_wp2
        go_ret2
        exact ⟨_, _, rfl, HS.out, HO.out, h1, h2⟩

noncomputable def joinB (n : Int) (cs ds : List RC) : Bool := netB n cs && (netB n ds && decide (cs.length + ds.length ≤ 10))

set_option maxRecDepth 100000 in
set_option maxHeartbeats 1000000 in
theorem specNetJoin_any (a : Option Addr) (cap N : Nat) (a2 : Option Addr) (cap2 N2 : Nat) (n : Int) (cs ds : List RC) (w : World) (hN : cs.length = N) (h63 : N ≤ 9223372036854775807) (hm : ChipsR w a cs) (hN2 : ds.length = N2) (h632 : N2 ≤ 9223372036854775807) (hm2 : ChipsR w a2 ds) (hsa : ∃ b o, a = some ⟨b, o, none⟩) (hsa2 : ∃ b o, a2 = some ⟨b, o, none⟩) :
    Calls Try.prog 37 #[.int .i64 n, .slice a N cap, .slice a2 N2 cap2] w fun e w' => ∃ a' cap', e = .returned (.tuple #[.slice a' (resC (joinB n cs ds) (cs ++ ds)).length cap', .bool (joinB n cs ds)]) ∧ w.Since w.heap.size w' ∧ InC w.heap.size w'.heap.size w' a' (resC (joinB n cs ds) (cs ++ ds)) ∧ (resC (joinB n cs ds) (cs ++ ds)).length ≤ cap' ∧ cap' ≤ 9223372036854775807 := by
  have E := specNetIn_any a cap N n cs w hN h63 hm
  have E2 := fun (W : World) (hs : w.Since w.heap.size W) => specNetIn_any a2 cap2 N2 n ds W hN2 h632 (hm2.since hs)
  obtain ⟨b1, hb1⟩ : ∃ b, netB n cs = b := ⟨_, rfl⟩
  obtain ⟨b2, hb2⟩ : ∃ b, netB n ds = b := ⟨_, rfl⟩
  have hjb : joinB n cs ds = (b1 && (b2 && decide (N + N2 ≤ 10))) := by unfold joinB; rw [hb1, hb2, hN, hN2]
  rw [hb1] at E
  simp only [hb2] at E2
  replace E := Lib.hid E
  replace E2 := Lib.hid E2
  by_cases hbb : b1 = true ∧ b2 = true
  · obtain ⟨rfl, rfl⟩ := hbb
    obtain ⟨m, rfl, ho⟩ := netB_ok hb1
    obtain ⟨m2, hmm, ho2⟩ := netB_ok hb2
    have h10 := ho.len
    have h102 := ho2.len
    rw [hN] at h10
    rw [hN2] at h102
    have hw1 : IntKind.i64.wrap ((N : Int) + (N2 : Int)) = (N : Int) + (N2 : Int) := IntWalk.i64_in _ ⟨by omega, by omega⟩
    rw [Bool.true_and, Bool.true_and] at hjb
    by_cases hle : N + N2 ≤ 10
    · rw [decide_eq_true hle] at hjb
      rw [hjb]
      have hres : resC true (cs ++ ds) = cs ++ ds := rfl
      have hl : (cs ++ ds).length = N + N2 := by rw [List.length_append, hN, hN2]
      rw [hres, hl]
      have hg : decide ((10 : Int) < (N : Int) + (N2 : Int)) = false := by simp; omega
      obtain ⟨iC, hiC⟩ := infoChip_parts
      have HI := Lib.hid hiC
      have HN := Lib.hid hN
      have HN2 := Lib.hid hN2
      obtain ⟨b, o, rfl⟩ := hsa
      obtain ⟨b2, o2, rfl⟩ := hsa2
      have HA := Lib.hid (fun (W : World) (hs : w.Since w.heap.size W) => hm.cells hs)
      have HA2 := Lib.hid (fun (W : World) (hs : w.Since w.heap.size W) => hm2.cells hs)
      have HCB := Lib.hid (fun (W : World) => cb_start W #[] rfl)
      clear hb1 hb2 hm hm2 hN hN2 hl hres hiC ho ho2 hmm hjb
      go_enter Try.func37, Try.ntmps37
      go_wp2_with (first
        | (go_at_call 16; ((with_reducible refine (E.out).mono ?_); rintro e w1 ⟨rfl, hs1⟩; have HS1 := Lib.hid hs1; clear hs1))
        | (go_at_call 16; ((with_reducible refine (E2.out _ HS1.out).mono ?_); rintro e w2 ⟨rfl, hs2⟩; have HS2 := Lib.hid (HS1.out.trans (since_mono hs2 HS1.out.size)); clear hs2))
        | (at_builtin; (refine wpList_append_own _ rfl _ _ 23 rfl w2.heap.size 35 iC (.agg #[.string ⟨#[]⟩, .int .i64 0, .int .i64 0]) 3 32 Try.underlying23 HI.out.1 HI.out.2.1 HI.out.2.2.1 HI.out.2.2.2 rfl (by decide) (.slice (some ⟨w2.heap.size, 0, none⟩) 0 0) 0 [] rfl (HCB.out w2).own ⟨b, o, none⟩ N cap (ch3 cs) rfl (by rw [ch3_length, HN.out]) (HA.out _ (HS2.out.alloc HS2.out.size _)) (ch3_one _) (by unfold maxLen; omega) (by omega) (by simp) ?_); intro v' w3 hown' hgrow _; have HC3 := Lib.hid (CB.push (HCB.out w2) (ds := cs) (n := 0 + N) (by rw [HN.out]; rfl) (World.Since.refl _ _) hown' hgrow); clear hown' hgrow)
        | (at_builtin; (refine wpList_append_own _ rfl _ _ 23 rfl w2.heap.size 35 iC (.agg #[.string ⟨#[]⟩, .int .i64 0, .int .i64 0]) 3 32 Try.underlying23 HI.out.1 HI.out.2.1 HI.out.2.2.1 HI.out.2.2.2 rfl (by decide) _ _ _ rfl HC3.out.own ⟨b2, o2, none⟩ N2 cap2 (ch3 ds) rfl (by rw [ch3_length, HN2.out]) (HA2.out _ (HS2.out.trans (since_mono HC3.out.since HS2.out.size))) (ch3_one _) (by rw [List.nil_append, HN.out]; unfold maxLen; omega) (by rw [List.nil_append, HN.out]; omega) HC3.out.since.size ?_); intro v'' w4 hown' hgrow _; have HC4 := Lib.hid (CB.push HC3.out (ds := ds) (n := ([] ++ cs).length + N2) (by rw [HN2.out]) (World.Since.refl _ _) hown' hgrow); clear hown' hgrow))
      obtain ⟨a', cap', rfl, hO, h1, h2⟩ := HC4.out.ownC
      rw [List.nil_append] at hO h1 ⊢
      have hl : (cs ++ ds).length = N + N2 := by rw [List.length_append, HN.out, HN2.out]
      rw [hl] at h1 ⊢
      have HO := Lib.hid hO.inC
      have HS := Lib.hid (HS2.out.trans (since_mono HC4.out.since HS2.out.size))
      clear hO hl HC3 HC4
      go_wp2
      go_ret2
      exact ⟨_, _, rfl, HS.out, HO.out.mono HS2.out.size (Nat.le_refl _), h1, h2⟩
    · rw [decide_eq_false hle] at hjb
      rw [hjb]
      have hg : decide ((10 : Int) < (N : Int) + (N2 : Int)) = true := by simp; omega
      clear hb1 hb2 hm hm2 hN hN2 ho ho2 hmm hjb hle
      go_enter Try.func37, Try.ntmps37
      go_wp2_with (first
        | (go_at_call 16; ((with_reducible refine (E.out).mono ?_); rintro e w1 ⟨rfl, hs1⟩; have HS1 := Lib.hid hs1; clear hs1))
        | (go_at_call 16; ((with_reducible refine (E2.out _ HS1.out).mono ?_); rintro e w2 ⟨rfl, hs2⟩; have HS2 := Lib.hid (HS1.out.trans (since_mono hs2 HS1.out.size)); clear hs2)))
      go_ret2
      exact ⟨_, _, rfl, HS2.out.alloc HS2.out.size _, InC.nil _ _ _ _, Nat.le_refl _, by decide⟩
  · have hj : joinB n cs ds = false := by rw [hjb]; cases b1 <;> cases b2 <;> simp at hbb ⊢
    rw [hj]
    clear hb1 hb2 hm hm2 hN hN2 hjb hj
    cases b1 <;> cases b2
    case true.true => exact absurd ⟨rfl, rfl⟩ hbb
    all_goals
      clear hbb
      go_enter Try.func37, Try.ntmps37
      go_wp2_with (first
        | (go_at_call 16; ((with_reducible refine (E.out).mono ?_); rintro e w1 ⟨rfl, hs1⟩; have HS1 := Lib.hid hs1; clear hs1))
        | (go_at_call 16; ((with_reducible refine (E2.out _ HS1.out).mono ?_); rintro e w2 ⟨rfl, hs2⟩; have HS2 := Lib.hid (HS1.out.trans (since_mono hs2 HS1.out.size)); clear hs2)))
      go_ret2
      first
        | exact ⟨_, _, rfl, HS2.out.alloc HS2.out.size _, InC.nil _ _ _ _, Nat.le_refl _, by decide⟩
        | exact ⟨_, _, rfl, HS1.out.alloc HS1.out.size _, InC.nil _ _ _ _, Nat.le_refl _, by decide⟩

end Go.Proofs.Ytggmiojhglkcgaa
end

section
namespace Go.Proofs.Ytggmiojhglkcgaa
open Go.RowKit Go.Deep

def partF (f : Nat → Nat → Int) (n2 k j c : Nat) : Int := if c < k then sumN (f c) n2 else if c = k then sumN (f k) j else 0

structure MR (wo wr : World) (m2 : Nat) (f : Nat → Nat → Int) (n2 k j : Nat) : Prop where
  since : wo.Since wo.heap.size wr
  row : wr.rowIs wo.heap.size 3 m2 (fun c => .int .i64 (partF f n2 k j c))
theorem mr_start (wo : World) (m2 : Nat) (f : Nat → Nat → Int) (n2 : Nat) : MR wo (wo.alloc (.cells (madeCells #[.int .i64 0] m2) 3)) m2 f n2 0 0 :=
  ⟨(World.Since.refl _ _).alloc (Nat.le_refl _) _, (World.rowIs_made wo (.int .i64 0) m2 3).congr fun c _ => by
    unfold partF
    rw [if_neg (by omega)]
    by_cases e : c = 0
    · rw [if_pos e]; rfl
    · rw [if_neg e]⟩
theorem MR.facts {wo wr : World} {m2 n2 k j : Nat} {f : Nat → Nat → Int} (h : MR wo wr m2 f n2 k j) (hk : k < m2) : wr.cell? ⟨wo.heap.size, k, none⟩ = some (.int .i64 (sumN (f k) j)) ∧ wr.frozen? ⟨wo.heap.size, k, none⟩ = false := by
  refine ⟨?_, h.row.frozen k⟩
  have := h.row.cell hk
  unfold partF at this
  rw [if_neg (by omega), if_pos rfl] at this
  exact this
theorem MR.store {wo wr : World} {m2 n2 k j : Nat} {f : Nat → Nat → Int} (h : MR wo wr m2 f n2 k j) (q : Nat) (hk : k < m2) : MR wo ((wr.drewN q).setCell ⟨wo.heap.size, k, none⟩ (.int .i64 (sumN (f k) (j + 1)))) m2 f n2 k (j + 1) := by
  have hr : (wr.drewN q).rowIs wo.heap.size 3 m2 (fun c => .int .i64 (partF f n2 k j c)) := h.row
  refine ⟨(since_drewN h.since q).setCell (Nat.le_refl _) _, (hr.set k _).congr fun c _ => ?_⟩
  unfold partF
  by_cases e : c = k
  · subst e; simp
  · rw [if_neg e]
    by_cases e2 : c < k
    · rw [if_pos e2, if_pos e2]
    · rw [if_neg e2, if_neg e, if_neg e2, if_neg e]
theorem MR.next {wo wr : World} {m2 n2 k : Nat} {f : Nat → Nat → Int} (h : MR wo wr m2 f n2 k n2) : MR wo wr m2 f n2 (k + 1) 0 := by
  refine ⟨h.since, h.row.congr fun c _ => ?_⟩
  unfold partF
  by_cases e2 : c < k
  · rw [if_pos e2, if_pos (by omega)]
  · rw [if_neg e2]
    by_cases e : c = k
    · subst e; simp
    · rw [if_neg e, if_neg (by omega)]
      by_cases e3 : c = k + 1
      · rw [if_pos e3]; rfl
      · rw [if_neg e3]
theorem MR.rowB {wo wr : World} {m2 n2 : Nat} {f : Nat → Nat → Int} (h : MR wo wr m2 f n2 m2 0) : RowB wr wo.heap.size ((List.range m2).map fun c => sumN (f c) n2) :=
  RowB.of_rowIs h.row (by simp) fun i hi => by
    simp at hi
    unfold partF
    rw [if_pos hi]
    simp [List.getD, hi]

def makeTo (l u : List (List Int)) (m2 n2 i : Nat) : List (List Int) := tabF i m2 fun i k => sumN (dotF l u i k) n2
theorem makeTo_succ (l u : List (List Int)) (m2 n2 i : Nat) : makeTo l u m2 n2 (i + 1) = makeTo l u m2 n2 i ++ [(List.range m2).map fun k => sumN (dotF l u i k) n2] := by simp [makeTo, tabF, List.range_succ]
theorem makeTo_length (l u : List (List Int)) (m2 n2 i : Nat) : (makeTo l u m2 n2 i).length = i := tabF_length _ _ _
theorem sumN_bd (f : Nat → Int) : ∀ (n : Nat), (∀ j, j < n → -900 ≤ f j ∧ f j ≤ 900) → -(900 * (n : Int)) ≤ sumN f n ∧ sumN f n ≤ 900 * (n : Int)
  | 0, _ => by simp [sumN]
  | n + 1, h => by
    have h1 := sumN_bd f n (fun j hj => h j (by omega))
    have h2 := h n (by omega)
    unfold sumN
    omega

set_option maxRecDepth 100000 in
set_option maxHeartbeats 4000000 in
theorem l1Make_any (a a2 : Option Addr) (cap cap2 n n2 : Nat) (l u : List (List Int)) (w : World) (hn : l.length = n) (hu : u.length = n2) (hm : MatR w a l) (hmu : MatR w a2 u) (hT : TabIn l) (hTu : TabIn u) (hmm : (l.getD 0 []).length = n2) :
    Calls Try.prog 67 #[.slice a n cap, .slice a2 n2 cap2] w fun e w' => ∃ a' cap', e = .returned (.slice a' n cap') ∧ w.Since w.heap.size w' ∧ OwnT w.heap.size w'.heap.size w' a' (makeL l u) := by
  obtain ⟨i42, hi42⟩ := info42_parts
  have HI := Lib.hid hi42
  clear hi42
  have hst := bt_start w (fun _ => none) (fun _ => 0) #[] rfl
  have h6 := hT.2.1
  have h1 := hT.1
  have g6 := hTu.2.1
  have g1 := hTu.1
  have gw := hTu.width
  rw [hn] at h6 h1
  rw [hu] at g6 g1
  obtain ⟨m2, hmm2⟩ : ∃ m, (u.getD 0 []).length = m := ⟨_, rfl⟩
  have htl : makeL l u = makeTo l u m2 n2 n := by unfold makeL makeTo; rw [hmm2, hn, hu]
  rw [hmm2] at gw
  rw [htl]
  have hmk := run_make_row' (P := Try.prog) 37 3 (.int .i64 0) 8 Try.underlying37 Try.info3 rfl .i64 .i64 m2 (by omega) (by omega)
  obtain ⟨bt, ot, At, Ct, rfl, hlen, hcell⟩ := hm.grid hn hT hmm
  obtain ⟨bu, ou, Au, Cu, rfl, hlenu, hcellu⟩ := hmu.grid hu hTu hmm2
  have hcu0 := hlenu 0 (by omega)
  rw [Nat.add_zero] at hcu0
  have hbul : bu < w.heap.size := World.block_lt_of_cell? _ _ hcu0
  have HC := Lib.hid hcell
  have HCU := Lib.hid hcellu
  have HCU0 := Lib.hid hcu0
  have HMK := Lib.hid hmk
  have hmix : Try.prog.follows .mixedOrders = true := by kernel_rfl
  clear hm hn hmm hlen hcell hT hmu hTu hlenu hcellu hu hmm2 htl hcu0 hmk
  go_enter Try.func67, Try.ntmps67
  go_wp2
  go_loopg [5, 6, 7, 8, 9] n (fun g v i _ _ _ wr => ∃ r : Nat, ∃ A C, r ≤ n ∧ g = n - r ∧ i = .int .i64 r ∧ BT w wr v (makeTo l u m2 n2 r) A C)
  case atStart => exact ⟨0, _, _, Nat.zero_le _, rfl, rfl, hst⟩
  case round =>
    obtain ⟨r, A, C, hr, rfl, rfl, hR⟩ := hrel
    clear hst
    by_cases hlt : r < n
    · have HR := Lib.hid hR
      have hsz := hR.since.size
      have hlen := makeTo_length l u m2 n2 r
      have hc0 := HCU0.out
      rw [← hR.since.cell (a := ⟨bu, ou, none⟩) hbul] at hc0
      have hmr := mr_start wr m2 (dotF l u r) n2
      have HMR := Lib.hid hmr
      have hmk := HMK.out
      obtain ⟨wo, hwo⟩ : ∃ wo : World, wo = wr := ⟨_, rfl⟩
      clear hR hmr
      go_wp2
      clear hmk hc0
      subst hwo
      obtain ⟨g, hg⟩ : ∃ g, wo.heap.size = g := ⟨_, rfl⟩
      rw [hg]
      have HG := Lib.hid hg
      have hwg : w.heap.size ≤ g := by omega
      clear hg
      go_loopg [8, 9] m2 (fun g k _ wi => ∃ c : Nat, c ≤ m2 ∧ g = m2 - c ∧ k = .int .i64 c ∧ MR wo wi m2 (dotF l u r) n2 c 0)
      case atStart => exact ⟨0, Nat.zero_le _, rfl, rfl, HMR.out⟩
      case round =>
        obtain ⟨c, hc, rfl, rfl, hI⟩ := hrel
        clear HMR
        have hS := HR.out.since.trans (since_mono hI.since hsz)
        have hc0 := HCU0.out
        rw [← hS.cell (a := ⟨bu, ou, none⟩) hbul] at hc0
        by_cases hcm : c < m2
        · have HII := Lib.hid hI
          clear hI hS
          go_wp2
          clear hc0
          go_loopg [9] n2 (fun g j wj => ∃ j' : Nat, j' ≤ n2 ∧ g = n2 - j' ∧ j = .int .i64 j' ∧ MR wo wj m2 (dotF l u r) n2 c j')
          case atStart => exact ⟨0, Nat.zero_le _, rfl, rfl, HII.out⟩
          case round =>
            obtain ⟨j, hj, rfl, rfl, hJ⟩ := hrel
            clear HII
            by_cases hjn : j < n2
            · obtain ⟨b1, o1, e1, e2, e3⟩ := HC.out r j hlt hjn
              obtain ⟨d1, q1, f1, f2, f3⟩ := HCU.out j c hjn hcm
              have hS := HR.out.since.trans (since_mono hJ.since hsz)
              obtain ⟨k1, k2⟩ := hJ.facts hcm
              have hzz := HR.out.since.size
              have hb1 : bt < w.heap.size := World.block_lt_of_cell? _ _ e1
              have hb2 : b1 < w.heap.size := World.block_lt_of_cell? _ _ e2
              have hb4 : d1 < w.heap.size := World.block_lt_of_cell? _ _ f2
              rw [← hS.cell (a := ⟨bt, ot + r, none⟩) hb1] at e1
              rw [← hS.cell (a := ⟨b1, o1 + j, none⟩) hb2] at e2
              rw [← hS.cell (a := ⟨bu, ou + j, none⟩) hbul] at f1
              rw [← hS.cell (a := ⟨d1, q1 + c, none⟩) hb4] at f2
              have hbd := sumN_bd (dotF l u r c) j (fun j' hj' => by
                obtain ⟨_, _, _, _, b1⟩ := HC.out r j' hlt (by omega)
                obtain ⟨_, _, _, _, b2⟩ := HCU.out j' c (by omega) hcm
                exact mul_bd2 _ _ b1 b2)
              have hsu : sumN (dotF l u r c) (j + 1) = sumN (dotF l u r c) j + at2 l r j * at2 u j c := rfl
              have hN := fun q => hJ.store q hcm
              rw [hsu] at hN
              obtain ⟨p, hp⟩ : ∃ p, at2 l r j = p := ⟨_, rfl⟩
              obtain ⟨q, hq⟩ : ∃ q, at2 u j c = q := ⟨_, rfl⟩
              obtain ⟨s, hs⟩ : ∃ s, sumN (dotF l u r c) j = s := ⟨_, rfl⟩
              rw [hp] at e2 e3 hN
              rw [hq] at f2 f3 hN
              rw [hs] at k1 hbd hN
              have hpq := mul_bd2 p q e3 f3
              have hw1 : IntKind.i64.wrap (p * q) = p * q := IntWalk.i64_in _ ⟨by omega, by omega⟩
              have hw2 : IntKind.i64.wrap (s + p * q) = s + p * q := IntWalk.i64_in _ ⟨by omega, by omega⟩
              rw [HG.out] at k1 k2 hN
              have m1 := cell_set_ne (g := g) (j := c) (v := .int .i64 (s + p * q)) e1 (show bt ≠ g by omega)
              have m2' := cell_set_ne (g := g) (j := c) (v := .int .i64 (s + p * q)) e2 (show b1 ≠ g by omega)
              have m3 := cell_set_ne (g := g) (j := c) (v := .int .i64 (s + p * q)) f1 (show bu ≠ g by omega)
              have m4 := cell_set_ne (g := g) (j := c) (v := .int .i64 (s + p * q)) f2 (show d1 ≠ g by omega)
              have HN := Lib.hid (hN 1)
              clear hN hJ hp hq hs hsu hS hbd
              go_wp2
              go_still_tail 22, hmix
              go_wp2
              go_roundg (n2 - (j + 1))
              case measure => omega
              case rel => exact ⟨j + 1, by omega, rfl, by go_num, HN.out⟩
            · have hjj : j = n2 := by omega
              subst hjj
              have HNN := Lib.hid hJ.next
              clear hJ
              go_wp2
              go_roundg (m2 - (c + 1))
              case measure => omega
              case rel => exact ⟨c + 1, by omega, rfl, by go_num, HNN.out⟩
        · have hcc : c = m2 := by omega
          subst hcc
          have HII := Lib.hid hI
          have hzi := hI.since.size
          clear hI hS
          go_wp2_with (at_builtin; (refine wpList_append_own _ rfl _ _ 28 rfl w.heap.size 37 i42 (.slice none 0 0) 1 24 Try.underlying28 HI.out.1 HI.out.2.1 HI.out.2.2.1 HI.out.2.2.2 rfl (by decide) _ _ _ rfl ((HR.out.later HII.out.since).own.alloc _) ⟨wr.heap.size, 0, none⟩ 1 1 [.slice (some ⟨g, 0, none⟩) c c] rfl rfl (cell_one_at _ _ _ rfl) (fun x hx => by simp at hx; subst hx; rfl) (by unfold maxLen; omega) (by omega) (by simp; omega) ?_); intro v' w1 hown' hgrow _)
          have hP := (HR.out.later HII.out.since).push (rv := .slice (some ⟨g, 0, none⟩) c c) (x := (List.range c).map fun k => sumN (dotF l u r k) n2) (a := some ⟨g, 0, none⟩) (cp := c) (by simp)
            (fun _ => ⟨g, rfl, hwg, by rw [← HG.out]; exact HII.out.rowB⟩) (fun _ => HR.out.fresh rfl (by rw [HG.out]; exact Nat.le_refl _)) hown' hgrow
          rw [← makeTo_succ] at hP
          have HP := Lib.hid hP
          clear hP hown' hgrow hlen
          go_roundg (n - (r + 1))
          case measure => omega
          case rel => exact ⟨r + 1, _, _, by omega, rfl, by go_num, HP.out⟩
    · have : r = n := by omega
      subst this
      obtain ⟨a, cap, rfl, hin⟩ := hR.ownT
      have HS := Lib.hid hR.since
      clear hR
      go_wp2
      go_ret
      exact ⟨a, cap, by show Ending.returned (.slice a (makeTo l u m2 n2 r).length cap) = _; rw [makeTo_length], HS.out, hin⟩

theorem szL_makeOk (l u : List (List Int)) (h : makeOk l u = true) : szL (makeL l u) ≤ 1048576 := by
  unfold makeOk at h
  rw [Bool.and_eq_true, Bool.and_eq_true] at h
  exact szL_make (tabIn_of h.1) (tabIn_of h.2.1)

end Go.Proofs.Ytggmiojhglkcgaa
end

section
namespace Go.Proofs.Ytggmiojhglkcgaa
open Go.RowKit Go.Deep

theorem MatR.gridR {w : World} {a : Option Addr} {l : List (List Int)} {n m : Nat} (h : MatR w a l) (hn : l.length = n) (hT : Rec l) (hm : (l.getD 0 []).length = m) :
    ∃ (b o : Nat) (A : Nat → Option Addr) (C : Nat → Nat), a = some ⟨b, o, none⟩ ∧ (∀ i, i < n → w.cell? ⟨b, o + i, none⟩ = some (.slice (A i) m (C i))) ∧
      ∀ i j, i < n → j < m → ∃ b' o', w.cell? ⟨b, o + i, none⟩ = some (.slice (some ⟨b', o', none⟩) m (C i)) ∧ w.cell? ⟨b', o' + j, none⟩ = some (.int .i64 (at2 l i j)) := by
  subst hn
  have hrow : ∀ r, r < l.length → (l.getD r []).length = m := fun r hr => by rw [hT.row hr, hm]
  obtain ⟨b, o, A, C, e, hc⟩ := h hT.low
  refine ⟨b, o, A, C, e, fun i hi => by rw [(hc i hi).1, hrow i hi], fun i j hi hj => ?_⟩
  obtain ⟨hc1, hc2⟩ := hc i hi
  have hrl := hrow i hi
  obtain ⟨b', o', e', h3⟩ := hc2 (by omega)
  rw [e', hrl] at hc1
  exact ⟨b', o', hc1, h3 j (by omega)⟩

set_option maxRecDepth 100000 in
set_option maxHeartbeats 4000000 in
theorem productR_any (a a2 : Option Addr) (cap cap2 n n2 : Nat) (l u : List (List Int)) (w : World) (hn : l.length = n) (hu : u.length = n2) (hm : MatR w a l) (hmu : MatR w a2 u) (hT : Rec l) (hTu : Rec u) (hmm : (l.getD 0 []).length = n2) (hB : ∀ i j k, i < n → j < n2 → k < (u.getD 0 []).length → -1000000000000 ≤ at2 l i j * at2 u j k ∧ at2 l i j * at2 u j k ≤ 1000000000000) :
    Calls Try.prog 38 #[.slice a n cap, .slice a2 n2 cap2] w fun e w' => ∃ a' cap', e = .returned (.slice a' n cap') ∧ w.Since w.heap.size w' ∧ OwnT w.heap.size w'.heap.size w' a' (makeL l u) := by
  obtain ⟨i42, hi42⟩ := info42_parts
  have HI := Lib.hid hi42
  clear hi42
  have hst := bt_start w (fun _ => none) (fun _ => 0) #[] rfl
  have h6 := hT.high
  have h1 := hT.low
  have g6 := hTu.high
  have g1 := hTu.low
  have gw := hTu.width
  rw [hn] at h6 h1
  rw [hu] at g6 g1
  obtain ⟨m2, hmm2⟩ : ∃ m, (u.getD 0 []).length = m := ⟨_, rfl⟩
  have htl : makeL l u = makeTo l u m2 n2 n := by unfold makeL makeTo; rw [hmm2, hn, hu]
  rw [hmm2] at gw hB
  have HB := Lib.hid hB
  clear hB
  rw [htl]
  have hmk := run_make_row' (P := Try.prog) 37 3 (.int .i64 0) 8 Try.underlying37 Try.info3 rfl .i64 .i64 m2 (by omega) (by omega)
  obtain ⟨bt, ot, At, Ct, rfl, hlen, hcell⟩ := hm.gridR hn hT hmm
  obtain ⟨bu, ou, Au, Cu, rfl, hlenu, hcellu⟩ := hmu.gridR hu hTu hmm2
  have hcu0 := hlenu 0 (by omega)
  rw [Nat.add_zero] at hcu0
  have hbul : bu < w.heap.size := World.block_lt_of_cell? _ _ hcu0
  have HC := Lib.hid hcell
  have HCU := Lib.hid hcellu
  have HCU0 := Lib.hid hcu0
  have HMK := Lib.hid hmk
  have hmix : Try.prog.follows .mixedOrders = true := by kernel_rfl
  clear hm hn hmm hlen hcell hT hmu hTu hlenu hcellu hu hmm2 htl hcu0 hmk
  go_enter Try.func38, Try.ntmps38
  go_wp2
  go_loopg [5, 6, 7, 8, 9] n (fun g v i _ _ _ wr => ∃ r : Nat, ∃ A C, r ≤ n ∧ g = n - r ∧ i = .int .i64 r ∧ BT w wr v (makeTo l u m2 n2 r) A C)
  case atStart => exact ⟨0, _, _, Nat.zero_le _, rfl, rfl, hst⟩
  case round =>
    obtain ⟨r, A, C, hr, rfl, rfl, hR⟩ := hrel
    clear hst
    by_cases hlt : r < n
    · have HR := Lib.hid hR
      have hsz := hR.since.size
      have hlen := makeTo_length l u m2 n2 r
      have hc0 := HCU0.out
      rw [← hR.since.cell (a := ⟨bu, ou, none⟩) hbul] at hc0
      have hmr := mr_start wr m2 (dotF l u r) n2
      have HMR := Lib.hid hmr
      have hmk := HMK.out
      obtain ⟨wo, hwo⟩ : ∃ wo : World, wo = wr := ⟨_, rfl⟩
      clear hR hmr
      go_wp2
      clear hmk hc0
      subst hwo
      obtain ⟨g, hg⟩ : ∃ g, wo.heap.size = g := ⟨_, rfl⟩
      rw [hg]
      have HG := Lib.hid hg
      have hwg : w.heap.size ≤ g := by omega
      clear hg
      go_loopg [8, 9] m2 (fun g k _ wi => ∃ c : Nat, c ≤ m2 ∧ g = m2 - c ∧ k = .int .i64 c ∧ MR wo wi m2 (dotF l u r) n2 c 0)
      case atStart => exact ⟨0, Nat.zero_le _, rfl, rfl, HMR.out⟩
      case round =>
        obtain ⟨c, hc, rfl, rfl, hI⟩ := hrel
        clear HMR
        have hS := HR.out.since.trans (since_mono hI.since hsz)
        have hc0 := HCU0.out
        rw [← hS.cell (a := ⟨bu, ou, none⟩) hbul] at hc0
        by_cases hcm : c < m2
        · have HII := Lib.hid hI
          clear hI hS
          go_wp2
          clear hc0
          go_loopg [9] n2 (fun g j wj => ∃ j' : Nat, j' ≤ n2 ∧ g = n2 - j' ∧ j = .int .i64 j' ∧ MR wo wj m2 (dotF l u r) n2 c j')
          case atStart => exact ⟨0, Nat.zero_le _, rfl, rfl, HII.out⟩
          case round =>
            obtain ⟨j, hj, rfl, rfl, hJ⟩ := hrel
            clear HII
            by_cases hjn : j < n2
            · obtain ⟨b1, o1, e1, e2⟩ := HC.out r j hlt hjn
              obtain ⟨d1, q1, f1, f2⟩ := HCU.out j c hjn hcm
              have hS := HR.out.since.trans (since_mono hJ.since hsz)
              obtain ⟨k1, k2⟩ := hJ.facts hcm
              have hzz := HR.out.since.size
              have hb1 : bt < w.heap.size := World.block_lt_of_cell? _ _ e1
              have hb2 : b1 < w.heap.size := World.block_lt_of_cell? _ _ e2
              have hb4 : d1 < w.heap.size := World.block_lt_of_cell? _ _ f2
              rw [← hS.cell (a := ⟨bt, ot + r, none⟩) hb1] at e1
              rw [← hS.cell (a := ⟨b1, o1 + j, none⟩) hb2] at e2
              rw [← hS.cell (a := ⟨bu, ou + j, none⟩) hbul] at f1
              rw [← hS.cell (a := ⟨d1, q1 + c, none⟩) hb4] at f2
              have hbd := sumN_bdB (f := dotF l u r c) (B := 1000000000000) j (fun j' hj' => HB.out r j' c hlt (by omega) hcm)
              have hpq := HB.out r j c hlt hjn hcm
              have hsu : sumN (dotF l u r c) (j + 1) = sumN (dotF l u r c) j + at2 l r j * at2 u j c := rfl
              have hN := fun q => hJ.store q hcm
              rw [hsu] at hN
              obtain ⟨p, hp⟩ : ∃ p, at2 l r j = p := ⟨_, rfl⟩
              obtain ⟨q, hq⟩ : ∃ q, at2 u j c = q := ⟨_, rfl⟩
              obtain ⟨s, hs⟩ : ∃ s, sumN (dotF l u r c) j = s := ⟨_, rfl⟩
              rw [hp] at e2 hpq hN
              rw [hq] at f2 hpq hN
              rw [hs] at k1 hbd hN
              have hw1 : IntKind.i64.wrap (p * q) = p * q := IntWalk.i64_in _ ⟨by omega, by omega⟩
              have hw2 : IntKind.i64.wrap (s + p * q) = s + p * q := IntWalk.i64_in _ ⟨by omega, by omega⟩
              rw [HG.out] at k1 k2 hN
              have m1 := cell_set_ne (g := g) (j := c) (v := .int .i64 (s + p * q)) e1 (show bt ≠ g by omega)
              have m2' := cell_set_ne (g := g) (j := c) (v := .int .i64 (s + p * q)) e2 (show b1 ≠ g by omega)
              have m3 := cell_set_ne (g := g) (j := c) (v := .int .i64 (s + p * q)) f1 (show bu ≠ g by omega)
              have m4 := cell_set_ne (g := g) (j := c) (v := .int .i64 (s + p * q)) f2 (show d1 ≠ g by omega)
              have HN := Lib.hid (hN 1)
              clear hN hJ hp hq hs hsu hS hbd
              go_wp2
              go_still_tail 22, hmix
              go_wp2
              go_roundg (n2 - (j + 1))
              case measure => omega
              case rel => exact ⟨j + 1, by omega, rfl, by go_num, HN.out⟩
            · have hjj : j = n2 := by omega
              subst hjj
              have HNN := Lib.hid hJ.next
              clear hJ
              go_wp2
              go_roundg (m2 - (c + 1))
              case measure => omega
              case rel => exact ⟨c + 1, by omega, rfl, by go_num, HNN.out⟩
        · have hcc : c = m2 := by omega
          subst hcc
          have HII := Lib.hid hI
          have hzi := hI.since.size
          clear hI hS
          go_wp2_with (at_builtin; (refine wpList_append_own _ rfl _ _ 28 rfl w.heap.size 37 i42 (.slice none 0 0) 1 24 Try.underlying28 HI.out.1 HI.out.2.1 HI.out.2.2.1 HI.out.2.2.2 rfl (by decide) _ _ _ rfl ((HR.out.later HII.out.since).own.alloc _) ⟨wr.heap.size, 0, none⟩ 1 1 [.slice (some ⟨g, 0, none⟩) c c] rfl rfl (cell_one_at _ _ _ rfl) (fun x hx => by simp at hx; subst hx; rfl) (by unfold maxLen; omega) (by omega) (by simp; omega) ?_); intro v' w1 hown' hgrow _)
          have hP := (HR.out.later HII.out.since).push (rv := .slice (some ⟨g, 0, none⟩) c c) (x := (List.range c).map fun k => sumN (dotF l u r k) n2) (a := some ⟨g, 0, none⟩) (cp := c) (by simp)
            (fun _ => ⟨g, rfl, hwg, by rw [← HG.out]; exact HII.out.rowB⟩) (fun _ => HR.out.fresh rfl (by rw [HG.out]; exact Nat.le_refl _)) hown' hgrow
          rw [← makeTo_succ] at hP
          have HP := Lib.hid hP
          clear hP hown' hgrow hlen
          go_roundg (n - (r + 1))
          case measure => omega
          case rel => exact ⟨r + 1, _, _, by omega, rfl, by go_num, HP.out⟩
    · have : r = n := by omega
      subst this
      obtain ⟨a, cap, rfl, hin⟩ := hR.ownT
      have HS := Lib.hid hR.since
      clear hR
      go_wp2
      go_ret
      exact ⟨a, cap, by show Ending.returned (.slice a (makeTo l u m2 n2 r).length cap) = _; rw [makeTo_length], HS.out, hin⟩

end Go.Proofs.Ytggmiojhglkcgaa
end

section
namespace Go.Proofs.Ytggmiojhglkcgaa
open Go.RowKit Go.Deep

set_option maxRecDepth 100000 in
set_option maxHeartbeats 4000000 in
theorem l1MakeR_any (a a2 : Option Addr) (cap cap2 n n2 : Nat) (l u : List (List Int)) (w : World) (hn : l.length = n) (hu : u.length = n2) (hm : MatR w a l) (hmu : MatR w a2 u) (hT : Rec l) (hTu : Rec u) (hmm : (l.getD 0 []).length = n2) (hB : ∀ i j k, i < n → j < n2 → k < (u.getD 0 []).length → -1000000000000 ≤ at2 l i j * at2 u j k ∧ at2 l i j * at2 u j k ≤ 1000000000000) :
    Calls Try.prog 67 #[.slice a n cap, .slice a2 n2 cap2] w fun e w' => ∃ a' cap', e = .returned (.slice a' n cap') ∧ w.Since w.heap.size w' ∧ OwnT w.heap.size w'.heap.size w' a' (makeL l u) := by
  obtain ⟨i42, hi42⟩ := info42_parts
  have HI := Lib.hid hi42
  clear hi42
  have hst := bt_start w (fun _ => none) (fun _ => 0) #[] rfl
  have h6 := hT.high
  have h1 := hT.low
  have g6 := hTu.high
  have g1 := hTu.low
  have gw := hTu.width
  rw [hn] at h6 h1
  rw [hu] at g6 g1
  obtain ⟨m2, hmm2⟩ : ∃ m, (u.getD 0 []).length = m := ⟨_, rfl⟩
  have htl : makeL l u = makeTo l u m2 n2 n := by unfold makeL makeTo; rw [hmm2, hn, hu]
  rw [hmm2] at gw hB
  have HB := Lib.hid hB
  clear hB
  rw [htl]
  have hmk := run_make_row' (P := Try.prog) 37 3 (.int .i64 0) 8 Try.underlying37 Try.info3 rfl .i64 .i64 m2 (by omega) (by omega)
  obtain ⟨bt, ot, At, Ct, rfl, hlen, hcell⟩ := hm.gridR hn hT hmm
  obtain ⟨bu, ou, Au, Cu, rfl, hlenu, hcellu⟩ := hmu.gridR hu hTu hmm2
  have hcu0 := hlenu 0 (by omega)
  rw [Nat.add_zero] at hcu0
  have hbul : bu < w.heap.size := World.block_lt_of_cell? _ _ hcu0
  have HC := Lib.hid hcell
  have HCU := Lib.hid hcellu
  have HCU0 := Lib.hid hcu0
  have HMK := Lib.hid hmk
  have hmix : Try.prog.follows .mixedOrders = true := by kernel_rfl
  clear hm hn hmm hlen hcell hT hmu hTu hlenu hcellu hu hmm2 htl hcu0 hmk
  go_enter Try.func67, Try.ntmps67
  go_wp2
  go_loopg [5, 6, 7, 8, 9] n (fun g v i _ _ _ wr => ∃ r : Nat, ∃ A C, r ≤ n ∧ g = n - r ∧ i = .int .i64 r ∧ BT w wr v (makeTo l u m2 n2 r) A C)
  case atStart => exact ⟨0, _, _, Nat.zero_le _, rfl, rfl, hst⟩
  case round =>
    obtain ⟨r, A, C, hr, rfl, rfl, hR⟩ := hrel
    clear hst
    by_cases hlt : r < n
    · have HR := Lib.hid hR
      have hsz := hR.since.size
      have hlen := makeTo_length l u m2 n2 r
      have hc0 := HCU0.out
      rw [← hR.since.cell (a := ⟨bu, ou, none⟩) hbul] at hc0
      have hmr := mr_start wr m2 (dotF l u r) n2
      have HMR := Lib.hid hmr
      have hmk := HMK.out
      obtain ⟨wo, hwo⟩ : ∃ wo : World, wo = wr := ⟨_, rfl⟩
      clear hR hmr
      go_wp2
      clear hmk hc0
      subst hwo
      obtain ⟨g, hg⟩ : ∃ g, wo.heap.size = g := ⟨_, rfl⟩
      rw [hg]
      have HG := Lib.hid hg
      have hwg : w.heap.size ≤ g := by omega
      clear hg
      go_loopg [8, 9] m2 (fun g k _ wi => ∃ c : Nat, c ≤ m2 ∧ g = m2 - c ∧ k = .int .i64 c ∧ MR wo wi m2 (dotF l u r) n2 c 0)
      case atStart => exact ⟨0, Nat.zero_le _, rfl, rfl, HMR.out⟩
      case round =>
        obtain ⟨c, hc, rfl, rfl, hI⟩ := hrel
        clear HMR
        have hS := HR.out.since.trans (since_mono hI.since hsz)
        have hc0 := HCU0.out
        rw [← hS.cell (a := ⟨bu, ou, none⟩) hbul] at hc0
        by_cases hcm : c < m2
        · have HII := Lib.hid hI
          clear hI hS
          go_wp2
          clear hc0
          go_loopg [9] n2 (fun g j wj => ∃ j' : Nat, j' ≤ n2 ∧ g = n2 - j' ∧ j = .int .i64 j' ∧ MR wo wj m2 (dotF l u r) n2 c j')
          case atStart => exact ⟨0, Nat.zero_le _, rfl, rfl, HII.out⟩
          case round =>
            obtain ⟨j, hj, rfl, rfl, hJ⟩ := hrel
            clear HII
            by_cases hjn : j < n2
            · obtain ⟨b1, o1, e1, e2⟩ := HC.out r j hlt hjn
              obtain ⟨d1, q1, f1, f2⟩ := HCU.out j c hjn hcm
              have hS := HR.out.since.trans (since_mono hJ.since hsz)
              obtain ⟨k1, k2⟩ := hJ.facts hcm
              have hzz := HR.out.since.size
              have hb1 : bt < w.heap.size := World.block_lt_of_cell? _ _ e1
              have hb2 : b1 < w.heap.size := World.block_lt_of_cell? _ _ e2
              have hb4 : d1 < w.heap.size := World.block_lt_of_cell? _ _ f2
              rw [← hS.cell (a := ⟨bt, ot + r, none⟩) hb1] at e1
              rw [← hS.cell (a := ⟨b1, o1 + j, none⟩) hb2] at e2
              rw [← hS.cell (a := ⟨bu, ou + j, none⟩) hbul] at f1
              rw [← hS.cell (a := ⟨d1, q1 + c, none⟩) hb4] at f2
              have hbd := sumN_bdB (f := dotF l u r c) (B := 1000000000000) j (fun j' hj' => HB.out r j' c hlt (by omega) hcm)
              have hpq := HB.out r j c hlt hjn hcm
              have hsu : sumN (dotF l u r c) (j + 1) = sumN (dotF l u r c) j + at2 l r j * at2 u j c := rfl
              have hN := fun q => hJ.store q hcm
              rw [hsu] at hN
              obtain ⟨p, hp⟩ : ∃ p, at2 l r j = p := ⟨_, rfl⟩
              obtain ⟨q, hq⟩ : ∃ q, at2 u j c = q := ⟨_, rfl⟩
              obtain ⟨s, hs⟩ : ∃ s, sumN (dotF l u r c) j = s := ⟨_, rfl⟩
              rw [hp] at e2 hpq hN
              rw [hq] at f2 hpq hN
              rw [hs] at k1 hbd hN
              have hw1 : IntKind.i64.wrap (p * q) = p * q := IntWalk.i64_in _ ⟨by omega, by omega⟩
              have hw2 : IntKind.i64.wrap (s + p * q) = s + p * q := IntWalk.i64_in _ ⟨by omega, by omega⟩
              rw [HG.out] at k1 k2 hN
              have m1 := cell_set_ne (g := g) (j := c) (v := .int .i64 (s + p * q)) e1 (show bt ≠ g by omega)
              have m2' := cell_set_ne (g := g) (j := c) (v := .int .i64 (s + p * q)) e2 (show b1 ≠ g by omega)
              have m3 := cell_set_ne (g := g) (j := c) (v := .int .i64 (s + p * q)) f1 (show bu ≠ g by omega)
              have m4 := cell_set_ne (g := g) (j := c) (v := .int .i64 (s + p * q)) f2 (show d1 ≠ g by omega)
              have HN := Lib.hid (hN 1)
              clear hN hJ hp hq hs hsu hS hbd
              go_wp2
              go_still_tail 22, hmix
              go_wp2
              go_roundg (n2 - (j + 1))
              case measure => omega
              case rel => exact ⟨j + 1, by omega, rfl, by go_num, HN.out⟩
            · have hjj : j = n2 := by omega
              subst hjj
              have HNN := Lib.hid hJ.next
              clear hJ
              go_wp2
              go_roundg (m2 - (c + 1))
              case measure => omega
              case rel => exact ⟨c + 1, by omega, rfl, by go_num, HNN.out⟩
        · have hcc : c = m2 := by omega
          subst hcc
          have HII := Lib.hid hI
          have hzi := hI.since.size
          clear hI hS
          go_wp2_with (at_builtin; (refine wpList_append_own _ rfl _ _ 28 rfl w.heap.size 37 i42 (.slice none 0 0) 1 24 Try.underlying28 HI.out.1 HI.out.2.1 HI.out.2.2.1 HI.out.2.2.2 rfl (by decide) _ _ _ rfl ((HR.out.later HII.out.since).own.alloc _) ⟨wr.heap.size, 0, none⟩ 1 1 [.slice (some ⟨g, 0, none⟩) c c] rfl rfl (cell_one_at _ _ _ rfl) (fun x hx => by simp at hx; subst hx; rfl) (by unfold maxLen; omega) (by omega) (by simp; omega) ?_); intro v' w1 hown' hgrow _)
          have hP := (HR.out.later HII.out.since).push (rv := .slice (some ⟨g, 0, none⟩) c c) (x := (List.range c).map fun k => sumN (dotF l u r k) n2) (a := some ⟨g, 0, none⟩) (cp := c) (by simp)
            (fun _ => ⟨g, rfl, hwg, by rw [← HG.out]; exact HII.out.rowB⟩) (fun _ => HR.out.fresh rfl (by rw [HG.out]; exact Nat.le_refl _)) hown' hgrow
          rw [← makeTo_succ] at hP
          have HP := Lib.hid hP
          clear hP hown' hgrow hlen
          go_roundg (n - (r + 1))
          case measure => omega
          case rel => exact ⟨r + 1, _, _, by omega, rfl, by go_num, HP.out⟩
    · have : r = n := by omega
      subst this
      obtain ⟨a, cap, rfl, hin⟩ := hR.ownT
      have HS := Lib.hid hR.since
      clear hR
      go_wp2
      go_ret
      exact ⟨a, cap, by show Ending.returned (.slice a (makeTo l u m2 n2 r).length cap) = _; rw [makeTo_length], HS.out, hin⟩

end Go.Proofs.Ytggmiojhglkcgaa
end

section
namespace Go.Proofs.Ytggmiojhglkcgaa
open Go.RowKit Go.Deep

set_option maxRecDepth 100000 in
set_option maxHeartbeats 4000000 in
theorem specUnitO_any (n : Nat) (w : World) (hn : n ≤ 1000) :
    Calls Try.prog 66 #[.int .i64 n] w fun e w' => ∃ a cap, e = .returned (.slice a n cap) ∧ w.Since w.heap.size w' ∧ OwnT w.heap.size w'.heap.size w' a (unitL n n) := by
  obtain ⟨i42, hi, hz0, hz1, hz2⟩ := info_parts Try.info37
  have hst := bt_start w (fun _ => none) (fun _ => 0) #[] rfl
  have hmk := run_make_row' (P := Try.prog) 37 3 (.int .i64 0) 8 Try.underlying37 Try.info3 rfl .i64 .i64 n (by omega) (by omega)
  have HI := Lib.hid hi
  have HZ := Lib.hid (And.intro hz0 (And.intro hz1 hz2))
  clear hi hz0 hz1 hz2
  go_enter Try.func66, Try.ntmps66
  go_wp2
  go_loopg [3, 4, 5] n (fun g v i _ wr => ∃ r : Nat, ∃ A C, r ≤ n ∧ g = n - r ∧ i = .int .i64 r ∧ BT w wr v (unitL n r) A C)
  case atStart => exact ⟨0, _, _, Nat.zero_le _, rfl, rfl, hst⟩
  case round =>
    obtain ⟨r, A, C, hr, rfl, rfl, hR⟩ := hrel
    clear hst
    by_cases hlt : r < n
    · have HR := Lib.hid hR
      have hsz := hR.since.size
      have hcell : (wr.alloc (.cells (madeCells #[.int .i64 0] n) 3)).cell? ⟨wr.heap.size, r, none⟩ = some (.int .i64 0) := (World.rowIs_made wr (.int .i64 0) n 3).cell hlt
      have hfz : (wr.alloc (.cells (madeCells #[.int .i64 0] n) 3)).frozen? ⟨wr.heap.size, r, none⟩ = false := (World.rowIs_made wr (.int .i64 0) n 3).frozen r
      have hlen := unitL_length n r
      clear hR
      go_wp2_with (at_builtin; (refine wpList_append_own _ rfl _ _ 28 rfl w.heap.size 37 i42 (.slice none 0 0) 1 24 Try.underlying28 HI.out HZ.out.1 HZ.out.2.1 HZ.out.2.2 rfl (by decide) _ _ _ rfl ((HR.out.own.alloc _).alloc _) ⟨wr.heap.size + 1, 0, none⟩ 1 1 [.slice (some ⟨wr.heap.size, 0, none⟩) n n] rfl rfl (cell_one_at _ _ _ (by simp)) (fun x hx => by simp at hx; subst hx; rfl) (by unfold maxLen; omega) (by omega) (by simp; omega) ?_); intro v' w1 hown' hgrow _)
      have hwr : wr.Since wr.heap.size (wr.alloc (.cells ((madeCells #[.int .i64 0] n).setIfInBounds r (.int .i64 1)) 3)) := (World.Since.refl _ _).alloc (Nat.le_refl _) _
      have hrow : RowB (wr.alloc (.cells ((madeCells #[.int .i64 0] n).setIfInBounds r (.int .i64 1)) 3)) wr.heap.size ((List.range n).map fun k => unitF r k) := by
        refine ⟨_, World.alloc_heap_new wr _, fun i hi => ?_⟩
        simp at hi
        rw [Array.getElem?_setIfInBounds]
        have hm : (madeCells #[Value.int .i64 0] n)[i]? = some (.int .i64 0) := by
          obtain ⟨c, h1, _, h3⟩ := World.rowIs_made wr (.int .i64 0) n 3
          have := World.alloc_heap_new wr (.cells (madeCells #[Value.int .i64 0] n) 3)
          rw [this] at h1
          simp at h1
          rw [h1]; exact h3 i hi
        have hz : (madeCells #[Value.int .i64 0] n).size = n := by
          obtain ⟨c, h1, h2, _⟩ := World.rowIs_made wr (.int .i64 0) n 3
          have := World.alloc_heap_new wr (.cells (madeCells #[Value.int .i64 0] n) 3)
          rw [this] at h1
          simp at h1
          rw [h1]; exact h2
        by_cases e : r = i
        · subst e; simp [hz, hi, unitF, List.getD]
        · simp [e, hm, unitF, List.getD, hi]
      have hP := (HR.out.later hwr).push (rv := .slice (some ⟨wr.heap.size, 0, none⟩) n n) (x := (List.range n).map fun k => unitF r k) (a := some ⟨wr.heap.size, 0, none⟩) (cp := n) (by simp)
        (fun _ => ⟨wr.heap.size, rfl, hsz, hrow⟩) (fun _ => HR.out.fresh rfl (Nat.le_refl _)) hown' hgrow
      rw [← unitL_succ] at hP
      have HP := Lib.hid hP
      clear hP hrow hwr hown' hgrow hcell hfz hlen
      go_roundg (n - (r + 1))
      case measure => omega
      case rel => exact ⟨r + 1, _, _, by omega, rfl, by go_num, HP.out⟩
    · have : r = n := by omega
      subst this
      clear hmk
      obtain ⟨a, cap, rfl, hin⟩ := hR.ownT
      go_wp2
      go_ret
      exact ⟨a, cap, by show Ending.returned (.slice a (unitL r r).length cap) = _; rw [unitL_length], hR.since, hin⟩

theorem OwnT.put {lo hi : Nat} {W : World} {a : Option Addr} {l : List (List Int)} (h : OwnT lo hi W a l) {r k : Nat} (hr : r < l.length) (hk : k < (l.getD r []).length) :
    ∃ b g c, a = some ⟨b, 0, none⟩ ∧ W.cell? ⟨b, r, none⟩ = some (.slice (some ⟨g, 0, none⟩) (l.getD r []).length c) ∧ W.cell? ⟨g, k, none⟩ = some (.int .i64 ((l.getD r []).getD k 0)) ∧ W.frozen? ⟨g, k, none⟩ = false ∧ (lo ≤ g ∧ g ≠ b) ∧
      ∀ v : Int, MatR (W.setCell ⟨g, k, none⟩ (.int .i64 v)) a (l.set r ((l.getD r []).set k v)) := by
  obtain ⟨b, A, G, C, e, hb, hc, hd⟩ := h (by omega)
  obtain ⟨c1, c2⟩ := hc r hr
  obtain ⟨d1, d2, d3⟩ := c2 (by omega)
  rw [d1] at c1
  refine ⟨b, G r, C r, e, c1, (d3 k hk).1, (d3 k hk).2, ⟨d2.1, d2.2.2⟩, fun v => ?_⟩
  subst e
  intro _
  refine ⟨b, 0, A, C, rfl, fun s hs => ?_⟩
  rw [List.length_set] at hs
  obtain ⟨s1, s2⟩ := hc s hs
  have hrow : (l.set r ((l.getD r []).set k v)).getD s [] = if s = r then (l.getD r []).set k v else l.getD s [] := by
    by_cases e : s = r
    · subst e; rw [if_pos rfl]; simp [List.getD, hs]
    · rw [if_neg e]; simp [List.getD, Ne.symm e]
  have hlen : ((l.set r ((l.getD r []).set k v)).getD s []).length = (l.getD s []).length := by
    rw [hrow]
    split
    · rename_i e; subst e; exact List.length_set
    · rfl
  rw [hlen, Nat.zero_add]
  refine ⟨cell_set_ne s1 (show b ≠ G r from fun e => d2.2.2 e.symm), fun h0 => ?_⟩
  rw [hlen] at h0
  obtain ⟨t1, t2, t3⟩ := s2 h0
  refine ⟨G s, 0, t1, fun i hi => ?_⟩
  rw [Nat.zero_add]
  rw [hlen] at hi
  by_cases e : s = r
  · subst e
    rw [hrow, if_pos rfl]
    by_cases ek : i = k
    · subst ek
      rw [World.cell?_setCell_same W _ _ (d3 i hk).1]
      have e3 : ((l.getD s []).set i v).getD i 0 = v := by
        generalize l.getD s [] = x at hk
        simp [List.getD, hk]
      rw [e3]
    · rw [World.cell?_setCell_other _ _ _ _ (by intro h; simp only [Addr.mk.injEq] at h; omega)]
      have e2 : ((l.getD s []).set k v).getD i 0 = (l.getD s []).getD i 0 := by simp [List.getD, Ne.symm ek]
      rw [e2]
      exact (d3 i hi).1
  · rw [hrow, if_neg e]
    exact cell_set_ne (t3 i hi).1 (show G s ≠ G r from fun e2 => e (hd s r hs hr h0 (by omega) e2))

def chT (n r k : Nat) (v : Int) : List (List Int) := (unitL n n).set r (((unitL n n).getD r []).set k v)
theorem unit_row {n i : Nat} (hi : i < n) : ((unitL n n).getD i []).length = n := tabF_len _ _ _ _ hi
theorem unit_at {n i j : Nat} (hi : i < n) (hj : j < n) : ((unitL n n).getD i []).getD j 0 = if i = j then 1 else 0 := by
  unfold unitL
  rw [tabF_at _ _ _ _ _ hi hj]
  unfold unitF
  by_cases e : i = j <;> simp [e]
theorem chT_length (n r k : Nat) (v : Int) : (chT n r k v).length = n := by unfold chT; rw [List.length_set, unitL_length]
theorem chT_get {n r k i : Nat} {v : Int} (hr : r < n) : (chT n r k v).getD i [] = if i = r then ((unitL n n).getD r []).set k v else (unitL n n).getD i [] := by
  unfold chT
  by_cases e : i = r
  · subst e
    rw [if_pos rfl]
    have := unitL_length n n
    simp [List.getD, this, hr]
  · rw [if_neg e]
    simp [List.getD, Ne.symm e]
theorem chT_row {n r k i : Nat} {v : Int} (hr : r < n) (hi : i < n) : ((chT n r k v).getD i []).length = n := by
  rw [chT_get hr]
  split
  · rw [List.length_set]; exact unit_row hr
  · exact unit_row hi
theorem chT_at {n r k i j : Nat} {v : Int} (hr : r < n) (hi : i < n) (hj : j < n) : at2 (chT n r k v) i j = if i = r ∧ j = k then v else if i = j then 1 else 0 := by
  unfold at2
  rw [chT_get hr]
  by_cases e : i = r
  · subst e
    rw [if_pos rfl]
    by_cases e2 : j = k
    · subst e2
      rw [if_pos ⟨rfl, rfl⟩]
      have := unit_row hi
      simp [List.getD, List.getD] at this ⊢
      simp [this, hj]
    · rw [if_neg (fun h => e2 h.2), ← unit_at hi hj]
      simp [List.getD, Ne.symm e2]
  · rw [if_neg e, if_neg (fun h => e h.1)]
    exact unit_at hi hj
def chR (c : CH) : Nat := if c.1 = 2 then c.2.1 else cFrom c
def chK (c : CH) : Nat := if c.1 = 2 then c.2.1 else cTo c
theorem chRK {n : Nat} {c : CH} (h : chOk n c) : chR c < n ∧ chK c < n := by
  unfold chR chK
  by_cases e : c.1 = 2
  · rw [if_pos e, if_pos e]
    have := h.2
    rw [if_pos e] at this
    exact ⟨this, this⟩
  · rw [if_neg e, if_neg e]
    have := ch_ft h e
    exact ⟨this.1, this.2.1⟩
theorem chT_ch {n : Nat} {c : CH} (h : chOk n c) {i j : Nat} (hi : i < n) (hj : j < n) : at2 (chT n (chR c) (chK c) c.2.2) i j = chM c i j := by
  rw [chT_at (chRK h).1 hi hj]
  unfold chM chR chK
  by_cases e : c.1 = 2
  · rw [if_pos e, if_pos e]
    by_cases e1 : i = j
    · subst e1
      by_cases e2 : i = c.2.1
      · rw [if_pos ⟨e2, e2⟩, if_pos rfl, if_pos ⟨e, e2⟩]
      · rw [if_neg (fun h => e2 h.1), if_pos rfl, if_pos rfl, if_neg (fun h => e2 h.2)]
    · rw [if_neg (fun h => e1 (h.1.trans h.2.symm)), if_neg e1, if_neg e1, if_neg (fun h => h.1 e)]
  · rw [if_neg e, if_neg e]
    have hne := (ch_ft h e).2.2
    by_cases e1 : i = j
    · subst e1
      rw [if_neg (fun h => hne (h.1.symm.trans h.2)), if_pos rfl, if_pos rfl, if_neg (fun h => e h.1)]
    · rw [if_neg e1, if_neg e1]
      by_cases e2 : i = cFrom c ∧ j = cTo c
      · rw [if_pos e2, if_pos ⟨e, e2.1, e2.2⟩]
      · rw [if_neg e2, if_neg (fun h => e2 h.2)]

def outT (n : Nat) (cs : List CH) : List (List Int) := tabF n n (netM n cs)
theorem outT_length (n : Nat) (cs : List CH) : (outT n cs).length = n := tabF_length _ _ _
theorem outT_row {n : Nat} (cs : List CH) {i : Nat} (hi : i < n) : ((outT n cs).getD i []).length = n := tabF_len _ _ _ _ hi
theorem outT_at {n : Nat} (cs : List CH) {i j : Nat} (hi : i < n) (hj : j < n) : at2 (outT n cs) i j = netM n cs i j := tabF_at _ _ _ _ _ hi hj
theorem outT_nil (n : Nat) : outT n [] = unitL n n := by
  unfold outT unitL tabF
  refine List.map_congr_left fun i _ => List.map_congr_left fun j _ => ?_
  show (if i = j then (1 : Int) else 0) = unitF i j
  unfold unitF
  by_cases e : i = j <;> simp [e]
theorem outT_snoc {n : Nat} (hn : 1 ≤ n) (xs : List CH) {c : CH} (hc : chOk n c) : makeL (outT n xs) (chT n (chR c) (chK c) c.2.2) = outT n (xs ++ [c]) := by
  unfold makeL
  rw [outT_length, chT_row (chRK hc).1 (by omega), chT_length]
  unfold outT
  unfold tabF
  refine List.map_congr_left fun i hi => List.map_congr_left fun k hk => ?_
  have hi' := List.mem_range.1 hi
  have hk' := List.mem_range.1 hk
  rw [net_app xs [c] i k hi']
  refine sumN_congr n fun j hj => ?_
  have e1 := outT_at xs hi' hj
  unfold outT tabF at e1
  unfold dotF
  rw [net_one c hk', ← chT_ch hc hj hk', ← e1]
theorem outT_rec {n : Nat} (h1 : 1 ≤ n) (h6 : n ≤ 6) (cs : List CH) : Rec (outT n cs) := ⟨by rw [outT_length]; exact h1, by rw [outT_length]; exact h6, by rw [outT_row cs (by omega)]; exact ⟨h1, h6⟩, fun hr => by rw [outT_length] at hr; rw [outT_row cs hr, outT_row cs (by omega)]⟩
theorem chT_rec {n r k : Nat} {v : Int} (h1 : 1 ≤ n) (h6 : n ≤ 6) (hr : r < n) : Rec (chT n r k v) := ⟨by rw [chT_length]; exact h1, by rw [chT_length]; exact h6, by rw [chT_row hr (by omega)]; exact ⟨h1, h6⟩, fun hi => by rw [chT_length] at hi; rw [chT_row hr hi, chT_row hr (by omega)]⟩
theorem outT_bd {n : Nat} {xs : List CH} (hc : ∀ c ∈ xs, chOk n c) (h9 : ∀ c ∈ xs, -9 ≤ c.2.2 ∧ c.2.2 ≤ 9) (hl : xs.length ≤ 10) {c : CH} (hcc : chOk n c) (hc9 : -9 ≤ c.2.2 ∧ c.2.2 ≤ 9) : ∀ i j k, i < n → j < n → k < n → -1000000000000 ≤ at2 (outT n xs) i j * at2 (chT n (chR c) (chK c) c.2.2) j k ∧ at2 (outT n xs) i j * at2 (chT n (chR c) (chK c) c.2.2) j k ≤ 1000000000000 := fun i j k hi hj hk => by
  rw [outT_at xs hi hj, ← path_net xs hc i j hi, chT_at (chRK hcc).1 hj hk, Int.mul_comm]
  have h1 := path_bd xs h9 i j
  have h2 := p10_le hl
  have h3 : -9 ≤ (if j = chR c ∧ k = chK c then c.2.2 else if j = k then 1 else 0) ∧ (if j = chR c ∧ k = chK c then c.2.2 else if j = k then 1 else 0) ≤ 9 := by
    split
    · exact hc9
    · split <;> omega
  have := mul_bd9 h3.1 h3.2 (show -10000000000 ≤ pathN xs i j by omega) (by omega)
  omega
theorem szL_outT {n : Nat} (h5 : n ≤ 5) (cs : List CH) : szL (outT n cs) ≤ 1048576 := by
  have h : ∀ r, r ≤ n → sumTo (outT n cs) r = r * n := by
    intro r
    induction r with
    | zero => intro _; simp [sumTo]
    | succ r ih =>
      intro hr
      unfold sumTo
      rw [ih (by omega), outT_row cs (by omega), Nat.succ_mul]
  unfold szL
  rw [outT_length, h n (Nat.le_refl _)]
  have : n * n ≤ 5 * 5 := Nat.mul_le_mul h5 h5
  omega

end Go.Proofs.Ytggmiojhglkcgaa
end

section
namespace Go.Proofs.Ytggmiojhglkcgaa
open Go.RowKit Go.Deep

set_option maxRecDepth 100000 in
set_option maxHeartbeats 400000 in
theorem cTable_h (K : ByteArray) (L n : Nat) (V : Int) (w : World) (h1 : 1 ≤ n) (h5 : n ≤ 5) (hL : L < n) (hK : K.toList = [104]) :
    Calls Try.prog 68 #[.int .i64 n, .agg #[.string K, .int .i64 L, .int .i64 V]] w fun e w' => ∃ a cap, e = .returned (.slice a n cap) ∧ w.Since w.heap.size w' ∧ MatR w' a (chT n L L V) := by
  obtain ⟨d1, d2, d3⟩ := chip_box w K L V 35
  have HS := Lib.hid ((World.Since.refl w.heap.size w).alloc (Nat.le_refl _) (.cells #[.string K, .int .i64 L, .int .i64 V] 35))
  have E := Lib.hid (fun (W : World) => specUnitO_any n W (by omega))
  have hq1 : (K.toList == [117]) = false := by rw [hK]; decide
  have hq2 : (K.toList == [100]) = false := by rw [hK]; decide
  have HUL := Lib.hid (unitL_length n n)
  have HUR := Lib.hid (unit_row (show L < n by omega))
  have hmix : Try.prog.follows .mixedOrders = true := by kernel_rfl
  go_enter Try.func68, Try.ntmps68
  go_wp2_with (go_at_call 66; refine (E.out _).mono ?_; rintro e w1 ⟨a, cap, rfl, hs1, ho1⟩; obtain ⟨b, g, c, rfl, t1, t2, t3, t4, t5⟩ := ho1.put (r := L) (k := L) (by rw [HUL.out]; omega) (by rw [HUR.out]; omega); rw [HUR.out] at t1; have HT5 := Lib.hid t5; have e2 := (hs1.cell (a := ⟨w.heap.size, 1, none⟩) (by simp)).trans d2; have e3 := (hs1.cell (a := ⟨w.heap.size, 2, none⟩) (by simp)).trans d3; have e1 := (hs1.cell (a := ⟨w.heap.size, 0, none⟩) (by simp)).trans d1; have HSA := Lib.hid (HS.out.trans (since_mono hs1 HS.out.size)); have HG := Lib.hid t4; clear hs1 ho1 t5 t4)
  go_still_tail 10, hmix
  go_wp2
  go_ret
  exact ⟨_, _, rfl, (HSA.out.setCell (a := ⟨g, L, none⟩) (by have := HG.out.1; simp at this; show w.heap.size ≤ g; omega) _).drew, HT5.out V⟩

set_option maxRecDepth 100000 in
set_option maxHeartbeats 400000 in
theorem cTable_u (K : ByteArray) (L n : Nat) (V : Int) (w : World) (h1 : 1 ≤ n) (h5 : n ≤ 5) (hL : L + 1 < n) (hK : K.toList = [117]) :
    Calls Try.prog 68 #[.int .i64 n, .agg #[.string K, .int .i64 L, .int .i64 V]] w fun e w' => ∃ a cap, e = .returned (.slice a n cap) ∧ w.Since w.heap.size w' ∧ MatR w' a (chT n L (L + 1) V) := by
  obtain ⟨d1, d2, d3⟩ := chip_box w K L V 35
  have HS := Lib.hid ((World.Since.refl w.heap.size w).alloc (Nat.le_refl _) (.cells #[.string K, .int .i64 L, .int .i64 V] 35))
  have E := Lib.hid (fun (W : World) => specUnitO_any n W (by omega))
  have hw1 : IntKind.i64.wrap ((L : Int) + 1) = (L : Int) + 1 := IntWalk.i64_in _ ⟨by omega, by omega⟩
  have hw2 : (0 : Int) ≤ (L : Int) + 1 := by omega
  have hw3 : ((L : Int) + 1).toNat = L + 1 := by omega
  have hw4 : (L : Int) + 1 < (n : Int) := by omega
  have hw5 : L < n := by omega
  have HUL := Lib.hid (unitL_length n n)
  have HUR := Lib.hid (unit_row (show L < n by omega))
  have hmix : Try.prog.follows .mixedOrders = true := by kernel_rfl
  go_enter Try.func68, Try.ntmps68
  go_wp2_with (go_at_call 66; refine (E.out _).mono ?_; rintro e w1 ⟨a, cap, rfl, hs1, ho1⟩; obtain ⟨b, g, c, rfl, t1, t2, t3, t4, t5⟩ := ho1.put (r := L) (k := (L + 1)) (by rw [HUL.out]; omega) (by rw [HUR.out]; omega); rw [HUR.out] at t1; have HT5 := Lib.hid t5; have e2 := (hs1.cell (a := ⟨w.heap.size, 1, none⟩) (by simp)).trans d2; have e3 := (hs1.cell (a := ⟨w.heap.size, 2, none⟩) (by simp)).trans d3; have e1 := (hs1.cell (a := ⟨w.heap.size, 0, none⟩) (by simp)).trans d1; have HSA := Lib.hid (HS.out.trans (since_mono hs1 HS.out.size)); have HG := Lib.hid t4; clear hs1 ho1 t5 t4)
  go_still_tail 11, hmix
  go_wp2
  go_ret
  exact ⟨_, _, rfl, (HSA.out.setCell (a := ⟨g, (L + 1), none⟩) (by have := HG.out.1; simp at this; show w.heap.size ≤ g; omega) _).drew, HT5.out V⟩

set_option maxRecDepth 100000 in
set_option maxHeartbeats 400000 in
theorem cTable_d (K : ByteArray) (L n : Nat) (V : Int) (w : World) (h1 : 1 ≤ n) (h5 : n ≤ 5) (hL : L + 1 < n) (hK : K.toList = [100]) :
    Calls Try.prog 68 #[.int .i64 n, .agg #[.string K, .int .i64 L, .int .i64 V]] w fun e w' => ∃ a cap, e = .returned (.slice a n cap) ∧ w.Since w.heap.size w' ∧ MatR w' a (chT n (L + 1) L V) := by
  obtain ⟨d1, d2, d3⟩ := chip_box w K L V 35
  have HS := Lib.hid ((World.Since.refl w.heap.size w).alloc (Nat.le_refl _) (.cells #[.string K, .int .i64 L, .int .i64 V] 35))
  have E := Lib.hid (fun (W : World) => specUnitO_any n W (by omega))
  have hq1 : (K.toList == [117]) = false := by rw [hK]; decide
  have hw1 : IntKind.i64.wrap ((L : Int) + 1) = (L : Int) + 1 := IntWalk.i64_in _ ⟨by omega, by omega⟩
  have hw2 : (0 : Int) ≤ (L : Int) + 1 := by omega
  have hw3 : ((L : Int) + 1).toNat = L + 1 := by omega
  have hw4 : (L : Int) + 1 < (n : Int) := by omega
  have hw5 : L < n := by omega
  have HUL := Lib.hid (unitL_length n n)
  have HUR := Lib.hid (unit_row (show (L + 1) < n by omega))
  have hmix : Try.prog.follows .mixedOrders = true := by kernel_rfl
  go_enter Try.func68, Try.ntmps68
  go_wp2_with (go_at_call 66; refine (E.out _).mono ?_; rintro e w1 ⟨a, cap, rfl, hs1, ho1⟩; obtain ⟨b, g, c, rfl, t1, t2, t3, t4, t5⟩ := ho1.put (r := (L + 1)) (k := L) (by rw [HUL.out]; omega) (by rw [HUR.out]; omega); rw [HUR.out] at t1; have HT5 := Lib.hid t5; have e2 := (hs1.cell (a := ⟨w.heap.size, 1, none⟩) (by simp)).trans d2; have e3 := (hs1.cell (a := ⟨w.heap.size, 2, none⟩) (by simp)).trans d3; have e1 := (hs1.cell (a := ⟨w.heap.size, 0, none⟩) (by simp)).trans d1; have HSA := Lib.hid (HS.out.trans (since_mono hs1 HS.out.size)); have HG := Lib.hid t4; clear hs1 ho1 t5 t4)
  go_still_tail 11, hmix
  go_wp2
  go_ret
  exact ⟨_, _, rfl, (HSA.out.setCell (a := ⟨g, L, none⟩) (by have := HG.out.1; simp at this; show w.heap.size ≤ g; omega) _).drew, HT5.out V⟩

theorem l6cTable_any (c : RC) (n : Nat) (w : World) (h1 : 1 ≤ n) (h5 : n ≤ 5) (hok : RCok c ∧ chOk n (toC c)) :
    Calls Try.prog 68 #[.int .i64 n, .agg #[.string c.k, .int .i64 c.l, .int .i64 c.w]] w fun e w' => ∃ a cap, e = .returned (.slice a n cap) ∧ w.Since w.heap.size w' ∧ MatR w' a (chT n (chR (toC c)) (chK (toC c)) (toC c).2.2) := by
  obtain ⟨K, l, V⟩ := c
  obtain ⟨⟨hk, hl, hv⟩, hc⟩ := hok
  simp only at hk hl hv
  obtain ⟨L, rfl⟩ : ∃ L : Nat, l = L := ⟨l.toNat, by omega⟩
  rcases hk with h | h | h
  · rw [toC_h h] at hc ⊢
    have := hc.2
    rw [if_pos rfl] at this
    exact cTable_h K L n V w h1 h5 this h
  · have e : toC ⟨K, (L : Int), V⟩ = (0, L, V) := by unfold toC; simp [h]
    rw [e] at hc ⊢
    have := hc.2
    rw [if_neg (by simp)] at this
    exact cTable_u K L n V w h1 h5 this h
  · have e : toC ⟨K, (L : Int), V⟩ = (1, L, V) := by unfold toC; simp [h]
    rw [e] at hc ⊢
    have := hc.2
    rw [if_neg (by simp)] at this
    exact cTable_d K L n V w h1 h5 this h

theorem toC_w (c : RC) : (toC c).2.2 = c.w := rfl
noncomputable def outC (n : Nat) (cs : List RC) : List (List Int) := outT n (cs.map toC)
theorem outC_step {n : Nat} {cs : List RC} (ho : NetOk n cs) {r : Nat} (hr : r < cs.length) : makeL (outC n (cs.take r)) (chT n (chR (toC (cs.getD r rc0))) (chK (toC (cs.getD r rc0))) (toC (cs.getD r rc0)).2.2) = outC n (cs.take (r + 1)) := by
  have hm : cs.getD r rc0 ∈ cs := by
    have : cs.getD r rc0 = cs[r] := by simp [List.getD, hr]
    rw [this]; exact List.getElem_mem _
  unfold outC
  rw [outT_snoc (by have := ho.lo; omega) _ (ho.ok _ hm).2]
  congr 1
  rw [List.take_succ_eq_append_getElem hr, List.map_append]
  congr 2
  simp [List.getD, hr]
theorem outC_bd {n : Nat} {cs : List RC} (ho : NetOk n cs) {r : Nat} (hr : r < cs.length) : ∀ i j k, i < n → j < n → k < n → -1000000000000 ≤ at2 (outC n (cs.take r)) i j * at2 (chT n (chR (toC (cs.getD r rc0))) (chK (toC (cs.getD r rc0))) (toC (cs.getD r rc0)).2.2) j k ∧ at2 (outC n (cs.take r)) i j * at2 (chT n (chR (toC (cs.getD r rc0))) (chK (toC (cs.getD r rc0))) (toC (cs.getD r rc0)).2.2) j k ≤ 1000000000000 := by
  have hm : cs.getD r rc0 ∈ cs := by
    have : cs.getD r rc0 = cs[r] := by simp [List.getD, hr]
    rw [this]; exact List.getElem_mem _
  have h10 := ho.len
  refine outT_bd (fun c hc => ?_) (fun c hc => ?_) (by rw [List.length_map, List.length_take]; omega) (ho.ok _ hm).2 (ho.rc _ hm).2.2
  · obtain ⟨d, hd, rfl⟩ := List.mem_map.1 hc
    exact (ho.ok d (List.mem_of_mem_take hd)).2
  · obtain ⟨d, hd, rfl⟩ := List.mem_map.1 hc
    exact (ho.rc d (List.mem_of_mem_take hd)).2.2
noncomputable def ntabB (n : Int) (cs : List RC) : Bool := netB n cs && tabIn (outC n.toNat cs)
noncomputable def ntabL (n : Int) (cs : List RC) : List (List Int) := resT (ntabB n cs) (outC n.toNat cs)

set_option maxRecDepth 100000 in
set_option maxHeartbeats 400000 in
theorem specNetTable_any (a : Option Addr) (cap N : Nat) (n : Int) (cs : List RC) (w : World) (hN : cs.length = N) (h63 : N ≤ 9223372036854775807) (hm : ChipsR w a cs) :
    Calls Try.prog 19 #[.int .i64 n, .slice a N cap] w fun e w' => ∃ a' cap', e = .returned (.tuple #[.slice a' (ntabL n cs).length cap', .bool (ntabB n cs)]) ∧ w.Since w.heap.size w' ∧ InT w.heap.size w'.heap.size w' a' (ntabL n cs) := by
  have E := specNetIn_any a cap N n cs w hN h63 hm
  cases hb : netB n cs with
  | false =>
    have hf : ntabB n cs = false := by unfold ntabB; rw [hb, Bool.false_and]
    unfold ntabL
    rw [hf]
    rw [hb] at E
    replace E := Lib.hid E
    have E2 := Lib.hid (fun (W : World) => l1None_any W)
    clear hb hm hN hf
    go_enter Try.func19, Try.ntmps19
    go_wp2_with (first
      | (go_at_call 16; refine (E.out).mono ?_; rintro e w1 ⟨rfl, hs1⟩; have HS1 := Lib.hid hs1; clear hs1)
      | (go_at_call 65; refine (E2.out _).mono ?_; rintro e w2 ⟨rfl, hs2⟩; have HS2 := Lib.hid (HS1.out.trans (since_mono hs2 HS1.out.size)); clear hs2))
    go_ret2
    exact ⟨_, _, rfl, HS2.out, InT.nil _ _ _ _⟩
  | true =>
    obtain ⟨m, rfl, ho⟩ := netB_ok hb
    rw [hb] at E
    replace E := Lib.hid E
    have hn2 := ho.lo
    have hn5 := ho.hi
    have h10 := ho.len
    rw [hN] at h10
    have hfB : ntabB m cs = tabIn (outC m cs) := by unfold ntabB; rw [hb, Bool.true_and]; rfl
    have hfL : ntabL m cs = resT (tabIn (outC m cs)) (outC m cs) := by unfold ntabL; rw [hfB]; rfl
    rw [hfB, hfL]
    have HN := Lib.hid hN
    have HM := Lib.hid hm
    have HO := Lib.hid ho
    have EU := Lib.hid (fun (W : World) => specUnitO_any m W (by omega))
    clear hb hm hN ho hfB hfL
    go_enter Try.func19, Try.ntmps19
    go_wp2_with (first
      | (go_at_call 16; refine (E.out).mono ?_; rintro e w1 ⟨rfl, hs1⟩; have HS1 := Lib.hid hs1; clear hs1)
      | (go_at_call 66; refine (EU.out _).mono ?_; rintro e w2 ⟨a0, c0, rfl, hs2, hu2⟩; have HS2 := Lib.hid (HS1.out.trans (since_mono hs2 HS1.out.size)); have HU2 := Lib.hid (hu2.mono HS1.out.size (Nat.le_refl _)); clear hs2 hu2))
    go_loopg [6, 7] N (fun g v i wr => ∃ (r : Nat) (a' : Option Addr) (cap' : Nat), r ≤ N ∧ g = N - r ∧ i = .int .i64 r ∧ v = .slice a' m cap' ∧ w.Since w.heap.size wr ∧ OwnT w.heap.size wr.heap.size wr a' (outC m (cs.take r)))
    case atStart => exact ⟨0, _, _, Nat.zero_le _, rfl, rfl, rfl, HS2.out, by show OwnT _ _ _ _ (outT m []); rw [outT_nil]; exact HU2.out⟩
    case round =>
      obtain ⟨r, a', cap', hr, rfl, rfl, rfl, hS, hT⟩ := hrel
      by_cases hlt : r < N
      · have hlt' : r < cs.length := by rw [HN.out]; exact hlt
        obtain ⟨b, o, rfl, k1, k2, k3⟩ := HM.out.at hlt'
        have c1 := (hS.cell (World.block_lt_of_cell? _ _ k1)).trans k1
        have c2 := (hS.cell (World.block_lt_of_cell? _ _ k2)).trans k2
        have c3 := (hS.cell (World.block_lt_of_cell? _ _ k3)).trans k3
        have hmem : cs.getD r rc0 ∈ cs := by
          have : cs.getD r rc0 = cs[r] := by simp [List.getD, hlt']
          rw [this]; exact List.getElem_mem _
        have ET := Lib.hid (fun (W : World) => l6cTable_any (cs.getD r rc0) m W (by omega) hn5 (HO.out.ok _ hmem))
        have hstep := outC_step HO.out hlt'
        have hrec2 := chT_rec (v := (toC (cs.getD r rc0)).2.2) (k := chK (toC (cs.getD r rc0))) (show 1 ≤ m by omega) (show m ≤ 6 by omega) (chRK (HO.out.ok _ hmem).2).1
        have hlen2 := chT_length m (chR (toC (cs.getD r rc0))) (chK (toC (cs.getD r rc0))) (toC (cs.getD r rc0)).2.2
        have hrow2 := chT_row (v := (toC (cs.getD r rc0)).2.2) (k := chK (toC (cs.getD r rc0))) (chRK (HO.out.ok _ hmem).2).1 (show 0 < m by omega)
        have hbd := outC_bd HO.out hlt'
        obtain ⟨c, hcc⟩ : ∃ c, cs.getD r rc0 = c := ⟨_, rfl⟩
        rw [hcc] at c1 c2 c3 ET hstep hrec2 hlen2 hrow2 hbd
        obtain ⟨U, hU⟩ : ∃ U, chT m (chR (toC c)) (chK (toC c)) (toC c).2.2 = U := ⟨_, rfl⟩
        rw [hU] at ET hstep hrec2 hlen2 hrow2 hbd
        have EM := Lib.hid (fun (W : World) (a2 : Option Addr) (cp2 : Nat) (h1 : wr.Since wr.heap.size W) (h2 : MatR W a2 U) => l1MakeR_any a' a2 cap' cp2 m m (outC m (cs.take r)) U W (outT_length _ _) hlen2 (hT.since h1).matR h2 (outT_rec (by omega) (by omega) _) hrec2 (outT_row _ (by omega)) (fun i j k hi hj hk => hbd i j k hi hj (by rw [hrow2] at hk; exact hk)))
        rw [hstep] at EM
        have HS' := Lib.hid hS
        clear k1 k2 k3 hstep hrec2 hlen2 hrow2 hbd hU hT hS hcc hmem hlt'
        obtain ⟨K, L, V⟩ := c
        simp only at c1 c2 c3 ET
        go_wp2_with (first
          | (go_at_call 68; refine (ET.out _).mono ?_; rintro e w3 ⟨a3, cp3, rfl, hs3, hm3⟩; have H3 := Lib.hid (And.intro hs3 hm3); clear hs3 hm3)
          | (go_at_call 67; refine (EM.out _ _ _ H3.out.1 H3.out.2).mono ?_; rintro e w4 ⟨a4, cp4, rfl, hs4, ho4⟩; have H4 := Lib.hid (And.intro (H3.out.1.trans (since_mono hs4 H3.out.1.size)) (ho4.mono H3.out.1.size (Nat.le_refl _))); clear hs4 ho4))
        go_roundg (N - (r + 1))
        case measure => omega
        case rel => exact ⟨r + 1, _, _, by omega, rfl, by go_num, rfl, HS'.out.trans (since_mono H4.out.1 HS'.out.size), H4.out.2.mono HS'.out.size (Nat.le_refl _)⟩
      · obtain rfl : r = N := by omega
        rw [List.take_of_length_le (by rw [HN.out]; exact Nat.le_refl _)] at hT
        have ED := Lib.hid (l1Done_any a' cap' m w.heap.size wr.heap.size (outC m cs) wr (outT_length _ _) (szL_outT hn5 _) hT.inT)
        have HS' := Lib.hid hS
        clear hT hS
        go_wp2_with (go_at_call 69; refine (ED.out).mono ?_; rintro e w3 ⟨a3, cp3, rfl, hs3, hm3⟩; have H3 := Lib.hid (And.intro (HS'.out.trans (since_mono hs3 HS'.out.size)) (hm3.mono (Nat.le_refl _) hs3.size)); clear hs3 hm3)
        go_ret2
        exact ⟨_, _, rfl, H3.out.1, H3.out.2⟩

end Go.Proofs.Ytggmiojhglkcgaa
end

section
namespace Go.Proofs.Ytggmiojhglkcgaa
open Go.RowKit

theorem nine_mul {c x B : Int} (hc : -9 ≤ c ∧ c ≤ 9) (hx : -B ≤ x ∧ x ≤ B) : -(9 * B) ≤ x * c ∧ x * c ≤ 9 * B := by
  have h : c = -9 ∨ c = -8 ∨ c = -7 ∨ c = -6 ∨ c = -5 ∨ c = -4 ∨ c = -3 ∨ c = -2 ∨ c = -1 ∨ c = 0 ∨ c = 1 ∨ c = 2 ∨ c = 3 ∨ c = 4 ∨ c = 5 ∨ c = 6 ∨ c = 7 ∨ c = 8 ∨ c = 9 := by omega
  rcases h with rfl | rfl | rfl | rfl | rfl | rfl | rfl | rfl | rfl | rfl | rfl | rfl | rfl | rfl | rfl | rfl | rfl | rfl | rfl <;> omega
def pow9 : Nat → Int
  | 0 => 1
  | k + 1 => 9 * pow9 k
theorem pow9_le {k : Nat} (h : k ≤ 11) : 0 ≤ pow9 k ∧ pow9 k ≤ 100000000000 := by
  have : ∀ j : Fin 12, 0 ≤ pow9 j.val ∧ pow9 j.val ≤ 100000000000 := by decide
  exact this ⟨k, by omega⟩
theorem allH_snoc (xs : List CH) (c : CH) : allH (xs ++ [c]) = if c.1 = 2 then allH xs * c.2.2 else allH xs := by
  induction xs with
  | nil =>
    show (if c.1 = 2 then c.2.2 * 1 else 1) = _
    split <;> simp [allH]
  | cons d ds ih =>
    show (if d.1 = 2 then d.2.2 * allH (ds ++ [c]) else allH (ds ++ [c])) = _
    rw [ih]
    show _ = if c.1 = 2 then (if d.1 = 2 then d.2.2 * allH ds else allH ds) * c.2.2 else (if d.1 = 2 then d.2.2 * allH ds else allH ds)
    split <;> split <;> first | rfl | rw [Int.mul_assoc]
theorem allH_bd : ∀ (xs : List CH), (∀ c ∈ xs, -9 ≤ c.2.2 ∧ c.2.2 ≤ 9) → -(pow9 xs.length) ≤ allH xs ∧ allH xs ≤ pow9 xs.length
  | [], _ => by show -1 ≤ (1 : Int) ∧ (1 : Int) ≤ 1; omega
  | c :: cs, h => by
    have ih := allH_bd cs (fun d hd => h d (by simp [hd]))
    have hc := h c (by simp)
    have h9 := nine_mul hc ih
    have e : pow9 (c :: cs).length = 9 * pow9 cs.length := rfl
    rw [e]
    show _ ≤ (if c.1 = 2 then c.2.2 * allH cs else allH cs) ∧ (if c.1 = 2 then c.2.2 * allH cs else allH cs) ≤ _
    split
    · rw [Int.mul_comm c.2.2]; exact h9
    · omega
theorem take_step {cs : List RC} {r : Nat} (hr : r < cs.length) : (cs.take (r + 1)).map toC = (cs.take r).map toC ++ [toC (cs.getD r rc0)] := by
  rw [List.take_succ_eq_append_getElem hr, List.map_append]
  congr 2
  simp [List.getD, hr]
theorem tabV {n : Nat} {cs : List RC} (ho : NetOk n cs) (hT : TabIn (outC n cs)) : sqB (outC n cs) = true ∧ ordF (outC n cs) n n 0 = allH (cs.map toC) := by
  have h2 := ho.lo
  have h5 := ho.hi
  have hc : ∀ c ∈ cs.map toC, chOk n c := fun c h => by obtain ⟨d, hd, rfl⟩ := List.mem_map.1 h; exact (ho.ok d hd).2
  have l1 : (outC n cs).length = n := outT_length _ _
  have w1 : ((outC n cs).getD 0 []).length = n := outT_row _ (by omega)
  refine ⟨?_, ?_⟩
  · unfold sqB
    rw [tabIn_true hT, l1, w1]
    simp
  · rw [ordF_all _ (by omega), ← net_value h5 _ hc]
    exact dt_congr n fun i k hi hk => outT_at _ hi hk

end Go.Proofs.Ytggmiojhglkcgaa
end

section
namespace Go.Proofs.Ytggmiojhglkcgaa
open Go.RowKit Go.Deep Go.Shelf
attribute [local go_sem] Oper.semAt_some

abbrev kH : ByteArray := ⟨#[104]⟩
def kS (k : Nat) : ByteArray := if k = 0 then kU else if k = 1 then kD else kH
def posTo (n : Nat) : Nat → List (Nat × Nat)
  | 0 => []
  | k + 1 => if k + 1 = n then posTo n k ++ [(2, k)] else posTo n k ++ [(2, k), (0, k), (1, k)]
theorem posTo_len (n : Nat) : ∀ k, (posTo n k).length ≤ 3 * k
  | 0 => by simp [posTo]
  | k + 1 => by
    have := posTo_len n k
    unfold posTo
    split <;> simp <;> omega
theorem posTo_sub {n : Nat} {x : Nat × Nat} : ∀ {k m : Nat}, k ≤ m → x ∈ posTo n k → x ∈ posTo n m
  | k, 0, h, hx => by
    obtain rfl : k = 0 := by omega
    exact hx
  | k, m + 1, h, hx => by
    by_cases e : k = m + 1
    · subst e; exact hx
    · have := posTo_sub (n := n) (show k ≤ m by omega) hx
      unfold posTo
      split <;> simp [this]
theorem posTo_mem {n : Nat} {k i : Nat} : ∀ {m : Nat}, m ≤ n → ((k, i) ∈ posTo n m ↔ i < m ∧ ((k = 2) ∨ ((k = 0 ∨ k = 1) ∧ i + 1 ≠ n)))
  | 0, _ => by simp [posTo]
  | m + 1, hm => by
    have ih := posTo_mem (k := k) (i := i) (show m ≤ n by omega)
    unfold posTo
    by_cases e : m + 1 = n
    · rw [if_pos e, List.mem_append, ih]
      simp only [List.mem_singleton, Prod.mk.injEq]
      constructor
      · rintro (⟨h1, h2⟩ | ⟨h1, h2⟩)
        · exact ⟨by omega, h2⟩
        · exact ⟨by omega, .inl h1⟩
      · rintro ⟨h1, h2⟩
        by_cases h3 : i = m
        · rcases h2 with h2 | ⟨_, h2⟩
          · exact .inr ⟨h2, h3⟩
          · omega
        · exact .inl ⟨by omega, h2⟩
    · rw [if_neg e, List.mem_append, ih]
      simp only [List.mem_cons, List.not_mem_nil, or_false, Prod.mk.injEq]
      constructor
      · rintro (⟨h1, h2⟩ | ⟨h1, h2⟩ | ⟨h1, h2⟩ | ⟨h1, h2⟩)
        · exact ⟨by omega, h2⟩
        · exact ⟨by omega, .inl h1⟩
        · exact ⟨by omega, .inr ⟨.inl h1, by omega⟩⟩
        · exact ⟨by omega, .inr ⟨.inr h1, by omega⟩⟩
      · rintro ⟨h1, h2⟩
        by_cases h3 : i = m
        · rcases h2 with h2 | ⟨h2 | h2, _⟩
          · exact .inr (.inl ⟨h2, h3⟩)
          · exact .inr (.inr (.inl ⟨h2, h3⟩))
          · exact .inr (.inr (.inr ⟨h2, h3⟩))
        · exact .inl ⟨by omega, h2⟩

def encC (V : Int) (x : Nat × Nat) : Array Value := #[.agg #[.string (kS x.1), .int .i64 (x.2 : Int), .int .i64 V]]

set_option maxRecDepth 100000 in
set_option maxHeartbeats 1000000 in
theorem possible_in (q : Nat) (hq : 2 ≤ q) (l Bn Bw n : Nat) (V : Int) (hn : 1 ≤ n ∧ n ≤ 5) (Kp : World → World → Prop)
    (hK : ∀ X Y, Kp X Y → Y.cell? ⟨Bn, 0, none⟩ = X.cell? ⟨Bn, 0, none⟩ ∧ Y.cell? ⟨Bw, 0, none⟩ = X.cell? ⟨Bw, 0, none⟩) (J Jx : List (Nat × Nat) → World → Prop)
    (hY : ∀ pre x W, J pre W → pre.length < 15 → YieldAt Fence.wide (q - 1) Try.prog l (encC V x) W fun e W' =>
      (e = .returned (.bool true) ∧ J (pre ++ [x]) W' ∧ Kp W W') ∨ (e = .returned (.bool false) ∧ Jx (pre ++ [x]) W'))
    (W : World) (hBn : W.cell? ⟨Bn, 0, none⟩ = some (.int .i64 n)) (hBw : W.cell? ⟨Bw, 0, none⟩ = some (.int .i64 V)) (h0 : J [] W) :
    CallsIn Fence.wide q Try.prog 128 #[.func (.yield l) #[] #[], .pointer (some ⟨Bn, 0, none⟩), .pointer (some ⟨Bw, 0, none⟩)] W fun e W' => (∃ v, e = .returned v) ∧
      ((∃ ys, ys = posTo n n ∧ J ys W') ∨ (∃ pre, (∀ x ∈ pre, x ∈ posTo n n) ∧ Jx pre W')) := by
  obtain ⟨hn1, hn5⟩ := hn
  have hw1 : IntKind.i64.wrap ((n : Int) - 1) = (n : Int) - 1 := IntWalk.i64_in _ ⟨by omega, by omega⟩
  refine callsIn_of_wp Try.func128 rfl trivial ?_ rfl
  simp only [Try.ntmps128, List.size_toArray, List.length_cons, List.length_nil, Nat.reduceAdd, Nat.reduceSub, Array.replicate_succ, Array.replicate_zero, List.push_toArray, List.append_toArray, List.nil_append, List.cons_append]
  gi_wp2
  gi_loopw [4, 5, 7] (fun _ _ i wr => ∃ k : Nat, k ≤ n ∧ i = .int .i64 k ∧ J (posTo n k) wr ∧ wr.cell? ⟨Bn, 0, none⟩ = some (.int .i64 n) ∧ wr.cell? ⟨Bw, 0, none⟩ = some (.int .i64 V))
    (fun _ _ i _ => n - (intOf i).toNat)
  case atStart => exact ⟨0, Nat.zero_le _, rfl, h0, hBn, hBw⟩
  case round =>
    obtain ⟨k, hk, rfl, hJs, hcn, hcw⟩ := hrel
    by_cases hlt : k < n
    · have hpl := posTo_len n k
      obtain ⟨fn, tmps, assign, body, hy, hR⟩ := hY _ (2, k) wr hJs (by omega)
      dsimp only [encC, kS] at hy
      rw [if_neg (by simp), if_neg (by simp)] at hy
      have hm0 : ∀ x ∈ posTo n k, x ∈ posTo n n := fun x hx => posTo_sub (by omega) hx
      have hm2 : (2, k) ∈ posTo n n := (posTo_mem (Nat.le_refl n)).2 ⟨hlt, .inl rfl⟩
      have HM2 := Lib.hid (And.intro hm0 hm2)
      have HY := Lib.hid hY
      clear hBn hBw hY hm2 hm0
      gi_wp2
      refine ⟨fun _ => by omega, hR.mono ?_⟩
      rintro e W3 (⟨rfl, hJ3, hk3⟩ | ⟨rfl, hJx3⟩)
      · obtain ⟨g1, g2⟩ := hK _ _ hk3
        have hcn3 := g1.trans hcn
        have hcw3 := g2.trans hcw
        clear hy hR hk3 g1 g2 hcn hcw hJs
        by_cases hl : k + 1 = n
        · have hlb : ((k : Int) == (n : Int) - 1) = true := by simp; omega
          have hst : posTo n (k + 1) = posTo n k ++ [(2, k)] := by show (if k + 1 = n then _ else _) = _; rw [if_pos hl]
          rw [← hst] at hJ3
          clear hst hl
          gi_wp2
          repeat (refine ⟨fun _ h => (by cases h), ?_⟩; gi_wp2)
          case isFalse =>
            rename_i b h1 _
            exact absurd h1 (fun h => by cases h)
          all_goals
            go_roundw
            case rel => exact ⟨k + 1, by omega, by simp, hJ3, hcn3, hcw3⟩
            case measure => simp [intOf]; omega
        · have hlb : ((k : Int) == (n : Int) - 1) = false := by simp; omega
          have hst : posTo n (k + 1) = posTo n k ++ [(2, k), (0, k), (1, k)] := by show (if k + 1 = n then _ else _) = _; rw [if_neg hl]
          have HST := Lib.hid hst
          have HL := Lib.hid hl
          obtain ⟨fn, tmps, assign, body, hy, hR⟩ := HY.out _ (0, k) W3 hJ3 (by simp; omega)
          dsimp only [encC, kS] at hy
          rw [if_pos rfl] at hy
          clear hst hl hJ3
          gi_wp2
          refine ⟨fun _ => by omega, hR.mono ?_⟩
          rintro e W4 (⟨rfl, hJ4, hk4⟩ | ⟨rfl, hJx4⟩)
          · obtain ⟨g1, g2⟩ := hK _ _ hk4
            have hcn4 := g1.trans hcn3
            have hcw4 := g2.trans hcw3
            obtain ⟨fn, tmps, assign, body, hy, hR⟩ := HY.out _ (1, k) W4 hJ4 (by simp; omega)
            dsimp only [encC, kS] at hy
            rw [if_neg (by simp), if_pos rfl] at hy
            clear hk4 g1 g2 hcn3 hcw3 hJ4
            gi_wp2
            refine ⟨fun _ => by omega, hR.mono ?_⟩
            rintro e W5 (⟨rfl, hJ5, hk5⟩ | ⟨rfl, hJx5⟩)
            · obtain ⟨g1, g2⟩ := hK _ _ hk5
              have hcn5 := g1.trans hcn4
              have hcw5 := g2.trans hcw4
              gi_wp2
              go_roundw
              case rel => exact ⟨k + 1, by omega, by simp, by rw [HST.out]; simpa using hJ5, hcn5, hcw5⟩
              case measure => simp [intOf]; omega
            · gi_wp2
              refine bodyPost_ret (results_none rfl _ _ _) rfl ?_
              refine ⟨⟨_, rfl⟩, .inr ⟨_, fun x hx => ?_, hJx5⟩⟩
              simp only [List.append_assoc, List.mem_append, List.mem_cons, List.not_mem_nil, or_false] at hx
              rcases hx with hx | rfl | rfl | rfl
              · exact HM2.out.1 x hx
              · exact HM2.out.2
              · exact (posTo_mem (Nat.le_refl n)).2 ⟨hlt, .inr ⟨.inl rfl, HL.out⟩⟩
              · exact (posTo_mem (Nat.le_refl n)).2 ⟨hlt, .inr ⟨.inr rfl, HL.out⟩⟩
          · gi_wp2
            repeat (refine ⟨fun _ h => (by cases h), ?_⟩; gi_wp2)
            refine bodyPost_ret (results_none rfl _ _ _) rfl ?_
            refine ⟨⟨_, rfl⟩, .inr ⟨_, fun x hx => ?_, hJx4⟩⟩
            simp only [List.append_assoc, List.mem_append, List.mem_cons, List.not_mem_nil, or_false] at hx
            rcases hx with hx | rfl | rfl
            · exact HM2.out.1 x hx
            · exact HM2.out.2
            · exact (posTo_mem (Nat.le_refl n)).2 ⟨hlt, .inr ⟨.inl rfl, HL.out⟩⟩
      · gi_wp2
        refine bodyPost_ret (results_none rfl _ _ _) rfl ?_
        refine ⟨⟨_, rfl⟩, .inr ⟨_, fun x hx => ?_, hJx3⟩⟩
        simp only [List.mem_append, List.mem_singleton] at hx
        rcases hx with hx | rfl
        · exact HM2.out.1 x hx
        · exact HM2.out.2
    · obtain rfl : k = n := by omega
      gi_wp2
      go_end0
      exact ⟨⟨_, rfl⟩, .inl ⟨_, rfl, hJs⟩⟩

theorem possible_stops (q : Nat) (hq : 2 ≤ q) (Bn Bw n n₀ : Nat) (V : Int) (hn : 1 ≤ n ∧ n ≤ 5) (w : World) (h0 : n₀ ≤ w.heap.size) (h1 : Bn < n₀) (h2 : Bw < n₀) (hBn : w.cell? ⟨Bn, 0, none⟩ = some (.int .i64 n)) (hBw : w.cell? ⟨Bw, 0, none⟩ = some (.int .i64 V)) :
    SeqStopsK Fence.wide q Try.prog 128 #[.pointer (some ⟨Bn, 0, none⟩), .pointer (some ⟨Bw, 0, none⟩)] (encC V) (Below n₀) (fun ys => ys = posTo n n) (fun pre => ∀ x ∈ pre, x ∈ posTo n n) 15 w := fun l J Jx W hW _ _ hY hJ =>
  possible_in q hq l Bn Bw n V hn (Below n₀) (fun X Y h => ⟨h.cell (p := ⟨Bn, 0, none⟩) h1, h.cell (p := ⟨Bw, 0, none⟩) h2⟩) J Jx hY W
    ((hW.cell (p := ⟨Bn, 0, none⟩) (by show Bn < _; omega)).trans hBn) ((hW.cell (p := ⟨Bw, 0, none⟩) (by show Bw < _; omega)).trans hBw) hJ

theorem possibleChips_any (n V : Int) (w : World) :
    Calls Try.prog 105 #[.int .i64 n, .int .i64 V] w fun e w' => e = .returned (.func (.func 128) #[] #[.pointer (some ⟨w.heap.size, 0, none⟩), .pointer (some ⟨w.heap.size + 1, 0, none⟩)])
      ∧ w' = (w.alloc (.cells #[.int .i64 n] 3)).alloc (.cells #[.int .i64 V] 3) := by
  go_enter Try.func105, Try.ntmps105
  go_wp2
  go_ret
  exact ⟨rfl, rfl⟩

end Go.Proofs.Ytggmiojhglkcgaa
end

section
namespace Go.Proofs.Ytggmiojhglkcgaa
open Go.RowKit Go.Deep Go.Shelf
attribute [local go_sem] Oper.semAt_some

def Box3 (W : World) (B : Nat) (K : ByteArray) (L V : Int) : Prop := W.heap[B]? = some (.cells #[.string K, .int .i64 L, .int .i64 V] 35 (0, 0))
theorem Box3.lt {W : World} {B : Nat} {K : ByteArray} {L V : Int} (h : Box3 W B K L V) : B < W.heap.size := (Array.getElem?_eq_some_iff.1 h).1
theorem Box3.cells {W : World} {B : Nat} {K : ByteArray} {L V : Int} (h : Box3 W B K L V) : W.cell? ⟨B, 0, none⟩ = some (.string K) ∧ W.cell? ⟨B, 1, none⟩ = some (.int .i64 L) ∧ W.cell? ⟨B, 2, none⟩ = some (.int .i64 V) := by
  have h' : W.heap[B]? = _ := h
  refine ⟨?_, ?_, ?_⟩ <;> (unfold World.cell?; rw [h']; rfl)
theorem Box3.new (W : World) (K : ByteArray) (L V : Int) : Box3 (W.alloc (.cells #[.string K, .int .i64 L, .int .i64 V] 35)) W.heap.size K L V := World.alloc_heap_new W _
theorem Box3.kept {W W' : World} {row : Option Nat} {B : Nat} {K : ByteArray} {L V : Int} (h : Box3 W B K L V) (hg : W.grownBy W' row) (hne : some B ≠ row) : Box3 W' B K L V := (hg.block B h.lt hne).trans h
theorem Box3.alloc {W : World} {B : Nat} {K : ByteArray} {L V : Int} (h : Box3 W B K L V) (o : Obj) : Box3 (W.alloc o) B K L V := h.kept (World.grownBy_alloc W o none) (by simp)
theorem Box3.own {W W' : World} {row : Option Nat} {B : Nat} {K : ByteArray} {L V : Int} (h : Box3 W B K L V) (hg : W.grownBy W' row) (hr : ∀ r, row = some r → ∃ o : Obj, W.heap[r]? = some o ∧ o.isCells = false) : Box3 W' B K L V := h.kept hg (fun e => by
  obtain ⟨o, ho, hc⟩ := hr B e.symm
  have h' : W.heap[B]? = _ := h
  rw [h'] at ho; cases ho; cases hc)
def isC (K : ByteArray) (L : Int) (x : Nat × Nat) : Prop := K.toList = (kS x.1).toList ∧ L = x.2
theorem kS_list : (kS 0).toList = [117] ∧ (kS 1).toList = [100] ∧ (kS 2).toList = [104] := by decide +kernel
theorem kind_some {n : Nat} {K : ByteArray} {L V : Int} {x : Nat × Nat} (hx : x ∈ posTo n n) (h : isC K L x) : kindB n ⟨K, L, V⟩ = true := by
  obtain ⟨k, i⟩ := x
  obtain ⟨h1, h2⟩ := h
  simp only at h1 h2
  subst h2
  obtain ⟨h3, h4⟩ := (posTo_mem (Nat.le_refl n)).1 hx
  obtain ⟨s0, s1, s2⟩ := kS_list
  unfold kindB inB
  simp only
  rcases h4 with rfl | ⟨rfl | rfl, h5⟩
  · rw [s2] at h1
    rw [if_pos h1]
    exact decide_eq_true ⟨by omega, by omega⟩
  · rw [s0] at h1
    rw [if_neg (by rw [h1]; decide), if_pos (.inl h1)]
    exact decide_eq_true ⟨by omega, by omega⟩
  · rw [s1] at h1
    rw [if_neg (by rw [h1]; decide), if_pos (.inr h1)]
    exact decide_eq_true ⟨by omega, by omega⟩
theorem kind_none {n : Nat} {K : ByteArray} {L V : Int} (h : ∀ x ∈ posTo n n, ¬ isC K L x) : kindB n ⟨K, L, V⟩ = false := by
  obtain ⟨s0, s1, s2⟩ := kS_list
  cases e : kindB n ⟨K, L, V⟩ with
  | false => rfl
  | true =>
    exfalso
    unfold kindB inB at e
    simp only at e
    by_cases hH : K.toList = [104]
    · rw [if_pos hH] at e
      have e := of_decide_eq_true e
      exact h (2, L.toNat) ((posTo_mem (Nat.le_refl n)).2 ⟨by omega, .inl rfl⟩) ⟨by rw [s2]; exact hH, by show L = ((L.toNat : Nat) : Int); omega⟩
    · rw [if_neg hH] at e
      by_cases hu : K.toList = [117]
      · rw [if_pos (.inl hu)] at e
        have e := of_decide_eq_true e
        exact h (0, L.toNat) ((posTo_mem (Nat.le_refl n)).2 ⟨by omega, .inr ⟨.inl rfl, by omega⟩⟩) ⟨by rw [s0]; exact hu, by show L = ((L.toNat : Nat) : Int); omega⟩
      · by_cases hd : K.toList = [100]
        · rw [if_pos (.inr hd)] at e
          have e := of_decide_eq_true e
          exact h (1, L.toNat) ((posTo_mem (Nat.le_refl n)).2 ⟨by omega, .inr ⟨.inr rfl, by omega⟩⟩) ⟨by rw [s1]; exact hd, by show L = ((L.toNat : Nat) : Int); omega⟩
        · rw [if_neg (fun h => h.elim hu hd)] at e
          cases e

set_option maxRecDepth 100000 in
set_option maxHeartbeats 1000000 in
theorem isIn_any (K : ByteArray) (L V : Int) (n : Nat) (hn2 : 2 ≤ n) (hn5 : n ≤ 5) (w : World) :
    Calls Try.prog 59 #[.agg #[.string K, .int .i64 L, .int .i64 V], .int .i64 n] w fun e w' => e = .returned (.bool (chipB n ⟨K, L, V⟩)) ∧ w.Since w.heap.size w' := by
  refine (callsIn_wide (n := 9)).1 ?_
  refine callsIn_of_wp_marks Try.func59 rfl trivial ?_ rfl
  simp only [Try.ntmps59, List.size_toArray, List.length_cons, List.length_nil, Nat.reduceAdd, Nat.reduceSub, Array.replicate_succ, Array.replicate_zero, List.push_toArray, List.append_toArray, List.nil_append, List.cons_append]
  obtain ⟨d1, d2, d3⟩ := chip_box w K L V 35
  gi_wp2_with (first
    | (refine ⟨trivial, ?_⟩; gi_at_call 105; refine (callsIn_wide.2 (possibleChips_any _ _ _)).mono ?_; rintro e w' ⟨rfl, rfl⟩))
  obtain ⟨W0, hW0⟩ : ∃ W0, W0 = ((((w.alloc (.cells #[.string K, .int .i64 L, .int .i64 V] 35)).alloc (.cells #[.bool false] 4)).alloc (.cells #[.int .i64 n] 3)).alloc (.cells #[.int .i64 V] 3)) := ⟨_, rfl⟩
  rw [← hW0]
  have hsz0 : W0.heap.size = w.heap.size + 4 := by rw [hW0]; simp
  have hB0 : Below w.heap.size w W0 := by rw [hW0]; exact ((((Below.refl _ w).alloc (Nat.le_refl _) _).alloc (by simp) _).alloc (by simp; omega) _).alloc (by simp; omega) _
  have b3 : Box3 W0 w.heap.size K L V := by rw [hW0]; exact (((Box3.new w K L V).alloc _).alloc _).alloc _
  have bR : Boxed W0 (w.heap.size + 1) 4 (.bool false) := by
    have h := Boxed.new (w.alloc (.cells #[.string K, .int .i64 L, .int .i64 V] 35)) 4 (.bool false)
    rw [World.size_alloc] at h
    rw [hW0]; exact (h.alloc _).alloc _
  have bN : Boxed W0 (w.heap.size + 1 + 1) 3 (.int .i64 n) := by
    have h := Boxed.new ((w.alloc (.cells #[.string K, .int .i64 L, .int .i64 V] 35)).alloc (.cells #[.bool false] 4)) 3 (.int .i64 n)
    rw [World.size_alloc, World.size_alloc] at h
    rw [hW0]; exact h.alloc _
  have bV : Boxed W0 (w.heap.size + 1 + 1 + 1) 3 (.int .i64 V) := by
    have h := Boxed.new (((w.alloc (.cells #[.string K, .int .i64 L, .int .i64 V] 35)).alloc (.cells #[.bool false] 4)).alloc (.cells #[.int .i64 n] 3)) 3 (.int .i64 V)
    rw [World.size_alloc, World.size_alloc, World.size_alloc] at h
    rw [hW0]; exact h
  clear hW0 d1 d2 d3
  refine wpIn_rangeFunc_ownH (F := Fence.wide) (n := 9) rfl (by omega) (gf := 128) (lb := #[.pointer (some ⟨w.heap.size + 1 + 1, 0, none⟩), .pointer (some ⟨w.heap.size + 1 + 1 + 1, 0, none⟩)]) rfl trivial (enters_of Try.func128 (by kernel_rfl) rfl)
    (possible_stops 8 (by omega) (w.heap.size + 1 + 1) (w.heap.size + 1 + 1 + 1) n W0.heap.size V ⟨by omega, hn5⟩ W0 (Nat.le_refl _) (by omega) (by omega) bN.cell bV.cell)
    (fun h k => h.trans k) (belowK_b (Nat.le_refl _)) (Below.refl _ _) (fun _ => rfl)
    (fun pre W => (Box3 W w.heap.size K L V ∧ Boxed W (w.heap.size + 1) 4 (.bool false) ∧ w.heap.size + 4 ≤ W.heap.size ∧ ∀ x ∈ pre, ¬ isC K L x) ∧ Below w.heap.size w W)
    (fun c pre W => (c = .ret ∧ Boxed W (w.heap.size + 1) 4 (.bool (inB V (-9) 9)) ∧ ∃ x ∈ pre, isC K L x) ∧ Below w.heap.size w W)
    (OwnFrom.and (Own.from (fun s A B row hs hg hr => ⟨hs.1.own hg hr, boxed_own (w.heap.size + 1) 4 (fun (_ : Unit) => Value.bool false) () A B row hs.2.1 hg hr, Nat.le_trans hs.2.2.1 hg.size, hs.2.2.2⟩) _) (ownFrom_below (Nat.le_refl _) (by omega)))
    (fun c => OwnFrom.and (Own.from (fun s A B row hs hg hr => ⟨hs.1, boxed_own (w.heap.size + 1) 4 (fun (_ : Unit) => Value.bool (inB V (-9) 9)) () A B row hs.2.1 hg hr, hs.2.2⟩) _) (ownFrom_below (Nat.le_refl _) (by omega)))
    ⟨⟨b3, bR, by omega, by simp⟩, hB0⟩
    (fun x a' W => ∃ Bx, w.heap.size + 4 ≤ Bx ∧ Box3 W Bx (kS x.1) (x.2 : Int) V ∧ a' = { tmps := #[.agg #[.string K, .int .i64 L, .int .i64 V], .int .i64 n, .pointer (some ⟨w.heap.size, 0, none⟩), undef, .pointer (some ⟨w.heap.size + 1, 0, none⟩), .pointer (some ⟨Bx, 0, none⟩), .int .i64 n, .pointer (some ⟨w.heap.size, 2, none⟩), .int .i64 V, .func (.func 128) #[] #[.pointer (some ⟨w.heap.size + 1 + 1, 0, none⟩), .pointer (some ⟨w.heap.size + 1 + 1 + 1, 0, none⟩)], .agg #[.string (kS x.1), .int .i64 (x.2 : Int), .int .i64 V], undef, undef, undef, undef, undef, undef], defers := [] })
    (fun x a' _ X Y row hs hg hr => by obtain ⟨Bx, h1, h2, h3⟩ := hs; exact ⟨Bx, h1, h2.own hg (fun r e => (hr r e).2), h3⟩)
    ?assign ?body ?done ?stop
  case assign =>
    rintro l2 pre x W Kq ⟨⟨h1, h2, h3, h4⟩, hb⟩ hK
    simp only [encC]
    gi_wp2
    exact hK _ _ ((KeepsOthers.alloc _ _).from _) ((Below.refl _ _).alloc (by omega) _) ⟨⟨h1.alloc _, h2.alloc _, by simp; omega, h4⟩, hb.alloc (by omega) _⟩ ⟨W.heap.size, h3, Box3.new W _ _ _, rfl⟩
  case body =>
    rintro l2 pre x a' W hl ⟨r, hr⟩ ⟨⟨h1, h2, h3, h4⟩, hb⟩ ⟨Bx, hBx, bX, rfl⟩ hlt
    obtain ⟨c1, c2, c3⟩ := h1.cells
    obtain ⟨e1, e2, e3⟩ := bX.cells
    have cR := h2.cell
    have fR := h2.frozen
    have HF := Lib.hid (fun (h : ¬ isC K L x) => show ∀ y ∈ pre ++ [x], ¬ isC K L y from fun y hy => by
      rcases List.mem_append.1 hy with hy | hy
      · exact h4 y hy
      · simp at hy; subst hy; exact h)
    have HT := Lib.hid (fun (h : isC K L x) => show ∃ y ∈ pre ++ [x], isC K L y from ⟨x, by simp, h⟩)
    have H1 := Lib.hid h1
    have H2 := Lib.hid h2
    have HB := Lib.hid hb
    clear h1 h2 h4 hb
    by_cases hk : K.toList = (kS x.1).toList
    · by_cases hL : L = x.2
      · have HC := Lib.hid (HT.out ⟨hk, hL⟩)
        have hL' : (L == (x.2 : Int)) = true := by simpa using hL
        have HLL := Lib.hid hL
        clear hL
        gi_wp2_with (first
          | (refine ⟨trivial, ?_⟩; gi_at_call 56; refine (CallsIn.inRound l2 (callsIn_wide.2 (inRange_any _ _ _ _))).mono ?_; rintro e w' ⟨rfl, rfl⟩))
        exact ⟨(KeepsOthers.setCell _ _ _).from _, ⟨rfl, H2.out.set _, HC.out⟩, HB.out.setCell (p := ⟨w.heap.size + 1, 0, none⟩) (by simp) _⟩
      · have HC := Lib.hid (HF.out (fun h => hL h.2))
        have hL' : (L == (x.2 : Int)) = false := by simpa using hL
        gi_wp2_with fail
        exact ⟨(KeepsOthers.refl _).from _, Below.refl _ _, ⟨H1.out, H2.out, h3, HC.out⟩, HB.out⟩
    · have HC := Lib.hid (HF.out (fun h => hk h.1))
      have hk' : (K.toList == (kS x.1).toList) = false := by simpa using hk
      gi_wp2_with fail
      exact ⟨(KeepsOthers.refl _).from _, Below.refl _ _, ⟨H1.out, H2.out, h3, HC.out⟩, HB.out⟩
  case done =>
    rintro D ys W hD rfl ⟨⟨h1, h2, h3, h4⟩, hb⟩ hK
    have hv : chipB n ⟨K, L, V⟩ = false := by unfold chipB; rw [kind_none h4, Bool.false_and]
    have HV := Lib.hid hv
    have cR := h2.cell
    have fR := h2.frozen
    have H2 := Lib.hid (h2.set (.bool false))
    have HB := Lib.hid hb
    clear h1 h2 h4 hv hb b3 bR bN bV hB0
    gi_wp2
    have hK' := (KeepsOthers.setCell W ⟨w.heap.size + 1, 0, none⟩ (.bool false)).same D _ hK rfl
    refine ⟨by simp, .inl ⟨_, _, rfl, run_takeDeferred hK', ?_⟩⟩
    have hc5 := (H2.out.kept (grownBy_putObj' _ D (.deferred none)) (fun e => by injection e; omega)).cell
    refine ⟨.bool false, ?_, ret_bool HV.out.symm, below_since ((HB.out.setCell (p := ⟨w.heap.size + 1, 0, none⟩) (by simp) _).trans (belowK_b (w := w) (Nat.le_refl _) _ D _ _ (by omega) hK' rfl rfl))⟩
    simp [results, Try.f59, go_sem, hc5]
  case stop =>
    rintro D c pre W hD hpre ⟨⟨rfl, h2, x, hx, hc⟩, hb⟩ hK
    have hv : chipB n ⟨K, L, V⟩ = inB V (-9) 9 := by unfold chipB; rw [kind_some (hpre x hx) hc, Bool.true_and]
    have HV := Lib.hid hv
    have H2 := Lib.hid h2
    have HB := Lib.hid hb
    clear h2 hv hb b3 bR bN bV hB0
    gi_wp2
    refine ⟨by simp, .inl ⟨_, _, rfl, run_takeDeferred hK, ?_⟩⟩
    have hc5 := (H2.out.kept (grownBy_putObj' _ D (.deferred none)) (fun e => by injection e; omega)).cell
    refine ⟨.bool (inB V (-9) 9), ?_, ret_bool HV.out.symm, below_since (HB.out.trans (belowK_b (w := w) (Nat.le_refl _) W D _ _ (by omega) hK rfl rfl))⟩
    simp [results, Try.f59, go_sem, hc5]

end Go.Proofs.Ytggmiojhglkcgaa
end

section
namespace Go.Proofs.Ytggmiojhglkcgaa
open Go.RowKit Go.Deep

set_option maxRecDepth 100000 in
set_option maxHeartbeats 400000 in
theorem ends_h (K : ByteArray) (L : Nat) (V : Int) (w : World) (hK : K.toList = [104]) :
    Calls Try.prog 111 #[.agg #[.string K, .int .i64 L, .int .i64 V]] w fun e w' => e = .returned (.tuple #[.int .i64 ((L : Nat) : Int), .int .i64 ((L : Nat) : Int)]) ∧ w.Since w.heap.size w' := by
  obtain ⟨d1, d2, d3⟩ := chip_box w K L V 35
  have HS := Lib.hid ((World.Since.refl w.heap.size w).alloc (Nat.le_refl _) (.cells #[.string K, .int .i64 L, .int .i64 V] 35))
  have hq1 : (K.toList == [117]) = false := by rw [hK]; decide
  have hq2 : (K.toList == [100]) = false := by rw [hK]; decide
  go_enter Try.func111, Try.ntmps111
  go_wp2
  go_region
  all_goals
    go_wp2
    go_ret2
    exact ⟨rfl, HS.out.drew⟩

set_option maxRecDepth 100000 in
set_option maxHeartbeats 400000 in
theorem ends_u (K : ByteArray) (L : Nat) (V : Int) (w : World) (hL : L ≤ 10) (hK : K.toList = [117]) :
    Calls Try.prog 111 #[.agg #[.string K, .int .i64 L, .int .i64 V]] w fun e w' => e = .returned (.tuple #[.int .i64 ((L : Nat) : Int), .int .i64 (((L + 1) : Nat) : Int)]) ∧ w.Since w.heap.size w' := by
  obtain ⟨d1, d2, d3⟩ := chip_box w K L V 35
  have HS := Lib.hid ((World.Since.refl w.heap.size w).alloc (Nat.le_refl _) (.cells #[.string K, .int .i64 L, .int .i64 V] 35))
  have hw1 : IntKind.i64.wrap ((L : Int) + 1) = (L : Int) + 1 := IntWalk.i64_in _ ⟨by omega, by omega⟩
  go_enter Try.func111, Try.ntmps111
  go_wp2
  go_region
  all_goals
    go_wp2
    go_ret2
    exact ⟨rfl, HS.out.drew⟩

set_option maxRecDepth 100000 in
set_option maxHeartbeats 400000 in
theorem ends_d (K : ByteArray) (L : Nat) (V : Int) (w : World) (hL : L ≤ 10) (hK : K.toList = [100]) :
    Calls Try.prog 111 #[.agg #[.string K, .int .i64 L, .int .i64 V]] w fun e w' => e = .returned (.tuple #[.int .i64 (((L + 1) : Nat) : Int), .int .i64 ((L : Nat) : Int)]) ∧ w.Since w.heap.size w' := by
  obtain ⟨d1, d2, d3⟩ := chip_box w K L V 35
  have HS := Lib.hid ((World.Since.refl w.heap.size w).alloc (Nat.le_refl _) (.cells #[.string K, .int .i64 L, .int .i64 V] 35))
  have hq1 : (K.toList == [117]) = false := by rw [hK]; decide
  have hw1 : IntKind.i64.wrap ((L : Int) + 1) = (L : Int) + 1 := IntWalk.i64_in _ ⟨by omega, by omega⟩
  go_enter Try.func111, Try.ntmps111
  go_wp2
  go_region
  all_goals
    go_wp2
    go_ret2
    exact ⟨rfl, HS.out.drew⟩

theorem ends_any (c : RC) (w : World) (hok : RCok c) :
    Calls Try.prog 111 #[.agg #[.string c.k, .int .i64 c.l, .int .i64 c.w]] w fun e w' => e = .returned (.tuple #[.int .i64 (chR (toC c) : Nat), .int .i64 (chK (toC c) : Nat)]) ∧ w.Since w.heap.size w' := by
  obtain ⟨K, l, V⟩ := c
  obtain ⟨hk, hl, hv⟩ := hok
  simp only at hk hl hv
  obtain ⟨L, rfl⟩ : ∃ L : Nat, l = L := ⟨l.toNat, by omega⟩
  rcases hk with h | h | h
  · rw [toC_h h]
    exact ends_h K L V w h
  · have e : toC ⟨K, (L : Int), V⟩ = (0, L, V) := by unfold toC; simp [h]
    rw [e]
    exact ends_u K L V w (by omega) h
  · have e : toC ⟨K, (L : Int), V⟩ = (1, L, V) := by unfold toC; simp [h]
    rw [e]
    exact ends_d K L V w (by omega) h

set_option maxHeartbeats 400000 in
theorem chipTurned_any (c : RC) (w : World) :
    Calls Try.prog 81 #[.agg #[.string c.k, .int .i64 c.l, .int .i64 c.w]] w fun e w' => e = .returned (.agg #[.string (trC c).k, .int .i64 (trC c).l, .int .i64 (trC c).w]) ∧ w.Since w.heap.size w' := by
  obtain ⟨K, L, V⟩ := c
  obtain ⟨d1, d2, d3⟩ := chip_box w K L V 35
  have HS := Lib.hid (fun (Y : ByteArray) (Z : Obj) => (((World.Since.refl w.heap.size w).alloc (Nat.le_refl _) (.cells #[.string Y, .int .i64 L, .int .i64 V] 35)).alloc (by simp) Z))
  unfold trC
  simp only
  by_cases hu : K.toList = [117]
  · rw [if_pos hu]
    go_enter Try.func81, Try.ntmps81
    go_wp2
    exact bodyPost_ret (v := .agg #[.string kD, .int .i64 L, .int .i64 V]) (by simp [results, Try.f81, go_sem]) rfl ⟨rfl, HS.out _ _⟩
  · rw [if_neg hu]
    have hub : (K.toList == [117]) = false := by simpa using hu
    by_cases hd : K.toList = [100]
    · rw [if_pos hd]
      clear hu
      go_enter Try.func81, Try.ntmps81
      go_wp2
      exact bodyPost_ret (v := .agg #[.string kU, .int .i64 L, .int .i64 V]) (by simp [results, Try.f81, go_sem]) rfl ⟨rfl, HS.out _ _⟩
    · rw [if_neg hd]
      have hdb : (K.toList == [100]) = false := by simpa using hd
      clear hu hd
      go_enter Try.func81, Try.ntmps81
      go_wp2
      exact bodyPost_ret (v := .agg #[.string K, .int .i64 L, .int .i64 V]) (by simp [results, Try.f81, go_sem]) rfl ⟨rfl, HS.out _ _⟩

set_option maxRecDepth 100000 in
set_option maxHeartbeats 400000 in
theorem chipTable_any (c : RC) (n : Nat) (w : World) (h1 : 1 ≤ n) (h5 : n ≤ 5) (hok : RCok c ∧ chOk n (toC c)) :
    Calls Try.prog 63 #[.agg #[.string c.k, .int .i64 c.l, .int .i64 c.w], .int .i64 n] w fun e w' => ∃ a cap, e = .returned (.slice a n cap) ∧ w.Since w.heap.size w' ∧ MatR w' a (chT n (chR (toC c)) (chK (toC c)) (toC c).2.2) := by
  have EE := fun (W : World) => ends_any c W hok.1
  obtain ⟨hr, hk⟩ := chRK hok.2
  rw [toC_w]
  obtain ⟨r, hrr⟩ : ∃ r, chR (toC c) = r := ⟨_, rfl⟩
  obtain ⟨k, hkk⟩ : ∃ k, chK (toC c) = k := ⟨_, rfl⟩
  rw [hrr] at hr ⊢
  rw [hkk] at hk ⊢
  simp only [hrr, hkk] at EE
  obtain ⟨K, L, V⟩ := c
  simp only at EE ⊢
  replace EE := Lib.hid EE
  obtain ⟨d1, d2, d3⟩ := chip_box w K L V 35
  have HS := Lib.hid ((World.Since.refl w.heap.size w).alloc (Nat.le_refl _) (.cells #[.string K, .int .i64 L, .int .i64 V] 35))
  have E := Lib.hid (fun (W : World) => unitTable_any n (by omega) W)
  have HUL := Lib.hid (unitL_length n n)
  have HUR := Lib.hid (unit_row hr)
  have hmix : Try.prog.follows .mixedOrders = true := by kernel_rfl
  clear hrr hkk hok
  go_enter Try.func63, Try.ntmps63
  go_wp2_with (first
    | (go_at_call 61; refine (E.out _).mono ?_; rintro e w1 ⟨rfl, hs1, ho1⟩; have e2 := (hs1.cell (a := ⟨w.heap.size, 1, none⟩) (by simp)).trans d2; have e3 := (hs1.cell (a := ⟨w.heap.size, 2, none⟩) (by simp)).trans d3; have e1 := (hs1.cell (a := ⟨w.heap.size, 0, none⟩) (by simp)).trans d1; have HSA := Lib.hid (HS.out.trans (since_mono hs1 HS.out.size)); have HO1 := Lib.hid ho1; clear hs1 ho1)
    | (go_at_call 111; refine (EE.out _).mono ?_; rintro e w2 ⟨rfl, hs2⟩; obtain ⟨b, g, c, hbq, t1, t2, t3, t4, t5⟩ := (HO1.out.since hs2).put (r := r) (k := k) (by rw [HUL.out]; exact hr) (by rw [HUR.out]; exact hk); rw [HUR.out] at t1; simp only [Option.some.injEq, Addr.mk.injEq, and_true, World.size_alloc] at hbq; subst hbq; rw [World.size_alloc] at t5; have HT5 := Lib.hid t5; have f3 := (hs2.cell (a := ⟨w.heap.size, 2, none⟩) (World.block_lt_of_cell? _ _ e3)).trans e3; have HSB := Lib.hid (HSA.out.trans (since_mono hs2 HSA.out.size)); have HG := Lib.hid t4; clear hs2 t5 t4 e1 e2 e3))
  go_still_tail 8, hmix
  go_wp2
  go_ret
  exact ⟨_, _, rfl, (HSB.out.setCell (a := ⟨g, k, none⟩) (by have := HG.out.1; simp at this; show w.heap.size ≤ g; omega) _).drew, HT5.out V⟩

end Go.Proofs.Ytggmiojhglkcgaa
end

section
namespace Go.Proofs.Ytggmiojhglkcgaa
open Go.RowKit Go.Deep

set_option maxHeartbeats 400000 in
theorem netIn1_any (K : ByteArray) (L V : Int) (n Bn : Nat) (hn2 : 2 ≤ n) (hn5 : n ≤ 5) (w : World) (hb : w.cell? ⟨Bn, 0, none⟩ = some (.int .i64 n)) :
    Calls Try.prog 58 #[.agg #[.string K, .int .i64 L, .int .i64 V], .pointer (some ⟨Bn, 0, none⟩)] w fun e w' => e = .returned (.bool (!chipB n ⟨K, L, V⟩)) ∧ w.Since w.heap.size w' := by
  have E := Lib.hid (fun (W : World) => isIn_any K L V n hn2 hn5 W)
  obtain ⟨d1, d2, d3⟩ := chip_box w K L V 35
  have HS := Lib.hid ((World.Since.refl w.heap.size w).alloc (Nat.le_refl _) (.cells #[.string K, .int .i64 L, .int .i64 V] 35))
  have hb' := cell_alloc_l (.cells #[.string K, .int .i64 L, .int .i64 V] 35) hb
  clear hb
  go_enter Try.func58, Try.ntmps58
  go_wp2_with (go_at_call 59; refine (E.out _).mono ?_; rintro e w1 ⟨rfl, hs1⟩; have HS1 := Lib.hid (HS.out.trans (since_mono hs1 HS.out.size)); clear hs1)
  go_ret
  exact ⟨rfl, HS1.out⟩

theorem all_no {n : Int} {cs : List RC} {i : Nat} (hi : i < cs.length) (h : chipB n (cs.getD i rc0) = false) : cs.all (chipB n) = false := by
  cases e : cs.all (chipB n) with
  | false => rfl
  | true =>
    have h1 := List.all_eq_true.1 e (cs.getD i rc0) (by
      have : cs.getD i rc0 = cs[i] := by simp [List.getD, hi]
      rw [this]; exact List.getElem_mem _)
    rw [h] at h1; cases h1
theorem all_yes {n : Int} {cs : List RC} (h : ∀ i, i < cs.length → chipB n (cs.getD i rc0) = true) : cs.all (chipB n) = true := List.all_eq_true.2 fun c hc => by
  obtain ⟨i, hi, e⟩ := List.mem_iff_getElem.1 hc
  have := h i hi
  rw [show cs.getD i rc0 = cs[i] by simp [List.getD, hi], e] at this
  exact this

def IdxPost (b : Bool) (w : World) (e : Ending) (w' : World) : Prop := ∃ z : Int, e = .returned (.int .i64 z) ∧ decide (0 ≤ z) = !b ∧ w.Since w.heap.size w'

set_option maxRecDepth 100000 in
set_option maxHeartbeats 400000 in
theorem indexF_any (a : Option Addr) (cap N n Bn : Nat) (cs : List RC) (w : World) (hN : cs.length = N) (h10 : N ≤ 10) (hn2 : 2 ≤ n) (hn5 : n ≤ 5) (hm : ChipsR w a cs) (hb : w.cell? ⟨Bn, 0, none⟩ = some (.int .i64 n)) :
    Calls Try.prog 104 #[.slice a N cap, .func (.func 58) #[] #[.pointer (some ⟨Bn, 0, none⟩)]] w (IdxPost (cs.all (chipB n)) w) := by
  have E := Lib.hid (fun (W : World) (hs : w.Since w.heap.size W) (K : ByteArray) (L V : Int) => netIn1_any K L V n Bn hn2 hn5 W ((hs.cell (World.block_lt_of_cell? _ _ hb)).trans hb))
  have HN := Lib.hid hN
  have HM := Lib.hid hm
  have HF := Lib.hid (fun (i : Nat) (hi : i < N) h => all_no (n := n) (cs := cs) (i := i) (by omega) h)
  have HT := Lib.hid (fun h => all_yes (n := (n : Int)) (cs := cs) h)
  clear hN hm hb
  go_enter Try.func104, Try.ntmps104
  go_wp2_with fail
  go_loopg [5, 8] N (fun g _ i wr => ∃ r : Nat, r ≤ N ∧ g = N - r ∧ i = .int .i64 r ∧ w.Since w.heap.size wr ∧ ∀ j, j < r → chipB n (cs.getD j rc0) = true)
  case atStart => exact ⟨0, Nat.zero_le _, rfl, rfl, World.Since.refl _ _, fun j hj => by omega⟩
  case round =>
    obtain ⟨r, hr, rfl, rfl, hS, hall⟩ := hrel
    by_cases hlt : r < N
    · obtain ⟨b, o, rfl, k1, k2, k3⟩ := HM.out.at (show r < cs.length by rw [HN.out]; exact hlt)
      have c1 := (hS.cell (World.block_lt_of_cell? _ _ k1)).trans k1
      have c2 := (hS.cell (World.block_lt_of_cell? _ _ k2)).trans k2
      have c3 := (hS.cell (World.block_lt_of_cell? _ _ k3)).trans k3
      have hf := HF.out r hlt
      have ht := fun (h : chipB n (cs.getD r rc0) = true) => show ∀ j, j < r + 1 → chipB n (cs.getD j rc0) = true from fun j hj => by
        by_cases e : j = r
        · subst e; exact h
        · exact hall j (by omega)
      obtain ⟨c, hc⟩ : ∃ c, cs.getD r rc0 = c := ⟨_, rfl⟩
      rw [hc] at c1 c2 c3 hf ht
      obtain ⟨K, L, V⟩ := c
      simp only at c1 c2 c3
      have E1 := E.out wr hS K L V
      have HS := Lib.hid hS
      have HTT := Lib.hid ht
      cases hcb : chipB n ⟨K, L, V⟩ with
      | false =>
        have HFF := Lib.hid (hf hcb)
        rw [hcb] at E1
        replace E1 := Lib.hid E1
        clear k1 k2 k3 hc hcb hf hall hS ht
        go_wp2_with (go_at_call 58; refine (E1.out).mono ?_; rintro e w1 ⟨rfl, hs1⟩; have HS1 := Lib.hid (HS.out.trans (since_mono hs1 HS.out.size)); clear hs1)
        go_ret
        exact ⟨_, rfl, by rw [HFF.out]; simp, HS1.out⟩
      | true =>
        rw [hcb] at E1
        replace E1 := Lib.hid E1
        have HTA := Lib.hid (ht hcb)
        clear k1 k2 k3 hc hcb hf hall hS ht HTT
        go_wp2_with (go_at_call 58; refine (E1.out).mono ?_; rintro e w1 ⟨rfl, hs1⟩; have HS1 := Lib.hid (HS.out.trans (since_mono hs1 HS.out.size)); clear hs1)
        go_roundg (N - (r + 1))
        case measure => omega
        case rel => exact ⟨r + 1, by omega, rfl, by go_num, HS1.out, HTA.out⟩
    · obtain rfl : r = N := by omega
      have HTA := Lib.hid (HT.out (fun i hi => hall i (by rw [HN.out] at hi; exact hi)))
      have HS := Lib.hid hS
      clear hall hS
      go_wp2_with fail
      go_ret
      exact ⟨_, rfl, by rw [HTA.out]; rfl, HS.out⟩

set_option maxHeartbeats 400000 in
theorem containsF_any (a : Option Addr) (cap N n Bn : Nat) (cs : List RC) (w : World) (hN : cs.length = N) (h10 : N ≤ 10) (hn2 : 2 ≤ n) (hn5 : n ≤ 5) (hm : ChipsR w a cs) (hb : w.cell? ⟨Bn, 0, none⟩ = some (.int .i64 n)) :
    Calls Try.prog 57 #[.slice a N cap, .func (.func 58) #[] #[.pointer (some ⟨Bn, 0, none⟩)]] w fun e w' => e = .returned (.bool (!cs.all (chipB n))) ∧ w.Since w.heap.size w' := by
  have E := Lib.hid (indexF_any a cap N n Bn cs w hN h10 hn2 hn5 hm hb)
  obtain ⟨b, hbb⟩ : ∃ b, cs.all (chipB n) = b := ⟨_, rfl⟩
  rw [hbb] at E ⊢
  clear hbb hN hm hb
  go_enter Try.func57, Try.ntmps57
  go_wp2_with (go_at_call 104; refine (E.out).mono ?_; rintro e w1 ⟨z, rfl, hz, hs1⟩; have HZ := Lib.hid hz; have HS1 := Lib.hid hs1; clear hs1 hz)
  go_ret
  exact ⟨ret_bool HZ.out, HS1.out⟩

set_option maxHeartbeats 400000 in
theorem implNetIn_any (a : Option Addr) (cap N : Nat) (n : Int) (cs : List RC) (w : World) (hN : cs.length = N) (h63 : N ≤ 9223372036854775807) (hm : ChipsR w a cs) :
    Calls Try.prog 15 #[.int .i64 n, .slice a N cap] w fun e w' => e = .returned (.bool (netB n cs)) ∧ w.Since w.heap.size w' := by
  have hv : netB n cs = (inB n 2 5 && (decide (N ≤ 10) && cs.all (chipB n))) := by unfold netB; rw [hN]
  have HS := Lib.hid ((World.Since.refl w.heap.size w).alloc (Nat.le_refl _) (.cells #[.int .i64 n] 3))
  have hbx := (cell_new_l w (.int .i64 n) 3).1
  obtain ⟨b, hbb⟩ : ∃ b, inB n 2 5 = b := ⟨_, rfl⟩
  rw [hbb] at hv
  have E := fun (W : World) => inRange_any n 2 5 W
  simp only [hbb] at E
  replace E := Lib.hid E
  cases b with
  | false =>
    rw [hv, Bool.false_and]
    clear hv hbb hN hm
    go_enter Try.func15, Try.ntmps15
    go_wp2_with (go_at_call 56; refine (E.out _).mono ?_; rintro e w' ⟨rfl, rfl⟩)
    go_ret
    exact ⟨rfl, HS.out⟩
  | true =>
    unfold inB at hbb
    have hbb := of_decide_eq_true hbb
    obtain ⟨m, rfl⟩ : ∃ m : Nat, n = m := ⟨n.toNat, by omega⟩
    rw [Bool.true_and] at hv
    by_cases h10 : N ≤ 10
    · rw [decide_eq_true h10, Bool.true_and] at hv
      have hl' : decide ((10 : Int) < (N : Int)) = false := by simp; omega
      have E2 := Lib.hid (containsF_any a cap N m w.heap.size cs (w.alloc (.cells #[.int .i64 m] 3)) hN h10 (by omega) (by omega) (hm.since ((World.Since.refl w.heap.size w).alloc (Nat.le_refl _) _)) hbx)
      obtain ⟨q, hq⟩ : ∃ q, cs.all (chipB m) = q := ⟨_, rfl⟩
      rw [hq] at hv E2
      rw [hv]
      clear hv hbb hN hm hq
      go_enter Try.func15, Try.ntmps15
      go_wp2_with (first
        | (go_at_call 56; refine (E.out _).mono ?_; rintro e w' ⟨rfl, rfl⟩)
        | (go_at_call 57; refine (E2.out).mono ?_; rintro e w1 ⟨rfl, hs1⟩; have HS1 := Lib.hid (HS.out.trans (since_mono hs1 HS.out.size)); clear hs1))
      go_ret
      exact ⟨by simp, HS1.out⟩
    · rw [decide_eq_false h10, Bool.false_and] at hv
      have hl' : decide ((10 : Int) < (N : Int)) = true := by simp; omega
      rw [hv]
      clear hv hbb hN hm
      go_enter Try.func15, Try.ntmps15
      go_wp2_with (go_at_call 56; refine (E.out _).mono ?_; rintro e w' ⟨rfl, rfl⟩)
      go_ret
      exact ⟨rfl, HS.out⟩

end Go.Proofs.Ytggmiojhglkcgaa
end

section
namespace Go.Proofs.Ytggmiojhglkcgaa
open Go.RowKit Go.Deep Go.Shelf
attribute [local go_sem] Oper.semAt_some

theorem lsum_bdR {n : Nat} (f : Nat → Int) (hf : ∀ j, j < n → -1000000000000 ≤ f j ∧ f j ≤ 1000000000000) (pre : List {i : Nat // i < n}) : -(1000000000000 * (pre.length : Int)) ≤ lsum f pre ∧ lsum f pre ≤ 1000000000000 * (pre.length : Int) := by
  have H : ∀ (pre : List {i : Nat // i < n}) (s : Int), s - 1000000000000 * (pre.length : Int) ≤ pre.foldl (fun s x => s + f x.1) s ∧ pre.foldl (fun s x => s + f x.1) s ≤ s + 1000000000000 * (pre.length : Int) := by
    intro pre
    induction pre with
    | nil => intro s; simp
    | cons x xs ih =>
      intro s
      have h1 := ih (s + f x.1)
      have h2 := hf x.1 x.2
      simp only [List.foldl_cons, List.length_cons]
      omega
  have := H pre 0
  unfold lsum
  omega

set_option maxRecDepth 100000 in
set_option maxHeartbeats 2000000 in
theorem prodEntryR_any (pu pt i k n n2 m m2 cap cap2 : Nat) (a a2 : Option Addr) (l u : List (List Int)) (w : World) (hn : l.length = n) (hu : u.length = n2) (hT : Rec l) (hTu : Rec u) (hmm : (l.getD 0 []).length = m) (hmm2 : (u.getD 0 []).length = m2) (hmn : m = n2)
    (hbu : w.cell? ⟨pu, 0, none⟩ = some (.slice a2 n2 cap2)) (hbt : w.cell? ⟨pt, 0, none⟩ = some (.slice a n cap)) (hm : MatR w a l) (hmu : MatR w a2 u) (hi : i < n) (hk : k < m2) (hB : ∀ j, j < n2 → -1000000000000 ≤ dotF l u i k j ∧ dotF l u i k j ≤ 1000000000000) :
    Calls Try.prog 108 #[.int .i64 i, .int .i64 k, .pointer (some ⟨pu, 0, none⟩), .pointer (some ⟨pt, 0, none⟩)] w fun e w' => e = .returned (.int .i64 (sumN (dotF l u i k) n2)) ∧ w.Since w.heap.size w' := by
  subst hmn
  have h6 := hT.high
  have g6 := hTu.high
  have h1 := hT.low
  have g1 := hTu.low
  have hw := hT.width
  have gw := hTu.width
  rw [hn] at h6 h1
  rw [hu] at g6 g1
  rw [hmm] at hw
  rw [hmm2] at gw
  obtain ⟨bt, ot, At, Ct, rfl, hlen, hcell⟩ := hm.gridR hn hT hmm
  obtain ⟨bu, ou, Au, Cu, rfl, hlenu, hcellu⟩ := hmu.gridR hu hTu hmm2
  have hpu : pu < w.heap.size := World.block_lt_of_cell? _ _ hbu
  have hpt : pt < w.heap.size := World.block_lt_of_cell? _ _ hbt
  have hbul : bu < w.heap.size := World.block_lt_of_cell? _ _ (hlenu 0 (by omega))
  have hbtl : bt < w.heap.size := World.block_lt_of_cell? _ _ (hlen 0 (by omega))
  have hpow : 2 ^ m - 1 ≤ 63 := by have : 2 ^ m ≤ 2 ^ 6 := Nat.pow_le_pow_right (by omega) g6; omega
  have HC := Lib.hid hcell
  have HCU := Lib.hid hcellu
  have HLU := Lib.hid hlenu
  obtain ⟨f, hf⟩ : ∃ f, f = dotF l u i k := ⟨_, rfl⟩
  rw [← hf]
  have HBF := Lib.hid (show ∀ j, j < m → -1000000000000 ≤ f j ∧ f j ≤ 1000000000000 by rw [hf]; exact hB)
  have HF := Lib.hid hf
  have hmix : Try.prog.follows .mixedOrders = true := by kernel_rfl
  clear hm hmu hT hTu hn hu hmm hmm2 hlen hcell hlenu hcellu hf hB
  refine (callsIn_wide (n := 9)).1 ?_
  refine callsIn_of_wp_marks Try.func108 rfl trivial ?_ rfl
  simp only [Try.ntmps108, List.size_toArray, List.length_cons, List.length_nil, Nat.reduceAdd, Nat.reduceSub, Array.replicate_succ, Array.replicate_zero, List.push_toArray, List.append_toArray, List.nil_append, List.cons_append]
  have hbuA := fun (o1 o2 o3 : Obj) => cell_alloc_l o3 (cell_alloc_l o2 (cell_alloc_l o1 hbu))
  gi_wp2
  gi_region_with_o (first
    | (refine ⟨trivial, ?_⟩; gi_at_call 110; refine (callsIn_wide.2 (allRows_any _ _ _ _ g6)).mono ?_; rintro e w' ⟨rfl, rfl⟩)
    | (refine ⟨trivial, ?_⟩; gi_at_call 109; refine (callsIn_wide.2 (rows_any _ _ _ _ _)).mono ?_; rintro e w' ⟨rfl, rfl⟩))
  all_goals
    gi_wp2
    obtain ⟨W0, hW0⟩ : ∃ W0, W0 = (((((w.alloc (.cells #[.int .i64 i] 3)).alloc (.cells #[.int .i64 k] 3)).alloc (.cells #[.int .i64 0] 3)).alloc (.cells #[.slice (some ⟨bu, ou, none⟩) m cap2] 59)).alloc (.cells #[.int .i64 (2 ^ m - 1 : Nat)] 3)).drew := ⟨_, rfl⟩
    rw [← hW0]
    obtain ⟨hsz0, hB0, d0, d1, d2, d2f, d3, d4⟩ := prod_world w (.int .i64 i) (.int .i64 k) (.int .i64 0) (.slice (some ⟨bu, ou, none⟩) m cap2) (.int .i64 (2 ^ m - 1 : Nat)) 59 W0 hW0
    have hc0' : ∀ j, j < m → W0.cell? ⟨bu, ou + j, none⟩ = some (.slice (Au j) m2 (Cu j)) := fun j hj => (hB0.cell (p := ⟨bu, ou + j, none⟩) hbul).trans (HLU.out j hj)
    have hstops := rows_stopsB 8 (by omega) (w.heap.size + 1 + 1) W0.heap.size (w.heap.size + 1 + 1 + 1) (w.heap.size + 1 + 1 + 1 + 1) bu ou m cap2 (2 ^ m - 1) (by omega) hpow Au (fun _ => m2) Cu W0 (Nat.le_refl _) (by omega) (by omega) (by omega) (by omega) (by omega) d3 d4 hc0'
    clear hc0' d3 d4 hbuA
    refine wpIn_rangeFunc_ownF (F := Fence.wide) (n := 9) rfl (by omega) (gf := 129) (lb := #[.pointer (some ⟨w.heap.size + 1 + 1 + 1, 0, none⟩), .pointer (some ⟨w.heap.size + 1 + 1 + 1 + 1, 0, none⟩)]) rfl trivial (enters_of Try.func129 (by kernel_rfl) rfl)
      hstops kpB_t (kpB_b (Nat.le_refl _)) (Below.refl _ _) (fun _ => rfl)
      (fun pre W => (W.cell? ⟨w.heap.size, 0, none⟩ = some (.int .i64 i) ∧ W.cell? ⟨w.heap.size + 1, 0, none⟩ = some (.int .i64 k) ∧ W.cell? ⟨w.heap.size + 1 + 1, 0, none⟩ = some (.int .i64 (lsum f pre)) ∧ W.frozen? ⟨w.heap.size + 1 + 1, 0, none⟩ = false) ∧ Below w.heap.size w W)
      (fun _ _ _ => False)
      (OwnFrom.and (Own.from (fun s A B row hs hg hr => ⟨cell_kept hs.1 hg hr, cell_kept hs.2.1 hg hr, cell_kept hs.2.2.1 hg hr, (frozen_kept hs.2.2.1 hg hr).trans hs.2.2.2⟩) _) (ownFrom_below (Nat.le_refl _) (by omega)))
      (fun c => fun s A B row hs hg hr => hs)
      ⟨⟨d0, d1, d2, d2f⟩, hB0⟩
      (fun x => { tmps := #[.int .i64 i, .int .i64 k, .pointer (some ⟨pu, 0, none⟩), .pointer (some ⟨pt, 0, none⟩), .pointer (some ⟨w.heap.size, 0, none⟩), .pointer (some ⟨w.heap.size + 1, 0, none⟩), .int .i64 0,
          .pointer (some ⟨w.heap.size + 1 + 1, 0, none⟩), .int .i64 x.1, .slice (Au x.1) m2 (Cu x.1), .slice (some ⟨bu, ou, none⟩) m cap2, .slice (some ⟨bu, ou, none⟩) m cap2, .int .i64 (2 ^ m - 1 : Nat),
          .func (.func 129) #[] #[.pointer (some ⟨w.heap.size + 1 + 1 + 1, 0, none⟩), .pointer (some ⟨w.heap.size + 1 + 1 + 1 + 1, 0, none⟩)],
          .int .i64 x.1, .slice (Au x.1) m2 (Cu x.1), undef, undef, undef, undef, undef, undef, undef, undef, undef, undef, undef, undef, undef, undef, undef], defers := [] }) ?assign ?body ?done ?stop
    case assign =>
      intro lp x W K hK
      gi_wp2
      exact hK
    case body =>
      rintro lp pre x W ⟨⟨g0, g1, g2, g2f⟩, gB⟩ hlen
      have hx2 := x.2
      obtain ⟨j, hj⟩ : ∃ j, x.1 = j := ⟨_, rfl⟩
      rw [hj] at hx2 ⊢
      obtain ⟨bi, oi, e1, e2⟩ := HC.out i j hi hx2
      obtain ⟨bj, oj, f1, f2⟩ := HCU.out j k hx2 hk
      have hAu : Au j = some ⟨bj, oj, none⟩ := by
        have := (HLU.out j hx2).symm.trans f1
        simp at this
        exact this
      rw [hAu]
      have hsn := lsum_snoc f pre x
      rw [hj] at hsn
      have hfj : f j = at2 l i j * at2 u j k := by rw [HF.out]; rfl
      have hlb := lsum_bdR f HBF.out pre
      have hpj := HBF.out j hx2
      have hl7 : pre.length ≤ 6 := by omega
      obtain ⟨p, hp⟩ : ∃ p, at2 l i j = p := ⟨_, rfl⟩
      obtain ⟨q, hq⟩ : ∃ q, at2 u j k = q := ⟨_, rfl⟩
      obtain ⟨s, hs⟩ : ∃ s, lsum f pre = s := ⟨_, rfl⟩
      rw [hp] at e2 hfj
      rw [hq] at f2 hfj
      rw [hs] at g2 hsn hlb
      rw [hfj] at hpj
      have hw1 : IntKind.i64.wrap (p * q) = p * q := IntWalk.i64_in _ ⟨by omega, by omega⟩
      have hw2 : IntKind.i64.wrap (s + p * q) = s + p * q := IntWalk.i64_in _ ⟨by omega, by omega⟩
      rw [hfj] at hsn
      have HSN := Lib.hid hsn
      have E0 := (gB.cell (p := ⟨pt, 0, none⟩) hpt).trans hbt
      have E1 := (gB.cell (p := ⟨bt, ot + i, none⟩) hbtl).trans e1
      have E2 := (gB.cell (p := ⟨bi, oi + j, none⟩) (World.block_lt_of_cell? _ _ e2)).trans e2
      have F2 := (gB.cell (p := ⟨bj, oj + k, none⟩) (World.block_lt_of_cell? _ _ f2)).trans f2
      clear hj hp hq hs hsn hlb hfj e1 e2 f1 f2 hAu hpj hl7
      gi_wp2
      refine round_still_tail 14 hmix (by kernel_rfl) (by kernel_rfl) ?hno ?_
      case hno =>
        rintro ⟨a, w, h⟩
        exact h
      simp only [List.take_succ_cons, List.take_zero, List.drop_succ_cons, List.drop_zero]
      repeat still_step
      refine wpStill_nil ?_
      go_wp2
      rw [← HSN.out] at hw2 ⊢
      have hset : ∀ v, (W.setCell ⟨w.heap.size + 1 + 1, 0, none⟩ v).frozen? ⟨w.heap.size + 1 + 1, 0, none⟩ = false := fun v => (W.frozen?_setCell _ _ _).trans g2f
      refine ⟨(KeepsOthers.setCell _ _ _).trans (KeepsOthers.drew _), ⟨?_, fun b h1 _ => ?_⟩, ⟨?_, ?_, ?_, ?_⟩, (gB.setCell (p := ⟨w.heap.size + 1 + 1, 0, none⟩) (by simp; omega) _).drew⟩
      · simp
      · exact Below.heap_setCell _ _ _ _ h1
      · exact (World.cell?_setCell_other _ _ _ _ (fun e => by injection e with e1; omega)).trans g0
      · exact (World.cell?_setCell_other _ _ _ _ (fun e => by injection e with e1; omega)).trans g1
      · exact World.cell?_setCell_same' _ _ _ (by rw [g2]; rfl)
      · exact hset _
    case done => 
      rintro D ys W hD rfl ⟨⟨g0, g1, g2, g2f⟩, gB⟩ hK
      gi_wp2
      refine ⟨by simp, .inl ⟨_, _, rfl, run_takeDeferred hK, ?_⟩⟩
      refine ⟨.int .i64 (sumN f m), ?_, rfl, below_since (gB.trans (belowK_b (w := w) (Nat.le_refl _) W D _ _ (by omega) hK rfl rfl))⟩
      have hls := lsum_sel f (2 ^ m - 1) m (fun i hi => by rw [Nat.testBit_two_pow_sub_one]; simpa using hi) m (Nat.le_refl _)
      simp [results, Try.f108, go_sem, hls]
    case stop =>
      rintro D c pre W hD hpre hF hK
      exact hF.elim

set_option maxRecDepth 100000 in
set_option maxHeartbeats 2000000 in
theorem productT_any (a : Option Addr) (cap n : Nat) (l : List (List Int)) (a2 : Option Addr) (cap2 n2 : Nat) (u : List (List Int)) (w : World) (hn : l.length = n) (hT : Rec l) (hm : MatR w a l) (hu : u.length = n2) (hTu : Rec u) (huw : (l.getD 0 []).length = n2) (hmu : MatR w a2 u) (hB : ∀ i j k, i < n → j < n2 → k < (u.getD 0 []).length → -1000000000000 ≤ at2 l i j * at2 u j k ∧ at2 l i j * at2 u j k ≤ 1000000000000) :
    Calls Try.prog 62 #[.slice a n cap, .slice a2 n2 cap2] w fun e w' => e = .returned (.slice (some ⟨w.heap.size + 1 + 1, 0, none⟩) n n) ∧ w.Since w.heap.size w' ∧ OwnT w.heap.size w'.heap.size w' (some ⟨w.heap.size + 1 + 1, 0, none⟩) (makeL l u) := by
  have hw := hTu.width
  have h6 := hT.high
  rw [hn] at h6
  have g6 := hTu.high
  have g1 := hTu.low
  rw [hu] at g6 g1
  have hwid := fun (W : World) (hs : w.Since w.heap.size W) => width_any a2 cap2 n2 u W hu (by omega) (by omega) (hmu.since hs)
  obtain ⟨m2, hmm⟩ : ∃ m, (u.getD 0 []).length = m := ⟨_, rfl⟩
  rw [hmm] at hB
  have hnt := fun (W : World) (hs : w.Since w.heap.size W) (hb0 : W.cell? ⟨w.heap.size, 0, none⟩ = some (.slice a n cap)) (hb1 : W.cell? ⟨w.heap.size + 1, 0, none⟩ = some (.slice a2 n2 cap2)) =>
    newTable_any 108 #[.pointer (some ⟨w.heap.size + 1, 0, none⟩), .pointer (some ⟨w.heap.size, 0, none⟩)] n m2 (fun i k => sumN (dotF l u i k) n2) W (by omega) (by omega) (enters_of Try.func108 (by kernel_rfl) rfl)
      (fun W' i k hs' hi hk => prodEntryR_any (w.heap.size + 1) w.heap.size i k n n2 n2 m2 cap cap2 a a2 l u W' hn hu hT hTu huw hmm rfl ((hs'.cell (a := ⟨w.heap.size + 1, 0, none⟩) (World.block_lt_of_cell? _ _ hb1)).trans hb1) ((hs'.cell (a := ⟨w.heap.size, 0, none⟩) (World.block_lt_of_cell? _ _ hb0)).trans hb0) (hm.since (hs.trans (since_mono hs' hs.size))) (hmu.since (hs.trans (since_mono hs' hs.size))) hi hk (fun j hj => hB i j k hi hj hk))
  have htl : makeL l u = tabF n m2 (fun i k => sumN (dotF l u i k) n2) := by unfold makeL; rw [hmm, hn, hu]
  rw [hmm] at hwid hw
  rw [htl]
  have HW := Lib.hid hwid
  have HNT := Lib.hid hnt
  have HS1 := Lib.hid (show w.Since w.heap.size ((w.alloc (.cells #[.slice a n cap] 59)).alloc (.cells #[.slice a2 n2 cap2] 59)) from (((World.Since.refl _ _).alloc (Nat.le_refl _) _).alloc (by simp) _))
  have hc0 := cell_new_l w (.slice a n cap) 59
  have hc1 := cell_new_l (w.alloc (.cells #[.slice a n cap] 59)) (.slice a2 n2 cap2) 59
  simp only [World.size_alloc] at hc1
  have hcb0 : ((w.alloc (.cells #[.slice a n cap] 59)).alloc (.cells #[.slice a2 n2 cap2] 59)).cell? ⟨w.heap.size, 0, none⟩ = some (.slice a n cap) := (cell_alloc_l _ hc0.1)
  have hcb1 : ((w.alloc (.cells #[.slice a n cap] 59)).alloc (.cells #[.slice a2 n2 cap2] 59)).cell? ⟨w.heap.size + 1, 0, none⟩ = some (.slice a2 n2 cap2) := hc1.1
  clear hwid hnt hm hT hn hmm htl hc0 hc1 hu hTu huw hmu hB
  go_enter Try.func62, Try.ntmps62
  go_wp2
  go_region_held3 (fun w' => w'.cell? ⟨w.heap.size, 0, none⟩ = some (.slice a n cap) ∧ w'.cell? ⟨w.heap.size + 1, 0, none⟩ = some (.slice a2 n2 cap2)) (go_keep)
    (first
      | (go_at_call 88; refine (HW.out _ ?_).mono ?_; (exact World.Since.drew HS1.out); rintro e w1 ⟨rfl, rfl⟩)
      | (go_at_call 106; refine (HNT.out _ ?_ ?_ ?_).mono ?_; (exact World.Since.drew HS1.out); (exact hcb0); (exact hcb1); rintro e w1 ⟨rfl, hs2, ho⟩; have hcc := hs2.cell (a := ⟨w.heap.size, 0, none⟩) (World.block_lt_of_cell? _ _ hcb0); simp only [World.cell?_drew, hcb0] at hcc; have hcd := hs2.cell (a := ⟨w.heap.size + 1, 0, none⟩) (World.block_lt_of_cell? _ _ hcb1); simp only [World.cell?_drew, hcb1] at hcd))
  all_goals
    go_wp2
    go_ret
    refine ⟨rfl, HS1.out.trans (since_mono (since_of_drew hs2) (by simp; omega)), ?_⟩
    have hz : ((w.alloc (.cells #[.slice a n cap] 59)).alloc (.cells #[.slice a2 n2 cap2] 59)).drew.heap.size = w.heap.size + 1 + 1 := by simp
    rw [hz] at ho
    exact ho.mono (by omega) (Nat.le_refl _)

end Go.Proofs.Ytggmiojhglkcgaa
end

section
namespace Go.Proofs.Ytggmiojhglkcgaa
open Go.RowKit Go.Deep

set_option maxRecDepth 100000 in
set_option maxHeartbeats 400000 in
theorem implNetTable_any (a : Option Addr) (cap N : Nat) (n : Int) (cs : List RC) (w : World) (hN : cs.length = N) (h63 : N ≤ 9223372036854775807) (hm : ChipsR w a cs) :
    Calls Try.prog 18 #[.int .i64 n, .slice a N cap] w fun e w' => ∃ a' cap', e = .returned (.tuple #[.slice a' (ntabL n cs).length cap', .bool (ntabB n cs)]) ∧ w.Since w.heap.size w' ∧ OwnT w.heap.size w'.heap.size w' a' (ntabL n cs) := by
  have E := implNetIn_any a cap N n cs w hN h63 hm
  cases hb : netB n cs with
  | false =>
    have hf : ntabB n cs = false := by unfold ntabB; rw [hb, Bool.false_and]
    unfold ntabL
    rw [hf]
    rw [hb] at E
    replace E := Lib.hid E
    clear hb hm hN hf
    go_enter Try.func18, Try.ntmps18
    go_wp2_with (go_at_call 15; refine (E.out).mono ?_; rintro e w1 ⟨rfl, hs1⟩; have HS1 := Lib.hid hs1; clear hs1)
    go_ret2
    exact ⟨_, _, rfl, HS1.out, OwnT.nil _ _ _ _⟩
  | true =>
    obtain ⟨m, rfl, ho⟩ := netB_ok hb
    rw [hb] at E
    replace E := Lib.hid E
    have hn2 := ho.lo
    have hn5 := ho.hi
    have h10 := ho.len
    rw [hN] at h10
    have hfB : ntabB m cs = tabIn (outC m cs) := by unfold ntabB; rw [hb, Bool.true_and]; rfl
    have hfL : ntabL m cs = resT (tabIn (outC m cs)) (outC m cs) := by unfold ntabL; rw [hfB]; rfl
    rw [hfB, hfL]
    have HN := Lib.hid hN
    have HM := Lib.hid hm
    have HO := Lib.hid ho
    have EU := Lib.hid (fun (W : World) => unitTable_any m (by omega) W)
    clear hb hm hN ho hfB hfL
    go_enter Try.func18, Try.ntmps18
    go_wp2_with (first
      | (go_at_call 15; refine (E.out).mono ?_; rintro e w1 ⟨rfl, hs1⟩; have HS1 := Lib.hid hs1; clear hs1)
      | (go_at_call 61; refine (EU.out _).mono ?_; rintro e w2 ⟨rfl, hs2, hu2⟩; have HS2 := Lib.hid (HS1.out.trans (since_mono hs2 HS1.out.size)); have HU2 := Lib.hid (hu2.mono HS1.out.size (Nat.le_refl _)); clear hs2 hu2))
    go_loopg [6, 8, 17] N (fun g v _ i wr => ∃ (r : Nat) (a' : Option Addr) (cap' : Nat), r ≤ N ∧ g = N - r ∧ i = .int .i64 r ∧ v = .slice a' m cap' ∧ w.Since w.heap.size wr ∧ OwnT w.heap.size wr.heap.size wr a' (outC m (cs.take r)))
    case atStart => exact ⟨0, _, _, Nat.zero_le _, rfl, rfl, rfl, HS2.out, by show OwnT _ _ _ _ (outT m []); rw [outT_nil]; exact HU2.out⟩
    case round =>
      obtain ⟨r, a', cap', hr, rfl, rfl, rfl, hS, hT⟩ := hrel
      by_cases hlt : r < N
      · have hlt' : r < cs.length := by rw [HN.out]; exact hlt
        obtain ⟨b, o, rfl, k1, k2, k3⟩ := HM.out.at hlt'
        have c1 := (hS.cell (World.block_lt_of_cell? _ _ k1)).trans k1
        have c2 := (hS.cell (World.block_lt_of_cell? _ _ k2)).trans k2
        have c3 := (hS.cell (World.block_lt_of_cell? _ _ k3)).trans k3
        have hmem : cs.getD r rc0 ∈ cs := by
          have : cs.getD r rc0 = cs[r] := by simp [List.getD, hlt']
          rw [this]; exact List.getElem_mem _
        have ET := Lib.hid (fun (W : World) => chipTable_any (cs.getD r rc0) m W (by omega) hn5 (HO.out.ok _ hmem))
        have hstep := outC_step HO.out hlt'
        have hrec2 := chT_rec (v := (toC (cs.getD r rc0)).2.2) (k := chK (toC (cs.getD r rc0))) (show 1 ≤ m by omega) (show m ≤ 6 by omega) (chRK (HO.out.ok _ hmem).2).1
        have hlen2 := chT_length m (chR (toC (cs.getD r rc0))) (chK (toC (cs.getD r rc0))) (toC (cs.getD r rc0)).2.2
        have hrow2 := chT_row (v := (toC (cs.getD r rc0)).2.2) (k := chK (toC (cs.getD r rc0))) (chRK (HO.out.ok _ hmem).2).1 (show 0 < m by omega)
        have hbd := outC_bd HO.out hlt'
        obtain ⟨c, hcc⟩ : ∃ c, cs.getD r rc0 = c := ⟨_, rfl⟩
        rw [hcc] at c1 c2 c3 ET hstep hrec2 hlen2 hrow2 hbd
        obtain ⟨U, hU⟩ : ∃ U, chT m (chR (toC c)) (chK (toC c)) (toC c).2.2 = U := ⟨_, rfl⟩
        rw [hU] at ET hstep hrec2 hlen2 hrow2 hbd
        have EM := Lib.hid (fun (W : World) (a2 : Option Addr) (cp2 : Nat) (h1 : wr.Since wr.heap.size W) (h2 : MatR W a2 U) => productT_any a' cap' m (outC m (cs.take r)) a2 cp2 m U W (outT_length _ _) (outT_rec (by omega) (by omega) _) (hT.since h1).matR hlen2 hrec2 (outT_row _ (by omega)) h2 (fun i j k hi hj hk => hbd i j k hi hj (by rw [hrow2] at hk; exact hk)))
        rw [hstep] at EM
        have HS' := Lib.hid hS
        clear k1 k2 k3 hstep hrec2 hlen2 hrow2 hbd hU hT hS hcc hmem hlt'
        obtain ⟨K, L, V⟩ := c
        simp only at c1 c2 c3 ET
        obtain ⟨d1, d2, d3⟩ := chip_box wr K L V 35
        have HA := Lib.hid ((World.Since.refl wr.heap.size wr).alloc (Nat.le_refl _) (.cells #[.string K, .int .i64 L, .int .i64 V] 35))
        go_wp2_with (first
          | (go_at_call 63; refine (ET.out _).mono ?_; rintro e w3 ⟨a3, cp3, rfl, hs3, hm3⟩; have H3 := Lib.hid (And.intro (HA.out.trans (since_mono hs3 HA.out.size)) hm3); clear hs3 hm3)
          | (go_at_call 62; refine (EM.out _ _ _ H3.out.1 H3.out.2).mono ?_; rintro e w4 ⟨rfl, hs4, ho4⟩; have H4 := Lib.hid (And.intro (H3.out.1.trans (since_mono hs4 H3.out.1.size)) (ho4.mono H3.out.1.size (Nat.le_refl _))); clear hs4 ho4))
        go_roundg (N - (r + 1))
        case measure => omega
        case rel => exact ⟨r + 1, _, _, by omega, rfl, by go_num, rfl, HS'.out.trans (since_mono H4.out.1 HS'.out.size), H4.out.2.mono HS'.out.size (Nat.le_refl _)⟩
      · obtain rfl : r = N := by omega
        rw [List.take_of_length_le (by rw [HN.out]; exact Nat.le_refl _)] at hT
        have ED := Lib.hid (result_any a' cap' m w.heap.size wr.heap.size (outC m cs) wr (outT_length _ _) (szL_outT hn5 _) hT)
        have HS' := Lib.hid hS
        clear hT hS
        go_wp2_with (go_at_call 64; refine (ED.out).mono ?_; rintro e w3 ⟨a3, cp3, rfl, hs3, hm3⟩; have H3 := Lib.hid (And.intro (HS'.out.trans (since_mono hs3 HS'.out.size)) (hm3.mono (Nat.le_refl _) hs3.size)); clear hs3 hm3)
        go_ret2
        exact ⟨_, _, rfl, H3.out.1, H3.out.2⟩

end Go.Proofs.Ytggmiojhglkcgaa
end

section
namespace Go.Proofs.Ytggmiojhglkcgaa
open Go.RowKit Go.Deep

def StC (W : World) (p : Nat) (A B : Option Addr) (x y : Int) : Prop := W.heap[p]? = some (.cells #[.pointer A, .pointer B, .int .i64 x, .int .i64 y] 127 (0, 0))
theorem StC.cells {W : World} {p : Nat} {A B : Option Addr} {x y : Int} (h : StC W p A B x y) : W.cell? ⟨p, 0, none⟩ = some (.pointer A) ∧ W.cell? ⟨p, 1, none⟩ = some (.pointer B) ∧ W.cell? ⟨p, 2, none⟩ = some (.int .i64 x) ∧ W.cell? ⟨p, 3, none⟩ = some (.int .i64 y) := by
  have h' : W.heap[p]? = _ := h
  refine ⟨?_, ?_, ?_, ?_⟩ <;> (unfold World.cell?; rw [h']; rfl)
theorem StC.lt {W : World} {p : Nat} {A B : Option Addr} {x y : Int} (h : StC W p A B x y) : p < W.heap.size := (Array.getElem?_eq_some_iff.1 h).1
theorem StC.since {W V : World} {p : Nat} {A B : Option Addr} {x y : Int} (h : StC W p A B x y) (hs : W.Since W.heap.size V) : StC V p A B x y := (hs.block p h.lt).trans h
def Lies (W : World) (E : Nat → Nat) (n : Nat) : List CH → Nat → Nat → Prop
  | [], i, p => p = E i ∧ StC W p none none 0 0
  | c :: cs, i, p => if i = chR c then (∀ k, k < n → p ≠ E k) ∧ ∃ q, Lies W E n cs i q ∧
      (if c.1 = 2 then StC W p (some ⟨q, 0, none⟩) none c.2.2 0 else ∃ r, Lies W E n cs (chK c) r ∧ StC W p (some ⟨q, 0, none⟩) (some ⟨r, 0, none⟩) 1 c.2.2) else Lies W E n cs i p
theorem Lies.since {W V : World} {E : Nat → Nat} {n : Nat} (hs : W.Since W.heap.size V) : ∀ {cs : List CH} {i p : Nat}, Lies W E n cs i p → Lies V E n cs i p
  | [], _, _, h => ⟨h.1, h.2.since hs⟩
  | c :: cs, i, p, h => by
    unfold Lies at h ⊢
    by_cases e : i = chR c
    · rw [if_pos e] at h ⊢
      obtain ⟨h1, q, h2, h3⟩ := h
      refine ⟨h1, q, h2.since hs, ?_⟩
      by_cases e2 : c.1 = 2
      · rw [if_pos e2] at h3 ⊢
        exact h3.since hs
      · rw [if_neg e2] at h3 ⊢
        obtain ⟨r, h4, h5⟩ := h3
        exact ⟨r, h4.since hs, h5.since hs⟩
    · rw [if_neg e] at h ⊢
      exact h.since hs
theorem Lies.drawn {W V : World} {E : Nat → Nat} {n : Nat} (hs : Drawn W V) {cs : List CH} {i p : Nat} (h : Lies W E n cs i p) : Lies V E n cs i p := h.since (hs.since _)
theorem Lies.lt {W : World} {E : Nat → Nat} {n : Nat} : ∀ {cs : List CH} {i p : Nat}, Lies W E n cs i p → p < W.heap.size
  | [], _, _, h => h.2.lt
  | c :: cs, i, p, h => by
    unfold Lies at h
    by_cases e : i = chR c
    · rw [if_pos e] at h
      obtain ⟨_, q, _, h3⟩ := h
      by_cases e2 : c.1 = 2
      · rw [if_pos e2] at h3
        exact h3.lt
      · rw [if_neg e2] at h3
        obtain ⟨r, _, h5⟩ := h3
        exact h5.lt
    · rw [if_neg e] at h
      exact h.lt

theorem infoSt : (Try.prog.info? 127).map (fun i => (i.size, i.bytes)) = some (4, 32) := by kernel_rfl
theorem infoSt_parts : ∃ i, Try.prog.info? 127 = some i ∧ i.size = 4 ∧ i.bytes = 32 := by
  have h := infoSt
  cases e : Try.prog.info? 127 with
  | none => rw [e] at h; cases h
  | some i =>
    rw [e] at h
    simp only [Option.map_some, Option.some.injEq, Prod.mk.injEq] at h
    exact ⟨i, rfl, h.1, h.2⟩
theorem ptr_same (p : Nat) (w : World) : (binOp .eql 107 (.pointer (some ⟨p, 0, none⟩)) (.pointer (some ⟨p, 0, none⟩))).run Try.prog w = .ok (.bool true) w := by
  obtain ⟨i, hi, _⟩ := infoSt_parts
  exact run_eql_ptr_same w _ Try.underlying107 hi
theorem ptr_other {p t : Nat} {w : World} {A B C D : Option Addr} {x y z v : Int} (hp : StC w p A B x y) (ht : StC w t C D z v) (hne : ¬ p = t) : (binOp .eql 107 (.pointer (some ⟨p, 0, none⟩)) (.pointer (some ⟨t, 0, none⟩))).run Try.prog w = .ok (.bool false) w := by
  obtain ⟨i, hi, hs, _⟩ := infoSt_parts
  exact run_eql_ptr_other w Try.underlying107 hi (by rw [hs]; decide) (fun e => hne (by injection e)) hp ht

set_option maxRecDepth 100000 in
theorem pathsTo_nil (e : Option Addr) (w : World) :
    Calls Try.prog 116 #[.pointer none, .pointer e] w fun r w' => r = .returned (.int .i64 0) ∧ ∃ m, w' = w.drewN m := by
  go_enter Try.func116, Try.ntmps116
  go_wp2_with fail
  go_ret
  exact ⟨rfl, 0, rfl⟩
set_option maxRecDepth 100000 in
theorem pathsTo_end (p : Nat) (w : World) :
    Calls Try.prog 116 #[.pointer (some ⟨p, 0, none⟩), .pointer (some ⟨p, 0, none⟩)] w fun r w' => r = .returned (.int .i64 1) ∧ ∃ m, w' = w.drewN m := by
  have hq := ptr_same p w
  go_enter Try.func116, Try.ntmps116
  go_wp2_with fail
  go_ret
  exact ⟨rfl, 0, rfl⟩

set_option maxRecDepth 100000 in
set_option maxHeartbeats 400000 in
theorem pathsTo_step (p t : Nat) (A B : Option Addr) (x y P R : Int) (w : World) (hq : (binOp .eql 107 (.pointer (some ⟨p, 0, none⟩)) (.pointer (some ⟨t, 0, none⟩))).run Try.prog w = .ok (.bool false) w) (hc : StC w p A B x y) (hw1 : IntKind.i64.wrap (x * P) = x * P) (hw2 : IntKind.i64.wrap (y * R) = y * R) (hw3 : IntKind.i64.wrap (x * P + y * R) = x * P + y * R)
    (hA : ∀ q, Calls Try.prog 116 #[.pointer A, .pointer (some ⟨t, 0, none⟩)] (w.drewN q) fun r w' => r = .returned (.int .i64 P) ∧ ∃ m, w' = (w.drewN q).drewN m)
    (hB : ∀ q, Calls Try.prog 116 #[.pointer B, .pointer (some ⟨t, 0, none⟩)] (w.drewN q) fun r w' => r = .returned (.int .i64 R) ∧ ∃ m, w' = (w.drewN q).drewN m) :
    Calls Try.prog 116 #[.pointer (some ⟨p, 0, none⟩), .pointer (some ⟨t, 0, none⟩)] w fun r w' => r = .returned (.int .i64 (x * P + y * R)) ∧ ∃ m, w' = w.drewN m := by
  obtain ⟨c1, c2, c3, c4⟩ := hc.cells
  clear hc
  replace hA := Lib.hid hA
  replace hB := Lib.hid hB
  go_enter Try.func116, Try.ntmps116
  go_wp2_with fail
  go_quiet ((first
    | (go_at_call 116; with_reducible exact Calls.quiet_of (hA.out _))
    | (go_at_call 116; with_reducible exact Calls.quiet_of (hB.out _))))
  go_wp2_with fail
  go_ret
  exact ⟨rfl, _, rfl⟩

end Go.Proofs.Ytggmiojhglkcgaa
end

section
namespace Go.Proofs.Ytggmiojhglkcgaa
open Go.RowKit Go.Deep

theorem infoPt : (Try.prog.info? 107).map (fun i => (i.size, i.bytes)) = some (1, 8) := by kernel_rfl
theorem zeroPt : ((Try.prog.info? 107).bind (·.zero)) = some (.pointer none) := by kernel_rfl
theorem infoPt_parts : ∃ i, Try.prog.info? 107 = some i ∧ i.zero = some (.pointer none) ∧ i.size = 1 ∧ i.bytes = 8 := by
  have h := infoPt
  have hz := zeroPt
  cases e : Try.prog.info? 107 with
  | none => rw [e] at h; cases h
  | some i =>
    rw [e] at h hz
    simp only [Option.map_some, Option.some.injEq, Prod.mk.injEq] at h
    exact ⟨i, rfl, hz, h.1, h.2⟩
def ptrV (p : Nat) : Value := .pointer (some ⟨p, 0, none⟩)
def ptrs (P : Nat → Nat) (k : Nat) : List Value := (List.range k).map fun j => ptrV (P j)
theorem ptrs_len (P : Nat → Nat) (k : Nat) : (ptrs P k).length = k := by simp [ptrs]
theorem ptrs_get (P : Nat → Nat) {k j : Nat} (h : j < k) : (ptrs P k)[j]? = some (ptrV (P j)) := by simp [ptrs, h]
theorem ptrs_succ (P : Nat → Nat) (k : Nat) : ptrs P (k + 1) = ptrs P k ++ [ptrV (P k)] := by simp [ptrs, List.range_succ]
theorem ptrs_congr {P Q : Nat → Nat} {k : Nat} (h : ∀ j, j < k → P j = Q j) : ptrs P k = ptrs Q k := List.map_congr_left fun j hj => by rw [h j (List.mem_range.1 hj)]
def PR (W : World) (b n : Nat) (P : Nat → Nat) : Prop := ∃ cur, W.heap[b]? = some (.cells cur 107 (0, 0)) ∧ ∀ j, j < n → cur[j]? = some (ptrV (P j))
theorem PR.cell {W : World} {b n : Nat} {P : Nat → Nat} (h : PR W b n P) {j : Nat} (hj : j < n) : W.cell? ⟨b, j, none⟩ = some (.pointer (some ⟨P j, 0, none⟩)) ∧ W.frozen? ⟨b, j, none⟩ = false := by
  obtain ⟨cur, h1, h2⟩ := h
  refine ⟨?_, ?_⟩
  · simp only [World.cell?, h1]
    exact h2 j hj
  · simp [World.frozen?, h1]
theorem PR.lt {W : World} {b n : Nat} {P : Nat → Nat} (h : PR W b n P) : b < W.heap.size := by
  obtain ⟨cur, h1, _⟩ := h
  exact (Array.getElem?_eq_some_iff.1 h1).1
theorem PR.block {W V : World} {b n : Nat} {P : Nat → Nat} (h : PR W b n P) (e : V.heap[b]? = W.heap[b]?) : PR V b n P := by
  obtain ⟨cur, h1, h2⟩ := h
  exact ⟨cur, e.trans h1, h2⟩
theorem PR.since {W V : World} {b n : Nat} {P : Nat → Nat} (h : PR W b n P) (hs : W.Since W.heap.size V) : PR V b n P := h.block (hs.block _ h.lt)
theorem PR.of_own {W : World} {base n : Nat} {v : Value} {P : Nat → Nat} (h : W.ownsRow base 107 1 v n (ptrs P n)) (h0 : 0 < n) : ∃ g cap, v = .slice (some ⟨g, 0, none⟩) n cap ∧ base ≤ g ∧ PR W g n P := by
  rcases h.2 with ⟨_, rfl⟩ | ⟨g, cap, cur, rfl, hb, hg, hn, _, hs, ht⟩
  · omega
  · refine ⟨g, cap, rfl, hb, cur, hg, fun j hj => ?_⟩
    have h1 : (cur.toList.take (n * 1))[j]? = some (ptrV (P j)) := by rw [ht]; exact ptrs_get P hj
    rw [List.getElem?_take] at h1
    have h2 : j < n ∧ cur[j]? = some (ptrV (P j)) := by simpa using h1
    exact h2.2
theorem PR.ne {W : World} {b n : Nat} {P : Nat → Nat} (h : PR W b n P) {p : Nat} {A B : Option Addr} {x y : Int} (hp : StC W p A B x y) : p ≠ b := by
  rintro rfl
  obtain ⟨cur, h1, _⟩ := h
  have h2 : W.heap[p]? = _ := hp
  rw [h1] at h2
  simp at h2
theorem PR.set {W : World} {b n : Nat} {P : Nat → Nat} (h : PR W b n P) {f : Nat} (p : Nat) : PR (W.setCell ⟨b, f, none⟩ (.pointer (some ⟨p, 0, none⟩))) b n (fun j => if j = f then p else P j) := by
  obtain ⟨cur, h1, h2⟩ := h
  obtain ⟨hlt, hk⟩ := Array.getElem?_eq_some_iff.1 h1
  refine ⟨cur.setIfInBounds f (.pointer (some ⟨p, 0, none⟩)), ?_, fun j hj => ?_⟩
  · show (W.heap.modify b _)[b]? = _
    rw [Array.getElem?_eq_getElem (by rw [Array.size_modify]; exact hlt), Array.getElem_modify_self, hk]
    rfl
  · have h3 := h2 j hj
    have h4 := (Array.getElem?_eq_some_iff.1 h3).1
    rw [Array.getElem?_setIfInBounds]
    by_cases e : f = j
    · subst e
      simp [h4, ptrV]
    · simp [e, Ne.symm e, h3]

set_option maxRecDepth 100000 in
set_option maxHeartbeats 400000 in
theorem clonePtr_any (b n cap : Nat) (P : Nat → Nat) (w : World) (hn : 1 ≤ n) (hn10 : n ≤ 10) (hP : PR w b n P) :
    Calls Try.prog 137 #[.slice (some ⟨b, 0, none⟩) n cap] w fun e w' => ∃ g c, e = .returned (.slice (some ⟨g, 0, none⟩) n c) ∧ w.Since w.heap.size w' ∧ w.heap.size ≤ g ∧ PR w' g n P := by
  obtain ⟨iP, hiP⟩ := infoPt_parts
  have HI := Lib.hid hiP
  have HP := Lib.hid hP
  have hq := Lib.run_eql_slice_nil (P := Try.prog) w 104 107 (some ⟨b, 0, none⟩) n cap 0 0 Try.underlying104
  simp only [Option.isNone_some] at hq
  clear hiP hP
  go_enter Try.func137, Try.ntmps137
  go_wp2_with (at_builtin; (refine wpList_append_own _ rfl _ _ 104 rfl w.heap.size 107 iP (.pointer none) 1 8 Try.underlying104 HI.out.1 HI.out.2.1 HI.out.2.2.1 HI.out.2.2.2 rfl (by decide) (.slice (some ⟨w.heap.size, 0, none⟩) 0 0) 0 [] rfl (World.ownsRow_made w #[] 0 (Nat.le_refl _) (Nat.zero_le _) (by simp)) ⟨b, 0, none⟩ n cap (ptrs P n) rfl (by rw [ptrs_len]; omega) (fun j u hj => by have hl : j < n := (by have := (List.getElem?_eq_some_iff.1 hj).1; rw [ptrs_len] at this; exact this); rw [ptrs_get P hl] at hj; cases hj; rw [addr_add, Nat.zero_add]; exact ((HP.out.since ((World.Since.refl _ _).alloc (Nat.le_refl _) _)).cell hl).1) (fun u hu => by obtain ⟨j, _, rfl⟩ := List.mem_map.1 hu; rfl) (by unfold maxLen; omega) (by omega) (by simp) ?_); intro v' w1 hown' hgrow _)
  rw [Nat.zero_add, List.nil_append] at hown'
  obtain ⟨g, c, rfl, hg, hpr⟩ := PR.of_own hown' (by omega)
  have HS := Lib.hid (((World.Since.refl w.heap.size w).alloc (Nat.le_refl _) (.cells #[] 107)).grown hgrow (by simp) (fun k e => by simp [Value.ownBlock] at e; omega))
  have HPR := Lib.hid hpr
  clear hown' hgrow hpr
  go_wp2_with fail
  go_ret
  exact ⟨_, _, rfl, HS.out, hg, HPR.out⟩

set_option maxRecDepth 100000 in
set_option maxHeartbeats 400000 in
theorem cloneChips_any (a : Option Addr) (cap N : Nat) (cs : List RC) (w : World) (hN : cs.length = N) (h10 : N ≤ 10) (hm : ChipsR w a cs) (hsa : ∃ b o, a = some ⟨b, o, none⟩) :
    Calls Try.prog 125 #[.slice a N cap] w fun e w' => ∃ a' cap', e = .returned (.slice a' N cap') ∧ w.Since w.heap.size w' ∧ OwnC w.heap.size w'.heap.size w' a' cs ∧ N ≤ cap' ∧ cap' ≤ 9223372036854775807 := by
  obtain ⟨iC, hiC⟩ := infoChip_parts
  have HI := Lib.hid hiC
  have HN := Lib.hid hN
  obtain ⟨b, o, rfl⟩ := hsa
  have HA := Lib.hid (fun (W : World) (hs : w.Since w.heap.size W) => hm.cells hs)
  have HCB := Lib.hid (cb_start w #[] rfl)
  have hq := Lib.run_eql_slice_nil (P := Try.prog) w 23 35 (some ⟨b, o, none⟩) N cap 0 0 Try.underlying23
  simp only [Option.isNone_some] at hq
  clear hiC hN hm
  go_enter Try.func125, Try.ntmps125
  go_wp2_with (at_builtin; (refine wpList_append_own _ rfl _ _ 23 rfl w.heap.size 35 iC (.agg #[.string ⟨#[]⟩, .int .i64 0, .int .i64 0]) 3 32 Try.underlying23 HI.out.1 HI.out.2.1 HI.out.2.2.1 HI.out.2.2.2 rfl (by decide) (.slice (some ⟨w.heap.size, 0, none⟩) 0 0) 0 [] rfl HCB.out.own ⟨b, o, none⟩ N cap (ch3 cs) rfl (by rw [ch3_length, HN.out]) (HA.out _ ((World.Since.refl _ _).alloc (Nat.le_refl _) _)) (ch3_one _) (by unfold maxLen; omega) (by omega) (by simp) ?_); intro v' w3 hown' hgrow _; have HC3 := Lib.hid (CB.push HCB.out (ds := cs) (n := 0 + N) (by rw [HN.out]; rfl) (World.Since.refl _ _) hown' hgrow); clear hown' hgrow)
  obtain ⟨a', cap', rfl, hO, h1, h2⟩ := HC3.out.ownC
  rw [List.nil_append] at hO h1 ⊢
  rw [HN.out] at h1 ⊢
  have HO := Lib.hid hO
  have HS := Lib.hid HC3.out.since
  clear hO HC3
  go_wp2_with fail
  go_ret
  exact ⟨_, _, rfl, HS.out, HO.out, h1, h2⟩

end Go.Proofs.Ytggmiojhglkcgaa
end

section
namespace Go.Proofs.Ytggmiojhglkcgaa
open Go.RowKit Go.Deep

theorem path_skip {c : CH} {cs : List CH} {i t : Nat} (h : ¬ i = chR c) : pathN (c :: cs) i t = pathN cs i t := by
  unfold chR at h
  show (if c.1 = 2 then (if i = c.2.1 then c.2.2 * pathN cs i t else pathN cs i t) else pathN cs i t + (if i = cFrom c then c.2.2 * pathN cs (cTo c) t else 0)) = _
  by_cases e : c.1 = 2
  · rw [if_pos e] at h ⊢
    rw [if_neg h]
  · rw [if_neg e] at h ⊢
    rw [if_neg h, Int.add_zero]
theorem path_here {c : CH} {cs : List CH} {t : Nat} (e : c.1 = 2) : pathN (c :: cs) (chR c) t = c.2.2 * pathN cs (chR c) t := by
  unfold chR
  rw [if_pos e]
  show (if c.1 = 2 then (if c.2.1 = c.2.1 then _ else _) else _) = _
  rw [if_pos e, if_pos rfl]
theorem path_over {c : CH} {cs : List CH} {t : Nat} (e : ¬ c.1 = 2) : pathN (c :: cs) (chR c) t = 1 * pathN cs (chR c) t + c.2.2 * pathN cs (chK c) t := by
  unfold chR chK
  rw [if_neg e, if_neg e]
  show (if c.1 = 2 then _ else pathN cs (cFrom c) t + (if cFrom c = cFrom c then c.2.2 * pathN cs (cTo c) t else 0)) = _
  rw [if_neg e, if_pos rfl, Int.one_mul]

theorem pathsTo_any {E : Nat → Nat} {n t : Nat} (hinj : ∀ i k, i < n → k < n → E i = E k → i = k) (ht : t < n) : ∀ (cs : List CH) (i p : Nat) (w : World), (∀ c ∈ cs, chOk n c ∧ -9 ≤ c.2.2 ∧ c.2.2 ≤ 9) → cs.length ≤ 10 → i < n → Lies w E n cs i p → StC w (E t) none none 0 0 →
    Calls Try.prog 116 #[.pointer (some ⟨p, 0, none⟩), .pointer (some ⟨E t, 0, none⟩)] w fun r w' => r = .returned (.int .i64 (pathN cs i t)) ∧ ∃ m, w' = w.drewN m
  | [], i, p, w, _, _, hi, hl, hE => by
    obtain ⟨rfl, hs⟩ := hl
    by_cases e : i = t
    · subst e
      have hp : pathN [] i i = 1 := by show (if i = i then (1 : Int) else 0) = 1; rw [if_pos rfl]
      rw [hp]
      exact pathsTo_end (E i) w
    · have hp : pathN [] i t = 0 * 0 + 0 * 0 := by show (if i = t then (1 : Int) else 0) = 0; rw [if_neg e]
      rw [hp]
      exact pathsTo_step (E i) (E t) none none 0 0 0 0 w (ptr_other hs hE (fun h => e (hinj i t hi ht h))) hs (by decide) (by decide) (by decide) (fun q => pathsTo_nil _ _) (fun q => pathsTo_nil _ _)
  | c :: cs, i, p, w, hc, h10, hi, hl, hE => by
    have hcc := hc c (by simp)
    have hc' : ∀ d ∈ cs, chOk n d ∧ -9 ≤ d.2.2 ∧ d.2.2 ≤ 9 := fun d hd => hc d (by simp [hd])
    have h10' : cs.length ≤ 10 := by simp at h10; omega
    have hbd : ∀ j, -10000000000 ≤ pathN cs j t ∧ pathN cs j t ≤ 10000000000 := fun j => by
      have h1 := path_bd cs (fun d hd => (hc' d hd).2) j t
      have h2 := p10_le h10'
      omega
    by_cases e : i = chR c
    · subst e
      unfold Lies at hl
      rw [if_pos rfl] at hl
      obtain ⟨hne, q, hq, h3⟩ := hl
      have hnet := hne t ht
      obtain ⟨hw1, hb1, hb2⟩ := wrap_mul9 hcc.2 (hbd (chR c))
      obtain ⟨hw2, hb3, hb4⟩ := wrap_mul9 hcc.2 (hbd (chK c))
      have hb5 := hbd (chR c)
      have hA := fun (m : Nat) => pathsTo_any hinj ht cs (chR c) q (w.drewN m) hc' h10' hi (hq.drawn (Drawn.mk w m)) hE
      by_cases e2 : c.1 = 2
      · rw [if_pos e2] at h3
        rw [path_here e2, show c.2.2 * pathN cs (chR c) t = c.2.2 * pathN cs (chR c) t + 0 * 0 by omega]
        exact pathsTo_step p (E t) _ none c.2.2 0 _ 0 w (ptr_other h3 hE hnet) h3 hw1 (by decide) (by rw [Int.zero_mul, Int.add_zero]; exact hw1) hA (fun q => pathsTo_nil _ _)
      · rw [if_neg e2] at h3
        obtain ⟨r, hr, h5⟩ := h3
        rw [path_over e2]
        have hk := (chRK hcc.1).2
        exact pathsTo_step p (E t) _ _ 1 c.2.2 _ _ w (ptr_other h5 hE hnet) h5 (by rw [Int.one_mul]; exact IntWalk.i64_in _ ⟨by omega, by omega⟩) hw2 (IntWalk.i64_in _ ⟨by omega, by omega⟩) hA
          (fun m => pathsTo_any hinj ht cs (chK c) r (w.drewN m) hc' h10' hk (hr.drawn (Drawn.mk w m)) hE)
    · unfold Lies at hl
      rw [if_neg e] at hl
      rw [path_skip e]
      exact pathsTo_any hinj ht cs i p w hc' h10' hi hl hE

theorem Lies.mono {W V : World} {E : Nat → Nat} {n : Nat} (hs : ∀ p A B x y, StC W p A B x y → StC V p A B x y) : ∀ {cs : List CH} {i p : Nat}, Lies W E n cs i p → Lies V E n cs i p
  | [], _, _, h => ⟨h.1, hs _ _ _ _ _ h.2⟩
  | c :: cs, i, p, h => by
    unfold Lies at h ⊢
    by_cases e : i = chR c
    · rw [if_pos e] at h ⊢
      obtain ⟨h1, q, h2, h3⟩ := h
      refine ⟨h1, q, h2.mono hs, ?_⟩
      by_cases e2 : c.1 = 2
      · rw [if_pos e2] at h3 ⊢
        exact hs _ _ _ _ _ h3
      · rw [if_neg e2] at h3 ⊢
        obtain ⟨r, h4, h5⟩ := h3
        exact ⟨r, h4.mono hs, hs _ _ _ _ _ h5⟩
    · rw [if_neg e] at h ⊢
      exact h.mono hs
theorem Lies.more {V : World} {E : Nat → Nat} {n : Nat} {cs : List CH} {c : CH} {P : Nat → Nat} {p : Nat} (hL : ∀ i, i < n → Lies V E n cs i (P i)) (hc : chOk n c) (hne : ∀ k, k < n → p ≠ E k)
    (hp : if c.1 = 2 then StC V p (some ⟨P (chR c), 0, none⟩) none c.2.2 0 else StC V p (some ⟨P (chR c), 0, none⟩) (some ⟨P (chK c), 0, none⟩) 1 c.2.2) :
    ∀ i, i < n → Lies V E n (c :: cs) i (if i = chR c then p else P i) := fun i hi => by
  obtain ⟨h1, h2⟩ := chRK hc
  unfold Lies
  by_cases e : i = chR c
  · rw [if_pos e, if_pos e]
    refine ⟨hne, P (chR c), by rw [e]; exact hL _ h1, ?_⟩
    by_cases e2 : c.1 = 2
    · rw [if_pos e2] at hp ⊢
      exact hp
    · rw [if_neg e2] at hp ⊢
      exact ⟨P (chK c), hL _ h2, hp⟩
  · rw [if_neg e, if_neg e]
    exact hL i hi

end Go.Proofs.Ytggmiojhglkcgaa
end

section
namespace Go.Proofs.Ytggmiojhglkcgaa
open Go.RowKit Go.Deep Go.Shelf
attribute [local go_sem] Oper.semAt_some

def backL (N : Nat) : Nat → List {i : Nat // i < N}
  | 0 => []
  | k + 1 => if h : k < N then backL N k ++ [⟨N - 1 - k, by omega⟩] else backL N k
theorem backL_len (N k : Nat) (h : k ≤ N) : (backL N k).length = k := by
  induction k with
  | zero => rfl
  | succ k ih =>
    unfold backL
    rw [dif_pos (by omega), List.length_append, ih (by omega)]
    rfl
theorem backL_step {N k : Nat} (h : k < N) : backL N (k + 1) = backL N k ++ [⟨N - 1 - k, by omega⟩] := by
  show (if h : k < N then _ else _) = _
  rw [dif_pos h]
def cameL (cs : List RC) {N : Nat} (pre : List {i : Nat // i < N}) : List RC := pre.map fun x => cs.getD x.1 rc0
theorem came_all {cs : List RC} {N : Nat} (hN : cs.length = N) : ∀ k, k ≤ N → cameL cs (backL N k) = (cs.drop (N - k)).reverse
  | 0, _ => by
    rw [Nat.sub_zero, List.drop_of_length_le (by omega)]
    rfl
  | k + 1, h => by
    rw [backL_step (show k < N by omega)]
    unfold cameL
    rw [List.map_append]
    have ih := came_all hN k (by omega)
    unfold cameL at ih
    rw [ih, show N - k = (N - (k + 1)) + 1 by omega]
    have hlt : N - (k + 1) < cs.length := by omega
    rw [List.drop_eq_getElem_cons hlt, List.reverse_cons]
    congr 1
    show [cs.getD (N - 1 - k) rc0] = _
    rw [show N - 1 - k = N - (k + 1) by omega]
    simp [List.getD, hlt]
theorem came_whole {cs : List RC} {N : Nat} (hN : cs.length = N) : cameL cs (backL N N) = cs.reverse := by
  rw [came_all hN N (Nat.le_refl _), Nat.sub_self, List.drop_zero]

def encB (cs : List RC) {N : Nat} (x : {i : Nat // i < N}) : Array Value := #[.int .i64 (x.1 : Int), .agg #[.string (cs.getD x.1 rc0).k, .int .i64 (cs.getD x.1 rc0).l, .int .i64 (cs.getD x.1 rc0).w]]
def KpC (B b : Nat) (X Y : World) : Prop := Y.heap[B]? = X.heap[B]? ∧ Y.heap[b]? = X.heap[b]?
theorem KpC.refl (B b : Nat) (X : World) : KpC B b X X := ⟨rfl, rfl⟩
theorem KpC.trans {B b : Nat} {X Y Z : World} (h : KpC B b X Y) (k : KpC B b Y Z) : KpC B b X Z := ⟨k.1.trans h.1, k.2.trans h.2⟩
theorem KpC.grown {B b : Nat} {X Y : World} {row : Option Nat} (h : X.grownBy Y row) (h1 : B < X.heap.size) (h2 : b < X.heap.size) (h3 : row ≠ some B) (h4 : row ≠ some b) : KpC B b X Y := ⟨h.block B h1 (fun e => h3 e.symm), h.block b h2 (fun e => h4 e.symm)⟩
theorem kpC_b {B b : Nat} {w : World} (h1 : B < w.heap.size) (h2 : b < w.heap.size) (W : World) (l : Nat) (o o' : Obj) (hl : w.heap.size ≤ l) (h : W.heap[l]? = some o) (_ : o.isCells = false) (_ : o.isWalk = false) : KpC B b W (W.putObj l o') := by
  have := (Array.getElem?_eq_some_iff.1 h).1
  exact KpC.grown (grownBy_putObj' W l o') (by omega) (by omega) (fun e => by cases e; omega) (fun e => by cases e; omega)

set_option maxRecDepth 100000 in
set_option maxHeartbeats 1000000 in
theorem back_in (q : Nat) (hq : 2 ≤ q) (l B b o N cap : Nat) (a : Option Addr) (cs : List RC) (hN : N ≤ 10) (ha : 0 < N → a = some ⟨b, o, none⟩) (J Jx : List {i : Nat // i < N} → World → Prop)
    (hY : ∀ pre x W, J pre W → pre.length < 11 → YieldAt Fence.wide (q - 1) Try.prog l (encB cs x) W fun e W' =>
      (e = .returned (.bool true) ∧ J (pre ++ [x]) W' ∧ KpC B b W W') ∨ (e = .returned (.bool false) ∧ Jx (pre ++ [x]) W'))
    (W : World) (hB : W.cell? ⟨B, 0, none⟩ = some (.slice a N cap))
    (hc : ∀ k, k < N → W.cell? ⟨b, o + k * 3, none⟩ = some (.string (cs.getD k rc0).k) ∧ W.cell? ⟨b, o + k * 3 + 1, none⟩ = some (.int .i64 (cs.getD k rc0).l) ∧ W.cell? ⟨b, o + k * 3 + 2, none⟩ = some (.int .i64 (cs.getD k rc0).w)) (h0 : J [] W) :
    CallsIn Fence.wide q Try.prog 121 #[.func (.yield l) #[] #[], .pointer (some ⟨B, 0, none⟩)] W fun e W' => (∃ v, e = .returned v) ∧
      ((∃ ys, ys = backL N N ∧ J ys W') ∨ (∃ pre, (∃ k, k ≤ N ∧ pre = backL N k) ∧ Jx pre W')) := by
  have hw1 : IntKind.i64.wrap ((N : Int) - 1) = (N : Int) - 1 := IntWalk.i64_in _ ⟨by omega, by omega⟩
  refine callsIn_of_wp Try.func121 rfl trivial ?_ rfl
  simp only [Try.ntmps121, List.size_toArray, List.length_cons, List.length_nil, Nat.reduceAdd, Nat.reduceSub, Array.replicate_succ, Array.replicate_zero, List.push_toArray, List.append_toArray, List.nil_append, List.cons_append]
  gi_wp2
  gi_loopw [3] (fun i wr => ∃ (k : Nat) (z : Int), k ≤ N ∧ i = .int .i64 z ∧ z + 1 = ((N - k : Nat) : Int) ∧ J (backL N k) wr ∧ wr.cell? ⟨B, 0, none⟩ = some (.slice a N cap) ∧ (∀ k, k < N → wr.cell? ⟨b, o + k * 3, none⟩ = some (.string (cs.getD k rc0).k) ∧ wr.cell? ⟨b, o + k * 3 + 1, none⟩ = some (.int .i64 (cs.getD k rc0).l) ∧ wr.cell? ⟨b, o + k * 3 + 2, none⟩ = some (.int .i64 (cs.getD k rc0).w)))
    (fun i _ => (intOf i + 1).toNat)
  case atStart => exact ⟨0, _, Nat.zero_le _, rfl, by omega, h0, hB, hc⟩
  case round =>
    obtain ⟨k, z, hk, rfl, hz, hJs, hB', hc'⟩ := hrel
    by_cases hlt : k < N
    · obtain ⟨j, rfl⟩ : ∃ j : Nat, z = j := ⟨N - 1 - k, by omega⟩
      have hj : j = N - 1 - k := by omega
      have hjN : j < N := by omega
      obtain rfl := ha (by omega)
      obtain ⟨c1, c2, c3⟩ := hc' j hjN
      have hst := backL_step hlt
      have hpl := backL_len N k hk
      obtain ⟨fn, tmps, assign, body, hy, hR⟩ := hY _ ⟨j, hjN⟩ wr hJs (by omega)
      have hw2 : IntKind.i64.wrap ((j : Int) - 1) = (j : Int) - 1 := IntWalk.i64_in _ ⟨by omega, by omega⟩
      dsimp only [encB] at hy
      have hx : (⟨N - 1 - k, by omega⟩ : {i : Nat // i < N}) = ⟨j, hjN⟩ := Subtype.ext hj.symm
      rw [hx] at hst
      obtain ⟨K, hK⟩ : ∃ K, (cs.getD j rc0).k = K := ⟨_, rfl⟩
      obtain ⟨L, hL⟩ : ∃ L, (cs.getD j rc0).l = L := ⟨_, rfl⟩
      obtain ⟨V, hV⟩ : ∃ V, (cs.getD j rc0).w = V := ⟨_, rfl⟩
      rw [hK] at c1 hy; rw [hL] at c2 hy; rw [hV] at c3 hy
      have HST := Lib.hid hst
      have HC := Lib.hid hc'
      have HJ := Lib.hid hj
      clear hB hc hst hc' hK hL hV hpl hx hj ha hz
      gi_wp2
      refine ⟨fun _ => by omega, hR.mono ?_⟩
      rintro e W3 (⟨rfl, hJ3, hk3⟩ | ⟨rfl, hJx3⟩)
      · have HJ3 := Lib.hid hJ3
        have hB3 := (World.cell?_of_block hk3.1).trans hB'
        have HK := Lib.hid hk3
        have HJ' := HJ.out
        clear hy hR hk3 hB' hJs hJ3
        gi_wp2
        go_roundw
        case rel => exact ⟨k + 1, _, by omega, rfl, by have := HJ.out; omega, by rw [HST.out]; exact HJ3.out, hB3, fun i hi => ⟨(World.cell?_of_block HK.out.2).trans (HC.out i hi).1, (World.cell?_of_block HK.out.2).trans (HC.out i hi).2.1, (World.cell?_of_block HK.out.2).trans (HC.out i hi).2.2⟩⟩
        case measure => simp [intOf]; omega
      · gi_wp2
        refine bodyPost_ret (results_none rfl _ _ _) rfl ?_
        exact ⟨⟨_, rfl⟩, .inr ⟨_, ⟨k + 1, by omega, HST.out.symm⟩, hJx3⟩⟩
    · obtain rfl : k = N := by omega
      obtain rfl : z = -1 := by omega
      gi_wp2
      go_end0
      exact ⟨⟨_, rfl⟩, .inl ⟨_, rfl, hJs⟩⟩

theorem back_stops (q : Nat) (hq : 2 ≤ q) (B b o N cap : Nat) (a : Option Addr) (cs : List RC) (hN : N ≤ 10) (ha : 0 < N → a = some ⟨b, o, none⟩) (w : World) (h1 : B < w.heap.size) (h2 : b < w.heap.size) (hB : w.cell? ⟨B, 0, none⟩ = some (.slice a N cap))
    (hc : ∀ k, k < N → w.cell? ⟨b, o + k * 3, none⟩ = some (.string (cs.getD k rc0).k) ∧ w.cell? ⟨b, o + k * 3 + 1, none⟩ = some (.int .i64 (cs.getD k rc0).l) ∧ w.cell? ⟨b, o + k * 3 + 2, none⟩ = some (.int .i64 (cs.getD k rc0).w)) :
    SeqStopsK Fence.wide q Try.prog 121 #[.pointer (some ⟨B, 0, none⟩)] (encB cs) (KpC B b) (fun ys => ys = backL N N) (fun pre => ∃ k, k ≤ N ∧ pre = backL N k) 11 w := fun l J Jx W hW _ _ hY hJ =>
  back_in q hq l B b o N cap a cs hN ha J Jx hY W ((hW.cell (p := ⟨B, 0, none⟩) h1).trans hB)
    (fun k hk => ⟨(hW.cell (p := ⟨b, o + k * 3, none⟩) h2).trans (hc k hk).1, (hW.cell (p := ⟨b, o + k * 3 + 1, none⟩) h2).trans (hc k hk).2.1, (hW.cell (p := ⟨b, o + k * 3 + 2, none⟩) h2).trans (hc k hk).2.2⟩) hJ

theorem backward_any (a : Option Addr) (N cap : Nat) (w : World) :
    Calls Try.prog 80 #[.slice a N cap] w fun e w' => e = .returned (.func (.func 121) #[] #[.pointer (some ⟨w.heap.size, 0, none⟩)]) ∧ w' = w.alloc (.cells #[.slice a N cap] 23) := by
  go_enter Try.func80, Try.ntmps80
  go_wp2
  go_ret
  exact ⟨rfl, rfl⟩

end Go.Proofs.Ytggmiojhglkcgaa
end

section
namespace Go.Proofs.Ytggmiojhglkcgaa
open Go.RowKit Go.Deep Go.Shelf
attribute [local go_sem] Oper.semAt_some

theorem round_region_heldL {lp n id : Nat} {P : Program} {ops : Array Oper} {Q : Exit → Act → World → Prop} {a : Act} {w : World} {S : World → Prop} (hm : P.follows .mixedOrders = true) (hd : noDefer ops = true) (hno : ¬ LetsOut Q) (hS : S w.drew)
    (h : S w.drew → wpAnyH P .any ops Q S ops.size (Array.replicate ops.size false) a w.drew) : (Code.region id ops true).wpIn (Fence.wide.inRound lp) n P Q a w :=
  wpIn_region_any hm (wpAnyIn_of_wpAny hno (noDefer_of hd) _ _ _ _ (wpAny_of_held _ _ _ _ (h hS)))

structure EndsAt (w wr : World) (v : Value) (k : Nat) (E : Nat → Nat) : Prop where
  since : w.Since w.heap.size wr
  box : Boxed wr w.heap.size 104 (.slice none 0 0)
  own : wr.ownsRow (w.heap.size + 1) 107 1 v k (ptrs E k)
  st : ∀ j, j < k → StC wr (E j) none none 0 0
  inj : ∀ i j, i < k → j < k → E i = E j → i = j

theorem EndsAt.push {w wr w1 : World} {v v' : Value} {k : Nat} {E : Nat → Nat} (h : EndsAt w wr v k E)
    (hown : w1.ownsRow (w.heap.size + 1) 107 1 v' (k + 1) (ptrs E k ++ [ptrV wr.heap.size])) (hg : ((wr.alloc (.cells #[.pointer none, .pointer none, .int .i64 0, .int .i64 0] 127)).alloc (.cells #[ptrV wr.heap.size] 107)).grownBy w1 v.ownBlock) :
    EndsAt w w1 v' (k + 1) (fun j => if j = k then wr.heap.size else E j) := by
  have hz := h.since.size
  have hzb := h.box.lt
  have hlt := fun j hj => (h.st j hj).lt
  have hnew : StC ((wr.alloc (.cells #[.pointer none, .pointer none, .int .i64 0, .int .i64 0] 127)).alloc (.cells #[ptrV wr.heap.size] 107)) wr.heap.size none none 0 0 :=
    (Below.heap_alloc _ _ _ (by simp)).trans (World.alloc_heap_new wr _)
  have hold : ∀ j, j < k → StC ((wr.alloc (.cells #[.pointer none, .pointer none, .int .i64 0, .int .i64 0] 127)).alloc (.cells #[ptrV wr.heap.size] 107)) (E j) none none 0 0 := fun j hj =>
    (h.st j hj).since (((World.Since.refl _ _).alloc (Nat.le_refl _) _).alloc (by simp) _)
  have hrow : ∀ p A B x y, StC ((wr.alloc (.cells #[.pointer none, .pointer none, .int .i64 0, .int .i64 0] 127)).alloc (.cells #[ptrV wr.heap.size] 107)) p A B x y → StC w1 p A B x y := fun p A B x y hp => by
    refine (hg.block p hp.lt fun e => ?_).trans hp
    rcases h.own.2 with ⟨rfl, _⟩ | ⟨g, cap, cur, rfl, _, hgg, _⟩
    · simp [Value.ownBlock] at e
    · simp [Value.ownBlock] at e
      subst e
      have h1 : ((wr.alloc (.cells #[.pointer none, .pointer none, .int .i64 0, .int .i64 0] 127)).alloc (.cells #[ptrV wr.heap.size] 107)).heap[p]? = wr.heap[p]? := (Below.heap_alloc _ _ _ (by have := (Array.getElem?_eq_some_iff.1 hgg).1; simp; omega)).trans (Below.heap_alloc _ _ _ (Array.getElem?_eq_some_iff.1 hgg).1)
      have h2 : (_ : World).heap[p]? = _ := hp
      rw [h1, hgg] at h2
      simp at h2
  refine ⟨((h.since.alloc hz _).alloc (by simp; omega) _).grown hg (by simp; omega) (fun b e => by have := (h.own.lt b e).1; omega), ?_, ?_, fun j hj => ?_, fun i j hi hj e => ?_⟩
  · refine ((h.box.alloc _).alloc _).kept hg fun e => ?_
    have := (h.own.lt _ e.symm).1
    omega
  · rw [ptrs_succ, if_pos rfl, ptrs_congr (Q := E) (fun j hj => by rw [if_neg (by omega)])]
    exact hown
  · by_cases e : j = k
    · rw [if_pos e]; exact hrow _ _ _ _ _ hnew
    · rw [if_neg e]; exact hrow _ _ _ _ _ (hold j (by omega))
  · by_cases e1 : i = k <;> by_cases e2 : j = k
    · omega
    · rw [if_pos e1, if_neg e2] at e; have := hlt j (by omega); omega
    · rw [if_neg e1, if_pos e2] at e; have := hlt i (by omega); omega
    · rw [if_neg e1, if_neg e2] at e; exact h.inj i j (by omega) (by omega) e

structure LinkI (w W0 : World) (sb eb n sc : Nat) (E : Nat → Nat) (L : List CH) (W : World) : Prop where
  since : w.Since w.heap.size W
  size : W0.heap.size ≤ W.heap.size
  box : Boxed W w.heap.size 104 (.slice (some ⟨sb, 0, none⟩) n sc)
  ends : PR W eb n E
  st : ∀ i, i < n → StC W (E i) none none 0 0
  lies : ∃ P, PR W sb n P ∧ ∀ i, i < n → Lies W E n L i (P i)
theorem StC.frz {W : World} {p : Nat} {A B : Option Addr} {x y : Int} (h : StC W p A B x y) (j : Nat) : W.frozen? ⟨p, j, none⟩ = false := by
  have h' : W.heap[p]? = _ := h
  simp [World.frozen?, h']
theorem StC.set1 {W : World} {p : Nat} {A B : Option Addr} {x y : Int} (h : StC W p A B x y) (C : Option Addr) : StC (W.setCell ⟨p, 1, none⟩ (.pointer C)) p A C x y := by
  obtain ⟨hlt, hk⟩ := Array.getElem?_eq_some_iff.1 h
  show (W.heap.modify p _)[p]? = _
  rw [Array.getElem?_eq_getElem (by rw [Array.size_modify]; exact hlt), Array.getElem_modify_self, hk]
  rfl
theorem StC.set3 {W : World} {p : Nat} {A B : Option Addr} {x y : Int} (h : StC W p A B x y) (z : Int) : StC (W.setCell ⟨p, 3, none⟩ (.int .i64 z)) p A B x z := by
  obtain ⟨hlt, hk⟩ := Array.getElem?_eq_some_iff.1 h
  show (W.heap.modify p _)[p]? = _
  rw [Array.getElem?_eq_getElem (by rw [Array.size_modify]; exact hlt), Array.getElem_modify_self, hk]
  rfl
theorem StC.kept {W V : World} {row : Option Nat} {p : Nat} {A B : Option Addr} {x y : Int} (h : StC W p A B x y) (hg : W.grownBy V row) (hr : ∀ r, row = some r → ∃ o : Obj, W.heap[r]? = some o ∧ o.isCells = false) : StC V p A B x y := (hg.block p h.lt (fun e => by
  obtain ⟨o, ho, hc⟩ := hr p e.symm
  have h' : W.heap[p]? = _ := h
  rw [h'] at ho; cases ho; cases hc)).trans h
theorem PR.kept {W V : World} {row : Option Nat} {b n : Nat} {P : Nat → Nat} (h : PR W b n P) (hg : W.grownBy V row) (hr : ∀ r, row = some r → ∃ o : Obj, W.heap[r]? = some o ∧ o.isCells = false) : PR V b n P := h.block (hg.block b h.lt (fun e => by
  obtain ⟨o, ho, hc⟩ := hr b e.symm
  obtain ⟨cur, h', _⟩ := h
  rw [h'] at ho; cases ho; cases hc))
theorem since_rowL {w X Y : World} {row : Option Nat} {B : Nat} (h : w.Since w.heap.size X) (hB : w.heap.size ≤ B) (hg : X.grownBy Y row) (hr : ∀ r, row = some r → B ≤ r) : w.Since w.heap.size Y :=
  ⟨hg.os.trans h.os, hg.tape.trans h.tape, hg.output.trans h.output, Nat.le_trans h.size hg.size, fun k hk => (hg.block k (by have := h.size; omega) (fun e => by have := hr k e.symm; omega)).trans (h.block k hk)⟩
theorem LinkI.own {w W0 : World} {sb eb n sc : Nat} {E : Nat → Nat} {L : List CH} {X Y : World} {row : Option Nat} (h : LinkI w W0 sb eb n sc E L X) (hg : X.grownBy Y row) (hr : ∀ r, row = some r → W0.heap.size ≤ r ∧ ∃ o : Obj, X.heap[r]? = some o ∧ o.isCells = false) (hw : w.heap.size ≤ W0.heap.size) : LinkI w W0 sb eb n sc E L Y :=
  ⟨since_rowL h.since hw hg (fun r e => (hr r e).1), Nat.le_trans h.size hg.size, boxed_own w.heap.size _ (fun (_ : Unit) => .slice (some ⟨sb, 0, none⟩) n sc) () X Y row h.box hg (fun r e => (hr r e).2), h.ends.kept hg (fun r e => (hr r e).2), fun i hi => (h.st i hi).kept hg (fun r e => (hr r e).2), by
    obtain ⟨P, h1, h2⟩ := h.lies
    exact ⟨P, h1.kept hg (fun r e => (hr r e).2), fun i hi => (h2 i hi).mono fun p A B x y hp => hp.kept hg (fun r e => (hr r e).2)⟩⟩

theorem link_end {w W0 W w4 V : World} {sb eb n sc B b : Nat} {E : Nat → Nat} {L : List CH} {CC : CH} {P : Nat → Nat} (hI : LinkI w W0 sb eb n sc E L W) (hP : PR W sb n P) (hL : ∀ i, i < n → Lies W E n L i (P i)) (hs4 : W.Since W.heap.size w4) (hV : w4.Since w4.heap.size V) (hok : chOk n CC)
    (hst : if CC.1 = 2 then StC V w4.heap.size (some ⟨P (chR CC), 0, none⟩) none CC.2.2 0 else StC V w4.heap.size (some ⟨P (chR CC), 0, none⟩) (some ⟨P (chK CC), 0, none⟩) 1 CC.2.2)
    (h1 : w.heap.size < sb) (h2 : sb < W0.heap.size) (h3 : eb ≠ sb) (h4 : B < W0.heap.size) (h5 : b < W0.heap.size) (h6 : B ≠ sb) (h7 : b ≠ sb) :
    KeepsFrom W0.heap.size W (V.setCell ⟨sb, chR CC, none⟩ (.pointer (some ⟨w4.heap.size, 0, none⟩))) ∧ KpC B b W (V.setCell ⟨sb, chR CC, none⟩ (.pointer (some ⟨w4.heap.size, 0, none⟩))) ∧ LinkI w W0 sb eb n sc E (CC :: L) (V.setCell ⟨sb, chR CC, none⟩ (.pointer (some ⟨w4.heap.size, 0, none⟩))) := by
  have hz4 := hs4.size
  have hzV := hV.size
  have hzW := hI.size
  have hsV : W.Since W.heap.size V := hs4.trans (since_mono hV hz4)
  have hblk : ∀ q, q < W.heap.size → q ≠ sb → (V.setCell ⟨sb, chR CC, none⟩ (.pointer (some ⟨w4.heap.size, 0, none⟩))).heap[q]? = W.heap[q]? := fun q hq hne => (Below.heap_setCell _ _ _ _ (by exact hne)).trans (hsV.block q hq)
  have hzS : (V.setCell ⟨sb, chR CC, none⟩ (.pointer (some ⟨w4.heap.size, 0, none⟩))).heap.size = V.heap.size := by simp
  have hPV := hP.since hsV
  have hstC : ∀ p A B x y, StC V p A B x y → StC (V.setCell ⟨sb, chR CC, none⟩ (.pointer (some ⟨w4.heap.size, 0, none⟩))) p A B x y := fun p A B x y hp => (Below.heap_setCell _ _ _ _ (by exact hPV.ne hp)).trans hp
  refine ⟨⟨by rw [hzS]; omega, fun q o hq hk _ => (hblk q (Array.getElem?_eq_some_iff.1 hk).1 (by omega)).trans hk⟩, ⟨hblk B (by omega) h6, hblk b (by omega) h7⟩, ⟨(hI.since.trans (since_mono hsV hI.since.size)).setCell (by show w.heap.size ≤ sb; omega) _, by rw [hzS]; omega, (hblk _ hI.box.lt (by omega)).trans hI.box, hI.ends.block (hblk _ hI.ends.lt h3), fun i hi => hstC _ _ _ _ _ ((hI.st i hi).since hsV), ?_⟩⟩
  refine ⟨_, hPV.set w4.heap.size, fun i hi => ?_⟩
  refine (Lies.more (fun i hi => (hL i hi).since hsV) hok (fun k hk e => ?_) hst i hi).mono hstC
  have := (hI.st k hk).lt
  omega

set_option maxRecDepth 100000 in
set_option maxHeartbeats 1000000 in
theorem linked_any (a : Option Addr) (cap N n : Nat) (cs : List RC) (w : World) (hN : cs.length = N) (ho : NetOk n cs) (hm : ChipsR w a cs) :
    Calls Try.prog 115 #[.int .i64 n, .slice a N cap] w fun e w' => ∃ (sb eb c1 c2 : Nat) (P E : Nat → Nat), e = .returned (.tuple #[.slice (some ⟨sb, 0, none⟩) n c1, .slice (some ⟨eb, 0, none⟩) n c2]) ∧ w.Since w.heap.size w' ∧
      PR w' sb n P ∧ PR w' eb n E ∧ (∀ i j, i < n → j < n → E i = E j → i = j) ∧ (∀ i, i < n → StC w' (E i) none none 0 0) ∧ ∀ i, i < n → Lies w' E n (cs.map toC) i (P i) := by
  obtain ⟨iP, hiP⟩ := infoPt_parts
  have HI := Lib.hid hiP
  have hn2 := ho.lo
  have hn5 := ho.hi
  have h10 := ho.len
  rw [hN] at h10
  have hst : EndsAt w (w.alloc (.cells #[.slice none 0 0] 104)) (.slice none 0 0) 0 (fun _ => 0) := ⟨(World.Since.refl _ _).alloc (Nat.le_refl _) _, Boxed.new w _ _, World.ownsRow_nil _ _ _ _, fun j hj => by omega, fun i j hi => by omega⟩
  have HST := Lib.hid hst
  have HN := Lib.hid hN
  have HM := Lib.hid hm
  have HO := Lib.hid ho
  clear hiP hst hN hm ho
  refine (callsIn_wide (n := 9)).1 ?_
  refine callsIn_of_wp_marks Try.func115 rfl trivial ?_ rfl
  simp only [Try.ntmps115, List.size_toArray, List.length_cons, List.length_nil, Nat.reduceAdd, Nat.reduceSub, Array.replicate_succ, Array.replicate_zero, List.push_toArray, List.append_toArray, List.nil_append, List.cons_append]
  gi_wp2
  gi_loopw [5, 12] (fun v i wr => ∃ (k : Nat) (E : Nat → Nat), k ≤ n ∧ i = .int .i64 k ∧ EndsAt w wr v k E) (fun _ i _ => n - (intOf i).toNat)
  case atStart => exact ⟨0, _, Nat.zero_le _, rfl, HST.out⟩
  case round =>
    obtain ⟨k, E, hk, rfl, hE⟩ := hrel
    clear HST
    by_cases hlt : k < n
    · have HE := Lib.hid hE
      have hz := hE.since.size
      have hzb := hE.box.lt
      clear hE
      gi_wp2_with (gi_at_builtin; (refine wpListIn_append_own _ rfl _ _ 104 rfl (w.heap.size + 1) 107 iP (.pointer none) 1 8 Try.underlying104 HI.out.1 HI.out.2.1 HI.out.2.2.1 HI.out.2.2.2 rfl (by decide) _ _ _ rfl ((HE.out.own.alloc _).alloc _) ⟨wr.heap.size + 1, 0, none⟩ 1 1 [ptrV wr.heap.size] rfl rfl (cell_one_at _ _ _ (by simp)) (fun x hx => by simp at hx; subst hx; rfl) (by unfold maxLen; omega) (by omega) (by simp; omega) ?_); intro v' w1 hown' hgrow _)
      have HP := Lib.hid (HE.out.push hown' hgrow)
      clear hown' hgrow
      go_roundw
      case rel => exact ⟨k + 1, _, by omega, by simp, HP.out⟩
      case measure => simp [intOf]; omega
    · obtain rfl : k = n := by omega
      obtain ⟨eb, ec, rfl, heb, hpr⟩ := PR.of_own hE.own (by omega)
      have HC := Lib.hid (clonePtr_any eb k ec E wr (by omega) (by omega) hpr)
      have HE := Lib.hid hE
      have HPR := Lib.hid hpr
      have hbx := hE.box.cell
      clear hE hpr
      gi_wp2_with (first
        | (refine ⟨trivial, ?_⟩; gi_at_call 137; refine (callsIn_wide.2 (HC.out)).mono ?_; rintro e w2 ⟨sb, sc, rfl, hs2, hsb, hpr2⟩; have HS2 := Lib.hid hs2; have HPR2 := Lib.hid hpr2; have bx2 := (HE.out.box.kept (row := none) ⟨hs2.os, hs2.tape, hs2.output, hs2.size, fun b hb _ => hs2.block b hb⟩ (by simp)); have cb2 := bx2.cell; have fb2 := bx2.frozen; clear hs2 hpr2)
        | (refine ⟨trivial, ?_⟩; gi_at_call 80; refine (callsIn_wide.2 (backward_any _ _ _ _)).mono ?_; rintro e w3 ⟨rfl, rfl⟩))
      obtain ⟨B, hB⟩ : ∃ B, w2.heap.size = B := ⟨_, rfl⟩
      obtain ⟨W0, hW0⟩ : ∃ W0, W0 = (w2.setCell ⟨w.heap.size, 0, none⟩ (.slice (some ⟨sb, 0, none⟩) k sc)).alloc (.cells #[.slice a N cap] 23) := ⟨_, rfl⟩
      rw [hB, ← hW0]
      have hz2 := HS2.out.size
      have hzE := HE.out.since.size
      have hsz0 : W0.heap.size = B + 1 := by rw [hW0, ← hB]; simp
      have hsb2 := HPR2.out.lt
      have hx0 := HE.out.box.lt
      have heb0 := HPR.out.lt
      have hS0 : w.Since w.heap.size W0 := by rw [hW0]; exact (((HE.out.since.trans (since_mono HS2.out hzE)).setCell (Nat.le_refl _) _).alloc (by simp; omega) _)
      have hbox : Boxed W0 w.heap.size 104 (.slice (some ⟨sb, 0, none⟩) k sc) := by rw [hW0]; exact (bx2.set _).alloc _
      have hkeep : ∀ q, q < w2.heap.size → q ≠ w.heap.size → W0.heap[q]? = w2.heap[q]? := fun q h1 h2 => by rw [hW0]; exact (Below.heap_alloc _ _ _ (by simp; omega)).trans (Below.heap_setCell _ _ _ _ (by exact h2))
      have hpr0 : PR W0 sb k E := HPR2.out.block (hkeep _ hsb2 (by omega))
      have hpe0 : PR W0 eb k E := (HPR.out.since HS2.out).block (hkeep _ (by omega) (by omega))
      have hstc0 : ∀ i, i < k → StC W0 (E i) none none 0 0 := fun i hi => by
        have h1 := (HE.out.st i hi).since HS2.out
        refine (hkeep _ h1.lt (fun e => ?_)).trans h1
        have h2 : w2.heap[E i]? = _ := h1
        have h3 : w2.heap[w.heap.size]? = _ := bx2
        rw [e, h3] at h2
        simp at h2
      have hBc : W0.cell? ⟨B, 0, none⟩ = some (.slice a N cap) := by
        have h := Boxed.new (w2.setCell ⟨w.heap.size, 0, none⟩ (.slice (some ⟨sb, 0, none⟩) k sc)) 23 (.slice a N cap)
        rw [← hW0] at h
        have h' := h.cell
        simpa [hB] using h'
      have HIN := Lib.hid HE.out.inj
      have HO5 := Lib.hid (fun (x : {i : Nat // i < N}) => show cs.getD x.1 rc0 ∈ cs from by
        have hx : x.1 < cs.length := by rw [HN.out]; exact x.2
        have : cs.getD x.1 rc0 = cs[x.1] := by simp [List.getD, hx]
        rw [this]; exact List.getElem_mem _)
      -- the chips' block
      obtain ⟨b, o, ha, hb, hc⟩ : ∃ b o, (0 < N → a = some ⟨b, o, none⟩) ∧ (b < w.heap.size ∨ b = B) ∧ ∀ q, q < N → W0.cell? ⟨b, o + q * 3, none⟩ = some (.string (cs.getD q rc0).k) ∧ W0.cell? ⟨b, o + q * 3 + 1, none⟩ = some (.int .i64 (cs.getD q rc0).l) ∧ W0.cell? ⟨b, o + q * 3 + 2, none⟩ = some (.int .i64 (cs.getD q rc0).w) := by
        by_cases h0 : 0 < N
        · obtain ⟨b, o, e, hc⟩ := HM.out (by rw [HN.out]; exact h0)
          have hl := World.block_lt_of_cell? _ _ (hc 0 (by rw [HN.out]; exact h0)).1
          exact ⟨b, o, fun _ => e, .inl hl, fun q hq => ⟨(hS0.cell (by exact hl)).trans (hc q (by rw [HN.out]; exact hq)).1, (hS0.cell (by exact hl)).trans (hc q (by rw [HN.out]; exact hq)).2.1, (hS0.cell (by exact hl)).trans (hc q (by rw [HN.out]; exact hq)).2.2⟩⟩
        · exact ⟨B, 0, fun h => absurd h h0, .inr rfl, fun q hq => by omega⟩
      have hB1 : w2.heap.size ≤ B := by omega
      have hbB : b < W0.heap.size := by omega
      have hne1 : b ≠ sb := by omega
      have hne2 : B ≠ sb := by omega
      clear hW0 hB hkeep bx2 cb2 fb2 hbx
      refine wpIn_rangeFunc_ownH (F := Fence.wide) (n := 9) rfl (by omega) (gf := 121) (lb := #[.pointer (some ⟨B, 0, none⟩)]) rfl trivial (enters_of Try.func121 (by kernel_rfl) rfl)
        (back_stops 8 (by omega) B b o N cap a cs h10 ha W0 (by omega) hbB hBc hc)
        (fun h k => h.trans k) (kpC_b (by omega) hbB) (Below.refl _ _) (fun _ => rfl)
        (fun pre W => LinkI w W0 sb eb k sc E (((cameL cs pre).reverse).map toC) W)
        (fun _ _ _ => False)
        (fun s X Y row hs hg hr => hs.own hg hr hS0.size)
        (fun c s X Y row hs hg hr => hs)
        ⟨hS0, Nat.le_refl _, hbox, hpe0, hstc0, E, hpr0, fun i hi => ⟨rfl, hstc0 i hi⟩⟩
        (fun x a' W => ∃ Bx, W0.heap.size ≤ Bx ∧ Box3 W Bx (cs.getD x.1 rc0).k (cs.getD x.1 rc0).l (cs.getD x.1 rc0).w ∧ a' = { tmps := #[.int .i64 k, .slice a N cap, undef, undef, .pointer (some ⟨w.heap.size, 0, none⟩), .slice (some ⟨eb, 0, none⟩) k ec, undef, .pointer (some ⟨Bx, 0, none⟩), undef, undef, undef, .int .i64 k, .int .i64 k, .bool false, u14, u15, u16, u17, u18, u19, .slice (some ⟨eb, 0, none⟩) k ec, .slice (some ⟨sb, 0, none⟩) k sc, .slice a N cap, .func (.func 121) #[] #[.pointer (some ⟨B, 0, none⟩)], .int .i64 (x.1 : Int), .agg #[.string (cs.getD x.1 rc0).k, .int .i64 (cs.getD x.1 rc0).l, .int .i64 (cs.getD x.1 rc0).w], undef, undef, undef, undef, undef, undef, undef, undef, undef, undef, undef, undef, undef, undef, undef, undef, undef, undef, undef, undef, undef, undef, undef, undef, undef, undef, undef, undef, undef, undef, undef, undef, undef, undef, undef, undef, undef], defers := [] })
        (fun x a' _ X Y row hs hg hr => by obtain ⟨Bx, h1, h2, h3⟩ := hs; exact ⟨Bx, h1, h2.own hg (fun r e => (hr r e).2), h3⟩)
        ?assign ?body ?done ?stop
      case assign =>
        rintro l2 pre x W Kq hI hK
        simp only [encB]
        gi_wp2
        exact hK _ _ ((KeepsOthers.alloc _ _).from _) (KpC.grown (World.grownBy_alloc _ _ none) (by have := hI.size; omega) (by have := hI.size; omega) (by simp) (by simp)) (hI.own (World.grownBy_alloc _ _ none) (fun r e => by cases e) hS0.size) ⟨W.heap.size, hI.size, Box3.new W _ _ _, rfl⟩
      case body =>
        rintro l2 pre x a' W hl ⟨r, hr⟩ hI ⟨Bx, hBx, bX, rfl⟩ hlt
        have hmem := HO5.out x
        have hcam : ((cameL cs (pre ++ [x])).reverse).map toC = toC (cs.getD x.1 rc0) :: ((cameL cs pre).reverse).map toC := by
          unfold cameL
          rw [List.map_append, List.reverse_append, List.map_append]
          rfl
        obtain ⟨L, hL⟩ : ∃ L, ((cameL cs pre).reverse).map toC = L := ⟨_, rfl⟩
        rw [hL] at hI hcam
        have hok := HO.out.ok _ hmem
        obtain ⟨c, hcc⟩ : ∃ c, cs.getD x.1 rc0 = c := ⟨_, rfl⟩
        rw [hcc] at bX hok hcam ⊢
        have hRK := chRK hok.2
        have EE := fun (V : World) => ends_any c V hok.1
        have hmore := fun (w4 V : World) (P : Nat → Nat) (hP : PR W sb k P) (hL : ∀ i, i < k → Lies W E k L i (P i)) (hs4 : W.Since W.heap.size w4) (hV : w4.Since w4.heap.size V) hst => link_end (B := B) (b := b) (CC := toC c) hI hP hL hs4 hV hok.2 hst (by omega) (by omega) (by omega) (by omega) hbB hne2 hne1
        have hkind : chR (toC c) = chK (toC c) ↔ (toC c).1 = 2 := by
          constructor
          · intro e
            by_cases e2 : (toC c).1 = 2
            · exact e2
            · unfold chR chK at e
              rw [if_neg e2, if_neg e2] at e
              exact absurd e (ch_ft hok.2 e2).2.2
          · intro e
            unfold chR chK
            rw [if_pos e, if_pos e]
        rw [toC_w] at hmore
        obtain ⟨f, hf⟩ : ∃ f, chR (toC c) = f := ⟨_, rfl⟩
        obtain ⟨t, ht⟩ : ∃ t, chK (toC c) = t := ⟨_, rfl⟩
        simp only [hf, ht] at EE hmore hRK hkind
        obtain ⟨CC, hCC⟩ : ∃ CC, toC c = CC := ⟨_, rfl⟩
        rw [hCC] at hcam hmore hkind
        obtain ⟨K, Ln, V⟩ := c
        simp only at EE hmore bX ⊢
        obtain ⟨hf5, ht5⟩ := hRK
        obtain ⟨P, hPR, hLie⟩ := hI.lies
        obtain ⟨c1, c2, c3⟩ := bX.cells
        have hI1 := hI.size
        have HII := Lib.hid hI
        have HPRR := Lib.hid hPR
        have HLIE := Lib.hid hLie
        have HMORE := Lib.hid hmore
        have HCAM := Lib.hid hcam
        have HBXX := Lib.hid bX
        have HKIND := Lib.hid hkind
        replace EE := Lib.hid EE
        have hBxl := bX.lt
        clear hI hPR hLie hmore hcam hok hcc hf ht hCC hmem hL hkind bX hr
        by_cases e2 : f = t
        · subst e2
          have HK2 := Lib.hid (HKIND.out.1 rfl)
          clear HKIND
          gi_wp2_with (first
            | (refine ⟨trivial, ?_⟩; gi_at_call 111; refine (CallsIn.inRound l2 (callsIn_wide.2 (EE.out _))).mono ?_; rintro e w4 ⟨rfl, hs4⟩; have hz4 := hs4.size; have cb4 := (hs4.cell (World.block_lt_of_cell? _ _ HII.out.box.cell)).trans HII.out.box.cell; have cp4 := (hs4.cell (World.block_lt_of_cell? _ _ (HPRR.out.cell hf5).1)).trans (HPRR.out.cell hf5).1; have fp4 := (hs4.frozen (World.block_lt_of_cell? _ _ (HPRR.out.cell hf5).1)).trans (HPRR.out.cell hf5).2; have ct4 := (hs4.cell (World.block_lt_of_cell? _ _ (HPRR.out.cell ht5).1)).trans (HPRR.out.cell ht5).1; have cw4 := (hs4.cell (World.block_lt_of_cell? _ _ c3)).trans c3; have cb5 := fun ob => cell_alloc_l ob cb4; have cp5 := fun ob => cell_alloc_l ob cp4; have ct5 := fun ob => cell_alloc_l ob ct4; have cw5 := fun ob => cell_alloc_l ob cw4; have fp5 := fun ob => frozen_alloc_l ob cp4 fp4; have HS4 := Lib.hid hs4; clear hs4 c1 c2 c3))
          have hfin := HMORE.out w4 _ P HPRR.out HLIE.out HS4.out ((World.Since.refl _ _).alloc (Nat.le_refl _) (.cells #[.pointer (some ⟨P f, 0, none⟩), .pointer none, .int .i64 V, .int .i64 0] 127)) (by rw [if_pos HK2.out]; exact World.alloc_heap_new w4 _)
          rw [← HCAM.out] at hfin
          exact hfin
        · have hft : (f == t) = false := by simpa using e2
          have hft' : ((f : Int) == (t : Int)) = false := by simp; omega
          have HK2 := Lib.hid (fun h => e2 (HKIND.out.2 h))
          clear HKIND e2
          gi_wp2_with (first
            | (refine ⟨trivial, ?_⟩; gi_at_call 111; refine (CallsIn.inRound l2 (callsIn_wide.2 (EE.out _))).mono ?_; rintro e w4 ⟨rfl, hs4⟩; have hz4 := hs4.size; have cb4 := (hs4.cell (World.block_lt_of_cell? _ _ HII.out.box.cell)).trans HII.out.box.cell; have cp4 := (hs4.cell (World.block_lt_of_cell? _ _ (HPRR.out.cell hf5).1)).trans (HPRR.out.cell hf5).1; have fp4 := (hs4.frozen (World.block_lt_of_cell? _ _ (HPRR.out.cell hf5).1)).trans (HPRR.out.cell hf5).2; have ct4 := (hs4.cell (World.block_lt_of_cell? _ _ (HPRR.out.cell ht5).1)).trans (HPRR.out.cell ht5).1; have cw4 := (hs4.cell (World.block_lt_of_cell? _ _ c3)).trans c3; have cb5 := fun ob => cell_alloc_l ob cb4; have cp5 := fun ob => cell_alloc_l ob cp4; have ct5 := fun ob => cell_alloc_l ob ct4; have cw5 := fun ob => cell_alloc_l ob cw4; have fp5 := fun ob => frozen_alloc_l ob cp4 fp4; have HS4 := Lib.hid hs4; clear hs4 c1 c2 c3))
          have hmix : Try.prog.follows .mixedOrders = true := by kernel_rfl
          have hX0 : StC (w4.alloc (.cells #[.pointer (some ⟨P f, 0, none⟩), .pointer none, .int .i64 1, .int .i64 0] 127)).drew w4.heap.size (some ⟨P f, 0, none⟩) none 1 0 := World.alloc_heap_new w4 _
          have hsX : w4.Since w4.heap.size (w4.alloc (.cells #[.pointer (some ⟨P f, 0, none⟩), .pointer none, .int .i64 1, .int .i64 0] 127)).drew := ((World.Since.refl _ _).alloc (Nat.le_refl _) _).drew
          have hbl := World.block_lt_of_cell? _ _ cb4
          have hsl := World.block_lt_of_cell? _ _ ct4
          have hxl := World.block_lt_of_cell? _ _ cw4
          simp only at hbl hsl hxl
          have hS : (fun W' : World => W'.cell? ⟨w.heap.size, 0, none⟩ = some (.slice (some ⟨sb, 0, none⟩) k sc) ∧ W'.cell? ⟨sb, t, none⟩ = some (.pointer (some ⟨P t, 0, none⟩)) ∧ W'.cell? ⟨Bx, 2, none⟩ = some (.int .i64 V)) (w4.alloc (.cells #[.pointer (some ⟨P f, 0, none⟩), .pointer none, .int .i64 1, .int .i64 0] 127)).drew := ⟨cb5 _, ct5 _, cw5 _⟩
          refine round_region_heldL (S := fun W' : World => W'.cell? ⟨w.heap.size, 0, none⟩ = some (.slice (some ⟨sb, 0, none⟩) k sc) ∧ W'.cell? ⟨sb, t, none⟩ = some (.pointer (some ⟨P t, 0, none⟩)) ∧ W'.cell? ⟨Bx, 2, none⟩ = some (.int .i64 V)) hmix (by kernel_rfl) (by rintro ⟨a, w, h⟩; exact h) hS (fun hS => ?_)
          obtain ⟨p4, hp4⟩ : ∃ p, w4.heap.size = p := ⟨_, rfl⟩
          obtain ⟨X, hX⟩ : ∃ X, (w4.alloc (.cells #[.pointer (some ⟨P f, 0, none⟩), .pointer none, .int .i64 1, .int .i64 0] 127)).drew = X := ⟨_, rfl⟩
          rw [hX] at hX0 hsX hS ⊢
          rw [hp4] at hX0 hbl hsl hxl ⊢
          have fpX : X.frozen? ⟨sb, f, none⟩ = false := by rw [← hX]; exact fp5 _
          have cpX : X.cell? ⟨sb, f, none⟩ = some (.pointer (some ⟨P f, 0, none⟩)) := by rw [← hX]; exact cp5 _
          have HP4 := Lib.hid hp4
          clear hX hp4 cb5 cp5 ct5 cw5 fp5 cb4 cp4 fp4 ct4 cw4
          refine wpAnyH_take (i := 0) (v := .pointer (some ⟨p4, 0, none⟩)) rfl (by kernel_rfl) (by kernel_rfl) (by kernel_rfl) (fun _ _ _ h => h) (Or.inl ⟨by rfl, fun W' h => by go_simp⟩) hS ?_
          simp only [Act.put, List.setIfInBounds_toArray]
          refine wpAnyH_take (i := 1) (v := .pointer (some ⟨p4, 0, none⟩)) rfl (by kernel_rfl) (by kernel_rfl) (by kernel_rfl) (fun _ _ _ h => h) (Or.inl ⟨by rfl, fun W' h => by go_simp⟩) hS ?_
          simp only [Act.put]
          refine wpAnyH_take (i := 2) (v := .slice (some ⟨sb, 0, none⟩) k sc) rfl (by kernel_rfl) (by kernel_rfl) (by kernel_rfl) (fun _ _ _ h => h) (Or.inl ⟨by rfl, fun W' h => by have hc := h.1; go_simp⟩) hS ?_
          simp only [Act.put]
          refine wpAnyH_take (i := 3) (v := .int .i64 t) rfl (by kernel_rfl) (by kernel_rfl) (by kernel_rfl) (fun _ _ _ h => h) (Or.inl ⟨by rfl, fun W' h => by go_simp⟩) hS ?_
          simp only [Act.put]
          refine wpAnyH_take (i := 4) (v := .pointer (some ⟨sb, t, none⟩)) rfl (by kernel_rfl) (by kernel_rfl) (by kernel_rfl) (fun _ _ _ h => h) (Or.inl ⟨by rfl, fun W' h => by go_simp⟩) hS ?_
          simp only [Act.put]
          refine wpAnyH_take (i := 5) (v := .pointer (some ⟨P t, 0, none⟩)) rfl (by kernel_rfl) (by kernel_rfl) (by kernel_rfl) (fun _ _ _ h => h) (Or.inl ⟨by rfl, fun W' h => by have hc := h.2.1; go_simp⟩) hS ?_
          simp only [Act.put]
          refine wpAnyH_take (i := 6) (v := .pointer (some ⟨Bx, 2, none⟩)) rfl (by kernel_rfl) (by kernel_rfl) (by kernel_rfl) (fun _ _ _ h => h) (Or.inl ⟨by rfl, fun W' h => by go_simp⟩) hS ?_
          simp only [Act.put]
          refine wpAnyH_take (i := 7) (v := .int .i64 V) rfl (by kernel_rfl) (by kernel_rfl) (by kernel_rfl) (fun _ _ _ h => h) (Or.inl ⟨by rfl, fun W' h => by have hc := h.2.2; go_simp⟩) hS ?_
          simp only [Act.put]
          refine wpAnyH_take (i := 8) (v := .pointer (some ⟨p4, 0, none⟩)) rfl (by kernel_rfl) (by kernel_rfl) (by kernel_rfl) (fun _ _ _ h => h) (Or.inl ⟨by rfl, fun W' h => by go_simp⟩) hS ?_
          simp only [Act.put]
          refine wpAnyH_take (i := 9) (v := .pointer (some ⟨p4, 1, none⟩)) rfl (by kernel_rfl) (by kernel_rfl) (by kernel_rfl) (fun _ _ _ h => h) (Or.inl ⟨by rfl, fun W' h => by go_simp⟩) hS ?_
          simp only [Act.put]
          obtain ⟨x1, x2, x3, x4⟩ := hX0.cells
          have f1 := hX0.frz
          refine wpAnyH_ready (rs := [10]) (by kernel_rfl) (by simp) (AllReadyH.cons rfl (fun K hK => ?_) AllReadyH.nil)
          go_simp
          refine hK.out _ _ ⟨cell_set_ne hS.1 (by show w.heap.size ≠ p4; omega), cell_set_ne hS.2.1 (by show sb ≠ p4; omega), cell_set_ne hS.2.2 (by show Bx ≠ p4; omega)⟩ (fun hS1 => ?_)
          clear hK K
          have hX1 := hX0.set1 (some ⟨P t, 0, none⟩)
          have hsX1 := hsX.setCell (a := ⟨p4, 1, none⟩) (by have := HP4.out; show w4.heap.size ≤ p4; omega) (.pointer (some ⟨P t, 0, none⟩))
          have cpX1 := cell_set_ne (g := p4) (j := 1) (v := .pointer (some ⟨P t, 0, none⟩)) cpX (by show sb ≠ p4; omega)
          have fpX1 : (X.setCell ⟨p4, 1, none⟩ (.pointer (some ⟨P t, 0, none⟩))).frozen? ⟨sb, f, none⟩ = false := by rw [World.frozen?_setCell]; exact fpX
          obtain ⟨X1, hX1e⟩ : ∃ X1, X.setCell ⟨p4, 1, none⟩ (.pointer (some ⟨P t, 0, none⟩)) = X1 := ⟨_, rfl⟩
          rw [hX1e] at hS1 hX1 hsX1 cpX1 fpX1 ⊢
          clear hX1e hS hX0 hsX cpX fpX x1 x2 x3 x4 f1
          refine wpAnyH_take (i := 11) (v := .pointer (some ⟨p4, 0, none⟩)) rfl (by kernel_rfl) (by kernel_rfl) (by kernel_rfl) (fun _ _ _ h => h) (Or.inl ⟨by rfl, fun W' h => by go_simp⟩) hS1 ?_
          simp only [Act.put, List.setIfInBounds_toArray]
          refine wpAnyH_take (i := 12) (v := .pointer (some ⟨p4, 3, none⟩)) rfl (by kernel_rfl) (by kernel_rfl) (by kernel_rfl) (fun _ _ _ h => h) (Or.inl ⟨by rfl, fun W' h => by go_simp⟩) hS1 ?_
          simp only [Act.put]
          obtain ⟨x1, x2, x3, x4⟩ := hX1.cells
          have f1 := hX1.frz
          refine wpAnyH_ready (rs := [13]) (by kernel_rfl) (by simp) (AllReadyH.cons rfl (fun K hK => ?_) AllReadyH.nil)
          go_simp
          refine hK.out _ _ ⟨cell_set_ne hS1.1 (by show w.heap.size ≠ p4; omega), cell_set_ne hS1.2.1 (by show sb ≠ p4; omega), cell_set_ne hS1.2.2 (by show Bx ≠ p4; omega)⟩ (fun hS2 => ?_)
          clear hK K
          have hX2 := hX1.set3 V
          have hsX2 := hsX1.setCell (a := ⟨p4, 3, none⟩) (by have := HP4.out; show w4.heap.size ≤ p4; omega) (.int .i64 V)
          have cpX2 := cell_set_ne (g := p4) (j := 3) (v := .int .i64 V) cpX1 (by show sb ≠ p4; omega)
          have fpX2 : (X1.setCell ⟨p4, 3, none⟩ (.int .i64 V)).frozen? ⟨sb, f, none⟩ = false := by rw [World.frozen?_setCell]; exact fpX1
          obtain ⟨X2, hX2e⟩ : ∃ X2, X1.setCell ⟨p4, 3, none⟩ (.int .i64 V) = X2 := ⟨_, rfl⟩
          rw [hX2e] at hS2 hX2 hsX2 cpX2 fpX2 ⊢
          clear hX2e hS1 hX1 hsX1 cpX1 fpX1 x1 x2 x3 x4 f1
          refine wpAnyH_done (by kernel_rfl) ?_ _
          obtain ⟨cb, _, _⟩ := hS2
          have hfin := HMORE.out w4 X2 P HPRR.out HLIE.out HS4.out hsX2 (by rw [if_neg HK2.out, HP4.out]; exact hX2)
          rw [← HCAM.out, HP4.out] at hfin
          have HFIN := Lib.hid hfin
          clear hfin hX2 hsX2
          gi_wp2_with fail
          have h := HFIN.out
          rw [hsz0, List.map_reverse] at h
          exact h
      case done =>
        rintro D ys W hD rfl hI hK
        rw [came_whole HN.out, List.reverse_reverse] at hI
        have cb := hI.box.cell
        have fb := hI.box.frozen
        obtain ⟨P, hPR, hLie⟩ := hI.lies
        have H1 := Lib.hid hI
        have H2 := Lib.hid (And.intro hPR hLie)
        have hzW := hI.size
        clear hI hPR hLie hc hpr0 hpe0 hstc0 hS0 hBc hbox
        gi_wp2
        have hK' := (KeepsOthers.setCell W ⟨w.heap.size, 0, none⟩ (.slice (some ⟨sb, 0, none⟩) k sc)).same D _ hK rfl
        refine ⟨by simp, .inl ⟨_, _, rfl, run_takeDeferred hK', ?_⟩⟩
        have hg := grownBy_putObj' (W.setCell ⟨w.heap.size, 0, none⟩ (.slice (some ⟨sb, 0, none⟩) k sc)) D (.deferred none)
        have hr : ∀ r, some D = some r → ∃ o : Obj, (W.setCell ⟨w.heap.size, 0, none⟩ (.slice (some ⟨sb, 0, none⟩) k sc)).heap[r]? = some o ∧ o.isCells = false := fun r e => by cases e; exact ⟨_, hK', rfl⟩
        have hbk : ∀ q, q ≠ w.heap.size → (W.setCell ⟨w.heap.size, 0, none⟩ (.slice (some ⟨sb, 0, none⟩) k sc)).heap[q]? = W.heap[q]? := fun q hq => Below.heap_setCell _ _ _ _ (by exact hq)
        have hc5 := ((H1.out.box.set (.slice (some ⟨sb, 0, none⟩) k sc)).kept hg (fun e => by injection e; omega)).cell
        have hst : ∀ p A B x y, StC W p A B x y → StC ((W.setCell ⟨w.heap.size, 0, none⟩ (.slice (some ⟨sb, 0, none⟩) k sc)).putObj D (.deferred none)) p A B x y := fun p A B x y hp => StC.kept ((hbk p (fun e => by
          have h1 : W.heap[p]? = _ := hp
          have h2 : W.heap[w.heap.size]? = _ := H1.out.box
          rw [e, h2] at h1
          simp at h1)).trans hp) hg hr
        have hsn := since_rowL ((H1.out.since.setCell (a := ⟨w.heap.size, 0, none⟩) (Nat.le_refl _) (.slice (some ⟨sb, 0, none⟩) k sc))) (Nat.le_refl _) hg (fun r e => by cases e; omega)
        refine ⟨.tuple #[.slice (some ⟨sb, 0, none⟩) k sc, .slice (some ⟨eb, 0, none⟩) k ec], ?_, sb, eb, sc, ec, P, E, rfl, hsn, ?_, ?_, HIN.out, fun i hi => hst _ _ _ _ _ (H1.out.st i hi), fun i hi => (H2.out.2 i hi).mono hst⟩
        · simp [results, Try.f115, go_sem, hc5]
        · exact (H2.out.1.block (hbk sb (by omega))).kept hg hr
        · exact (H1.out.ends.block (hbk eb (by omega))).kept hg hr
      case stop =>
        rintro D c pre W hD hpre hF hK
        exact hF.elim

set_option maxRecDepth 100000 in
set_option maxHeartbeats 400000 in
theorem pathSum_any (a : Option Addr) (cap N n i k : Nat) (cs : List RC) (w : World) (hN : cs.length = N) (ho : NetOk n cs) (hm : ChipsR w a cs) (hi : i < n) (hk : k < n) :
    Calls Try.prog 73 #[.int .i64 n, .slice a N cap, .int .i64 i, .int .i64 k] w fun e w' => e = .returned (.int .i64 (pathN (cs.map toC) i k)) ∧ w.Since w.heap.size w' := by
  have E := Lib.hid (linked_any a cap N n cs w hN ho hm)
  have HO := Lib.hid ho
  obtain ⟨Z, hZ⟩ : ∃ Z, pathN (cs.map toC) i k = Z := ⟨_, rfl⟩
  have HZ := Lib.hid hZ
  rw [hZ]
  have hw5 := ho.hi
  clear hN ho hm hZ
  go_enter Try.func73, Try.ntmps73
  go_wp2_with (go_at_call 115; refine (E.out).mono ?_; rintro e w1 ⟨sb, eb, c1, c2, P, E1, rfl, hs1, hp, he, hin, hst, hl⟩; have HS1 := Lib.hid hs1; have cp := (hp.cell hi).1; have ce := (he.cell hk).1; have EP := Lib.hid (fun (q : Nat) => pathsTo_any hin hk (cs.map toC) i (P i) (w1.drewN q) (fun c hc => by obtain ⟨d, hd, rfl⟩ := List.mem_map.1 hc; exact ⟨(HO.out.ok d hd).2, (HO.out.rc d hd).2.2⟩) (by rw [List.length_map]; exact HO.out.len) hi ((hl i hi).drawn (Drawn.mk w1 q)) (hst k hk)); clear hs1 hp he hin hst hl)
  rw [HZ.out] at EP
  go_quiet ((go_at_call 116; with_reducible exact Calls.quiet_of (EP.out _)))
  go_wp2_with fail
  go_ret
  exact ⟨rfl, since_drewN HS1.out _⟩

end Go.Proofs.Ytggmiojhglkcgaa
end

section
namespace Go.Proofs.Ytggmiojhglkcgaa
open Go.RowKit Go.Deep

noncomputable def oneL (q : Int) (cs : List RC) : List CH := (cs.map (oneC q)).map toC
theorem one_rc {q : Int} (hq : 0 ≤ q ∧ q ≤ 1) {n : Nat} {c : RC} (h : RCok c ∧ chOk n (toC c)) : RCok (oneC q c) ∧ chOk n (toC (oneC q c)) := by
  obtain ⟨⟨h1, h2, h3⟩, h4⟩ := h
  refine ⟨⟨h1, h2, ?_⟩, h4⟩
  unfold oneC
  simp only
  split <;> omega
theorem NetOk.ones {n : Nat} {cs : List RC} (h : NetOk n cs) {q : Int} (hq : 0 ≤ q ∧ q ≤ 1) : NetOk n (cs.map (oneC q)) :=
  ⟨h.lo, h.hi, by rw [List.length_map]; exact h.len, fun c hc => by
    obtain ⟨d, hd, rfl⟩ := List.mem_map.1 hc
    exact one_rc hq (h.ok d hd)⟩

noncomputable def countV (n : Int) (cs : List RC) (i k : Int) : Int := if linesB n cs i k = true then pathN (oneL 1 cs) i.toNat k.toNat else 0

set_option maxHeartbeats 400000 in
theorem specNetCount_any (a : Option Addr) (cap N : Nat) (n i k : Int) (cs : List RC) (w : World) (hN : cs.length = N) (h63 : N ≤ 9223372036854775807) (hm : ChipsR w a cs) :
    Calls Try.prog 41 #[.int .i64 n, .slice a N cap, .int .i64 i, .int .i64 k] w fun e w' => e = .returned (.tuple #[.int .i64 (countV n cs i k), .bool (linesB n cs i k)]) ∧ w.Since w.heap.size w' := by
  have E := l6cLines_any a cap N n i k cs w hN (by omega) hm
  unfold countV
  cases hb : linesB n cs i k with
  | false =>
    rw [hb] at E
    replace E := Lib.hid E
    rw [if_neg (by simp)]
    clear hb hm hN
    go_enter Try.func41, Try.ntmps41
    go_wp2_with (go_at_call 75; refine (E.out).mono ?_; rintro e w1 ⟨rfl, hs1⟩; have HS1 := Lib.hid hs1; clear hs1)
    go_ret2
    exact ⟨rfl, HS1.out⟩
  | true =>
    rw [hb] at E
    replace E := Lib.hid E
    rw [if_pos rfl]
    obtain ⟨m, j, l, rfl, ho, ⟨rfl, hj⟩, rfl, hl⟩ := lines_ok hb
    have hm5 := ho.hi
    have h10 := ho.len
    have ho1 := ho.ones (q := 1) (by omega)
    rw [hN] at h10
    have E1 := Lib.hid (fun (W : World) (hs : w.Since w.heap.size W) => l6cOnes_any a cap N 1 cs W hN h10 (hm.since hs))
    have E2 := Lib.hid (fun (W : World) (a' : Option Addr) (cap' : Nat) (h1 : N ≤ cap') (h2 : cap' ≤ 9223372036854775807) (hm : ChipsR W a' (cs.map (oneC 1))) => l6cPaths_any (cs.map (oneC 1)) a' N cap' j l W (by rw [List.length_map]; exact hN) h10 h1 h2 ho1.rc (by omega) hm)
    show Calls Try.prog 41 #[.int .i64 m, .slice a N cap, .int .i64 j, .int .i64 l] w fun e w' => e = .returned (.tuple #[.int .i64 (pathN ((cs.map (oneC 1)).map toC) j l), .bool true]) ∧ w.Since w.heap.size w'
    obtain ⟨P, hP⟩ : ∃ P, pathN ((cs.map (oneC 1)).map toC) j l = P := ⟨_, rfl⟩
    rw [hP] at E2 ⊢
    clear hb hm hN hP h10 ho1
    go_enter Try.func41, Try.ntmps41
    go_wp2_with (first
      | (go_at_call 75; refine (E.out).mono ?_; rintro e w1 ⟨rfl, hs1⟩; have HS1 := Lib.hid hs1; clear hs1)
      | (go_at_call 93; refine (E1.out _ HS1.out).mono ?_; rintro e w2 ⟨a2, c2, rfl, hs2, ho2, hc2, hc63⟩; have HS2 := Lib.hid (HS1.out.trans (since_mono hs2 HS1.out.size)); have HO2 := Lib.hid ho2.chips; clear hs2 ho2)
      | (go_at_call 76; refine (E2.out _ _ _ hc2 hc63 HO2.out).mono ?_; rintro e w3 ⟨rfl, hs3⟩; have HS3 := Lib.hid (HS2.out.trans (since_mono hs3 HS2.out.size)); clear hs3))
    go_ret2
    exact ⟨rfl, HS3.out⟩

def anyTo (cs : List CH) (f t : Nat) : Bool := (List.range t).any fun u => popcS f == popcS u && decide (0 < famN cs f u)
theorem anyTo_succ (cs : List CH) (f t : Nat) : anyTo cs f (t + 1) = (anyTo cs f t || (popcS f == popcS t && decide (0 < famN cs f t))) := by
  unfold anyTo
  rw [List.range_succ, List.any_append]
  simp
def mostTo (cs : List CH) (M : Nat) : Nat → Nat
  | 0 => 0
  | f + 1 => if anyTo cs f M = true then max (mostTo cs M f) (popcS f) else mostTo cs M f
theorem mostTo_le (cs : List CH) (M : Nat) : ∀ f, mostTo cs M f ≤ 6
  | 0 => by unfold mostTo; omega
  | f + 1 => by
    have h1 := mostTo_le cs M f
    have h2 : popcS f ≤ 6 := sel_length f 6 6
    unfold mostTo
    split <;> omega
def mostAt (cs : List CH) (M f t : Nat) : Nat := if anyTo cs f t = true then max (mostTo cs M f) (popcS f) else mostTo cs M f
theorem mostAt_zero (cs : List CH) (M f : Nat) : mostAt cs M f 0 = mostTo cs M f := by
  unfold mostAt anyTo
  rw [if_neg (by simp)]
theorem mostAt_all (cs : List CH) (M f : Nat) : mostAt cs M f M = mostTo cs M (f + 1) := rfl
theorem mostAt_yes {cs : List CH} {M f t : Nat} (h1 : popcS f = popcS t) (h2 : mostAt cs M f t < popcS f) (h3 : 0 < famN cs f t) : mostAt cs M f (t + 1) = popcS f := by
  have hy : anyTo cs f (t + 1) = true := by rw [anyTo_succ, decide_eq_true h3, beq_iff_eq.2 h1]; simp
  unfold mostAt at h2 ⊢
  rw [if_pos hy]
  split at h2 <;> omega
theorem mostAt_no {cs : List CH} {M f t : Nat} (h : ¬ (popcS f = popcS t ∧ mostAt cs M f t < popcS f ∧ 0 < famN cs f t)) : mostAt cs M f (t + 1) = mostAt cs M f t := by
  unfold mostAt at h ⊢
  rw [anyTo_succ]
  by_cases hy : anyTo cs f t = true
  · rw [hy, Bool.true_or]
  · rw [if_neg hy] at h ⊢
    by_cases h1 : popcS f = popcS t
    · by_cases h3 : 0 < famN cs f t
      · have h2 : ¬ mostTo cs M f < popcS f := fun h2 => h ⟨h1, h2, h3⟩
        split <;> omega
      · rw [decide_eq_false h3, Bool.and_false, Bool.or_false, if_neg hy]
    · rw [show (popcS f == popcS t) = false by simpa using h1, Bool.false_and, Bool.or_false, if_neg hy]
theorem mostAt_le (cs : List CH) (M f t : Nat) : mostAt cs M f t ≤ 6 := by
  have h1 := mostTo_le cs M f
  have h2 : popcS f ≤ 6 := sel_length f 6 6
  unfold mostAt
  split <;> omega
noncomputable def mostV (n : Int) (cs : List RC) : Int := if netB n cs = true then (mostTo (oneL 0 cs) (2 ^ n.toNat) (2 ^ n.toNat) : Nat) else 0

set_option maxRecDepth 100000 in
set_option maxHeartbeats 1000000 in
theorem specNetMost_any (a : Option Addr) (cap N : Nat) (n : Int) (cs : List RC) (w : World) (hN : cs.length = N) (h63 : N ≤ 9223372036854775807) (hm : ChipsR w a cs) :
    Calls Try.prog 44 #[.int .i64 n, .slice a N cap] w fun e w' => e = .returned (.tuple #[.int .i64 (mostV n cs), .bool (netB n cs)]) ∧ w.Since w.heap.size w' := by
  have E := specNetIn_any a cap N n cs w hN h63 hm
  unfold mostV
  cases hb : netB n cs with
  | false =>
    rw [if_neg (by simp)]
    rw [hb] at E
    replace E := Lib.hid E
    clear hb hm hN
    go_enter Try.func44, Try.ntmps44
    go_wp2_with (go_at_call 16; refine (E.out).mono ?_; rintro e w1 ⟨rfl, hs1⟩; have HS1 := Lib.hid hs1; clear hs1)
    go_ret2
    exact ⟨rfl, HS1.out⟩
  | true =>
    rw [if_pos rfl]
    obtain ⟨m, rfl, ho⟩ := netB_ok hb
    rw [hb] at E
    replace E := Lib.hid E
    have hm5 := ho.hi
    have h10 := ho.len
    rw [hN] at h10
    have ho0 := ho.ones (q := 0) (by omega)
    obtain ⟨⟨p1, p2⟩, p3, p4, p5⟩ := p5_fin ⟨m, by omega⟩
    simp only at p1 p2 p3 p4 p5
    rw [Int.toNat_natCast]
    obtain ⟨M, hM⟩ : ∃ M : Nat, 2 ^ m = M := ⟨_, rfl⟩
    rw [hM] at p1 p2 p4 p5 ⊢
    have E1 := Lib.hid (fun (W : World) (hs : w.Since w.heap.size W) => l6cOnes_any a cap N 0 cs W hN h10 (hm.since hs))
    have E2 := Lib.hid (fun (W : World) (a' : Option Addr) (cap' s t : Nat) (h1 : N ≤ cap') (h2 : cap' ≤ 9223372036854775807) (hs : s ≤ 31) (hm : ChipsR W a' (cs.map (oneC 0))) => l6cFamilies_any (cs.map (oneC 0)) a' N cap' s t W (by rw [List.length_map]; exact hN) h10 h1 h2 ho0.five hs hm)
    have hD : oneL 0 cs = (cs.map (oneC 0)).map toC := rfl
    rw [← hD] at E2
    have hfb := fun (s t : Nat) => fam_bd (oneL 0 cs) (fun d hd => by
      obtain ⟨e, he, rfl⟩ := List.mem_map.1 hd
      exact (ho0.rc e he).2.2) s t
    have hp10 : p10 (oneL 0 cs).length ≤ 10000000000 := p10_le (by unfold oneL; rw [List.length_map, List.length_map]; omega)
    obtain ⟨D, hDD⟩ : ∃ D, oneL 0 cs = D := ⟨_, rfl⟩
    rw [hDD] at E2 hfb hp10 ⊢
    have HFB := Lib.hid hfb
    have HP := Lib.hid hp10
    have HCH := Lib.hid (show ∀ (W : World) (a' : Option Addr), (∃ V : World, ChipsR V a' (cs.map (oneC 0)) ∧ V.Since V.heap.size W) → ChipsR W a' (cs.map (oneC 0)) from fun W a' ⟨V, h1, h2⟩ => h1.since h2)
    clear hb hm hN hM h10 ho0 p3 hD hDD hfb hp10 ho
    go_enter Try.func44, Try.ntmps44
    go_wp2_with (first
      | (go_at_call 16; refine (E.out).mono ?_; rintro e w1 ⟨rfl, hs1⟩; have HS1 := Lib.hid hs1; clear hs1)
      | (go_at_call 93; refine (E1.out _ HS1.out).mono ?_; rintro e w2 ⟨a2, c2, rfl, hs2, ho2, hc2, hc63⟩; have HS2 := Lib.hid (HS1.out.trans (since_mono hs2 HS1.out.size)); have HO2 := Lib.hid ho2.chips; clear hs2 ho2))
    go_loopg [6, 8, 9] M (fun g v i _ wr => ∃ f : Nat, f ≤ M ∧ g = M - f ∧ i = .int .i64 f ∧ v = .int .i64 (mostTo D M f : Nat) ∧ w.Since w.heap.size wr ∧ ChipsR wr a2 (cs.map (oneC 0)))
    case atStart => exact ⟨0, Nat.zero_le _, rfl, rfl, rfl, HS2.out, HO2.out⟩
    case round =>
      obtain ⟨f, hf, rfl, rfl, rfl, hS, hC⟩ := hrel
      by_cases hlt : f < M
      · have EP := Lib.hid (fun (W : World) => l2Size_any f (by omega) W)
        have hz := mostAt_zero D M f
        have hall := mostAt_all D M f
        have hpf : popcS f ≤ 6 := sel_length f 6 6
        have HZ := Lib.hid hz
        have HALL := Lib.hid hall
        have HS := Lib.hid hS
        have HC := Lib.hid hC
        clear hz hall hS hC
        go_wp2_with fail
        go_loopg [6, 9] M (fun g v i wi => ∃ t : Nat, t ≤ M ∧ g = M - t ∧ i = .int .i64 t ∧ v = .int .i64 (mostAt D M f t : Nat) ∧ w.Since w.heap.size wi ∧ ChipsR wi a2 (cs.map (oneC 0)))
        case atStart => exact ⟨0, Nat.zero_le _, rfl, rfl, by rw [HZ.out], HS.out, HC.out⟩
        case round =>
          obtain ⟨t, ht, rfl, rfl, rfl, hS2, hC2⟩ := hrel
          by_cases hlt2 : t < M
          · have EQ := Lib.hid (fun (W : World) => l2Size_any t (by omega) W)
            have hpt : popcS t ≤ 6 := sel_length t 6 6
            have hma := mostAt_le D M f t
            have EF := Lib.hid (E2.out wr a2 c2 f t hc2 hc63 (by omega) hC2)
            have hyes := fun h1 h2 h3 => mostAt_yes (cs := D) (M := M) (f := f) (t := t) h1 h2 h3
            have hno := fun h => mostAt_no (cs := D) (M := M) (f := f) (t := t) h
            have hfb := HFB.out f t
            obtain ⟨P, hP⟩ : ∃ P, famN D f t = P := ⟨_, rfl⟩
            obtain ⟨A, hA⟩ : ∃ A, popcS f = A := ⟨_, rfl⟩
            obtain ⟨B, hB⟩ : ∃ B, popcS t = B := ⟨_, rfl⟩
            obtain ⟨Z, hZ⟩ : ∃ Z, mostAt D M f t = Z := ⟨_, rfl⟩
            rw [hP] at EF hyes hno hfb
            rw [hA] at EP hyes hno hpf
            rw [hB] at EQ hyes hno hpt
            rw [hZ] at hyes hno hma ⊢
            have HY := Lib.hid hyes
            have HNO := Lib.hid hno
            have HS2 := Lib.hid hS2
            have HC2 := Lib.hid hC2
            clear hyes hno hP hA hB hZ hS2 hC2 hfb HFB HP
            by_cases g1 : A = B
            · subst g1
              by_cases g2 : Z < A
              · have g2' : decide ((Z : Int) < (A : Int)) = true := by simpa using g2
                by_cases g3 : 0 < P
                · have g3' : decide (0 < P) = true := by simpa using g3
                  have HR := Lib.hid (HY.out rfl g2 g3)
                  go_wp2_with (first
                    | (go_at_call 85; ((with_reducible refine (EP.out _).mono ?_); rintro e w2 ⟨rfl, rfl⟩))
                    | (go_at_call 85; ((with_reducible refine (EQ.out _).mono ?_); rintro e w2 ⟨rfl, rfl⟩))
                    | (go_at_call 86; refine (EF.out).mono ?_; rintro e w4 ⟨rfl, hs4⟩; have H4 := Lib.hid (And.intro (HS2.out.trans (since_mono hs4 HS2.out.size)) (HC2.out.since hs4)); clear hs4))
                  go_roundg (M - (t + 1))
                  case measure => omega
                  case rel => exact ⟨t + 1, by omega, rfl, by go_num, by rw [HR.out], H4.out.1, H4.out.2⟩
                · have g3' : decide (0 < P) = false := by simpa using g3
                  have HR := Lib.hid (HNO.out (fun h => g3 h.2.2))
                  go_wp2_with (first
                    | (go_at_call 85; ((with_reducible refine (EP.out _).mono ?_); rintro e w2 ⟨rfl, rfl⟩))
                    | (go_at_call 85; ((with_reducible refine (EQ.out _).mono ?_); rintro e w2 ⟨rfl, rfl⟩))
                    | (go_at_call 86; refine (EF.out).mono ?_; rintro e w4 ⟨rfl, hs4⟩; have H4 := Lib.hid (And.intro (HS2.out.trans (since_mono hs4 HS2.out.size)) (HC2.out.since hs4)); clear hs4))
                  go_roundg (M - (t + 1))
                  case measure => omega
                  case rel => exact ⟨t + 1, by omega, rfl, by go_num, by rw [HR.out], H4.out.1, H4.out.2⟩
              · have g2' : decide ((Z : Int) < (A : Int)) = false := by simpa using g2
                have HR := Lib.hid (HNO.out (fun h => g2 h.2.1))
                go_wp2_with (first
                  | (go_at_call 85; ((with_reducible refine (EP.out _).mono ?_); rintro e w2 ⟨rfl, rfl⟩))
                  | (go_at_call 85; ((with_reducible refine (EQ.out _).mono ?_); rintro e w2 ⟨rfl, rfl⟩)))
                go_roundg (M - (t + 1))
                case measure => omega
                case rel => exact ⟨t + 1, by omega, rfl, by go_num, by rw [HR.out], HS2.out, HC2.out⟩
            · have g1' : ((A : Int) == (B : Int)) = false := by simp; omega
              have g1'' : (A == B) = false := by simpa using g1
              have HR := Lib.hid (HNO.out (fun h => g1 h.1))
              go_wp2_with (first
                | (go_at_call 85; ((with_reducible refine (EP.out _).mono ?_); rintro e w2 ⟨rfl, rfl⟩))
                | (go_at_call 85; ((with_reducible refine (EQ.out _).mono ?_); rintro e w2 ⟨rfl, rfl⟩)))
              go_roundg (M - (t + 1))
              case measure => omega
              case rel => exact ⟨t + 1, by omega, rfl, by go_num, by rw [HR.out], HS2.out, HC2.out⟩
          · obtain rfl : t = M := by omega
            have HS3 := Lib.hid (And.intro hS2 hC2)
            clear hS2 hC2
            go_wp2_with fail
            go_roundg (t - (f + 1))
            case measure => omega
            case rel => exact ⟨f + 1, by omega, rfl, by go_num, by rw [← HALL.out], HS3.out.1, HS3.out.2⟩
      · obtain rfl : f = M := by omega
        have HS3 := Lib.hid hS
        clear hS hC
        go_wp2_with fail
        go_ret2
        exact ⟨rfl, HS3.out⟩

end Go.Proofs.Ytggmiojhglkcgaa
end

section
namespace Go.Proofs.Ytggmiojhglkcgaa
open Go.RowKit Go.Deep

set_option maxHeartbeats 400000 in
theorem isLine_any (i : Int) (n : Nat) (hn : 2 ≤ n ∧ n ≤ 5) (w : World) :
    Calls Try.prog 72 #[.int .i64 i, .int .i64 n] w fun e w' => e = .returned (.bool (inB i 0 ((n : Int) - 1))) ∧ w = w' := by
  have hw : IntKind.i64.wrap ((n : Int) - 1) = (n : Int) - 1 := IntWalk.i64_in _ ⟨by omega, by omega⟩
  have E := Lib.hid (inRange_any i 0 ((n : Int) - 1) w)
  go_enter Try.func72, Try.ntmps72
  go_wp2_with (go_at_call 56; refine (E.out).mono ?_; rintro e w' ⟨rfl, rfl⟩)
  go_ret
  exact ⟨rfl, rfl⟩

set_option maxHeartbeats 400000 in
theorem implNetPaths_any (a : Option Addr) (cap N : Nat) (n i k : Int) (cs : List RC) (w : World) (hN : cs.length = N) (h63 : N ≤ 9223372036854775807) (hm : ChipsR w a cs) :
    Calls Try.prog 22 #[.int .i64 n, .slice a N cap, .int .i64 i, .int .i64 k] w fun e w' => e = .returned (.tuple #[.int .i64 (pathsV n cs i k), .bool (linesB n cs i k)]) ∧ w.Since w.heap.size w' := by
  have E := implNetIn_any a cap N n cs w hN h63 hm
  cases hb : netB n cs with
  | false =>
    have hl : linesB n cs i k = false := by unfold linesB; rw [hb, Bool.false_and]
    unfold pathsV
    rw [hl, if_neg (by simp)]
    rw [hb] at E
    replace E := Lib.hid E
    clear hb hm hN hl
    go_enter Try.func22, Try.ntmps22
    go_wp2_with (go_at_call 15; refine (E.out).mono ?_; rintro e w1 ⟨rfl, hs1⟩; have HS1 := Lib.hid hs1; clear hs1)
    go_ret2
    exact ⟨rfl, HS1.out⟩
  | true =>
    obtain ⟨m, rfl, ho⟩ := netB_ok hb
    rw [hb] at E
    replace E := Lib.hid E
    have hn2 := ho.lo
    have hn5 := ho.hi
    have hlb : linesB m cs i k = (inB i 0 ((m : Int) - 1) && inB k 0 ((m : Int) - 1)) := by unfold linesB; rw [hb, Bool.true_and]
    have E1 := fun (W : World) => isLine_any i m ⟨hn2, hn5⟩ W
    have E2 := fun (W : World) => isLine_any k m ⟨hn2, hn5⟩ W
    obtain ⟨b1, hb1⟩ : ∃ b, inB i 0 ((m : Int) - 1) = b := ⟨_, rfl⟩
    obtain ⟨b2, hb2⟩ : ∃ b, inB k 0 ((m : Int) - 1) = b := ⟨_, rfl⟩
    simp only [hb1] at E1
    simp only [hb2] at E2
    rw [hb1, hb2] at hlb
    replace E1 := Lib.hid E1
    replace E2 := Lib.hid E2
    by_cases hbb : b1 = true ∧ b2 = true
    · obtain ⟨rfl, rfl⟩ := hbb
      obtain ⟨_, j, l, hq, _, ⟨rfl, hj⟩, rfl, hl⟩ := lines_ok (hlb.trans rfl)
      obtain rfl := Int.ofNat.inj hq
      have hv : pathsV m cs j l = pathN (cs.map toC) j l := by unfold pathsV; rw [hlb]; rfl
      have E3 := Lib.hid (fun (W : World) (hs : w.Since w.heap.size W) => pathSum_any a cap N m j l cs W hN ho (hm.since hs) hj hl)
      rw [hv, hlb]
      obtain ⟨P, hP⟩ : ∃ P, pathN (cs.map toC) j l = P := ⟨_, rfl⟩
      rw [hP] at E3 ⊢
      clear hb hm hN hP hlb hv ho hb1 hb2
      go_enter Try.func22, Try.ntmps22
      go_wp2_with (first
        | (go_at_call 15; refine (E.out).mono ?_; rintro e w1 ⟨rfl, hs1⟩; have HS1 := Lib.hid hs1; clear hs1)
        | (go_at_call 72; ((with_reducible refine (E1.out _).mono ?_); rintro e w2 ⟨rfl, rfl⟩))
        | (go_at_call 72; ((with_reducible refine (E2.out _).mono ?_); rintro e w2 ⟨rfl, rfl⟩))
        | (go_at_call 73; refine (E3.out _ HS1.out).mono ?_; rintro e w3 ⟨rfl, hs3⟩; have HS3 := Lib.hid (HS1.out.trans (since_mono hs3 HS1.out.size)); clear hs3))
      go_ret2
      exact ⟨rfl, HS3.out⟩
    · have hlf : linesB m cs i k = false := by rw [hlb]; cases b1 <;> cases b2 <;> simp at hbb ⊢
      unfold pathsV
      rw [hlf, if_neg (by simp)]
      clear hb hm hN hlb hlf ho hb1 hb2
      cases b1 <;> cases b2
      case true.true => exact absurd ⟨rfl, rfl⟩ hbb
      all_goals
        clear hbb
        go_enter Try.func22, Try.ntmps22
        go_wp2_with (first
          | (go_at_call 15; refine (E.out).mono ?_; rintro e w1 ⟨rfl, hs1⟩; have HS1 := Lib.hid hs1; clear hs1)
          | (go_at_call 72; ((with_reducible refine (E1.out _).mono ?_); rintro e w2 ⟨rfl, rfl⟩))
          | (go_at_call 72; ((with_reducible refine (E2.out _).mono ?_); rintro e w2 ⟨rfl, rfl⟩)))
        go_ret2
        exact ⟨rfl, HS1.out⟩

def ones1 (cs : List RC) (r : Nat) : List RC := (cs.take r).map (fun c => ⟨c.k, c.l, 1⟩) ++ cs.drop r
theorem ones1_get {cs : List RC} {r i : Nat} (hi : i < cs.length) : (ones1 cs r).getD i rc0 = if i < r then ⟨(cs.getD i rc0).k, (cs.getD i rc0).l, 1⟩ else cs.getD i rc0 := by
  unfold ones1
  by_cases h : i < r
  · rw [if_pos h]
    have : i < ((cs.take r).map (fun c => (⟨c.k, c.l, 1⟩ : RC))).length := by rw [List.length_map, List.length_take]; omega
    simp only [List.getD, List.getElem?_append_left this]
    simp [h, hi]
  · rw [if_neg h]
    have : ((cs.take r).map (fun c => (⟨c.k, c.l, 1⟩ : RC))).length = r ∨ cs.length ≤ r := by rw [List.length_map, List.length_take]; omega
    rcases this with h2 | h2
    · simp only [List.getD]
      rw [List.getElem?_append_right (by omega), h2, List.getElem?_drop, show r + (i - r) = i by omega]
    · omega
theorem ones1_zero (cs : List RC) : ones1 cs 0 = cs := by simp [ones1]
theorem ones1_len (cs : List RC) (r : Nat) : (ones1 cs r).length = cs.length := by unfold ones1; simp; omega
theorem OwnC.one {lo hi : Nat} {w : World} {a : Option Addr} {cs : List RC} {r : Nat} (h : OwnC lo hi w a (ones1 cs r)) (hr : r < cs.length) : ∃ g, a = some ⟨g, 0, none⟩ ∧ (lo ≤ g ∧ g < hi) ∧ w.cell? ⟨g, r * 3 + 2, none⟩ = some (.int .i64 (cs.getD r rc0).w) ∧ w.frozen? ⟨g, r * 3 + 2, none⟩ = false ∧
    OwnC lo hi (w.setCell ⟨g, r * 3 + 2, none⟩ (.int .i64 1)) a (ones1 cs (r + 1)) := by
  obtain ⟨g, e, hg, hc⟩ := h (by rw [ones1_len]; omega)
  rw [ones1_len] at hc
  obtain ⟨⟨c1, c2, c3⟩, f1, f2, f3⟩ := hc r hr
  rw [ones1_get hr, if_neg (by omega)] at c3
  refine ⟨g, e, hg, c3, f3, fun _ => ⟨g, e, hg, fun i hi => ?_⟩⟩
  rw [ones1_len] at hi
  obtain ⟨⟨k1, k2, k3⟩, m1, m2, m3⟩ := hc i hi
  rw [ones1_get hi] at k1 k2 k3 ⊢
  have hne : ∀ q, q ≠ r * 3 + 2 → (w.setCell ⟨g, r * 3 + 2, none⟩ (.int .i64 1)).cell? ⟨g, q, none⟩ = w.cell? ⟨g, q, none⟩ := fun q hq => World.cell?_setCell_other _ _ _ _ (fun e => hq (by injection e with _ e2; exact e2.symm))
  refine ⟨⟨?_, ?_, ?_⟩, by rw [World.frozen?_setCell]; exact m1, by rw [World.frozen?_setCell]; exact m2, by rw [World.frozen?_setCell]; exact m3⟩
  · rw [hne _ (by omega), k1]
    split <;> split <;> first | rfl | omega
  · rw [hne _ (by omega), k2]
    split <;> split <;> first | rfl | omega
  · by_cases e : i = r
    · subst e
      rw [World.cell?_setCell_same' _ _ _ (by rw [c3]; rfl), if_pos (by omega)]
    · rw [hne _ (by omega), k3]
      split <;> split <;> first | rfl | omega

set_option maxRecDepth 100000 in
set_option maxHeartbeats 400000 in
theorem weightOne_any (a : Option Addr) (cap N : Nat) (cs : List RC) (w : World) (hN : cs.length = N) (h10 : N ≤ 10) (hm : ChipsR w a cs) (hsa : ∃ b o, a = some ⟨b, o, none⟩) :
    Calls Try.prog 92 #[.slice a N cap] w fun e w' => ∃ a' cap', e = .returned (.slice a' N cap') ∧ w.Since w.heap.size w' ∧ OwnC w.heap.size w'.heap.size w' a' (cs.map (oneC 1)) ∧ N ≤ cap' ∧ cap' ≤ 9223372036854775807 := by
  have E := Lib.hid (cloneChips_any a cap N cs w hN h10 hm hsa)
  have HN := Lib.hid hN
  clear hN hm hsa
  go_enter Try.func92, Try.ntmps92
  go_wp2_with (go_at_call 125; refine (E.out).mono ?_; rintro e w1 ⟨a1, c1, rfl, hs1, ho1, hc1, hc2⟩; have HS1 := Lib.hid hs1; have HO1 := Lib.hid ho1; clear hs1 ho1)
  go_loopg [4, 9] N (fun g _ i wr => ∃ r : Nat, r ≤ N ∧ g = N - r ∧ i = .int .i64 r ∧ w.Since w.heap.size wr ∧ wr.heap.size = w1.heap.size ∧ OwnC w.heap.size w1.heap.size wr a1 (ones1 cs r))
  case atStart => exact ⟨0, Nat.zero_le _, rfl, rfl, HS1.out, rfl, (by rw [ones1_zero]; exact HO1.out)⟩
  case round =>
    obtain ⟨r, hr, rfl, rfl, hS, hz, hO⟩ := hrel
    by_cases hlt : r < N
    · obtain ⟨g, rfl, hg, k3, f3, hO2⟩ := hO.one (show r < cs.length by rw [HN.out]; exact hlt)
      have HH := Lib.hid (And.intro hS (And.intro hz hO2))
      have HG := Lib.hid hg
      clear hS hz hO hO2 hg
      go_wp2_with fail
      go_roundg (N - (r + 1))
      case measure => omega
      case rel => exact ⟨r + 1, by omega, rfl, by go_num, HH.out.1.setCell (by exact HG.out.1) _, by simp [HH.out.2.1], HH.out.2.2⟩
    · obtain rfl : r = N := by omega
      have hL : ones1 cs r = cs.map (oneC 1) := by
        unfold ones1
        rw [List.take_of_length_le (by rw [HN.out]; exact Nat.le_refl _), List.drop_of_length_le (by rw [HN.out]; exact Nat.le_refl _), List.append_nil]
        refine List.map_congr_left fun c _ => ?_
        unfold oneC
        split <;> rfl
      rw [hL, ← hz] at hO
      have HH := Lib.hid (And.intro hS hO)
      clear hS hz hO hL
      go_wp2_with fail
      go_ret
      exact ⟨_, _, rfl, HH.out.1, HH.out.2, hc1, hc2⟩

end Go.Proofs.Ytggmiojhglkcgaa
end

section
namespace Go.Proofs.Ytggmiojhglkcgaa
open Go.RowKit Go.Deep

def ColsAt (w : World) (g n : Nat) (cs : List Nat) : Prop := w.ownsRow 0 3 1 (.slice (some ⟨g, 0, none⟩) cs.length n) cs.length ((ints cs).map (Value.int .i64))
theorem ColsAt.init {w : World} {g n : Nat} {cs : List Nat} {k : Nat} (h : ColsAt w g n (cs ++ [k])) : ColsAt w g n cs := by
  unfold ColsAt at h ⊢
  rw [show (cs ++ [k]).length = cs.length + 1 by simp] at h
  refine ⟨by simp [ints], ?_⟩
  rcases h.2 with ⟨h', _⟩ | ⟨g', cap', cur, h', hb, hg, hle, hm, hs, ht⟩
  · simp at h'
  · simp only [Value.slice.injEq, Option.some.injEq, Addr.mk.injEq, and_true, true_and] at h'
    obtain ⟨rfl, rfl⟩ := h'
    refine .inr ⟨g, n, cur, rfl, hb, hg, by omega, hm, hs, ?_⟩
    have e := congrArg (List.take cs.length) ht
    rw [List.take_take, Nat.min_eq_left (by omega)] at e
    rw [Nat.mul_one, e]
    simp [ints]
theorem ColsAt.row {w : World} {g n : Nat} {cs : List Nat} (h : ColsAt w g n cs) : RowR w (some ⟨g, 0, none⟩) (ints cs) := fun _ =>
  ⟨g, 0, rfl, fun i hi => by
    have e := World.ownsRow.cellAt h i (by rw [ints_length] at hi; omega)
    rw [Nat.zero_add, e, List.getElem?_map]
    simp [List.getD, hi]⟩
theorem ColsAt.kept {w w' : World} {g n : Nat} {cs : List Nat} (h : ColsAt w g n cs) (hs : w.Since w.heap.size w') : ColsAt w' g n cs := World.ownsRow.kept h (grown_of_since (row := none) hs) (by simp [Value.ownBlock])
theorem ints_snoc (cs : List Nat) (k : Nat) : (ints (cs ++ [k])).map (Value.int .i64) = (ints cs).map (Value.int .i64) ++ [.int .i64 (k : Int)] := by simp [ints]

set_option maxRecDepth 100000 in
set_option maxHeartbeats 4000000 in
theorem sumOfOrders_any (a : Option Addr) (cap n : Nat) (l : List (List Int)) (g : Nat) (hn : l.length = n) (hT : TabIn l) (hw : (l.getD 0 []).length = n) : ∀ (m : Nat) (cs : List Nat) (W : World), cs.length + m = n → (∀ c ∈ cs, c < n) → ColsAt W g n cs → (∀ W', W.grownBy W' (some g) → MatR W' a l) →
    Calls Try.prog 145 #[.slice a n cap, .slice (some ⟨g, 0, none⟩) cs.length n] W fun e w' => e = .returned (.int .i64 (ordS l n m cs)) ∧ W.grownBy w' (some g) ∧ ColsAt w' g n cs := by
  have h6 := hT.2.1
  rw [hn] at h6
  intro m
  induction m with
  | zero =>
    intro cs W hl hc hcols hmat
    have hx : cs.length = n := by omega
    have E := orderedProduct_any a cap n l g n cs W hn hT hw (hmat W (World.grownBy.refl _ _)) hx hc (Nat.le_refl _) (by omega) hcols.row
    rw [hx]
    replace E := Lib.hid E
    have HC := Lib.hid hcols
    clear hmat hcols hl hc hx
    go_enter Try.func145, Try.ntmps145
    go_wp2_with fail
    refine (E.out).mono ?_
    rintro e w1 ⟨rfl, hs⟩
    have HK := HC.out.kept hs
    go_wp2
    go_ret
    exact ⟨rfl, grown_of_since hs, HK⟩
  | succ m ih =>
    intro cs W hl hc hcols hmat
    obtain ⟨i3, hi3⟩ := info3_parts
    have HJ := Lib.hid hi3
    have hbd := fun q (hq : q ≤ n) => ordP_bd (l := l) (n := n) (m := m) (cs := cs) h6 (fun i j hi hj => hT.at (by omega) (by omega)) hl hc hq
    have hb6 := b6_le (m + 1) (by omega)
    have hb6' : b6 (m + 1) = 6 * b6 m := rfl
    rw [ordS_succ]
    obtain ⟨F, hF⟩ : ∃ F : Nat → Int, F = fun k => if k ∈ cs then 0 else ordS l n m (cs ++ [k]) := ⟨_, rfl⟩
    simp only [← hF] at hbd ⊢
    have hd : cs.length < n := by omega
    have hne : ((cs.length : Int) == (n : Int)) = false := by simp; omega
    have HIH := Lib.hid (fun (k : Nat) (hk : k < n) (V : World) (h1 : ColsAt V g n (cs ++ [k])) (h2 : ∀ W', V.grownBy W' (some g) → MatR W' a l) => ih (cs ++ [k]) V (by simp; omega) (fun c h => by
      rcases List.mem_append.1 h with h | h
      · exact hc c h
      · simp at h; omega) h1 h2)
    have HIN := Lib.hid (fun (k : Nat) (V : World) (h1 : ColsAt V g n cs) => contains_any (some ⟨g, 0, none⟩) n cs.length (ints cs) k V (ints_length cs) (by omega) h1.row)
    have HM := Lib.hid hmat
    have HC := Lib.hid hcols
    have HF := Lib.hid hF
    have HB := Lib.hid hbd
    have HMEM : ∀ k : Nat, ((k : Int) ∈ ints cs) ↔ k ∈ cs := fun k => by
      simp only [ints, List.mem_map]
      constructor
      · rintro ⟨c, h1, h2⟩
        have : c = k := by omega
        exact this ▸ h1
      · exact fun h => ⟨k, h, rfl⟩
    have HME := Lib.hid HMEM
    obtain ⟨d, hdd⟩ : ∃ d, d = cs.length := ⟨_, rfl⟩
    have HD := Lib.hid hdd
    rw [← hdd] at hd hne ⊢
    simp only [← hdd] at HIN
    clear ih hmat hcols hF hbd hc hi3 HMEM hdd hT hw hn
    go_enter Try.func145, Try.ntmps145
    go_wp2
    go_loopg [5, 6, 17] n (fun q s _ i wr => ∃ k : Nat, k ≤ n ∧ q = n - k ∧ i = .int .i64 k ∧ s = .int .i64 (sumN F k) ∧ W.grownBy wr (some g) ∧ ColsAt wr g n cs)
    case atStart => exact ⟨0, Nat.zero_le _, rfl, rfl, rfl, World.grownBy.refl _ _, HC.out⟩
    case round =>
      obtain ⟨k, hk, rfl, rfl, rfl, hG, hCo⟩ := hrel
      obtain ⟨s0, hs0⟩ : ∃ s, s = sumN F k := ⟨_, rfl⟩
      have e : sumN F (k + 1) = s0 + F k := by rw [hs0]; rfl
      rw [← hs0]
      by_cases hlt : k < n
      · have hsb := HB.out (k + 1) (by omega)
        rw [e] at hsb
        have E1 := HIN.out k wr hCo
        have HE := Lib.hid e
        have HG := Lib.hid hG
        have HCo := Lib.hid hCo
        clear e hs0 hG
        by_cases hmem : k ∈ cs
        · rw [decide_eq_true ((HME.out k).2 hmem)] at E1
          replace E1 := Lib.hid E1
          have hF0 : F k = 0 := by rw [HF.out]; exact if_pos hmem
          clear hCo
          go_wp2_with fail
          refine (E1.out).mono ?_
          rintro e w' ⟨rfl, rfl⟩
          go_wp2
          go_roundg (n - (k + 1))
          case measure => omega
          case rel => exact ⟨k + 1, by omega, rfl, by go_num, by rw [HE.out, hF0]; simp, HG.out, HCo.out⟩
        · rw [decide_eq_false (fun h => hmem ((HME.out k).1 h))] at E1
          replace E1 := Lib.hid E1
          obtain ⟨f2, hf2⟩ : ∃ f, f = F k := ⟨_, rfl⟩
          rw [← hf2] at hsb
          have hF0 : f2 = ordS l n m (cs ++ [k]) := by rw [hf2, HF.out]; exact if_neg hmem
          have hws : IntKind.i64.wrap (s0 + f2) = s0 + f2 := IntWalk.i64_in _ ⟨by omega, by omega⟩
          have HH := Lib.hid hf2
          have EI := fun (V : World) (h1 : ColsAt V g n (cs ++ [k])) (h2 : V.heap.size ≥ 0 ∧ W.grownBy V (some g)) => HIH.out k hlt V h1 (fun W' hW' => HM.out W' (h2.2.trans hW'))
          rw [show (cs ++ [k]).length = d + 1 by rw [HD.out]; simp, ← hF0] at EI
          replace EI := Lib.hid EI
          have hown : wr.ownsRow 0 3 1 (.slice (some ⟨g, 0, none⟩) d n) d ((ints cs).map (Value.int .i64)) := by rw [HD.out]; exact hCo
          have HOWN := Lib.hid hown
          clear hf2 hsb hF0 hCo hown
          go_wp2_with (first
            | (go_at_call 157; refine (E1.out).mono ?_; rintro e w' ⟨rfl, rfl⟩)
            | (at_builtin; (refine wpList_append_fits _ rfl _ _ 37 rfl 0 3 i3 1 Try.underlying37 HJ.out.1 HJ.out.2.2.1 g d n ((ints cs).map (Value.int .i64)) rfl (HOWN.out.alloc _) ⟨wr.heap.size, 0, none⟩ 1 1 [.int .i64 k] rfl rfl (cell_one_at _ _ _ rfl) (fun x hx => by simp at hx; subst hx; rfl) (by omega) ?_); intro w1 hown' hgrow; have hc1 : ColsAt w1 g n (cs ++ [k]) := (by unfold ColsAt; rw [ints_snoc, show (cs ++ [k]).length = d + 1 by rw [HD.out]; simp]; exact hown'); have hg1 : W.grownBy w1 (some g) := HG.out.trans ((World.grownBy_alloc wr _ _).trans hgrow); clear hown' hgrow; have HC1 := Lib.hid hc1; have HG1 := Lib.hid hg1; clear hc1 hg1)
            | (go_at_call 145; refine (EI.out w1 HC1.out ⟨Nat.zero_le _, HG1.out⟩).mono ?_; rintro e w2 ⟨rfl, hg2, hc2⟩; have HG2 := Lib.hid (HG1.out.trans hg2); have HC2 := Lib.hid hc2.init; clear hg2 hc2))
          go_roundg (n - (k + 1))
          case measure => omega
          case rel => exact ⟨k + 1, by omega, rfl, by go_num, by rw [HE.out, ← HH.out], HG2.out, HC2.out⟩
      · have hqn : n = k := by omega
        subst hqn
        go_wp2
        go_ret
        exact ⟨by rw [hs0]; rfl, hG, hCo⟩

theorem since_fresh {W w1 w2 : World} (h : W.grownBy w1 none) (h2 : w1.grownBy w2 (some W.heap.size)) : W.Since W.heap.size w2 :=
  ⟨h2.os.trans h.os, h2.tape.trans h.tape, h2.output.trans h.output, Nat.le_trans h.size h2.size, fun k hk => (h2.block k (by have := h.size; omega) (by intro e; injection e with e; omega)).trans (h.block k hk (by simp))⟩

set_option maxRecDepth 100000 in
set_option maxHeartbeats 1000000 in
theorem byOrders_any (a : Option Addr) (cap n : Nat) (l : List (List Int)) (w : World) (hn : l.length = n) (hT : TabIn l) (hw : (l.getD 0 []).length = n) (hm : MatR w a l) :
    Calls Try.prog 133 #[.slice a n cap] w fun e w' => e = .returned (.int .i64 (ordF l n n 0)) ∧ w.Since w.heap.size w' := by
  have h6 := hT.2.1
  rw [hn] at h6
  obtain ⟨i3, hi3⟩ := info3_parts
  have HJ := Lib.hid hi3
  have E := fun (V : World) (hc : ColsAt V w.heap.size n []) (hg : w.grownBy V none) => sumOfOrders_any a cap n l w.heap.size hn hT hw n [] V (by simp) (by simp) hc (fun W' hW' => hm.since (since_fresh hg hW'))
  rw [ordS_all l n h6] at E
  replace E := Lib.hid E
  clear hi3 hn hT hw hm
  go_enter Try.func133, Try.ntmps133
  go_wp2_with (first
    | (at_make; (refine wpList_make_own _ rfl _ _ 37 rfl 0 3 i3 (.int .i64 0) 1 Try.underlying37 HJ.out.1 HJ.out.2.1 HJ.out.2.2.1 .i64 .i64 n n rfl rfl rfl (by rw [HJ.out.2.2.2]; omega) (by unfold maxLen; omega) (Nat.zero_le _) ?_); intro w1 hown hgrow; have HO := Lib.hid (show ColsAt w1 w.heap.size n [] from hown); have HG := Lib.hid hgrow; clear hown hgrow)
    | (go_at_call 145; refine (E.out w1 HO.out HG.out).mono ?_; rintro e w2 ⟨rfl, hg2, hc2⟩; have HS := Lib.hid (since_fresh HG.out hg2); clear hg2 hc2))
  go_ret
  exact ⟨rfl, HS.out⟩

theorem implValueOrders_any (a : Option Addr) (cap n : Nat) (l : List (List Int)) (w : World) (hn : l.length = n) (hsz : szL l ≤ 1048576) (hm : MatR w a l) :
    Calls Try.prog 21 #[.slice a n cap] w (SpecW w (sqB l) (ordF l n n 0)) :=
  implValueOrders_of a cap n l (ordF l n n 0) w hn hsz hm fun hs W' hm' => by
    obtain ⟨hT, hw⟩ := sqB_of hs
    exact byOrders_any a cap n l W' hn hT (by rw [← hw, hn]) hm'

end Go.Proofs.Ytggmiojhglkcgaa
end

section
namespace Go.Proofs.Ytggmiojhglkcgaa
open Go.RowKit Go.Deep

set_option maxRecDepth 100000 in
set_option maxHeartbeats 1000000 in
theorem fnNetTable (a : Option Addr) (cap n : Nat) (w : World) (hc : n ≤ cap) (h63 : cap ≤ 9223372036854775807) (hb : BytR w a n) :
    Calls Try.prog 4 #[.slice a n cap] w fun e w' => e = .returned (.bool true) ∧ w.Since w.heap.size w' := by
  by_cases hlen : 1048576 < n
  · have hl' : decide ((1048576 : Int) < (n : Int)) = true := by simp; omega
    clear hb
    go_enter Try.func4, Try.ntmps4
    go_wp2
    go_ret
    exact ⟨rfl, World.Since.refl _ _⟩
  · have hl' : decide ((1048576 : Int) < (n : Int)) = false := by simp; omega
    have ED := Lib.hid (drawNetTable_any a n cap w hc h63 hb)
    clear hb
    go_enter Try.func4, Try.ntmps4
    go_wp2_with fail
    refine (ED.out).mono ?_
    rintro e w1 ⟨m, a1, ca, cs, rfl, hs1, hm, hl, ⟨g, rfl⟩, hcl, hc63, ho⟩
    clear ED
    obtain ⟨N, hN⟩ : ∃ N, cs.length = N := ⟨_, rfl⟩
    rw [hN] at hl hcl ⊢
    have HS1 := Lib.hid hs1
    have E1 := fun (W : World) (h : w1.Since w1.heap.size W) => implNetTable_any (some ⟨g, 0, none⟩) ca N m cs W hN (by omega) (ho.chips.since h)
    have E2 := fun (W : World) (h : w1.Since w1.heap.size W) => specNetTable_any (some ⟨g, 0, none⟩) ca N m cs W hN (by omega) (ho.chips.since h)
    cases hok : ntabB m cs with
    | false =>
      have hL : ntabL m cs = [] := by unfold ntabL; rw [hok]; rfl
      simp only [hok, hL, List.length_nil] at E1 E2
      replace E1 := Lib.hid E1
      replace E2 := Lib.hid E2
      have ES := Lib.hid (fun (W : World) (x y : Option Addr) (p q : Nat) => sameRows_same x y p q 0 [] W rfl (by omega) (fun r h => by simp at h) (fun h => by simp at h) (fun h => by simp at h))
      clear ho hs1 hok hN hL
      go_wp2_with (first
        | (go_at_call 18; refine (E1.out _ (World.Since.refl _ _)).mono ?_; rintro e w2 ⟨x2, p2, rfl, hs2, _⟩; have HS2 := Lib.hid hs2; clear hs2)
        | (go_at_call 19; refine (E2.out _ HS2.out).mono ?_; rintro e w3 ⟨x3, p3, rfl, hs3, _⟩; have HS3 := Lib.hid (HS1.out.trans (since_mono (HS2.out.trans (since_mono hs3 HS2.out.size)) HS1.out.size)); clear hs3)
        | (go_at_call 20; refine (ES.out _ _ _ _ _).mono ?_; rintro e w4 ⟨rfl, hd4⟩; have HS3 := Lib.hid (HS3.out.trans (since_mono (hd4.since _) HS3.out.size)); clear hd4))
      go_ret
      exact ⟨rfl, HS3.out⟩
    | true =>
      have hnb : netB m cs = true := by
        unfold ntabB at hok
        rw [Bool.and_eq_true] at hok
        exact hok.1
      obtain ⟨m', hm', hoo⟩ := netB_ok hnb
      obtain rfl := Int.ofNat.inj hm'
      have hL : ntabL m cs = outC m cs := by unfold ntabL; rw [hok]; rfl
      have hT : TabIn (outC m cs) := by unfold ntabB at hok; rw [hnb, Bool.true_and] at hok; exact tabIn_of hok
      have h10 := hoo.len
      rw [hN] at h10
      obtain ⟨hsq, hov⟩ := tabV hoo hT
      have hll : (outC m cs).length = m := outT_length _ _
      have hw0 : ((outC m cs).getD 0 []).length = m := outT_row _ (by omega)
      have hsz : szL (outC m cs) ≤ 1048576 := by
        have := sumTo_le_mul (outC m cs) 6 (fun r hr => by have := hT.row hr; omega) (outC m cs).length (Nat.le_refl _)
        unfold szL
        omega
      have hrow : ∀ r, r < (outC m cs).length → ((outC m cs).getD r []).length ≤ 9223372036854775807 := fun r hr => by have := hT.row hr; omega
      simp only [hok, hL, hll] at E1 E2
      have ES := Lib.hid (fun (W : World) (x y : Option Addr) (p q : Nat) (h1 : MatR W x (outC m cs)) (h2 : MatR W y (outC m cs)) => sameRows_same x y p q m (outC m cs) W hll (by omega) hrow h1 h2)
      have EV := fun (W : World) (x : Option Addr) (p : Nat) (h : MatR W x (outC m cs)) => implValueOrders_any x p m (outC m cs) W hll hsz h
      unfold SpecW at EV
      simp only [hsq, hov, if_true] at EV
      have EP : ∀ (i k : Nat), i < m → k < m → ∀ (W : World), w1.Since w1.heap.size W → Calls Try.prog 22 #[.int .i64 m, .slice (some ⟨g, 0, none⟩) N ca, .int .i64 i, .int .i64 k] W fun e w' => e = .returned (.tuple #[.int .i64 (at2 (outC m cs) i k), .bool true]) ∧ W.Since W.heap.size w' := fun i k hi hk W h => by
        have e1 := implNetPaths_any (some ⟨g, 0, none⟩) ca N m i k cs W hN (by omega) (ho.chips.since h)
        have e2 : linesB m cs i k = true := by
          unfold linesB inB
          rw [hnb]
          simp
          omega
        have e3 : pathsV m cs i k = at2 (outC m cs) i k := by
          unfold pathsV
          rw [e2, if_pos rfl]
          refine Eq.trans ?_ (outT_at (cs.map toC) hi hk).symm
          exact path_net (cs.map toC) (fun c h => by obtain ⟨d, hd, rfl⟩ := List.mem_map.1 h; exact (hoo.ok d hd).2) i k hi
        rw [e2, e3] at e1
        exact e1
      have h9 : ∀ c ∈ cs.map toC, -9 ≤ c.2.2 ∧ c.2.2 ≤ 9 := fun c h => by
        obtain ⟨d, hd, rfl⟩ := List.mem_map.1 h
        have := (hoo.ok d hd).1.2.2
        rw [toC_w]
        exact this
      have hrec := hT.rec
      have HO := Lib.hid ho
      have HN := Lib.hid hN
      have HOO := Lib.hid hoo
      have H9 := Lib.hid h9
      have HREC := Lib.hid (And.intro hll (And.intro hrec hw0))
      obtain ⟨T, hTT⟩ : ∃ T, outC m cs = T := ⟨_, rfl⟩
      rw [hTT] at EP HREC ES E1 E2 EV
      replace E1 := Lib.hid E1
      replace E2 := Lib.hid E2
      replace EV := Lib.hid EV
      replace EP := Lib.hid EP
      clear ho hs1 hok hN hnb hm' hoo hL hT hsq hov hll hw0 hsz hrow h9 hrec hTT
      go_wp2_with (first
        | (go_at_call 18; refine (E1.out _ (World.Since.refl _ _)).mono ?_; rintro e w2 ⟨x2, p2, rfl, hs2, ho2⟩; have HS2 := Lib.hid hs2; have HO2 := Lib.hid ho2; clear hs2 ho2)
        | (go_at_call 19; refine (E2.out _ HS2.out).mono ?_; rintro e w3 ⟨x3, p3, rfl, hs3, ho3⟩; have HS3 := Lib.hid (HS2.out.trans (since_mono hs3 HS2.out.size)); have HO2 := Lib.hid (HO2.out.since hs3); have HO3 := Lib.hid ho3; clear hs3 ho3)
        | (go_at_call 20; refine (ES.out _ _ _ _ _ HO2.out.matR HO3.out.matR).mono ?_; rintro e w4 ⟨rfl, hd4⟩; have HS4 := Lib.hid (HS3.out.trans (since_mono (hd4.since w3.heap.size) HS3.out.size)); have HO2 := Lib.hid (HO2.out.since (hd4.since w3.heap.size)); clear hd4)
        | (go_at_call 21; refine (EV.out _ _ _ HO2.out.matR).mono ?_; rintro e w5 ⟨rfl, hs5⟩; have HS5 := Lib.hid (HS4.out.trans (since_mono hs5 HS4.out.size)); have HO2 := Lib.hid (HO2.out.since hs5); clear hs5))
      go_loopg [11, 12] N (fun gg v q wr => ∃ r : Nat, r ≤ N ∧ gg = N - r ∧ q = .int .i64 r ∧ v = .int .i64 (allH ((cs.take r).map toC)) ∧ w5 = wr)
      case atStart => exact ⟨0, Nat.zero_le _, rfl, rfl, rfl, rfl⟩
      case round =>
        obtain ⟨r, hr, rfl, rfl, rfl, rfl⟩ := hrel
        by_cases hlt : r < N
        · have hrl : r < cs.length := by rw [HN.out]; exact hlt
          obtain ⟨b, o, e, k1, _, k3⟩ := (HO.out.chips.since HS5.out).at hrl
          simp only [Option.some.injEq, Addr.mk.injEq, and_true] at e
          obtain ⟨rfl, rfl⟩ := e
          rw [Nat.zero_add] at k1 k3
          have hmem : cs.getD r rc0 ∈ cs := by
            have : cs.getD r rc0 = cs[r] := by simp [List.getD, hrl]
            rw [this]; exact List.getElem_mem _
          have hrc := (HOO.out.ok _ hmem).1
          have hts := take_step hrl
          have hbd := allH_bd ((cs.take r).map toC) (fun c h => H9.out c (by rw [List.map_take] at h; exact List.mem_of_mem_take h))
          have hpl : ((cs.take r).map toC).length = r := by rw [List.length_map, List.length_take, HN.out]; omega
          rw [hpl] at hbd
          have hp9 := pow9_le (show r ≤ 11 by omega)
          have hsn := allH_snoc ((cs.take r).map toC) (toC (cs.getD r rc0))
          rw [← hts] at hsn
          obtain ⟨c, hcc⟩ : ∃ c, cs.getD r rc0 = c := ⟨_, rfl⟩
          rw [hcc] at k1 k3 hrc hsn
          obtain ⟨K, L, V⟩ := c
          obtain ⟨P, hP⟩ : ∃ P, allH ((cs.take r).map toC) = P := ⟨_, rfl⟩
          rw [hP] at hbd hsn ⊢
          simp only at k1 k3
          obtain ⟨hk3, ⟨hl0, _⟩, hw9⟩ := hrc
          simp only at hk3 hl0 hw9
          obtain ⟨L, rfl⟩ := Int.eq_ofNat_of_zero_le hl0
          have hml := nine_mul hw9 hbd
          have hwr : IntKind.i64.wrap (P * V) = P * V := IntWalk.i64_in _ ⟨by omega, by omega⟩
          by_cases hK : K.toList = [104]
          · have hKb : (K.toList == [104]) = true := by simpa using hK
            rw [toC_h hK, if_pos rfl] at hsn
            have HSNN := Lib.hid hsn
            clear hK hk3 hsn hcc hP hts hmem hbd hml
            go_wp2_with fail
            go_roundg (N - (r + 1))
            case measure => omega
            case rel => exact ⟨r + 1, by omega, rfl, by go_num, by rw [HSNN.out], rfl⟩
          · have hKb : (K.toList == [104]) = false := by simpa using hK
            obtain ⟨kk, hkk1, hkk2, _⟩ := toC_n (L := L) (V := V) hK hk3
            rw [hkk2, if_neg (by simp; omega)] at hsn
            have HSNN := Lib.hid hsn
            clear hK hk3 hsn hcc hP hts hmem hbd hml hkk1 hkk2
            go_wp2_with fail
            go_roundg (N - (r + 1))
            case measure => omega
            case rel => exact ⟨r + 1, by omega, rfl, by go_num, by rw [HSNN.out], rfl⟩
        · obtain rfl : r = N := by omega
          rw [List.take_of_length_le (by rw [HN.out]; exact Nat.le_refl _)]
          obtain ⟨P, hP⟩ : ∃ P, allH (cs.map toC) = P := ⟨_, rfl⟩
          rw [hP]
          clear hP
          obtain ⟨hTl, hTr, hTw⟩ := HREC.out
          obtain ⟨b, o, A, C, rfl, hA, hG⟩ := (HO2.out.matR).gridR hTl hTr hTw
          have HA := Lib.hid hA
          have HG := Lib.hid hG
          clear hTl hTr hTw hA hG hlt
          go_wp2_with fail
          go_loopg [13, 14, 15, 16] m (fun gg i _ _ _ wr => ∃ q : Nat, q ≤ m ∧ gg = m - q ∧ i = .int .i64 q ∧ w5.Since w5.heap.size wr)
          case atStart => exact ⟨0, Nat.zero_le _, rfl, rfl, World.Since.refl _ _⟩
          case round =>
            obtain ⟨i, hi, rfl, rfl, hS⟩ := hrel
            have HSO := Lib.hid hS
            clear hS
            by_cases hlt : i < m
            · obtain ⟨wo, hwo⟩ : ∃ wo : World, wo = wr := ⟨_, rfl⟩
              go_wp2_with fail
              subst hwo
              go_loopg [14, 15, 16] m (fun gg k _ _ wi => ∃ q : Nat, q ≤ m ∧ gg = m - q ∧ k = .int .i64 q ∧ w5.Since w5.heap.size wi)
              case atStart => exact ⟨0, Nat.zero_le _, rfl, rfl, HSO.out⟩
              case round =>
                obtain ⟨k, hk, rfl, rfl, hSi⟩ := hrel
                by_cases hlq : k < m
                · obtain ⟨b', o', d1, d2⟩ := HG.out i k hlt hlq
                  have e1 := (hSi.cell (World.block_lt_of_cell? _ _ d1)).trans d1
                  have e2 := (hSi.cell (World.block_lt_of_cell? _ _ d2)).trans d2
                  have EPP := Lib.hid (EP.out i k hlt hlq _ (HS5.out.trans (since_mono hSi HS5.out.size)))
                  have HSI := Lib.hid hSi
                  clear d1 d2 hSi
                  go_wp2_with (go_at_call 22; refine (EPP.out).mono ?_; rintro e w7 ⟨rfl, hs7⟩; have f1 := (hs7.cell (World.block_lt_of_cell? _ _ e1)).trans e1; have f2 := (hs7.cell (World.block_lt_of_cell? _ _ e2)).trans e2; have HS7 := Lib.hid (HSI.out.trans (since_mono hs7 HSI.out.size)); clear hs7 e1 e2)
                  go_roundg (m - (k + 1))
                  case measure => omega
                  case rel => exact ⟨k + 1, by omega, rfl, by go_num, HS7.out⟩
                · obtain rfl : k = m := by omega
                  have HSI := Lib.hid hSi
                  clear hSi
                  go_wp2_with fail
                  go_roundg (k - (i + 1))
                  case measure => omega
                  case rel => exact ⟨i + 1, by omega, rfl, by go_num, HSI.out⟩
            · obtain rfl : i = m := by omega
              go_wp2_with fail
              go_ret
              exact ⟨rfl, HS1.out.trans (since_mono (HS5.out.trans (since_mono HSO.out HS5.out.size)) HS1.out.size)⟩

end Go.Proofs.Ytggmiojhglkcgaa
end

section
namespace Go.Proofs.Ytggmiojhglkcgaa
open Go.ChangeShapes Go.WideShapes Go.ChangeAt Go.RowKit Go.Deep

theorem below_since' {B : Nat} {w w' : World} (h : Below B w w') : w.Since B w' := ⟨h.os, h.tape, h.output, h.size, h.block⟩
theorem since_below' {B : Nat} {w w' : World} (h : w.Since B w') : Below B w w' := ⟨h.os, h.tape, h.output, h.size, h.block⟩

section
variable {H : Type} {enc : TypeId × Value → H} {P : Program}
theorem post_of_below {f : Func} {s : ChangeSpec} {apart fresh handsOn again : Bool} {W W' : World} {args : Array Value} {v : Value} {ds gs : List (DataW H)} {before pa pv : List MemPlace}
    (hW : DataW.Whole enc P f.params.toList s.vars apart W args.toList ds gs before)
    (hres : ∀ (b : Nat) (sp : Nat → Bool) (hd : Bool), DataW.TrodAll enc P W' b sp hd f.resultTypes.toList (v.resultList f.resultTypes.size) (s.fn H (ds ++ gs)).results [])
    (hargs : ∀ sp : Nat → Bool, (∀ p ∈ before, sp p.block = true) → DataW.TrodAll enc P W' 0 sp true f.params.toList args.toList (s.fn H (ds ++ gs)).args pa)
    (hvars : ∀ sp : Nat → Bool, (∀ p ∈ before, sp p.block = true) → DataW.TrodVars enc P W' sp s.vars (s.fn H (ds ++ gs)).vars pv)
    (hps : before = pa ++ pv) (hb : Below W.heap.size W W') (hag : again = false) :
    s.post enc P f apart fresh handsOn again W args v W' := by
  have hlt : ∀ p ∈ before, p.block < W.heap.size := fun p hp => hW.lt p hp
  have hold : ∀ p ∈ before, (fun b => decide (b < W.heap.size)) p.block = true := fun p hp => by simpa using hlt p hp
  refine ⟨ds, gs, before, [], pa, pv, hW, hres _ _ _, hargs _ hold, hvars _ hold, World.keptBut_mono (fun p hp => ⟨hp, ?_⟩) (hb.frame (· ∈ before)), fun h => ?_⟩
  · rw [hps, List.mem_append] at hp
    exact Or.inr hp
  · rw [hag] at h; cases h

theorem open_mat {W : World} {t e q : TypeId} {a : Option Addr} {n cap : Nat} {d : DataW H} {p : List MemPlace} (ht : P.underlying t = some (.slice e)) (he : P.underlying e = some (.slice q)) (hq : P.underlying q = some (.int .i64))
    (ce : P.cellsOf e = 1) (cq : P.cellsOf q = 1) (h : DataW.Trod enc P W 0 (fun _ => true) true t (.slice a n cap) d p) :
    ∃ l : List (List Int), l.length = n ∧ MatR W a l ∧ n ≤ 9223372036854775807 ∧ ∀ r, r < l.length → (l.getD r []).length ≤ 9223372036854775807 := by
  obtain ⟨fuel, hf⟩ := h
  rcases open_int_rows ht he hq ce cq hf with ⟨hcs, _⟩ | ⟨a', len', cap', A, L, C, Z, hcs, _, hl, hm, _, hrows⟩
  · simp [Value.cells] at hcs
    obtain ⟨rfl, rfl, rfl⟩ := hcs
    exact ⟨[], rfl, (fun h => by simp at h), by omega, fun r hr => by simp at hr⟩
  · simp [Value.cells] at hcs
    obtain ⟨rfl, rfl, rfl⟩ := hcs
    have hmx : maxLen = 9223372036854775807 := rfl
    have hlen : ∀ r, r < n → ((Z r).take (L r)).length = L r := fun r hr => by
      obtain ⟨_, h1, _, h2, _⟩ := hrows r (by omega)
      rw [List.length_take]; omega
    have hget : ∀ r, r < n → ((List.range n).map fun r => (Z r).take (L r)).getD r [] = (Z r).take (L r) := fun r hr => by simp [List.getD, hr]
    refine ⟨(List.range n).map fun r => (Z r).take (L r), by simp, fun h => ?_, by omega, fun r hr => ?_⟩
    · obtain ⟨b, o, spot⟩ := a'
      simp at h
      have hspot : spot = none := by simpa [Addr.add] using World.cell?_spot (hrows 0 (by omega)).1
      subst hspot
      refine ⟨b, o, A, C, rfl, fun r hr => ?_⟩
      simp at hr
      rw [hget r hr, hlen r hr]
      obtain ⟨g1, g2, g3, g4, g5, g6, g7⟩ := hrows r (by omega)
      refine ⟨by rw [← add_plain]; exact g1, fun h0 => ?_⟩
      rw [hlen r hr] at h0
      cases hA : A r with
      | none => have := g6 hA; omega
      | some a'' =>
        obtain ⟨_, hcell⟩ := g7 a'' hA
        obtain ⟨b', o', sp⟩ := a''
        have hs : sp = none := by simpa [Addr.add] using World.cell?_spot (hcell 0 (by omega))
        subst hs
        refine ⟨b', o', rfl, fun i hi => ?_⟩
        rw [hlen r hr] at hi
        rw [← add_plain, hcell i (by omega)]
        congr 2
        simp [List.getD, hi]
    · simp at hr
      rw [hget r hr, hlen r hr]
      obtain ⟨_, h1, h2, _⟩ := hrows r (by omega)
      omega
end

theorem Try.own : ownKnob Try.prog.godebug = none := by kernel_rfl
theorem Try.laidOut : laidOutB Try.prog = true := by kernel_rfl
theorem Try.cellsR : Try.prog.cellsOf 37 = 1 := by kernel_rfl
theorem Try.cellsI : Try.prog.cellsOf 3 = 1 := by kernel_rfl

end Go.Proofs.Ytggmiojhglkcgaa
end

section
namespace Go.Proofs.Ytggmiojhglkcgaa
open Go.ChangeShapes Go.WideShapes Go.ChangeAt Go.RowKit Go.Deep

theorem wf_u8_of {n : Int} (h : (Lit.int .u8 n).wf = true) : 0 ≤ n ∧ n ≤ 255 := by
  have h2 : (0 : Int) ≤ n ∧ n ≤ 255 := by simpa [Lit.wf, IntKind.min, IntKind.max, IntKind.signed, IntKind.bits] using h
  exact h2

theorem open_bytes {H : Type} {enc : TypeId × Value → H} {P : Program} {W : World} {t e : TypeId} {a : Option Addr} {n cap : Nat} {d : DataW H} {p : List MemPlace} (ht : P.underlying t = some (.slice e)) (he : P.underlying e = some (.int .u8)) (ce : P.cellsOf e = 1)
    (h : DataW.Trod enc P W 0 (fun _ => true) true t (.slice a n cap) d p) : BytR W a n ∧ n ≤ cap ∧ cap ≤ 9223372036854775807 := by
  obtain ⟨fuel, hf⟩ := h
  rcases open_ints ht he ce hf with ⟨hcs, _⟩ | ⟨a', len, cap', zs, hcs, _, hl, hm, hlen, _, hcell, hwf⟩
  · simp [Value.cells] at hcs
    obtain ⟨rfl, rfl, rfl⟩ := hcs
    exact ⟨fun h => absurd h (by omega), by omega, by omega⟩
  · simp [Value.cells] at hcs
    obtain ⟨rfl, rfl, rfl⟩ := hcs
    have hmx : maxLen = 9223372036854775807 := rfl
    have hzl : zs.length = cap := by simpa using hlen
    refine ⟨fun h0 => ?_, by omega, by omega⟩
    obtain ⟨b, o, spot⟩ := a'
    have hspot : spot = none := by simpa [Addr.add] using World.cell?_spot (hcell 0 (by omega))
    subst hspot
    refine ⟨b, o, rfl, fun i hi => ?_⟩
    have hi' : i < zs.length := by omega
    have hw := wf_u8_of (hwf (zs.getD i 0) (by simp [List.getD, hi']))
    obtain ⟨z, hz⟩ := Int.eq_ofNat_of_zero_le hw.1
    refine ⟨z, by omega, ?_⟩
    rw [← add_plain, hcell i hi', hz]

theorem Try.cellsB : Try.prog.cellsOf 5 = 1 := by kernel_rfl

end Go.Proofs.Ytggmiojhglkcgaa
end

section
namespace Go.Proofs.Ytggmiojhglkcgaa
open Go.ChangeShapes Go.WideShapes Go.ChangeAt Go.RowKit Go.Deep

set_option maxRecDepth 100000 in
theorem lifted_FnNetTable (os : Os) (started : os.Started) (H : Type) (enc : TypeId × Value → H) :
    ReturnsInHanded {} Try.checked os 4 .any (Rows.fnNetTableSpec.pre6 enc Try.prog Try.f4 Rows.fnNetTableRow.domain false) (Rows.fnNetTableSpec.post enc Try.prog Try.f4 false true false false) := by
  refine returnsInHanded_of_change (C := Try.checked) Try.own started (by kernel_rfl) Try.func4
    (ChangeSpec.witness6 (enc := enc) (C := Try.checked) false ⟨#[], #[.slice none 0 0], []⟩ 8 (by kernel_rfl) (by kernel_rfl) (by kernel_rfl) (by kernel_rfl)) ?_
  intro W base args ds gs before hval0 hW _ _
  have hval : ∀ (j : Nat) t v, Try.f4.params[j]? = some t → args[j]? = some v → Value.okWide Try.prog W .any base t v := hval0
  have hW' := hW
  obtain ⟨p, q, hA0, hV, rfl, hfz, hnd⟩ := hW
  have hA : DataW.TrodAll enc Try.prog W 0 (fun _ => true) true Try.f4.params.toList args.toList ds p := hA0
  rw [Try.params4] at hA hval
  obtain ⟨v0, d0, rfl, rfl, h0⟩ := trodAll_one hA
  obtain ⟨p0, hp0⟩ : ∃ p0, p0 = p := ⟨_, rfl⟩
  subst hp0
  obtain ⟨rfl, rfl⟩ := trodVars_none hV
  obtain ⟨a0, n0, cap0, rfl⟩ := okWide_slice Try.underlying22 (hval 0 22 v0 rfl rfl)
  obtain ⟨hb0, hc0, h630⟩ := open_bytes Try.underlying22 Try.underlying5 Try.cellsB h0
  clear hA0 hval0
  simp only [List.append_nil] at hW'
  have hlt0 : ∀ x ∈ p0, x.block < W.heap.size := fun x hx => hW'.lt x (by simp [hx])
  refine (fnNetTable a0 cap0 n0 W hc0 h630 hb0).mono fun e W' ⟨he, hs⟩ => ?_
  subst he
  have hb := since_below' hs
  have ht0 : ∀ sp : Nat → Bool, (∀ x ∈ p0, sp x.block = true) → DataW.Trod enc Try.prog W' 0 sp true 22 (.slice a0 n0 cap0) d0 p0 := fun sp hsp =>
    WideElems.Trod_stays Try.laidOut (by kernel_rfl) (of_decide_eq_true (by kernel_rfl)) h0 (fun x hx => hb.same (hlt0 x hx)) hsp
  have hargs : ∀ sp : Nat → Bool, (∀ x ∈ (p0), sp x.block = true) → DataW.TrodAll enc Try.prog W' 0 sp true [22] [.slice a0 n0 cap0] [d0] (p0) := fun sp hsp => by
    have := trodAll_mk1 (enc := enc) (P := Try.prog) (w := W') (base := 0) (spare := sp) (held := true) (ht0 sp (fun x hx => hsp x (by simp [hx])))
    simpa using this
  exact ⟨_, rfl, post_of_below (pa := p0) (pv := []) hW' (fun _ _ _ => trodAll_mk1 (shut_bool Try.underlying4 true)) (fun sp hsp => hargs sp (fun x hx => hsp x (by simpa using hx))) (fun _ _ => rfl) (by simp) hb rfl⟩

theorem FnNetTable_holds : Rows.FnNetTableSaid :=
  OpenClaim.holds_of_wide 4 Try.f4 rfl rfl rfl rfl rfl rfl rfl ⟨rfl, rfl, rfl, rfl, rfl⟩ rfl rfl rfl rfl rfl (by kernel_rfl) Try.func4 (by kernel_rfl)
    (of_decide_eq_true (by kernel_rfl)) (by unfold Func.isWrapper; first | (rw [if_pos (by decide +kernel)]; kernel_rfl) | (rw [if_neg (by decide +kernel)]; exact ⟨rfl, rfl⟩))
    (fun os started H enc _ => lifted_FnNetTable os started H enc)

end Go.Proofs.Ytggmiojhglkcgaa
end
