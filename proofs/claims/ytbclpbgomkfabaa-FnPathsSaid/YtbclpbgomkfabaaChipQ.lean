/- The contract of spec.l6cFamilies. -/
import Derived.Test.YtbclpbgomkfabaaChipP
import Derived.Test.YtbclpbgomkfabaaImpl1
namespace Go.Proofs.Ytbclpbgomkfabaa
open Go.RowKit Go.Deep

theorem bitI_fin : ∀ s : Fin 32, ∀ i : Fin 6, bits BinOp.and IntKind.i64 ((s.val : Int) / 2 ^ i.val) 1 = if s.val.testBit i.val then 1 else 0 := by decide +kernel
theorem bitI (s i : Nat) (hs : s ≤ 31) (hi : i ≤ 5) : bits BinOp.and IntKind.i64 ((s : Int) / 2 ^ i) 1 = if s.testBit i then 1 else 0 := bitI_fin ⟨s, by omega⟩ ⟨i, by omega⟩
theorem xor2_fin : ∀ s : Fin 32, ∀ i k : Fin 5, bits BinOp.xor IntKind.i64 (bits BinOp.xor IntKind.i64 (s.val : Int) (2 ^ i.val)) (2 ^ k.val) = ((s.val ^^^ 2 ^ i.val ^^^ 2 ^ k.val : Nat) : Int) ∧ s.val ^^^ 2 ^ i.val ^^^ 2 ^ k.val ≤ 31 := by decide +kernel
theorem xor2 (s i k : Nat) (hs : s ≤ 31) (hi : i ≤ 4) (hk : k ≤ 4) : bits BinOp.xor IntKind.i64 (bits BinOp.xor IntKind.i64 (s : Int) (2 ^ i)) (2 ^ k) = ((s ^^^ 2 ^ i ^^^ 2 ^ k : Nat) : Int) ∧ s ^^^ 2 ^ i ^^^ 2 ^ k ≤ 31 := xor2_fin ⟨s, by omega⟩ ⟨i, by omega⟩ ⟨k, by omega⟩
theorem p2w_fin : ∀ i : Fin 6, IntKind.i64.wrap (2 ^ i.val) = 2 ^ i.val ∧ wrap64 (2 ^ i.val) = 2 ^ i.val := by decide +kernel

set_option maxRecDepth 100000 in
set_option maxHeartbeats 400000 in
theorem fams_h (K : ByteArray) (V : Int) (M cap t b o s L  : Nat) (w : World) (P : Int) (hH : K.toList = [104]) (hL : L ≤ 4) (hw1 : IntKind.i64.wrap (V * P) = V * P) (hbit : bits BinOp.and IntKind.i64 ((s : Int) / 2 ^ L) 1 = 1) (IHP : ∀ (W : World) (q c' : Nat), w.Since w.heap.size W → (q = o + 3 ∨ cap = 1) → M ≤ c' → c' ≤ cap → Calls Try.prog 62 #[.slice (some ⟨b, q, none⟩) M c', .int .i64 s, .int .i64 t] W fun e w' => e = .returned (.int .i64 P) ∧ W.Since W.heap.size w') (hM : M + 1 ≤ 10) (hcap : M + 1 ≤ cap) (hc63 : cap ≤ 9223372036854775807)
    (k1 : w.cell? ⟨b, o, none⟩ = some (.string K)) (k2 : w.cell? ⟨b, o + 1, none⟩ = some (.int .i64 L)) (k3 : w.cell? ⟨b, o + 2, none⟩ = some (.int .i64 V)) :
    Calls Try.prog 62 #[.slice (some ⟨b, o, none⟩) (M + 1) cap, .int .i64 s, .int .i64 t] w fun e w' => e = .returned (.int .i64 (V * P)) ∧ w.Since w.heap.size w' := by
  obtain ⟨d1, d2, d3⟩ := chip_box w K L V 36
  have HS := Lib.hid ((World.Since.refl w.heap.size w).alloc (Nat.le_refl _) (.cells #[.string K, .int .i64 L, .int .i64 V] 36))
  replace IHP := Lib.hid IHP
  rcases Nat.lt_or_eq_of_le (show 1 ≤ cap by omega) with hc1 | rfl
  · have hb1 : (0 : Int) ≤ (M : Int) := by omega
    have hb2 : (1 : Int) ≤ (M : Int) + 1 := by omega
    have hb3 : (M : Int) + 1 ≤ (cap : Int) := by omega
    have hc2 : ¬ cap = 1 := by omega
    have hc3 : ¬ 1 = cap := by omega
    go_enter Try.func62, Try.ntmps62
    go_wp2_with fail
    go_region_held3 (fun w' => w'.cell? ⟨w.heap.size, 2, none⟩ = some (.int .i64 V)) (first | exact d3 | exact c4)
      (first | (go_at_call 62; refine (IHP.out _ _ _ HS.out.drew (by first | exact .inr trivial | exact .inr rfl | exact .inl rfl) (by omega) (by omega)).mono ?_; rintro e w1 ⟨rfl, hs1⟩; have c4 := (hs1.cell (a := ⟨w.heap.size, 2, none⟩) (by simp)).trans d3; have HS1 := Lib.hid hs1; clear hs1))
    all_goals
      go_wp2_with fail
      go_ret
      exact ⟨rfl, HS.out.trans (since_mono (since_of_drew HS1.out) HS.out.size)⟩
  · obtain rfl : M = 0 := by omega
    clear hM hcap hc63
    go_enter Try.func62, Try.ntmps62
    go_wp2_with fail
    go_region_held3 (fun w' => w'.cell? ⟨w.heap.size, 2, none⟩ = some (.int .i64 V)) (first | exact d3 | exact c4)
      (first | (go_at_call 62; refine (IHP.out _ _ _ HS.out.drew (by first | exact .inr trivial | exact .inr rfl | exact .inl rfl) (by omega) (by omega)).mono ?_; rintro e w1 ⟨rfl, hs1⟩; have c4 := (hs1.cell (a := ⟨w.heap.size, 2, none⟩) (by simp)).trans d3; have HS1 := Lib.hid hs1; clear hs1))
    all_goals
      go_wp2_with fail
      go_ret
      exact ⟨rfl, HS.out.trans (since_mono (since_of_drew HS1.out) HS.out.size)⟩

set_option maxRecDepth 100000 in
set_option maxHeartbeats 400000 in
theorem fams_g (K : ByteArray) (V : Int) (M cap t b o s L  : Nat) (w : World) (P : Int) (hH : K.toList = [104]) (hL : L ≤ 4) (hbit : bits BinOp.and IntKind.i64 ((s : Int) / 2 ^ L) 1 = 0) (IHP : ∀ (W : World) (q c' : Nat), w.Since w.heap.size W → (q = o + 3 ∨ cap = 1) → M ≤ c' → c' ≤ cap → Calls Try.prog 62 #[.slice (some ⟨b, q, none⟩) M c', .int .i64 s, .int .i64 t] W fun e w' => e = .returned (.int .i64 P) ∧ W.Since W.heap.size w') (hM : M + 1 ≤ 10) (hcap : M + 1 ≤ cap) (hc63 : cap ≤ 9223372036854775807)
    (k1 : w.cell? ⟨b, o, none⟩ = some (.string K)) (k2 : w.cell? ⟨b, o + 1, none⟩ = some (.int .i64 L)) (k3 : w.cell? ⟨b, o + 2, none⟩ = some (.int .i64 V)) :
    Calls Try.prog 62 #[.slice (some ⟨b, o, none⟩) (M + 1) cap, .int .i64 s, .int .i64 t] w fun e w' => e = .returned (.int .i64 (P)) ∧ w.Since w.heap.size w' := by
  obtain ⟨d1, d2, d3⟩ := chip_box w K L V 36
  have HS := Lib.hid ((World.Since.refl w.heap.size w).alloc (Nat.le_refl _) (.cells #[.string K, .int .i64 L, .int .i64 V] 36))
  replace IHP := Lib.hid IHP
  rcases Nat.lt_or_eq_of_le (show 1 ≤ cap by omega) with hc1 | rfl
  · have hb1 : (0 : Int) ≤ (M : Int) := by omega
    have hb2 : (1 : Int) ≤ (M : Int) + 1 := by omega
    have hb3 : (M : Int) + 1 ≤ (cap : Int) := by omega
    have hc2 : ¬ cap = 1 := by omega
    have hc3 : ¬ 1 = cap := by omega
    go_enter Try.func62, Try.ntmps62
    go_wp2_with (go_at_call 62; refine (IHP.out _ _ _ HS.out (by first | exact .inr trivial | exact .inr rfl | exact .inl rfl) (by omega) (by omega)).mono ?_; rintro e w1 ⟨rfl, hs1⟩)
    all_goals
      go_ret
      exact ⟨rfl, HS.out.trans (since_mono hs1 HS.out.size)⟩
  · obtain rfl : M = 0 := by omega
    clear hM hcap hc63
    go_enter Try.func62, Try.ntmps62
    go_wp2_with (go_at_call 62; refine (IHP.out _ _ _ HS.out (by first | exact .inr trivial | exact .inr rfl | exact .inl rfl) (by omega) (by omega)).mono ?_; rintro e w1 ⟨rfl, hs1⟩)
    all_goals
      go_ret
      exact ⟨rfl, HS.out.trans (since_mono hs1 HS.out.size)⟩

set_option maxRecDepth 100000 in
set_option maxHeartbeats 400000 in
theorem fams_n (K : ByteArray) (V : Int) (M cap t b o s L F T : Nat) (w : World) (P : Int) (hH : (K.toList == [104]) = false) (hF : F ≤ 4) (hbit : bits BinOp.and IntKind.i64 ((s : Int) / 2 ^ F) 1 = 0) (EF : ∀ W : World, Calls Try.prog 103 #[.agg #[.string K, .int .i64 L, .int .i64 V]] W fun e w' => e = .returned (.tuple #[.int .i64 F, .int .i64 T]) ∧ W.Since W.heap.size w') (IHP : ∀ (W : World) (q c' : Nat), w.Since w.heap.size W → (q = o + 3 ∨ cap = 1) → M ≤ c' → c' ≤ cap → Calls Try.prog 62 #[.slice (some ⟨b, q, none⟩) M c', .int .i64 s, .int .i64 t] W fun e w' => e = .returned (.int .i64 P) ∧ W.Since W.heap.size w') (hM : M + 1 ≤ 10) (hcap : M + 1 ≤ cap) (hc63 : cap ≤ 9223372036854775807)
    (k1 : w.cell? ⟨b, o, none⟩ = some (.string K)) (k2 : w.cell? ⟨b, o + 1, none⟩ = some (.int .i64 L)) (k3 : w.cell? ⟨b, o + 2, none⟩ = some (.int .i64 V)) :
    Calls Try.prog 62 #[.slice (some ⟨b, o, none⟩) (M + 1) cap, .int .i64 s, .int .i64 t] w fun e w' => e = .returned (.int .i64 (P)) ∧ w.Since w.heap.size w' := by
  obtain ⟨d1, d2, d3⟩ := chip_box w K L V 36
  have HS := Lib.hid ((World.Since.refl w.heap.size w).alloc (Nat.le_refl _) (.cells #[.string K, .int .i64 L, .int .i64 V] 36))
  replace IHP := Lib.hid IHP
  replace EF := Lib.hid EF
  rcases Nat.lt_or_eq_of_le (show 1 ≤ cap by omega) with hc1 | rfl
  · have hb1 : (0 : Int) ≤ (M : Int) := by omega
    have hb2 : (1 : Int) ≤ (M : Int) + 1 := by omega
    have hb3 : (M : Int) + 1 ≤ (cap : Int) := by omega
    have hc2 : ¬ cap = 1 := by omega
    have hc3 : ¬ 1 = cap := by omega
    go_enter Try.func62, Try.ntmps62
    go_wp2_with (first
      | (go_at_call 103; refine (EF.out _).mono ?_; rintro e w1 ⟨rfl, hs1⟩; have HS1 := Lib.hid (HS.out.trans (since_mono hs1 HS.out.size)); clear hs1)
      | (go_at_call 62; refine (IHP.out _ _ _ HS1.out (by first | exact .inr trivial | exact .inr rfl | exact .inl rfl) (by omega) (by omega)).mono ?_; rintro e w2 ⟨rfl, hs2⟩; have HS2 := Lib.hid (HS1.out.trans (since_mono hs2 HS1.out.size)); clear hs2))
    all_goals
      go_ret
      exact ⟨rfl, HS2.out⟩
  · obtain rfl : M = 0 := by omega
    clear hM hcap hc63
    go_enter Try.func62, Try.ntmps62
    go_wp2_with (first
      | (go_at_call 103; refine (EF.out _).mono ?_; rintro e w1 ⟨rfl, hs1⟩; have HS1 := Lib.hid (HS.out.trans (since_mono hs1 HS.out.size)); clear hs1)
      | (go_at_call 62; refine (IHP.out _ _ _ HS1.out (by first | exact .inr trivial | exact .inr rfl | exact .inl rfl) (by omega) (by omega)).mono ?_; rintro e w2 ⟨rfl, hs2⟩; have HS2 := Lib.hid (HS1.out.trans (since_mono hs2 HS1.out.size)); clear hs2))
    all_goals
      go_ret
      exact ⟨rfl, HS2.out⟩

set_option maxRecDepth 100000 in
set_option maxHeartbeats 400000 in
theorem fams_m (K : ByteArray) (V : Int) (M cap t b o s L F T : Nat) (w : World) (P : Int) (hH : (K.toList == [104]) = false) (hF : F ≤ 4) (hT : T ≤ 4) (hbit : bits BinOp.and IntKind.i64 ((s : Int) / 2 ^ F) 1 = 1) (hbit2 : bits BinOp.and IntKind.i64 ((s : Int) / 2 ^ T) 1 = 1) (EF : ∀ W : World, Calls Try.prog 103 #[.agg #[.string K, .int .i64 L, .int .i64 V]] W fun e w' => e = .returned (.tuple #[.int .i64 F, .int .i64 T]) ∧ W.Since W.heap.size w') (IHP : ∀ (W : World) (q c' : Nat), w.Since w.heap.size W → (q = o + 3 ∨ cap = 1) → M ≤ c' → c' ≤ cap → Calls Try.prog 62 #[.slice (some ⟨b, q, none⟩) M c', .int .i64 s, .int .i64 t] W fun e w' => e = .returned (.int .i64 P) ∧ W.Since W.heap.size w') (hM : M + 1 ≤ 10) (hcap : M + 1 ≤ cap) (hc63 : cap ≤ 9223372036854775807)
    (k1 : w.cell? ⟨b, o, none⟩ = some (.string K)) (k2 : w.cell? ⟨b, o + 1, none⟩ = some (.int .i64 L)) (k3 : w.cell? ⟨b, o + 2, none⟩ = some (.int .i64 V)) :
    Calls Try.prog 62 #[.slice (some ⟨b, o, none⟩) (M + 1) cap, .int .i64 s, .int .i64 t] w fun e w' => e = .returned (.int .i64 (P)) ∧ w.Since w.heap.size w' := by
  obtain ⟨d1, d2, d3⟩ := chip_box w K L V 36
  have HS := Lib.hid ((World.Since.refl w.heap.size w).alloc (Nat.le_refl _) (.cells #[.string K, .int .i64 L, .int .i64 V] 36))
  replace IHP := Lib.hid IHP
  replace EF := Lib.hid EF
  rcases Nat.lt_or_eq_of_le (show 1 ≤ cap by omega) with hc1 | rfl
  · have hb1 : (0 : Int) ≤ (M : Int) := by omega
    have hb2 : (1 : Int) ≤ (M : Int) + 1 := by omega
    have hb3 : (M : Int) + 1 ≤ (cap : Int) := by omega
    have hc2 : ¬ cap = 1 := by omega
    have hc3 : ¬ 1 = cap := by omega
    go_enter Try.func62, Try.ntmps62
    go_wp2_with (first
      | (go_at_call 103; refine (EF.out _).mono ?_; rintro e w1 ⟨rfl, hs1⟩; have HS1 := Lib.hid (HS.out.trans (since_mono hs1 HS.out.size)); clear hs1)
      | (go_at_call 62; refine (IHP.out _ _ _ HS1.out (by first | exact .inr trivial | exact .inr rfl | exact .inl rfl) (by omega) (by omega)).mono ?_; rintro e w2 ⟨rfl, hs2⟩; have HS2 := Lib.hid (HS1.out.trans (since_mono hs2 HS1.out.size)); clear hs2))
    all_goals
      go_ret
      exact ⟨rfl, HS2.out⟩
  · obtain rfl : M = 0 := by omega
    clear hM hcap hc63
    go_enter Try.func62, Try.ntmps62
    go_wp2_with (first
      | (go_at_call 103; refine (EF.out _).mono ?_; rintro e w1 ⟨rfl, hs1⟩; have HS1 := Lib.hid (HS.out.trans (since_mono hs1 HS.out.size)); clear hs1)
      | (go_at_call 62; refine (IHP.out _ _ _ HS1.out (by first | exact .inr trivial | exact .inr rfl | exact .inl rfl) (by omega) (by omega)).mono ?_; rintro e w2 ⟨rfl, hs2⟩; have HS2 := Lib.hid (HS1.out.trans (since_mono hs2 HS1.out.size)); clear hs2))
    all_goals
      go_ret
      exact ⟨rfl, HS2.out⟩

set_option maxRecDepth 100000 in
set_option maxHeartbeats 400000 in
theorem fams_o (K : ByteArray) (V : Int) (M cap t b o s L F T u : Nat) (w : World) (P R : Int) (hH : (K.toList == [104]) = false) (hF : F ≤ 4) (hT : T ≤ 4) (hbit : bits BinOp.and IntKind.i64 ((s : Int) / 2 ^ F) 1 = 1) (hbit2 : bits BinOp.and IntKind.i64 ((s : Int) / 2 ^ T) 1 = 0) (hw2 : IntKind.i64.wrap (V * R) = V * R) (hw3 : IntKind.i64.wrap (P + V * R) = P + V * R)
    (hx : bits BinOp.xor IntKind.i64 (bits BinOp.xor IntKind.i64 (s : Int) (2 ^ F)) (2 ^ T) = (u : Int)) (hpF : IntKind.i64.wrap (2 ^ F) = 2 ^ F) (hpT : IntKind.i64.wrap (2 ^ T) = 2 ^ T) (hmF : min F 64 = F) (hmT : min T 64 = T) (EF : ∀ W : World, Calls Try.prog 103 #[.agg #[.string K, .int .i64 L, .int .i64 V]] W fun e w' => e = .returned (.tuple #[.int .i64 F, .int .i64 T]) ∧ W.Since W.heap.size w') (IHP : ∀ (W : World) (q c' : Nat), w.Since w.heap.size W → (q = o + 3 ∨ cap = 1) → M ≤ c' → c' ≤ cap → Calls Try.prog 62 #[.slice (some ⟨b, q, none⟩) M c', .int .i64 s, .int .i64 t] W fun e w' => e = .returned (.int .i64 P) ∧ W.Since W.heap.size w')
    (IHR : ∀ (W : World) (q c' : Nat), w.Since w.heap.size W → (q = o + 3 ∨ cap = 1) → M ≤ c' → c' ≤ cap → Calls Try.prog 62 #[.slice (some ⟨b, q, none⟩) M c', .int .i64 u, .int .i64 t] W fun e w' => e = .returned (.int .i64 R) ∧ W.Since W.heap.size w') (hM : M + 1 ≤ 10) (hcap : M + 1 ≤ cap) (hc63 : cap ≤ 9223372036854775807)
    (k1 : w.cell? ⟨b, o, none⟩ = some (.string K)) (k2 : w.cell? ⟨b, o + 1, none⟩ = some (.int .i64 L)) (k3 : w.cell? ⟨b, o + 2, none⟩ = some (.int .i64 V)) :
    Calls Try.prog 62 #[.slice (some ⟨b, o, none⟩) (M + 1) cap, .int .i64 s, .int .i64 t] w fun e w' => e = .returned (.int .i64 (P + V * R)) ∧ w.Since w.heap.size w' := by
  obtain ⟨d1, d2, d3⟩ := chip_box w K L V 36
  have HS := Lib.hid ((World.Since.refl w.heap.size w).alloc (Nat.le_refl _) (.cells #[.string K, .int .i64 L, .int .i64 V] 36))
  replace IHP := Lib.hid IHP
  replace IHR := Lib.hid IHR
  replace EF := Lib.hid EF
  rcases Nat.lt_or_eq_of_le (show 1 ≤ cap by omega) with hc1 | rfl
  · have hb1 : (0 : Int) ≤ (M : Int) := by omega
    have hb2 : (1 : Int) ≤ (M : Int) + 1 := by omega
    have hb3 : (M : Int) + 1 ≤ (cap : Int) := by omega
    have hc2 : ¬ cap = 1 := by omega
    have hc3 : ¬ 1 = cap := by omega
    go_enter Try.func62, Try.ntmps62
    go_wp2_with (first
      | (go_at_call 103; refine (EF.out _).mono ?_; rintro e w1 ⟨rfl, hs1⟩; have c4 := (hs1.cell (a := ⟨w.heap.size, 2, none⟩) (by simp)).trans d3; have HS1 := Lib.hid (HS.out.trans (since_mono hs1 HS.out.size)); clear hs1)
      | (go_at_call 62; refine (IHP.out _ _ _ HS1.out (by first | exact .inr trivial | exact .inr rfl | exact .inl rfl) (by omega) (by omega)).mono ?_; rintro e w2 ⟨rfl, hs2⟩; have c5 := (hs2.cell (a := ⟨w.heap.size, 2, none⟩) (World.block_lt_of_cell? _ _ c4)).trans c4; have HS2 := Lib.hid (HS1.out.trans (since_mono hs2 HS1.out.size)); clear hs2 c4))
    all_goals
      go_region_held3 (fun w' => w'.cell? ⟨w.heap.size, 2, none⟩ = some (.int .i64 V)) (first | exact c5 | exact c6)
        (first | (go_at_call 62; refine (IHR.out _ _ _ HS2.out.drew (by first | exact .inr trivial | exact .inr rfl | exact .inl rfl) (by omega) (by omega)).mono ?_; rintro e w3 ⟨rfl, hs3⟩; have c6 := (hs3.cell (a := ⟨w.heap.size, 2, none⟩) (World.block_lt_of_cell? w2 _ c5)).trans c5; have HS3 := Lib.hid hs3; clear hs3))
    all_goals
      go_wp2_with fail
      go_ret
      exact ⟨rfl, HS2.out.trans (since_mono (since_of_drew HS3.out) HS2.out.size)⟩
  · obtain rfl : M = 0 := by omega
    clear hM hcap hc63
    go_enter Try.func62, Try.ntmps62
    go_wp2_with (first
      | (go_at_call 103; refine (EF.out _).mono ?_; rintro e w1 ⟨rfl, hs1⟩; have c4 := (hs1.cell (a := ⟨w.heap.size, 2, none⟩) (by simp)).trans d3; have HS1 := Lib.hid (HS.out.trans (since_mono hs1 HS.out.size)); clear hs1)
      | (go_at_call 62; refine (IHP.out _ _ _ HS1.out (by first | exact .inr trivial | exact .inr rfl | exact .inl rfl) (by omega) (by omega)).mono ?_; rintro e w2 ⟨rfl, hs2⟩; have c5 := (hs2.cell (a := ⟨w.heap.size, 2, none⟩) (World.block_lt_of_cell? _ _ c4)).trans c4; have HS2 := Lib.hid (HS1.out.trans (since_mono hs2 HS1.out.size)); clear hs2 c4))
    all_goals
      go_region_held3 (fun w' => w'.cell? ⟨w.heap.size, 2, none⟩ = some (.int .i64 V)) (first | exact c5 | exact c6)
        (first | (go_at_call 62; refine (IHR.out _ _ _ HS2.out.drew (by first | exact .inr trivial | exact .inr rfl | exact .inl rfl) (by omega) (by omega)).mono ?_; rintro e w3 ⟨rfl, hs3⟩; have c6 := (hs3.cell (a := ⟨w.heap.size, 2, none⟩) (World.block_lt_of_cell? w2 _ c5)).trans c5; have HS3 := Lib.hid hs3; clear hs3))
    all_goals
      go_wp2_with fail
      go_ret
      exact ⟨rfl, HS2.out.trans (since_mono (since_of_drew HS3.out) HS2.out.size)⟩

theorem toC_ok5 {c : RC} (h : chOk 5 (toC c)) : (toC c).2.1 ≤ 4 ∧ ((toC c).1 ≠ 2 → cFrom (toC c) ≤ 4 ∧ cTo (toC c) ≤ 4) := by
  obtain ⟨h1, h2⟩ := h
  by_cases e : (toC c).1 = 2
  · rw [if_pos e] at h2
    exact ⟨by omega, fun h => absurd e h⟩
  · rw [if_neg e] at h2
    refine ⟨by omega, fun _ => ?_⟩
    unfold cFrom cTo
    constructor <;> split <;> omega

set_option maxRecDepth 100000 in
set_option maxHeartbeats 400000 in
theorem l6cFamilies_any : ∀ (cs : List RC) (a : Option Addr) (N cap : Nat) (s t : Nat) (w : World), cs.length = N → N ≤ 10 → N ≤ cap → cap ≤ 9223372036854775807 → (∀ c ∈ cs, RCok c ∧ chOk 5 (toC c)) → s ≤ 31 → ChipsR w a cs →
    Calls Try.prog 62 #[.slice a N cap, .int .i64 s, .int .i64 t] w fun e w' => e = .returned (.int .i64 (famN (cs.map toC) s t)) ∧ w.Since w.heap.size w'
  | [], a, N, cap, s, t, w, hN, _, _, _, _, _, _ => by
    obtain rfl : N = 0 := hN.symm
    clear hN
    by_cases e : s = t
    · subst e
      have hp : famN (([] : List RC).map toC) s s = 1 := by show (if s = s then (1 : Int) else 0) = 1; rw [if_pos rfl]
      rw [hp]
      go_enter Try.func62, Try.ntmps62
      go_wp2_with fail
      go_ret
      exact ⟨rfl, World.Since.refl _ _⟩
    · have hp : famN (([] : List RC).map toC) s t = 0 := by show (if s = t then (1 : Int) else 0) = 0; rw [if_neg e]
      rw [hp]
      have he : (s == t) = false := by simp; omega
      have he2 : ((s : Int) == (t : Int)) = false := by simp; omega
      go_enter Try.func62, Try.ntmps62
      go_wp2_with fail
      go_ret
      exact ⟨rfl, World.Since.refl _ _⟩
  | ⟨K, l, V⟩ :: cs, a, N, cap, s, t, w, hN, h10, hcap, hc63, hok, hs, hm => by
    obtain ⟨b, o, rfl, ⟨k1, k2, k3⟩, ht⟩ := hm.split
    obtain ⟨⟨hk, hl, hv⟩, h5⟩ := hok ⟨K, l, V⟩ (by simp)
    obtain ⟨M, rfl⟩ : ∃ M, N = M + 1 := ⟨cs.length, by simpa using hN.symm⟩
    have hM : cs.length = M := by simpa using hN
    have IH := fun (j : Nat) (hj : j ≤ 31) (W : World) (q c' : Nat) (hs : w.Since w.heap.size W) (hq : q = o + 3 ∨ cap = 1) (h1 : M ≤ c') (h2 : c' ≤ cap) => l6cFamilies_any cs (some ⟨b, q, none⟩) M c' j t W hM (by omega) h1 (by omega) (fun c hc => hok c (by simp [hc])) hj (ht W q cap hs (by omega) hq)
    have hbd := fun (j : Nat) => fam_bd (cs.map toC) (fun d hd => by
      rw [List.mem_map] at hd
      obtain ⟨e, he, rfl⟩ := hd
      exact (hok e (by simp [he])).1.2.2) j t
    have hp10 : p10 (cs.map toC).length ≤ 10000000000 := p10_le (by rw [List.length_map]; omega)
    rw [List.map_cons]
    simp only at hk hl hv k1 k2 k3
    obtain ⟨L, rfl⟩ : ∃ L : Nat, l = L := ⟨l.toNat, by omega⟩
    have hPb : -10000000000 ≤ famN (cs.map toC) s t ∧ famN (cs.map toC) s t ≤ 10000000000 := by have := hbd s; omega
    obtain ⟨hw1, hb1, hb2⟩ := wrap_mul9 hv hPb
    obtain ⟨g1, g2⟩ := toC_ok5 h5
    by_cases hH : K.toList = [104]
    · rw [toC_h hH] at g1 ⊢
      simp only at g1
      have hbi := bitI s L hs (by omega)
      cases hb : s.testBit L with
      | true =>
        have hpc : famN ((2, L, V) :: cs.map toC) s t = V * famN (cs.map toC) s t := by
          show (if 2 = 2 then (if s.testBit L = true then _ else _) else _) = _
          rw [if_pos rfl, if_pos hb]
        rw [hpc]
        exact fams_h K V M cap t b o s L w _ hH g1 hw1 (by rw [hbi, hb]; rfl) (IH s hs) h10 hcap hc63 k1 k2 k3
      | false =>
        have hpc : famN ((2, L, V) :: cs.map toC) s t = famN (cs.map toC) s t := by
          show (if 2 = 2 then (if s.testBit L = true then _ else _) else _) = _
          rw [if_pos rfl, if_neg (by rw [hb]; simp)]
        rw [hpc]
        exact fams_g K V M cap t b o s L w _ hH g1 (by rw [hbi, hb]; rfl) (IH s hs) h10 hcap hc63 k1 k2 k3
    · have hHb : (K.toList == [104]) = false := by simpa using hH
      have EF := fun (W : World) => l6cFrom_any K L V W (by omega)
      obtain ⟨k, hk1, hk2, hft⟩ := toC_n (L := L) (V := V) hH hk
      rw [hk2] at g2 ⊢
      rw [hft] at EF
      obtain ⟨hF, hT⟩ := g2 (by show k ≠ 2; omega)
      obtain ⟨F, hFF⟩ : ∃ F, cFrom (k, L, V) = F := ⟨_, rfl⟩
      obtain ⟨T, hTT⟩ : ∃ T, cTo (k, L, V) = T := ⟨_, rfl⟩
      have hpc : famN ((k, L, V) :: cs.map toC) s t = famN (cs.map toC) s t + (if s.testBit F = true ∧ s.testBit T = false then V * famN (cs.map toC) (s ^^^ 2 ^ F ^^^ 2 ^ T) t else 0) := by
        rw [← hFF, ← hTT]
        show (if k = 2 then _ else _) = _
        rw [if_neg (by omega)]
      rw [hpc]
      rw [hFF] at hF EF
      rw [hTT] at hT EF
      have hbF := bitI s F hs (by omega)
      have hbT := bitI s T hs (by omega)
      cases hf : s.testBit F with
      | false =>
        rw [if_neg (fun h => by simp at h), Int.add_zero]
        exact fams_n K V M cap t b o s L F T w _ hHb hF (by rw [hbF, hf]; rfl) EF (IH s hs) h10 hcap hc63 k1 k2 k3
      | true =>
        cases ht' : s.testBit T with
        | true =>
          rw [if_neg (fun h => by simp at h), Int.add_zero]
          exact fams_m K V M cap t b o s L F T w _ hHb hF hT (by rw [hbF, hf]; rfl) (by rw [hbT, ht']; rfl) EF (IH s hs) h10 hcap hc63 k1 k2 k3
        | false =>
          rw [if_pos ⟨rfl, rfl⟩]
          obtain ⟨hx, hx31⟩ := xor2 s F T hs hF hT
          have hRb : -10000000000 ≤ famN (cs.map toC) (s ^^^ 2 ^ F ^^^ 2 ^ T) t ∧ famN (cs.map toC) (s ^^^ 2 ^ F ^^^ 2 ^ T) t ≤ 10000000000 := by have := hbd (s ^^^ 2 ^ F ^^^ 2 ^ T); omega
          obtain ⟨hw2, hb3, hb4⟩ := wrap_mul9 hv hRb
          exact fams_o K V M cap t b o s L F T _ w _ _ hHb hF hT (by rw [hbF, hf]; rfl) (by rw [hbT, ht']; rfl) hw2 (IntWalk.i64_in _ ⟨by omega, by omega⟩) hx (p2w_fin ⟨F, by omega⟩).1 (p2w_fin ⟨T, by omega⟩).1 (by omega) (by omega) EF (IH s hs) (IH _ hx31) h10 hcap hc63 k1 k2 k3

end Go.Proofs.Ytbclpbgomkfabaa
