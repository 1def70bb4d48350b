/- The contract of spec.l6cPaths. -/
import Derived.Test.YtbclpbgomkfabaaChipF
import Derived.Test.YtbclpbgomkfabaaNetG
import Derived.Test.YtbclpbgomkfabaaUnitSpec
import Derived.Deep.RegionHeld3
namespace Go.Proofs.Ytbclpbgomkfabaa
open Go.RowKit Go.Deep

/-- A chip as three numbers. -/
def toC (c : RC) : CH := (if c.k.toList = [117] then 0 else if c.k.toList = [100] then 1 else 2, c.l.toNat, c.w)
def RCok (c : RC) : Prop := (c.k.toList = [104] ∨ c.k.toList = [117] ∨ c.k.toList = [100]) ∧ (0 ≤ c.l ∧ c.l ≤ 10) ∧ -9 ≤ c.w ∧ c.w ≤ 9
theorem ChipsR.tail {W : World} {b o : Nat} {c : RC} {cs : List RC} (h : ∀ i, i < (c :: cs).length → W.cell? ⟨b, o + i * 3, none⟩ = some (.string ((c :: cs).getD i rc0).k) ∧ W.cell? ⟨b, o + i * 3 + 1, none⟩ = some (.int .i64 ((c :: cs).getD i rc0).l) ∧ W.cell? ⟨b, o + i * 3 + 2, none⟩ = some (.int .i64 ((c :: cs).getD i rc0).w)) :
    ChipsR W (some ⟨b, o + 3, none⟩) cs := fun h0 => ⟨b, o + 3, rfl, fun i hi => by
  have := h (i + 1) (by simp; omega)
  rw [show o + 3 + i * 3 = o + (i + 1) * 3 by omega]
  simpa using this⟩
/-- The first chip's cells, and the others behind it, wherever the slice of them begins. -/
theorem ChipsR.split {W : World} {a : Option Addr} {c : RC} {cs : List RC} (h : ChipsR W a (c :: cs)) : ∃ b o, a = some ⟨b, o, none⟩ ∧ (W.cell? ⟨b, o, none⟩ = some (.string c.k) ∧ W.cell? ⟨b, o + 1, none⟩ = some (.int .i64 c.l) ∧ W.cell? ⟨b, o + 2, none⟩ = some (.int .i64 c.w)) ∧
    ∀ (V : World) (q cap : Nat), W.Since W.heap.size V → cs.length + 1 ≤ cap → (q = o + 3 ∨ cap = 1) → ChipsR V (some ⟨b, q, none⟩) cs := by
  obtain ⟨b, o, rfl, hc⟩ := h (by simp)
  have hc0 := hc 0 (by simp)
  simp only [Nat.zero_mul, Nat.add_zero, List.getD_cons_zero] at hc0
  refine ⟨b, o, rfl, hc0, fun V q cap hs hcap hq => ?_⟩
  by_cases h0 : 0 < cs.length
  · obtain rfl : q = o + 3 := by omega
    exact (ChipsR.tail hc).since hs
  · exact fun h => absurd h h0
theorem chip_box (w : World) (K : ByteArray) (L V : Int) (T : TypeId) :
    (w.alloc (.cells #[.string K, .int .i64 L, .int .i64 V] T)).cell? ⟨w.heap.size, 0, none⟩ = some (.string K) ∧ (w.alloc (.cells #[.string K, .int .i64 L, .int .i64 V] T)).cell? ⟨w.heap.size, 1, none⟩ = some (.int .i64 L) ∧ (w.alloc (.cells #[.string K, .int .i64 L, .int .i64 V] T)).cell? ⟨w.heap.size, 2, none⟩ = some (.int .i64 V) := by
  have hb := World.alloc_heap_new w (.cells #[.string K, .int .i64 L, .int .i64 V] T)
  refine ⟨?_, ?_, ?_⟩ <;> (unfold World.cell?; rw [hb]; rfl)
/-- A chip's kind, of three. -/
theorem toC_h {K : ByteArray} {L : Nat} {V : Int} (h : K.toList = [104]) : toC ⟨K, (L : Int), V⟩ = (2, L, V) := by unfold toC; simp [h]
theorem toC_n {K : ByteArray} {L : Nat} {V : Int} (h : ¬ K.toList = [104]) (hk : K.toList = [104] ∨ K.toList = [117] ∨ K.toList = [100]) : ∃ k, k ≤ 1 ∧ toC ⟨K, (L : Int), V⟩ = (k, L, V) ∧
    (if K.toList = [117] then Value.tuple #[.int .i64 (L : Int), .int .i64 ((L + 1 : Nat) : Int)] else .tuple #[.int .i64 ((L + 1 : Nat) : Int), .int .i64 (L : Int)]) = .tuple #[.int .i64 (cFrom (k, L, V) : Nat), .int .i64 (cTo (k, L, V) : Nat)] := by
  rcases hk with e | e | e
  · exact absurd e h
  · exact ⟨0, by omega, by unfold toC; simp [e], by unfold cFrom cTo; simp [e]⟩
  · exact ⟨1, by omega, by unfold toC; simp [e], by unfold cFrom cTo; simp [e]⟩
theorem wrap_mul9 {V P : Int} (h : -9 ≤ V ∧ V ≤ 9) (hp : -10000000000 ≤ P ∧ P ≤ 10000000000) : IntKind.i64.wrap (V * P) = V * P ∧ -90000000000 ≤ V * P ∧ V * P ≤ 90000000000 := by
  have := mul_bd9 h.1 h.2 hp.1 hp.2
  exact ⟨IntWalk.i64_in _ ⟨by omega, by omega⟩, by omega, by omega⟩

set_option maxRecDepth 100000 in
set_option maxHeartbeats 400000 in
theorem paths_h (K : ByteArray) (V : Int) (M cap t b o i : Nat) (w : World) (P : Int) (hH : K.toList = [104]) (hw1 : IntKind.i64.wrap (V * P) = V * P) (IHP : ∀ (W : World) (q c' : Nat), w.Since w.heap.size W → (q = o + 3 ∨ cap = 1) → M ≤ c' → c' ≤ cap → Calls Try.prog 50 #[.slice (some ⟨b, q, none⟩) M c', .int .i64 i, .int .i64 t] W fun e w' => e = .returned (.int .i64 P) ∧ W.Since W.heap.size w') (hM : M + 1 ≤ 10) (hcap : M + 1 ≤ cap) (hc63 : cap ≤ 9223372036854775807)
    (k1 : w.cell? ⟨b, o, none⟩ = some (.string K)) (k2 : w.cell? ⟨b, o + 1, none⟩ = some (.int .i64 i)) (k3 : w.cell? ⟨b, o + 2, none⟩ = some (.int .i64 V)) :
    Calls Try.prog 50 #[.slice (some ⟨b, o, none⟩) (M + 1) cap, .int .i64 i, .int .i64 t] w fun e w' => e = .returned (.int .i64 (V * P)) ∧ w.Since w.heap.size w' := by
  obtain ⟨d1, d2, d3⟩ := chip_box w K i V 36
  have HS := Lib.hid ((World.Since.refl w.heap.size w).alloc (Nat.le_refl _) (.cells #[.string K, .int .i64 i, .int .i64 V] 36))
  replace IHP := Lib.hid IHP
  rcases Nat.lt_or_eq_of_le (show 1 ≤ cap by omega) with hc1 | rfl
  · have hb1 : (0 : Int) ≤ (M : Int) := by omega
    have hb2 : (1 : Int) ≤ (M : Int) + 1 := by omega
    have hb3 : (M : Int) + 1 ≤ (cap : Int) := by omega
    have hc2 : ¬ cap = 1 := by omega
    have hc3 : ¬ 1 = cap := by omega
    go_enter Try.func50, Try.ntmps50
    go_wp2_with fail
    go_region_held3 (fun w' => w'.cell? ⟨w.heap.size, 2, none⟩ = some (.int .i64 V)) (first | exact d3 | exact c4)
      (first | (go_at_call 50; refine (IHP.out _ _ _ HS.out.drew (by first | exact .inr trivial | exact .inr rfl | exact .inl rfl) (by omega) (by omega)).mono ?_; rintro e w1 ⟨rfl, hs1⟩; have c4 := (hs1.cell (a := ⟨w.heap.size, 2, none⟩) (by simp)).trans d3; have HS1 := Lib.hid hs1; clear hs1))
    all_goals
      go_wp2_with fail
      go_ret
      exact ⟨rfl, HS.out.trans (since_mono (since_of_drew HS1.out) HS.out.size)⟩
  · obtain rfl : M = 0 := by omega
    clear hM hcap hc63
    go_enter Try.func50, Try.ntmps50
    go_wp2_with fail
    go_region_held3 (fun w' => w'.cell? ⟨w.heap.size, 2, none⟩ = some (.int .i64 V)) (first | exact d3 | exact c4)
      (first | (go_at_call 50; refine (IHP.out _ _ _ HS.out.drew (by first | exact .inr trivial | exact .inr rfl | exact .inl rfl) (by omega) (by omega)).mono ?_; rintro e w1 ⟨rfl, hs1⟩; have c4 := (hs1.cell (a := ⟨w.heap.size, 2, none⟩) (by simp)).trans d3; have HS1 := Lib.hid hs1; clear hs1))
    all_goals
      go_wp2_with fail
      go_ret
      exact ⟨rfl, HS.out.trans (since_mono (since_of_drew HS1.out) HS.out.size)⟩

set_option maxRecDepth 100000 in
set_option maxHeartbeats 400000 in
theorem paths_g (K : ByteArray) (V : Int) (M cap t b o L i : Nat) (w : World) (P : Int) (hH : K.toList = [104]) (hne2 : ((i : Int) == (L : Int)) = false) (IHP : ∀ (W : World) (q c' : Nat), w.Since w.heap.size W → (q = o + 3 ∨ cap = 1) → M ≤ c' → c' ≤ cap → Calls Try.prog 50 #[.slice (some ⟨b, q, none⟩) M c', .int .i64 i, .int .i64 t] W fun e w' => e = .returned (.int .i64 P) ∧ W.Since W.heap.size w') (hM : M + 1 ≤ 10) (hcap : M + 1 ≤ cap) (hc63 : cap ≤ 9223372036854775807)
    (k1 : w.cell? ⟨b, o, none⟩ = some (.string K)) (k2 : w.cell? ⟨b, o + 1, none⟩ = some (.int .i64 L)) (k3 : w.cell? ⟨b, o + 2, none⟩ = some (.int .i64 V)) :
    Calls Try.prog 50 #[.slice (some ⟨b, o, none⟩) (M + 1) cap, .int .i64 i, .int .i64 t] w fun e w' => e = .returned (.int .i64 (P)) ∧ w.Since w.heap.size w' := by
  obtain ⟨d1, d2, d3⟩ := chip_box w K L V 36
  have HS := Lib.hid ((World.Since.refl w.heap.size w).alloc (Nat.le_refl _) (.cells #[.string K, .int .i64 L, .int .i64 V] 36))
  replace IHP := Lib.hid IHP
  rcases Nat.lt_or_eq_of_le (show 1 ≤ cap by omega) with hc1 | rfl
  · have hb1 : (0 : Int) ≤ (M : Int) := by omega
    have hb2 : (1 : Int) ≤ (M : Int) + 1 := by omega
    have hb3 : (M : Int) + 1 ≤ (cap : Int) := by omega
    have hc2 : ¬ cap = 1 := by omega
    have hc3 : ¬ 1 = cap := by omega
    go_enter Try.func50, Try.ntmps50
    go_wp2_with (go_at_call 50; refine (IHP.out _ _ _ HS.out (by first | exact .inr trivial | exact .inr rfl | exact .inl rfl) (by omega) (by omega)).mono ?_; rintro e w1 ⟨rfl, hs1⟩)
    all_goals
      go_ret
      exact ⟨rfl, HS.out.trans (since_mono hs1 HS.out.size)⟩
  · obtain rfl : M = 0 := by omega
    clear hM hcap hc63
    go_enter Try.func50, Try.ntmps50
    go_wp2_with (go_at_call 50; refine (IHP.out _ _ _ HS.out (by first | exact .inr trivial | exact .inr rfl | exact .inl rfl) (by omega) (by omega)).mono ?_; rintro e w1 ⟨rfl, hs1⟩)
    all_goals
      go_ret
      exact ⟨rfl, HS.out.trans (since_mono hs1 HS.out.size)⟩

set_option maxRecDepth 100000 in
set_option maxHeartbeats 400000 in
theorem paths_n (K : ByteArray) (V : Int) (M cap t b o F L T i : Nat) (w : World) (P : Int) (hH : (K.toList == [104]) = false) (hne2 : ((i : Int) == (F : Int)) = false) (EF : ∀ W : World, Calls Try.prog 103 #[.agg #[.string K, .int .i64 L, .int .i64 V]] W fun e w' => e = .returned (.tuple #[.int .i64 F, .int .i64 T]) ∧ W.Since W.heap.size w') (IHP : ∀ (W : World) (q c' : Nat), w.Since w.heap.size W → (q = o + 3 ∨ cap = 1) → M ≤ c' → c' ≤ cap → Calls Try.prog 50 #[.slice (some ⟨b, q, none⟩) M c', .int .i64 i, .int .i64 t] W fun e w' => e = .returned (.int .i64 P) ∧ W.Since W.heap.size w') (hM : M + 1 ≤ 10) (hcap : M + 1 ≤ cap) (hc63 : cap ≤ 9223372036854775807)
    (k1 : w.cell? ⟨b, o, none⟩ = some (.string K)) (k2 : w.cell? ⟨b, o + 1, none⟩ = some (.int .i64 L)) (k3 : w.cell? ⟨b, o + 2, none⟩ = some (.int .i64 V)) :
    Calls Try.prog 50 #[.slice (some ⟨b, o, none⟩) (M + 1) cap, .int .i64 i, .int .i64 t] w fun e w' => e = .returned (.int .i64 (P)) ∧ w.Since w.heap.size w' := by
  obtain ⟨d1, d2, d3⟩ := chip_box w K L V 36
  have HS := Lib.hid ((World.Since.refl w.heap.size w).alloc (Nat.le_refl _) (.cells #[.string K, .int .i64 L, .int .i64 V] 36))
  replace IHP := Lib.hid IHP
  replace EF := Lib.hid EF
  rcases Nat.lt_or_eq_of_le (show 1 ≤ cap by omega) with hc1 | rfl
  · have hb1 : (0 : Int) ≤ (M : Int) := by omega
    have hb2 : (1 : Int) ≤ (M : Int) + 1 := by omega
    have hb3 : (M : Int) + 1 ≤ (cap : Int) := by omega
    have hc2 : ¬ cap = 1 := by omega
    have hc3 : ¬ 1 = cap := by omega
    go_enter Try.func50, Try.ntmps50
    go_wp2_with (first
      | (go_at_call 103; refine (EF.out _).mono ?_; rintro e w1 ⟨rfl, hs1⟩; have HS1 := Lib.hid (HS.out.trans (since_mono hs1 HS.out.size)); clear hs1)
      | (go_at_call 50; refine (IHP.out _ _ _ HS1.out (by first | exact .inr trivial | exact .inr rfl | exact .inl rfl) (by omega) (by omega)).mono ?_; rintro e w2 ⟨rfl, hs2⟩; have HS2 := Lib.hid (HS1.out.trans (since_mono hs2 HS1.out.size)); clear hs2))
    all_goals
      go_ret
      exact ⟨rfl, HS2.out⟩
  · obtain rfl : M = 0 := by omega
    clear hM hcap hc63
    go_enter Try.func50, Try.ntmps50
    go_wp2_with (first
      | (go_at_call 103; refine (EF.out _).mono ?_; rintro e w1 ⟨rfl, hs1⟩; have HS1 := Lib.hid (HS.out.trans (since_mono hs1 HS.out.size)); clear hs1)
      | (go_at_call 50; refine (IHP.out _ _ _ HS1.out (by first | exact .inr trivial | exact .inr rfl | exact .inl rfl) (by omega) (by omega)).mono ?_; rintro e w2 ⟨rfl, hs2⟩; have HS2 := Lib.hid (HS1.out.trans (since_mono hs2 HS1.out.size)); clear hs2))
    all_goals
      go_ret
      exact ⟨rfl, HS2.out⟩

set_option maxRecDepth 100000 in
set_option maxHeartbeats 400000 in
theorem paths_o (K : ByteArray) (V : Int) (M cap t b o F L T i : Nat) (w : World) (P R : Int) (hH : (K.toList == [104]) = false) (hiF : F = i) (hw2 : IntKind.i64.wrap (V * R) = V * R) (hw3 : IntKind.i64.wrap (P + V * R) = P + V * R) (EF : ∀ W : World, Calls Try.prog 103 #[.agg #[.string K, .int .i64 L, .int .i64 V]] W fun e w' => e = .returned (.tuple #[.int .i64 F, .int .i64 T]) ∧ W.Since W.heap.size w') (IHP : ∀ (W : World) (q c' : Nat), w.Since w.heap.size W → (q = o + 3 ∨ cap = 1) → M ≤ c' → c' ≤ cap → Calls Try.prog 50 #[.slice (some ⟨b, q, none⟩) M c', .int .i64 i, .int .i64 t] W fun e w' => e = .returned (.int .i64 P) ∧ W.Since W.heap.size w')
    (IHR : ∀ (W : World) (q c' : Nat), w.Since w.heap.size W → (q = o + 3 ∨ cap = 1) → M ≤ c' → c' ≤ cap → Calls Try.prog 50 #[.slice (some ⟨b, q, none⟩) M c', .int .i64 T, .int .i64 t] W fun e w' => e = .returned (.int .i64 R) ∧ W.Since W.heap.size w') (hM : M + 1 ≤ 10) (hcap : M + 1 ≤ cap) (hc63 : cap ≤ 9223372036854775807)
    (k1 : w.cell? ⟨b, o, none⟩ = some (.string K)) (k2 : w.cell? ⟨b, o + 1, none⟩ = some (.int .i64 L)) (k3 : w.cell? ⟨b, o + 2, none⟩ = some (.int .i64 V)) :
    Calls Try.prog 50 #[.slice (some ⟨b, o, none⟩) (M + 1) cap, .int .i64 i, .int .i64 t] w fun e w' => e = .returned (.int .i64 (P + V * R)) ∧ w.Since w.heap.size w' := by
  obtain ⟨d1, d2, d3⟩ := chip_box w K L V 36
  have HS := Lib.hid ((World.Since.refl w.heap.size w).alloc (Nat.le_refl _) (.cells #[.string K, .int .i64 L, .int .i64 V] 36))
  subst hiF
  replace IHP := Lib.hid IHP
  replace IHR := Lib.hid IHR
  replace EF := Lib.hid EF
  rcases Nat.lt_or_eq_of_le (show 1 ≤ cap by omega) with hc1 | rfl
  · have hb1 : (0 : Int) ≤ (M : Int) := by omega
    have hb2 : (1 : Int) ≤ (M : Int) + 1 := by omega
    have hb3 : (M : Int) + 1 ≤ (cap : Int) := by omega
    have hc2 : ¬ cap = 1 := by omega
    have hc3 : ¬ 1 = cap := by omega
    go_enter Try.func50, Try.ntmps50
    go_wp2_with (first
      | (go_at_call 103; refine (EF.out _).mono ?_; rintro e w1 ⟨rfl, hs1⟩; have c4 := (hs1.cell (a := ⟨w.heap.size, 2, none⟩) (by simp)).trans d3; have HS1 := Lib.hid (HS.out.trans (since_mono hs1 HS.out.size)); clear hs1)
      | (go_at_call 50; refine (IHP.out _ _ _ HS1.out (by first | exact .inr trivial | exact .inr rfl | exact .inl rfl) (by omega) (by omega)).mono ?_; rintro e w2 ⟨rfl, hs2⟩; have c5 := (hs2.cell (a := ⟨w.heap.size, 2, none⟩) (World.block_lt_of_cell? _ _ c4)).trans c4; have HS2 := Lib.hid (HS1.out.trans (since_mono hs2 HS1.out.size)); clear hs2 c4))
    all_goals
      go_region_held3 (fun w' => w'.cell? ⟨w.heap.size, 2, none⟩ = some (.int .i64 V)) (first | exact c5 | exact c6)
        (first | (go_at_call 50; refine (IHR.out _ _ _ HS2.out.drew (by first | exact .inr trivial | exact .inr rfl | exact .inl rfl) (by omega) (by omega)).mono ?_; rintro e w3 ⟨rfl, hs3⟩; have c6 := (hs3.cell (a := ⟨w.heap.size, 2, none⟩) (World.block_lt_of_cell? w2 _ c5)).trans c5; have HS3 := Lib.hid hs3; clear hs3))
    all_goals
      go_wp2_with fail
      go_ret
      exact ⟨rfl, HS2.out.trans (since_mono (since_of_drew HS3.out) HS2.out.size)⟩
  · obtain rfl : M = 0 := by omega
    clear hM hcap hc63
    go_enter Try.func50, Try.ntmps50
    go_wp2_with (first
      | (go_at_call 103; refine (EF.out _).mono ?_; rintro e w1 ⟨rfl, hs1⟩; have c4 := (hs1.cell (a := ⟨w.heap.size, 2, none⟩) (by simp)).trans d3; have HS1 := Lib.hid (HS.out.trans (since_mono hs1 HS.out.size)); clear hs1)
      | (go_at_call 50; refine (IHP.out _ _ _ HS1.out (by first | exact .inr trivial | exact .inr rfl | exact .inl rfl) (by omega) (by omega)).mono ?_; rintro e w2 ⟨rfl, hs2⟩; have c5 := (hs2.cell (a := ⟨w.heap.size, 2, none⟩) (World.block_lt_of_cell? _ _ c4)).trans c4; have HS2 := Lib.hid (HS1.out.trans (since_mono hs2 HS1.out.size)); clear hs2 c4))
    all_goals
      go_region_held3 (fun w' => w'.cell? ⟨w.heap.size, 2, none⟩ = some (.int .i64 V)) (first | exact c5 | exact c6)
        (first | (go_at_call 50; refine (IHR.out _ _ _ HS2.out.drew (by first | exact .inr trivial | exact .inr rfl | exact .inl rfl) (by omega) (by omega)).mono ?_; rintro e w3 ⟨rfl, hs3⟩; have c6 := (hs3.cell (a := ⟨w.heap.size, 2, none⟩) (World.block_lt_of_cell? w2 _ c5)).trans c5; have HS3 := Lib.hid hs3; clear hs3))
    all_goals
      go_wp2_with fail
      go_ret
      exact ⟨rfl, HS2.out.trans (since_mono (since_of_drew HS3.out) HS2.out.size)⟩

set_option maxRecDepth 100000 in
set_option maxHeartbeats 400000 in
theorem l6cPaths_any : ∀ (cs : List RC) (a : Option Addr) (N cap : Nat) (i t : Nat) (w : World), cs.length = N → N ≤ 10 → N ≤ cap → cap ≤ 9223372036854775807 → (∀ c ∈ cs, RCok c) → i ≤ 11 → ChipsR w a cs →
    Calls Try.prog 50 #[.slice a N cap, .int .i64 i, .int .i64 t] w fun e w' => e = .returned (.int .i64 (pathN (cs.map toC) i t)) ∧ w.Since w.heap.size w'
  | [], a, N, cap, i, t, w, hN, _, _, _, _, _, _ => by
    obtain rfl : N = 0 := hN.symm
    clear hN
    by_cases e : i = t
    · subst e
      have hp : pathN (([] : List RC).map toC) i i = 1 := by show (if i = i then (1 : Int) else 0) = 1; rw [if_pos rfl]
      rw [hp]
      go_enter Try.func50, Try.ntmps50
      go_wp2_with fail
      go_ret
      exact ⟨rfl, World.Since.refl _ _⟩
    · have hp : pathN (([] : List RC).map toC) i t = 0 := by show (if i = t then (1 : Int) else 0) = 0; rw [if_neg e]
      rw [hp]
      have he : (i == t) = false := by simp; omega
      have he2 : ((i : Int) == (t : Int)) = false := by simp; omega
      go_enter Try.func50, Try.ntmps50
      go_wp2_with fail
      go_ret
      exact ⟨rfl, World.Since.refl _ _⟩
  | ⟨K, l, V⟩ :: cs, a, N, cap, i, t, w, hN, h10, hcap, hc63, hok, hi, hm => by
    obtain ⟨b, o, rfl, ⟨k1, k2, k3⟩, ht⟩ := hm.split
    have hc1 := hok ⟨K, l, V⟩ (by simp)
    obtain ⟨M, rfl⟩ : ∃ M, N = M + 1 := ⟨cs.length, by simpa using hN.symm⟩
    have hM : cs.length = M := by simpa using hN
    have IH := fun (j : Nat) (hj : j ≤ 11) (W : World) (q c' : Nat) (hs : w.Since w.heap.size W) (hq : q = o + 3 ∨ cap = 1) (h1 : M ≤ c') (h2 : c' ≤ cap) => l6cPaths_any cs (some ⟨b, q, none⟩) M c' j t W hM (by omega) h1 (by omega) (fun c hc => hok c (by simp [hc])) hj (ht W q cap hs (by omega) hq)
    have hbd := fun (j : Nat) => path_bd (cs.map toC) (fun d hd => by
      rw [List.mem_map] at hd
      obtain ⟨e, he, rfl⟩ := hd
      exact (hok e (by simp [he])).2.2) j t
    have hp10 : p10 (cs.map toC).length ≤ 10000000000 := p10_le (by rw [List.length_map]; omega)
    rw [List.map_cons]
    obtain ⟨hk, hl, hv⟩ := hc1
    simp only at hk hl hv k1 k2 k3
    obtain ⟨L, rfl⟩ : ∃ L : Nat, l = L := ⟨l.toNat, by omega⟩
    have hPb : -10000000000 ≤ pathN (cs.map toC) i t ∧ pathN (cs.map toC) i t ≤ 10000000000 := by have := hbd i; omega
    obtain ⟨hw1, hb1, hb2⟩ := wrap_mul9 hv hPb
    by_cases hH : K.toList = [104]
    · rw [toC_h hH]
      by_cases e2 : i = L
      · subst e2
        have hpc : pathN ((2, i, V) :: cs.map toC) i t = V * pathN (cs.map toC) i t := by
          show (if 2 = 2 then (if i = i then _ else _) else _) = _
          rw [if_pos rfl, if_pos rfl]
        rw [hpc]
        exact paths_h K V M cap t b o i w _ hH hw1 (IH i hi) h10 hcap hc63 k1 k2 k3
      · have hpc : pathN ((2, L, V) :: cs.map toC) i t = pathN (cs.map toC) i t := by
          show (if 2 = 2 then (if i = L then _ else _) else _) = _
          rw [if_pos rfl, if_neg e2]
        rw [hpc]
        exact paths_g K V M cap t b o L i w _ hH (by simp; omega) (IH i hi) h10 hcap hc63 k1 k2 k3
    · have hHb : (K.toList == [104]) = false := by simpa using hH
      have EF := fun (W : World) => l6cFrom_any K L V W (by omega)
      obtain ⟨k, hk1, hk2, hft⟩ := toC_n (L := L) (V := V) hH hk
      rw [hk2]
      rw [hft] at EF
      have hcf : cFrom (k, L, V) ≤ 11 ∧ cTo (k, L, V) ≤ 11 := by unfold cFrom cTo; simp only; constructor <;> split <;> omega
      have hpc : pathN ((k, L, V) :: cs.map toC) i t = pathN (cs.map toC) i t + (if i = cFrom (k, L, V) then V * pathN (cs.map toC) (cTo (k, L, V)) t else 0) := by
        show (if k = 2 then _ else _) = _
        rw [if_neg (by omega)]
      rw [hpc]
      by_cases e2 : i = cFrom (k, L, V)
      · rw [if_pos e2]
        have hRb : -10000000000 ≤ pathN (cs.map toC) (cTo (k, L, V)) t ∧ pathN (cs.map toC) (cTo (k, L, V)) t ≤ 10000000000 := by have := hbd (cTo (k, L, V)); omega
        obtain ⟨hw2, hb3, hb4⟩ := wrap_mul9 hv hRb
        exact paths_o K V M cap t b o _ L _ i w _ _ hHb e2.symm hw2 (IntWalk.i64_in _ ⟨by omega, by omega⟩) EF (IH i hi) (IH _ hcf.2) h10 hcap hc63 k1 k2 k3
      · rw [if_neg e2, Int.add_zero]
        exact paths_n K V M cap t b o _ L _ i w _ hHb (by simp; omega) EF (IH i hi) h10 hcap hc63 k1 k2 k3

end Go.Proofs.Ytbclpbgomkfabaa
