/- The contracts of firstFilled and behind. -/
import Derived.Test.YtlgjplhffpmfpaaSeek
import Derived.Test.YtlgjplhffpmfpaaBar
import Derived.Test.YtlgjplhffpmfpaaSwapped
namespace Go.Proofs.Ytlgjplhffpmfpaa
open Go.RowKit Go.Deep

set_option maxHeartbeats 400000 in
theorem filled1_any (r : Option Addr) (c m : Nat) (x : List Int) (w : World) (hx : x.length = m) (h1 : 1 ≤ m) (hr : RowR w r x) :
    Calls Try.prog 117 #[.slice r m c] w fun e w' => e = .returned (.bool (x.getD 0 0 != 0)) ∧ w = w' := by
  obtain ⟨b, o, rfl, hc⟩ := hr (by omega)
  have c0 := hc 0 (by omega)
  rw [Nat.add_zero] at c0
  obtain ⟨y, hy⟩ : ∃ y, y = x.getD 0 0 := ⟨_, rfl⟩
  rw [← hy] at c0 ⊢
  clear hc hr hx hy
  go_enter Try.func117, Try.ntmps117
  go_wp2
  go_ret
  exact ⟨rfl, rfl⟩

set_option maxHeartbeats 400000 in
theorem firstFilled_any (a : Option Addr) (cap n : Nat) (l : List (List Int)) (w : World) (hn : l.length = n) (hT : Rec l) (hm : MatR w a l) :
    Calls Try.prog 106 #[.slice a n cap] w fun e w' => ∃ r, e = .returned (.int .i64 r) ∧ FirstAt (fun i => at2 l i 0 != 0) n r ∧ w = w' := by
  have h6 := hT.high
  rw [hn] at h6
  have E := Lib.hid (indexFunc_any 117 (fun i => at2 l i 0 != 0) a cap n l w hn hm (enters_of Try.func117 (by kernel_rfl) rfl) (by omega)
    (fun i r c hi hr => filled1_any r c _ (l.getD i []) w rfl (by rw [hT.row (by omega)]; exact hT.width.1) hr))
  clear hn hT hm h6
  go_enter Try.func106, Try.ntmps106
  go_wp2_with fail
  refine (E.out).mono ?_
  rintro e w' ⟨r, rfl, hr, rfl⟩
  go_wp2
  go_ret
  exact ⟨r, rfl, hr, rfl⟩

theorem mul_bdQ {x y B : Int} (hx : -B ≤ x ∧ x ≤ B) (hy : -B ≤ y ∧ y ≤ B) : -(B * B) ≤ x * y ∧ x * y ≤ B * B := by
  have hB : 0 ≤ B := by omega
  have e1 : (B - x) * (B - y) ≥ 0 := Int.mul_nonneg (by omega) (by omega)
  have e2 : (B + x) * (B + y) ≥ 0 := Int.mul_nonneg (by omega) (by omega)
  have e3 : (B - x) * (B + y) ≥ 0 := Int.mul_nonneg (by omega) (by omega)
  have e4 : (B + x) * (B - y) ≥ 0 := Int.mul_nonneg (by omega) (by omega)
  simp only [Int.sub_mul, Int.add_mul, Int.mul_sub, Int.mul_add] at e1 e2 e3 e4
  have c1 := Int.mul_comm B y
  have c2 := Int.mul_comm x B
  omega

set_option maxHeartbeats 2000000 in
theorem behindEntry_any (p r i k n cap : Nat) (q X : Int) (a : Option Addr) (l : List (List Int)) (w : World) (hn : l.length = n) (hT : Rec l) (hw : (l.getD 0 []).length = n) (hq : q ≠ 0) (hX : chio (at2 l) i k = q * X) (hXb : -4611686018427387904 ≤ X ∧ X ≤ 4611686018427387904) (hb : ∀ i j, i < n → j < n → -1944000000 ≤ at2 l i j ∧ at2 l i j ≤ 1944000000)
    (hbox : w.cell? ⟨p, 0, none⟩ = some (.slice a n cap)) (hbox2 : w.cell? ⟨r, 0, none⟩ = some (.int .i64 q)) (hm : MatR w a l) (hi : i + 1 < n) (hk : k + 1 < n) :
    Calls Try.prog 118 #[.int .i64 i, .int .i64 k, .pointer (some ⟨p, 0, none⟩), .pointer (some ⟨r, 0, none⟩)] w fun e w' => e = .returned (.int .i64 X) ∧ w.Since w.heap.size w' := by
  have h6 := hT.high
  rw [hn] at h6
  have hr1 : (l.getD (i + 1) []).length = n := by rw [hT.row (by omega), hw]
  obtain ⟨b, o, A, C, rfl, hc⟩ := hm (by omega)
  obtain ⟨r1, s1⟩ := hc (i + 1) (by omega)
  obtain ⟨r0, s0⟩ := hc 0 (by omega)
  obtain ⟨b1, o1, e1, t1⟩ := s1 (by omega)
  obtain ⟨b0, o0, e0, t0⟩ := s0 (by omega)
  have x11 := t1 (k + 1) (by omega)
  have x10 := t1 0 (by omega)
  have x01 := t0 (k + 1) (by omega)
  have x00 := t0 0 (by omega)
  rw [e1, hr1] at r1
  rw [e0, hw, Nat.add_zero] at r0
  rw [Nat.add_zero] at x10 x00
  have b11 := hb (i + 1) (k + 1) (by omega) (by omega)
  have b10 := hb (i + 1) 0 (by omega) (by omega)
  have b01 := hb 0 (k + 1) (by omega) (by omega)
  have b00 := hb 0 0 (by omega) (by omega)
  have hX' : at2 l (i + 1) (k + 1) * at2 l 0 0 - at2 l 0 (k + 1) * at2 l (i + 1) 0 = q * X := hX
  obtain ⟨y11, h11⟩ : ∃ y, at2 l (i + 1) (k + 1) = y := ⟨_, rfl⟩
  obtain ⟨y10, h10⟩ : ∃ y, at2 l (i + 1) 0 = y := ⟨_, rfl⟩
  obtain ⟨y01, h01⟩ : ∃ y, at2 l 0 (k + 1) = y := ⟨_, rfl⟩
  obtain ⟨y00, h00⟩ : ∃ y, at2 l 0 0 = y := ⟨_, rfl⟩
  rw [h11, h00, h01, h10] at hX'
  rw [h11] at b11
  rw [h10] at b10
  rw [h01] at b01
  rw [h00] at b00
  rw [show (l.getD (i + 1) []).getD (k + 1) 0 = y11 from h11] at x11
  rw [show (l.getD (i + 1) []).getD 0 0 = y10 from h10] at x10
  rw [show (l.getD 0 []).getD (k + 1) 0 = y01 from h01] at x01
  rw [show (l.getD 0 []).getD 0 0 = y00 from h00] at x00
  have m1 := mul_bdQ b11 b00
  have m2 := mul_bdQ b01 b10
  have w1 : IntKind.i64.wrap (y11 * y00) = y11 * y00 := IntWalk.i64_in _ ⟨by omega, by omega⟩
  have w2 : IntKind.i64.wrap (y01 * y10) = y01 * y10 := IntWalk.i64_in _ ⟨by omega, by omega⟩
  have w3 : IntKind.i64.wrap (y11 * y00 - y01 * y10) = q * X := (IntWalk.i64_in _ ⟨by omega, by omega⟩).trans hX'
  have w4 : Int.tdiv (q * X) q = X := Int.mul_tdiv_cancel_left _ hq
  have w5 : IntKind.i64.wrap X = X := IntWalk.i64_in _ ⟨by omega, by omega⟩
  have hq0 : (q == 0) = false := by simpa using hq
  clear hX hX' hb hm hc s1 s0 t1 t0 e1 e0 h11 h10 h01 h00 hT hn hw hr1 b11 b10 b01 b00 m1 m2 hXb
  go_enter Try.func118, Try.ntmps118
  go_wp2
  go_quiet (fail)
  go_wp2
  go_ret
  exact ⟨rfl, since_drewN (World.Since.refl _ _) _⟩

set_option maxRecDepth 100000 in
set_option maxHeartbeats 2000000 in
theorem behind_any (n cap : Nat) (q : Int) (X : Nat → Nat → Int) (a : Option Addr) (l : List (List Int)) (w : World) (hn : l.length = n) (hT : Rec l) (hw : (l.getD 0 []).length = n) (hq : q ≠ 0) (hX : ∀ i k, i + 1 < n → k + 1 < n → chio (at2 l) i k = q * X i k) (hXb : ∀ i k, i + 1 < n → k + 1 < n → -4611686018427387904 ≤ X i k ∧ X i k ≤ 4611686018427387904)
    (hb : 2 ≤ n → ∀ i j, i < n → j < n → -1944000000 ≤ at2 l i j ∧ at2 l i j ≤ 1944000000) (hm : MatR w a l) :
    Calls Try.prog 108 #[.slice a n cap, .int .i64 q] w fun e w' => e = .returned (.slice (some ⟨w.heap.size + 1 + 1, 0, none⟩) (n - 1) (n - 1)) ∧ w.Since w.heap.size w' ∧ OwnT w.heap.size w'.heap.size w' (some ⟨w.heap.size + 1 + 1, 0, none⟩) (tabF (n - 1) (n - 1) X) := by
  have h6 := hT.high
  have h1 := hT.low
  rw [hn] at h6 h1
  have hnt := fun (W : World) (hs : w.Since w.heap.size W) (hb0 : W.cell? ⟨w.heap.size, 0, none⟩ = some (.slice a n cap)) (hb1 : W.cell? ⟨w.heap.size + 1, 0, none⟩ = some (.int .i64 q)) =>
    newTable_any 118 #[.pointer (some ⟨w.heap.size, 0, none⟩), .pointer (some ⟨w.heap.size + 1, 0, none⟩)] (n - 1) (n - 1) X W (by omega) (by omega) (enters_of Try.func118 (by kernel_rfl) rfl)
      (fun W' i k hs' hi hk => behindEntry_any w.heap.size (w.heap.size + 1) i k n cap q (X i k) a l W' hn hT hw hq (hX i k (by omega) (by omega)) (hXb i k (by omega) (by omega)) (hb (by omega)) ((hs'.cell (a := ⟨w.heap.size, 0, none⟩) (World.block_lt_of_cell? _ _ hb0)).trans hb0) ((hs'.cell (a := ⟨w.heap.size + 1, 0, none⟩) (World.block_lt_of_cell? _ _ hb1)).trans hb1) (hm.since (hs.trans (since_mono hs' hs.size))) (by omega) (by omega))
  have HS1 := Lib.hid (show w.Since w.heap.size ((w.alloc (.cells #[.slice a n cap] 42)).alloc (.cells #[.int .i64 q] 3)) from (((World.Since.refl _ _).alloc (Nat.le_refl _) _).alloc (by simp) _))
  have hc0 := cell_new_l w (.slice a n cap) 42
  have hc1 := cell_new_l (w.alloc (.cells #[.slice a n cap] 42)) (.int .i64 q) 3
  simp only [World.size_alloc] at hc1
  have hcb0 : ((w.alloc (.cells #[.slice a n cap] 42)).alloc (.cells #[.int .i64 q] 3)).cell? ⟨w.heap.size, 0, none⟩ = some (.slice a n cap) := cell_alloc_l _ hc0.1
  have hcb1 := hc1.1
  have E := hnt _ HS1.out hcb0 hcb1
  have hz : ((w.alloc (.cells #[.slice a n cap] 42)).alloc (.cells #[.int .i64 q] 3)).heap.size = w.heap.size + 1 + 1 := by simp
  rw [hz] at E
  obtain ⟨m, hmm⟩ : ∃ m, n - 1 = m := ⟨_, rfl⟩
  have hnm : (n : Int) - 1 = (m : Int) := by omega
  rw [hmm] at E ⊢
  replace E := Lib.hid E
  clear hnt hm hT hn hc0 hc1 hw hq hX hXb hb hcb0 hcb1 hmm hz
  go_enter Try.func108, Try.ntmps108
  go_wp2_with fail
  refine (E.out).mono ?_
  rintro e w1 ⟨rfl, hs2, ho⟩
  go_wp2
  go_ret
  exact ⟨rfl, HS1.out.trans (since_mono hs2 (by omega)), ho.mono (by omega) (Nat.le_refl _)⟩

end Go.Proofs.Ytlgjplhffpmfpaa
