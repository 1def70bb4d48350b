/- Halves squared are values: the pure side. -/
import Derived.Test.YtpimdgijjljejaaDoorHalfF
import Derived.Test.YtpimdgijjljejaaDoorOrdDet
namespace Go.Proofs.YtpimdgijjljejaaDoor
open Go.RowKit Go.Deep

theorem popc_two : ∀ s : Fin 64, ∀ k : Fin 6, s.val ≠ 0 → lowB s.val < k.val → s.val.testBit k.val = true → popcS (s.val - 2 ^ lowB s.val - 2 ^ k.val) + 2 = popcS s.val ∧ s.val - 2 ^ lowB s.val - 2 ^ k.val < 64 := by decide +kernel
theorem popc_zero0 : popcS 0 = 0 := by decide
theorem half_odd (l : List (List Int)) {n : Nat} (hn : n ≤ 6) : ∀ d s, s < 64 → popcS s % 2 = 1 → halfF l n d s = 0
  | 0, s, _, h => by
    have h0 : s ≠ 0 := fun e => by rw [e, popc_zero0] at h; omega
    unfold halfF; rw [if_neg h0]
  | d + 1, s, hs, h => by
    have h0 : s ≠ 0 := fun e => by rw [e, popc_zero0] at h; omega
    rw [halfF_some l n d h0]
    refine sumN_none n fun k hk => ?_
    by_cases h1 : lowB s < k ∧ s.testBit k = true
    · obtain ⟨e1, e2⟩ := popc_two ⟨s, hs⟩ ⟨k, by omega⟩ h0 h1.1 h1.2
      simp only at e1 e2
      rw [halfT_yes _ h1.1 h1.2, half_odd l hn d _ e2 (by omega), Int.mul_zero]
      unfold sg; split <;> rfl
    · exact halfT_no _ h1

theorem half_two (l : List (List Int)) : halfF l 2 3 3 = at2 l 0 1 := by
  simp (decide := true) [halfF, sumN, halfT, lowB, sg]
theorem half_four (l : List (List Int)) : halfF l 4 3 15 = at2 l 0 1 * at2 l 2 3 - at2 l 0 2 * at2 l 1 3 + at2 l 0 3 * at2 l 1 2 := by
  simp (decide := true) [halfF, sumN, halfT, lowB, sg]
  grind
/-- The half of four numbers. -/
def h4 (a b c d e f : Int) : Int := a * f - b * e + c * d
theorem half_six (l : List (List Int)) : halfF l 6 3 63 =
    at2 l 0 1 * h4 (at2 l 2 3) (at2 l 2 4) (at2 l 2 5) (at2 l 3 4) (at2 l 3 5) (at2 l 4 5)
    - at2 l 0 2 * h4 (at2 l 1 3) (at2 l 1 4) (at2 l 1 5) (at2 l 3 4) (at2 l 3 5) (at2 l 4 5)
    + at2 l 0 3 * h4 (at2 l 1 2) (at2 l 1 4) (at2 l 1 5) (at2 l 2 4) (at2 l 2 5) (at2 l 4 5)
    - at2 l 0 4 * h4 (at2 l 1 2) (at2 l 1 3) (at2 l 1 5) (at2 l 2 3) (at2 l 2 5) (at2 l 3 5)
    + at2 l 0 5 * h4 (at2 l 1 2) (at2 l 1 3) (at2 l 1 4) (at2 l 2 3) (at2 l 2 4) (at2 l 3 4) := by
  simp (decide := true) [halfF, sumN, halfT, lowB, sg]
  unfold h4
  grind

theorem dtq_three (f : Nat → Nat → Int) : dt 3 f = f 0 0 * (f 1 1 * f 2 2 - f 1 2 * f 2 1) - f 0 1 * (f 1 0 * f 2 2 - f 1 2 * f 2 0) + f 0 2 * (f 1 0 * f 2 1 - f 1 1 * f 2 0) := by
  rw [dt_succ]; simp only [sumN, dt_two, dr]; simp [skip, sn]; grind
theorem dtq_four (f : Nat → Nat → Int) : dt 4 f = f 0 0 * dt 3 (dr 0 f) - f 0 1 * dt 3 (dr 1 f) + f 0 2 * dt 3 (dr 2 f) - f 0 3 * dt 3 (dr 3 f) := by
  rw [dt_succ]; simp [sumN, sn]; omega
theorem dtq_five (f : Nat → Nat → Int) : dt 5 f = f 0 0 * dt 4 (dr 0 f) - f 0 1 * dt 4 (dr 1 f) + f 0 2 * dt 4 (dr 2 f) - f 0 3 * dt 4 (dr 3 f) + f 0 4 * dt 4 (dr 4 f) := by
  rw [dt_succ]; simp [sumN, sn]; omega
/-- Turned about, with 0 in the middle. -/
def Skew (n : Nat) (f : Nat → Nat → Int) : Prop := ∀ i j, i < n → j < n → f i j = -f j i
theorem skew_mid {n : Nat} {f : Nat → Nat → Int} (h : Skew n f) {i : Nat} (hi : i < n) : f i i = 0 := by have := h i i hi hi; omega
theorem det_two {f : Nat → Nat → Int} (h : Skew 2 f) : dt 2 f = f 0 1 * f 0 1 := by
  rw [dt_two, skew_mid h (i := 0) (by omega), h 1 0 (by omega) (by omega)]
  grind
theorem det_four {f : Nat → Nat → Int} (h : Skew 4 f) : dt 4 f = h4 (f 0 1) (f 0 2) (f 0 3) (f 1 2) (f 1 3) (f 2 3) * h4 (f 0 1) (f 0 2) (f 0 3) (f 1 2) (f 1 3) (f 2 3) := by
  rw [dtq_four]
  simp only [dtq_three, dr, skip]
  simp only [Nat.reduceAdd, Nat.reduceLT, if_true, if_false, Nat.lt_irrefl, Nat.zero_add]
  simp only [h 1 0 (by omega) (by omega), h 2 0 (by omega) (by omega), h 2 1 (by omega) (by omega), h 3 0 (by omega) (by omega), h 3 1 (by omega) (by omega), h 3 2 (by omega) (by omega), skew_mid h (show 0 < 4 by omega), skew_mid h (show 1 < 4 by omega), skew_mid h (show 2 < 4 by omega), skew_mid h (show 3 < 4 by omega)]
  unfold h4
  grind
/-- The half without one of five numbers. -/
def pf5 (g : Nat → Nat → Int) (p : Nat) : Int := h4 (g (skip p 0) (skip p 1)) (g (skip p 0) (skip p 2)) (g (skip p 0) (skip p 3)) (g (skip p 1) (skip p 2)) (g (skip p 1) (skip p 3)) (g (skip p 2) (skip p 3))
theorem min5_00 {g : Nat → Nat → Int} (h : Skew 5 g) : dt 4 (fun r j => g (skip 0 r) (skip 0 j)) = pf5 g 0 * pf5 g 0 := by
  rw [dtq_four]
  simp only [dtq_three, dr, skip, pf5]
  simp only [Nat.reduceAdd, Nat.reduceLT, if_true, if_false, Nat.lt_irrefl, Nat.zero_add]
  simp only [h 2 1 (by omega) (by omega), h 3 1 (by omega) (by omega), h 3 2 (by omega) (by omega), h 4 1 (by omega) (by omega), h 4 2 (by omega) (by omega), h 4 3 (by omega) (by omega), skew_mid h (show 1 < 5 by omega), skew_mid h (show 2 < 5 by omega), skew_mid h (show 3 < 5 by omega), skew_mid h (show 4 < 5 by omega)]
  unfold h4
  grind
theorem min5_01 {g : Nat → Nat → Int} (h : Skew 5 g) : dt 4 (fun r j => g (skip 0 r) (skip 1 j)) = pf5 g 0 * pf5 g 1 := by
  rw [dtq_four]
  simp only [dtq_three, dr, skip, pf5]
  simp only [Nat.reduceAdd, Nat.reduceLT, if_true, if_false, Nat.lt_irrefl, Nat.zero_add]
  simp only [h 1 0 (by omega) (by omega), h 2 0 (by omega) (by omega), h 3 0 (by omega) (by omega), h 3 2 (by omega) (by omega), h 4 0 (by omega) (by omega), h 4 2 (by omega) (by omega), h 4 3 (by omega) (by omega), skew_mid h (show 2 < 5 by omega), skew_mid h (show 3 < 5 by omega), skew_mid h (show 4 < 5 by omega)]
  unfold h4
  grind
theorem min5_02 {g : Nat → Nat → Int} (h : Skew 5 g) : dt 4 (fun r j => g (skip 0 r) (skip 2 j)) = pf5 g 0 * pf5 g 2 := by
  rw [dtq_four]
  simp only [dtq_three, dr, skip, pf5]
  simp only [Nat.reduceAdd, Nat.reduceLT, if_true, if_false, Nat.lt_irrefl, Nat.zero_add]
  simp only [h 1 0 (by omega) (by omega), h 2 0 (by omega) (by omega), h 2 1 (by omega) (by omega), h 3 0 (by omega) (by omega), h 3 1 (by omega) (by omega), h 4 0 (by omega) (by omega), h 4 1 (by omega) (by omega), h 4 3 (by omega) (by omega), skew_mid h (show 1 < 5 by omega), skew_mid h (show 3 < 5 by omega), skew_mid h (show 4 < 5 by omega)]
  unfold h4
  grind
theorem min5_03 {g : Nat → Nat → Int} (h : Skew 5 g) : dt 4 (fun r j => g (skip 0 r) (skip 3 j)) = pf5 g 0 * pf5 g 3 := by
  rw [dtq_four]
  simp only [dtq_three, dr, skip, pf5]
  simp only [Nat.reduceAdd, Nat.reduceLT, if_true, if_false, Nat.lt_irrefl, Nat.zero_add]
  simp only [h 1 0 (by omega) (by omega), h 2 0 (by omega) (by omega), h 2 1 (by omega) (by omega), h 3 0 (by omega) (by omega), h 3 1 (by omega) (by omega), h 3 2 (by omega) (by omega), h 4 0 (by omega) (by omega), h 4 1 (by omega) (by omega), h 4 2 (by omega) (by omega), skew_mid h (show 1 < 5 by omega), skew_mid h (show 2 < 5 by omega), skew_mid h (show 4 < 5 by omega)]
  unfold h4
  grind
theorem min5_04 {g : Nat → Nat → Int} (h : Skew 5 g) : dt 4 (fun r j => g (skip 0 r) (skip 4 j)) = pf5 g 0 * pf5 g 4 := by
  rw [dtq_four]
  simp only [dtq_three, dr, skip, pf5]
  simp only [Nat.reduceAdd, Nat.reduceLT, if_true, if_false, Nat.lt_irrefl, Nat.zero_add]
  simp only [h 1 0 (by omega) (by omega), h 2 0 (by omega) (by omega), h 2 1 (by omega) (by omega), h 3 0 (by omega) (by omega), h 3 1 (by omega) (by omega), h 3 2 (by omega) (by omega), h 4 0 (by omega) (by omega), h 4 1 (by omega) (by omega), h 4 2 (by omega) (by omega), h 4 3 (by omega) (by omega), skew_mid h (show 1 < 5 by omega), skew_mid h (show 2 < 5 by omega), skew_mid h (show 3 < 5 by omega)]
  unfold h4
  grind
theorem min5_10 {g : Nat → Nat → Int} (h : Skew 5 g) : dt 4 (fun r j => g (skip 1 r) (skip 0 j)) = pf5 g 1 * pf5 g 0 := by
  rw [dtq_four]
  simp only [dtq_three, dr, skip, pf5]
  simp only [Nat.reduceAdd, Nat.reduceLT, if_true, if_false, Nat.lt_irrefl, Nat.zero_add]
  simp only [h 2 1 (by omega) (by omega), h 3 1 (by omega) (by omega), h 3 2 (by omega) (by omega), h 4 1 (by omega) (by omega), h 4 2 (by omega) (by omega), h 4 3 (by omega) (by omega), skew_mid h (show 2 < 5 by omega), skew_mid h (show 3 < 5 by omega), skew_mid h (show 4 < 5 by omega)]
  unfold h4
  grind
theorem min5_11 {g : Nat → Nat → Int} (h : Skew 5 g) : dt 4 (fun r j => g (skip 1 r) (skip 1 j)) = pf5 g 1 * pf5 g 1 := by
  rw [dtq_four]
  simp only [dtq_three, dr, skip, pf5]
  simp only [Nat.reduceAdd, Nat.reduceLT, if_true, if_false, Nat.lt_irrefl, Nat.zero_add]
  simp only [h 2 0 (by omega) (by omega), h 3 0 (by omega) (by omega), h 3 2 (by omega) (by omega), h 4 0 (by omega) (by omega), h 4 2 (by omega) (by omega), h 4 3 (by omega) (by omega), skew_mid h (show 0 < 5 by omega), skew_mid h (show 2 < 5 by omega), skew_mid h (show 3 < 5 by omega), skew_mid h (show 4 < 5 by omega)]
  unfold h4
  grind
theorem min5_12 {g : Nat → Nat → Int} (h : Skew 5 g) : dt 4 (fun r j => g (skip 1 r) (skip 2 j)) = pf5 g 1 * pf5 g 2 := by
  rw [dtq_four]
  simp only [dtq_three, dr, skip, pf5]
  simp only [Nat.reduceAdd, Nat.reduceLT, if_true, if_false, Nat.lt_irrefl, Nat.zero_add]
  simp only [h 2 0 (by omega) (by omega), h 2 1 (by omega) (by omega), h 3 0 (by omega) (by omega), h 3 1 (by omega) (by omega), h 4 0 (by omega) (by omega), h 4 1 (by omega) (by omega), h 4 3 (by omega) (by omega), skew_mid h (show 0 < 5 by omega), skew_mid h (show 3 < 5 by omega), skew_mid h (show 4 < 5 by omega)]
  unfold h4
  grind
theorem min5_13 {g : Nat → Nat → Int} (h : Skew 5 g) : dt 4 (fun r j => g (skip 1 r) (skip 3 j)) = pf5 g 1 * pf5 g 3 := by
  rw [dtq_four]
  simp only [dtq_three, dr, skip, pf5]
  simp only [Nat.reduceAdd, Nat.reduceLT, if_true, if_false, Nat.lt_irrefl, Nat.zero_add]
  simp only [h 2 0 (by omega) (by omega), h 2 1 (by omega) (by omega), h 3 0 (by omega) (by omega), h 3 1 (by omega) (by omega), h 3 2 (by omega) (by omega), h 4 0 (by omega) (by omega), h 4 1 (by omega) (by omega), h 4 2 (by omega) (by omega), skew_mid h (show 0 < 5 by omega), skew_mid h (show 2 < 5 by omega), skew_mid h (show 4 < 5 by omega)]
  unfold h4
  grind
theorem min5_14 {g : Nat → Nat → Int} (h : Skew 5 g) : dt 4 (fun r j => g (skip 1 r) (skip 4 j)) = pf5 g 1 * pf5 g 4 := by
  rw [dtq_four]
  simp only [dtq_three, dr, skip, pf5]
  simp only [Nat.reduceAdd, Nat.reduceLT, if_true, if_false, Nat.lt_irrefl, Nat.zero_add]
  simp only [h 2 0 (by omega) (by omega), h 2 1 (by omega) (by omega), h 3 0 (by omega) (by omega), h 3 1 (by omega) (by omega), h 3 2 (by omega) (by omega), h 4 0 (by omega) (by omega), h 4 1 (by omega) (by omega), h 4 2 (by omega) (by omega), h 4 3 (by omega) (by omega), skew_mid h (show 0 < 5 by omega), skew_mid h (show 2 < 5 by omega), skew_mid h (show 3 < 5 by omega)]
  unfold h4
  grind
theorem min5_20 {g : Nat → Nat → Int} (h : Skew 5 g) : dt 4 (fun r j => g (skip 2 r) (skip 0 j)) = pf5 g 2 * pf5 g 0 := by
  rw [dtq_four]
  simp only [dtq_three, dr, skip, pf5]
  simp only [Nat.reduceAdd, Nat.reduceLT, if_true, if_false, Nat.lt_irrefl, Nat.zero_add]
  simp only [h 3 1 (by omega) (by omega), h 3 2 (by omega) (by omega), h 4 1 (by omega) (by omega), h 4 2 (by omega) (by omega), h 4 3 (by omega) (by omega), skew_mid h (show 1 < 5 by omega), skew_mid h (show 3 < 5 by omega), skew_mid h (show 4 < 5 by omega)]
  unfold h4
  grind
theorem min5_21 {g : Nat → Nat → Int} (h : Skew 5 g) : dt 4 (fun r j => g (skip 2 r) (skip 1 j)) = pf5 g 2 * pf5 g 1 := by
  rw [dtq_four]
  simp only [dtq_three, dr, skip, pf5]
  simp only [Nat.reduceAdd, Nat.reduceLT, if_true, if_false, Nat.lt_irrefl, Nat.zero_add]
  simp only [h 1 0 (by omega) (by omega), h 3 0 (by omega) (by omega), h 3 2 (by omega) (by omega), h 4 0 (by omega) (by omega), h 4 2 (by omega) (by omega), h 4 3 (by omega) (by omega), skew_mid h (show 0 < 5 by omega), skew_mid h (show 3 < 5 by omega), skew_mid h (show 4 < 5 by omega)]
  unfold h4
  grind
theorem min5_22 {g : Nat → Nat → Int} (h : Skew 5 g) : dt 4 (fun r j => g (skip 2 r) (skip 2 j)) = pf5 g 2 * pf5 g 2 := by
  rw [dtq_four]
  simp only [dtq_three, dr, skip, pf5]
  simp only [Nat.reduceAdd, Nat.reduceLT, if_true, if_false, Nat.lt_irrefl, Nat.zero_add]
  simp only [h 1 0 (by omega) (by omega), h 3 0 (by omega) (by omega), h 3 1 (by omega) (by omega), h 4 0 (by omega) (by omega), h 4 1 (by omega) (by omega), h 4 3 (by omega) (by omega), skew_mid h (show 0 < 5 by omega), skew_mid h (show 1 < 5 by omega), skew_mid h (show 3 < 5 by omega), skew_mid h (show 4 < 5 by omega)]
  unfold h4
  grind
theorem min5_23 {g : Nat → Nat → Int} (h : Skew 5 g) : dt 4 (fun r j => g (skip 2 r) (skip 3 j)) = pf5 g 2 * pf5 g 3 := by
  rw [dtq_four]
  simp only [dtq_three, dr, skip, pf5]
  simp only [Nat.reduceAdd, Nat.reduceLT, if_true, if_false, Nat.lt_irrefl, Nat.zero_add]
  simp only [h 1 0 (by omega) (by omega), h 3 0 (by omega) (by omega), h 3 1 (by omega) (by omega), h 3 2 (by omega) (by omega), h 4 0 (by omega) (by omega), h 4 1 (by omega) (by omega), h 4 2 (by omega) (by omega), skew_mid h (show 0 < 5 by omega), skew_mid h (show 1 < 5 by omega), skew_mid h (show 4 < 5 by omega)]
  unfold h4
  grind
theorem min5_24 {g : Nat → Nat → Int} (h : Skew 5 g) : dt 4 (fun r j => g (skip 2 r) (skip 4 j)) = pf5 g 2 * pf5 g 4 := by
  rw [dtq_four]
  simp only [dtq_three, dr, skip, pf5]
  simp only [Nat.reduceAdd, Nat.reduceLT, if_true, if_false, Nat.lt_irrefl, Nat.zero_add]
  simp only [h 1 0 (by omega) (by omega), h 3 0 (by omega) (by omega), h 3 1 (by omega) (by omega), h 3 2 (by omega) (by omega), h 4 0 (by omega) (by omega), h 4 1 (by omega) (by omega), h 4 2 (by omega) (by omega), h 4 3 (by omega) (by omega), skew_mid h (show 0 < 5 by omega), skew_mid h (show 1 < 5 by omega), skew_mid h (show 3 < 5 by omega)]
  unfold h4
  grind
theorem min5_30 {g : Nat → Nat → Int} (h : Skew 5 g) : dt 4 (fun r j => g (skip 3 r) (skip 0 j)) = pf5 g 3 * pf5 g 0 := by
  rw [dtq_four]
  simp only [dtq_three, dr, skip, pf5]
  simp only [Nat.reduceAdd, Nat.reduceLT, if_true, if_false, Nat.lt_irrefl, Nat.zero_add]
  simp only [h 2 1 (by omega) (by omega), h 4 1 (by omega) (by omega), h 4 2 (by omega) (by omega), h 4 3 (by omega) (by omega), skew_mid h (show 1 < 5 by omega), skew_mid h (show 2 < 5 by omega), skew_mid h (show 4 < 5 by omega)]
  unfold h4
  grind
theorem min5_31 {g : Nat → Nat → Int} (h : Skew 5 g) : dt 4 (fun r j => g (skip 3 r) (skip 1 j)) = pf5 g 3 * pf5 g 1 := by
  rw [dtq_four]
  simp only [dtq_three, dr, skip, pf5]
  simp only [Nat.reduceAdd, Nat.reduceLT, if_true, if_false, Nat.lt_irrefl, Nat.zero_add]
  simp only [h 1 0 (by omega) (by omega), h 2 0 (by omega) (by omega), h 4 0 (by omega) (by omega), h 4 2 (by omega) (by omega), h 4 3 (by omega) (by omega), skew_mid h (show 0 < 5 by omega), skew_mid h (show 2 < 5 by omega), skew_mid h (show 4 < 5 by omega)]
  unfold h4
  grind
theorem min5_32 {g : Nat → Nat → Int} (h : Skew 5 g) : dt 4 (fun r j => g (skip 3 r) (skip 2 j)) = pf5 g 3 * pf5 g 2 := by
  rw [dtq_four]
  simp only [dtq_three, dr, skip, pf5]
  simp only [Nat.reduceAdd, Nat.reduceLT, if_true, if_false, Nat.lt_irrefl, Nat.zero_add]
  simp only [h 1 0 (by omega) (by omega), h 2 0 (by omega) (by omega), h 2 1 (by omega) (by omega), h 4 0 (by omega) (by omega), h 4 1 (by omega) (by omega), h 4 3 (by omega) (by omega), skew_mid h (show 0 < 5 by omega), skew_mid h (show 1 < 5 by omega), skew_mid h (show 4 < 5 by omega)]
  unfold h4
  grind
theorem min5_33 {g : Nat → Nat → Int} (h : Skew 5 g) : dt 4 (fun r j => g (skip 3 r) (skip 3 j)) = pf5 g 3 * pf5 g 3 := by
  rw [dtq_four]
  simp only [dtq_three, dr, skip, pf5]
  simp only [Nat.reduceAdd, Nat.reduceLT, if_true, if_false, Nat.lt_irrefl, Nat.zero_add]
  simp only [h 1 0 (by omega) (by omega), h 2 0 (by omega) (by omega), h 2 1 (by omega) (by omega), h 4 0 (by omega) (by omega), h 4 1 (by omega) (by omega), h 4 2 (by omega) (by omega), skew_mid h (show 0 < 5 by omega), skew_mid h (show 1 < 5 by omega), skew_mid h (show 2 < 5 by omega), skew_mid h (show 4 < 5 by omega)]
  unfold h4
  grind
theorem min5_34 {g : Nat → Nat → Int} (h : Skew 5 g) : dt 4 (fun r j => g (skip 3 r) (skip 4 j)) = pf5 g 3 * pf5 g 4 := by
  rw [dtq_four]
  simp only [dtq_three, dr, skip, pf5]
  simp only [Nat.reduceAdd, Nat.reduceLT, if_true, if_false, Nat.lt_irrefl, Nat.zero_add]
  simp only [h 1 0 (by omega) (by omega), h 2 0 (by omega) (by omega), h 2 1 (by omega) (by omega), h 4 0 (by omega) (by omega), h 4 1 (by omega) (by omega), h 4 2 (by omega) (by omega), h 4 3 (by omega) (by omega), skew_mid h (show 0 < 5 by omega), skew_mid h (show 1 < 5 by omega), skew_mid h (show 2 < 5 by omega)]
  unfold h4
  grind
theorem min5_40 {g : Nat → Nat → Int} (h : Skew 5 g) : dt 4 (fun r j => g (skip 4 r) (skip 0 j)) = pf5 g 4 * pf5 g 0 := by
  rw [dtq_four]
  simp only [dtq_three, dr, skip, pf5]
  simp only [Nat.reduceAdd, Nat.reduceLT, if_true, if_false, Nat.lt_irrefl, Nat.zero_add]
  simp only [h 2 1 (by omega) (by omega), h 3 1 (by omega) (by omega), h 3 2 (by omega) (by omega), skew_mid h (show 1 < 5 by omega), skew_mid h (show 2 < 5 by omega), skew_mid h (show 3 < 5 by omega)]
  unfold h4
  grind
theorem min5_41 {g : Nat → Nat → Int} (h : Skew 5 g) : dt 4 (fun r j => g (skip 4 r) (skip 1 j)) = pf5 g 4 * pf5 g 1 := by
  rw [dtq_four]
  simp only [dtq_three, dr, skip, pf5]
  simp only [Nat.reduceAdd, Nat.reduceLT, if_true, if_false, Nat.lt_irrefl, Nat.zero_add]
  simp only [h 1 0 (by omega) (by omega), h 2 0 (by omega) (by omega), h 3 0 (by omega) (by omega), h 3 2 (by omega) (by omega), skew_mid h (show 0 < 5 by omega), skew_mid h (show 2 < 5 by omega), skew_mid h (show 3 < 5 by omega)]
  unfold h4
  grind
theorem min5_42 {g : Nat → Nat → Int} (h : Skew 5 g) : dt 4 (fun r j => g (skip 4 r) (skip 2 j)) = pf5 g 4 * pf5 g 2 := by
  rw [dtq_four]
  simp only [dtq_three, dr, skip, pf5]
  simp only [Nat.reduceAdd, Nat.reduceLT, if_true, if_false, Nat.lt_irrefl, Nat.zero_add]
  simp only [h 1 0 (by omega) (by omega), h 2 0 (by omega) (by omega), h 2 1 (by omega) (by omega), h 3 0 (by omega) (by omega), h 3 1 (by omega) (by omega), skew_mid h (show 0 < 5 by omega), skew_mid h (show 1 < 5 by omega), skew_mid h (show 3 < 5 by omega)]
  unfold h4
  grind
theorem min5_43 {g : Nat → Nat → Int} (h : Skew 5 g) : dt 4 (fun r j => g (skip 4 r) (skip 3 j)) = pf5 g 4 * pf5 g 3 := by
  rw [dtq_four]
  simp only [dtq_three, dr, skip, pf5]
  simp only [Nat.reduceAdd, Nat.reduceLT, if_true, if_false, Nat.lt_irrefl, Nat.zero_add]
  simp only [h 1 0 (by omega) (by omega), h 2 0 (by omega) (by omega), h 2 1 (by omega) (by omega), h 3 0 (by omega) (by omega), h 3 1 (by omega) (by omega), h 3 2 (by omega) (by omega), skew_mid h (show 0 < 5 by omega), skew_mid h (show 1 < 5 by omega), skew_mid h (show 2 < 5 by omega)]
  unfold h4
  grind
theorem min5_44 {g : Nat → Nat → Int} (h : Skew 5 g) : dt 4 (fun r j => g (skip 4 r) (skip 4 j)) = pf5 g 4 * pf5 g 4 := by
  rw [dtq_four]
  simp only [dtq_three, dr, skip, pf5]
  simp only [Nat.reduceAdd, Nat.reduceLT, if_true, if_false, Nat.lt_irrefl, Nat.zero_add]
  simp only [h 1 0 (by omega) (by omega), h 2 0 (by omega) (by omega), h 2 1 (by omega) (by omega), h 3 0 (by omega) (by omega), h 3 1 (by omega) (by omega), h 3 2 (by omega) (by omega), skew_mid h (show 0 < 5 by omega), skew_mid h (show 1 < 5 by omega), skew_mid h (show 2 < 5 by omega), skew_mid h (show 3 < 5 by omega)]
  unfold h4
  grind
theorem min5 {g : Nat → Nat → Int} (h : Skew 5 g) : ∀ p q, p < 5 → q < 5 → dt 4 (fun r j => g (skip p r) (skip q j)) = pf5 g p * pf5 g q
  | 0, 0, _, _ => min5_00 h
  | 0, 1, _, _ => min5_01 h
  | 0, 2, _, _ => min5_02 h
  | 0, 3, _, _ => min5_03 h
  | 0, 4, _, _ => min5_04 h
  | 1, 0, _, _ => min5_10 h
  | 1, 1, _, _ => min5_11 h
  | 1, 2, _, _ => min5_12 h
  | 1, 3, _, _ => min5_13 h
  | 1, 4, _, _ => min5_14 h
  | 2, 0, _, _ => min5_20 h
  | 2, 1, _, _ => min5_21 h
  | 2, 2, _, _ => min5_22 h
  | 2, 3, _, _ => min5_23 h
  | 2, 4, _, _ => min5_24 h
  | 3, 0, _, _ => min5_30 h
  | 3, 1, _, _ => min5_31 h
  | 3, 2, _, _ => min5_32 h
  | 3, 3, _, _ => min5_33 h
  | 3, 4, _, _ => min5_34 h
  | 4, 0, _, _ => min5_40 h
  | 4, 1, _, _ => min5_41 h
  | 4, 2, _, _ => min5_42 h
  | 4, 3, _, _ => min5_43 h
  | 4, 4, _, _ => min5_44 h
  | _ + 5, _, h1, _ => by omega
  | _, _ + 5, _, h2 => by omega
theorem det_six {f : Nat → Nat → Int} (h : Skew 6 f) : dt 6 f = sumN (fun k => sn k * (f 0 (k + 1) * pf5 (fun i j => f (i + 1) (j + 1)) k)) 5 * sumN (fun k => sn k * (f 0 (k + 1) * pf5 (fun i j => f (i + 1) (j + 1)) k)) 5 := by
  have hg : Skew 5 (fun i j => f (i + 1) (j + 1)) := fun i j hi hj => h (i + 1) (j + 1) (by omega) (by omega)
  rw [dt_succ, sumN_first, skew_mid h (show 0 < 6 by omega), Int.zero_mul, Int.mul_zero, Int.zero_add]
  have hk : ∀ k, k < 5 → sn (k + 1) * (f 0 (k + 1) * dt 5 (dr (k + 1) f)) = sumN (fun k => sn k * (f 0 (k + 1) * pf5 (fun i j => f (i + 1) (j + 1)) k)) 5 * (sn k * (f 0 (k + 1) * pf5 (fun i j => f (i + 1) (j + 1)) k)) := fun k hk5 => by
    rw [dt_col 4 (dr (k + 1) f)]
    have e : ∀ i, i < 5 → sn i * (dr (k + 1) f i 0 * dt 4 (fun r j => dr (k + 1) f (skip i r) (j + 1))) = -(pf5 (fun i j => f (i + 1) (j + 1)) k) * (sn i * (f 0 (i + 1) * pf5 (fun i j => f (i + 1) (j + 1)) i)) := fun i hi => by
      have e1 : dr (k + 1) f i 0 = f (i + 1) 0 := by unfold dr; rw [skip_lt (by omega)]
      have e2 : dt 4 (fun r j => dr (k + 1) f (skip i r) (j + 1)) = dt 4 (fun r j => (fun i j => f (i + 1) (j + 1)) (skip i r) (skip k j)) := dt_congr 4 (fun r j _ _ => by unfold dr; rw [skip_succ])
      rw [e1, e2, min5 hg i k hi hk5, h (i + 1) 0 (by omega) (by omega)]
      grind
    rw [sumN_congr 5 e, sumN_mul, sn_succ]
    grind
  rw [sumN_congr 5 hk]
  exact sumN_mul _ _ _
theorem dt_neg : ∀ (n : Nat) (f : Nat → Nat → Int), dt n (fun i j => -f i j) = sn n * dt n f
  | 0, _ => by rw [dt_zero, dt_zero]; rfl
  | n + 1, f => by
    rw [dt_succ, dt_succ, ← sumN_mul]
    refine sumN_congr _ fun k _ => ?_
    rw [show dr k (fun i j => -f i j) = fun i j => -(dr k f i j) from rfl, dt_neg n, sn_succ]
    grind
theorem det_odd {n : Nat} {f : Nat → Nat → Int} (h : Skew n f) (hn : n % 2 = 1) : dt n f = 0 := by
  have h1 := dt_turn n f
  rw [dt_congr n (f := fun i j => f j i) (g := fun i j => -f i j) (fun i j hi hj => h j i hj hi), dt_neg] at h1
  have h2 : sn n = -1 := by unfold sn; rw [if_pos hn]
  rw [h2] at h1
  omega
theorem popc_allH : ∀ n : Fin 7, popcS (2 ^ n.val - 1) = n.val := by decide
/-- Halves squared are values. -/
theorem half_sq (l : List (List Int)) {n : Nat} (h1 : 1 ≤ n) (h6 : n ≤ 6) (h : Skew n (at2 l)) : dt n (at2 l) = halfF l n 3 (2 ^ n - 1) * halfF l n 3 (2 ^ n - 1) ∧ (n % 2 = 1 → halfF l n 3 (2 ^ n - 1) = 0) := by
  have ho : n % 2 = 1 → halfF l n 3 (2 ^ n - 1) = 0 := fun hn => by
    have hp := popc_allH ⟨n, by omega⟩
    simp only at hp
    have p : 2 ^ n ≤ 2 ^ 6 := Nat.pow_le_pow_right (by omega) h6
    exact half_odd l h6 3 _ (by omega) (by rw [hp]; exact hn)
  refine ⟨?_, ho⟩
  by_cases hn : n % 2 = 1
  · rw [ho hn, det_odd h hn]; rfl
  · have : n = 2 ∨ n = 4 ∨ n = 6 := by omega
    rcases this with rfl | rfl | rfl
    · rw [show 2 ^ 2 - 1 = 3 by decide, half_two, det_two h]
    · rw [show 2 ^ 4 - 1 = 15 by decide, half_four, det_four h]; rfl
    · rw [show 2 ^ 6 - 1 = 63 by decide, det_six h]
      have e : halfF l 6 3 63 = sumN (fun k => sn k * (at2 l 0 (k + 1) * pf5 (fun i j => at2 l (i + 1) (j + 1)) k)) 5 := by
        rw [half_six]
        simp [sumN, sn, pf5, skip]
        omega
      rw [e]

end Go.Proofs.YtpimdgijjljejaaDoor
