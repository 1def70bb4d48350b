/- Times, sums: what is so of tables. -/
import Derived.Test.YtenkafcdachlkaaBack
import Derived.Test.YtenkafcdachlkaaTimesSpec
import Derived.Test.YtenkafcdachlkaaSumSpec
namespace Go.Proofs.Ytenkafcdachlkaa
open Go.RowKit Go.Deep

theorem tabF_tab {n m : Nat} {f : Nat → Nat → Int} (hn : 1 ≤ n ∧ n ≤ 6) (hm : 1 ≤ m ∧ m ≤ 6) (h : ∀ i k, i < n → k < m → -30 ≤ f i k ∧ f i k ≤ 30) : TabIn (tabF n m f) := by
  refine ⟨by rw [tabF_length]; exact hn.1, by rw [tabF_length]; exact hn.2, fun r hr => ?_⟩
  rw [tabF_length] at hr
  refine ⟨by rw [tabF_len _ _ _ _ hr, tabF_len _ _ _ _ (by omega)], by rw [tabF_len _ _ _ _ hr]; exact hm.1, by rw [tabF_len _ _ _ _ hr]; exact hm.2, fun k hk => ?_⟩
  rw [tabF_len _ _ _ _ hr] at hk
  rw [tabF_at _ _ _ _ _ hr hk]
  exact h r k hr hk
theorem tab_bd {n m : Nat} {f : Nat → Nat → Int} (hn : 1 ≤ n) (h : TabIn (tabF n m f)) : ∀ i k, i < n → k < m → -30 ≤ f i k ∧ f i k ≤ 30 := by
  intro i k hi hk
  have h1 := h.at (i := i) (k := k) (by rw [tabF_length]; exact hi) (by rw [tabF_len _ _ _ _ (by omega)]; exact hk)
  have h2 : at2 (tabF n m f) i k = f i k := tabF_at _ _ _ _ _ hi hk
  rw [h2] at h1
  exact h1
theorem TabIn.sides {l : List (List Int)} (h : TabIn l) : (1 ≤ l.length ∧ l.length ≤ 6) ∧ (1 ≤ (l.getD 0 []).length ∧ (l.getD 0 []).length ≤ 6) := ⟨⟨h.1, h.2.1⟩, h.width⟩
theorem timesL_at {l : List (List Int)} {z : Int} {i k : Nat} (hi : i < l.length) (hk : k < (l.getD 0 []).length) : at2 (timesL l z) i k = at2 l i k * z := tabF_at _ _ _ _ _ hi hk
theorem timesL_width {l : List (List Int)} (z : Int) (h : 1 ≤ l.length) : ((timesL l z).getD 0 []).length = (l.getD 0 []).length := tabF_len _ _ _ _ (by omega)

theorem less_bd {x z : Int} (hz : 1 ≤ z) (h1 : -30 ≤ x * z) (h2 : x * z ≤ 30) : -30 ≤ x * (z - 1) ∧ x * (z - 1) ≤ 30 := by
  rw [Int.mul_sub, Int.mul_one]
  by_cases hx : 0 ≤ x
  · have := Int.mul_le_mul_of_nonneg_left hz hx
    rw [Int.mul_one] at this
    omega
  · have := Int.mul_le_mul_of_nonneg_left hz (show 0 ≤ -x by omega)
    rw [Int.mul_one, Int.neg_mul] at this
    omega

theorem timesOk_of {l : List (List Int)} {z : Int} (h : timesOk l z = true) : TabIn l ∧ (-30 ≤ z ∧ z ≤ 30) ∧ TabIn (timesL l z) := by
  unfold timesOk at h
  simp only [Bool.and_eq_true] at h
  exact ⟨tabIn_of h.1, of_decide_eq_true h.2.1, tabIn_of h.2.2⟩

theorem times_less {l : List (List Int)} {z : Int} (h : timesOk l z = true) (hz : 1 ≤ z) : timesOk l (z - 1) = true ∧ sumOk (timesL l (z - 1)) l = true ∧ sumL (timesL l (z - 1)) l = timesL l z := by
  obtain ⟨hT, hzb, hM⟩ := timesOk_of h
  have hs := hT.sides
  have hb := tab_bd hs.1.1 hM
  have hL : TabIn (timesL l (z - 1)) := tabF_tab hs.1 hs.2 fun i k hi hk => less_bd hz (hb i k hi hk).1 (hb i k hi hk).2
  have hin : inB (z - 1) (-30) 30 = true := by unfold inB; simp; omega
  have e : sumL (timesL l (z - 1)) l = timesL l z := by
    show tabF (timesL l (z - 1)).length ((timesL l (z - 1)).getD 0 []).length (fun i k => at2 (timesL l (z - 1)) i k + at2 l i k) = tabF l.length (l.getD 0 []).length fun i k => at2 l i k * z
    rw [timesL_length, timesL_width _ hs.1.1]
    refine tabF_congr fun i k hi hk => ?_
    rw [timesL_at hi hk, Int.mul_sub, Int.mul_one]
    omega
  refine ⟨?_, ?_, e⟩
  · unfold timesOk
    rw [tabIn_true hT, hin, tabIn_true hL]; rfl
  · unfold sumOk alikeB
    rw [e, tabIn_true hT, tabIn_true hL, tabIn_true hM, timesL_length, timesL_width _ hs.1.1]
    simp

end Go.Proofs.Ytenkafcdachlkaa
