/- The sum of the middle of a square turned, and of one times -1: the pure side. -/
import Derived.Test.YtkfondipmhjhjaaSpecOrders
import Derived.Test.YtkfondipmhjhjaaDet
import Derived.Test.YtkfondipmhjhjaaTimesImpl
import Derived.Test.YtkfondipmhjhjaaTurnSpec
namespace Go.Proofs.Ytkfondipmhjhjaa
open Go.RowKit Go.Deep

theorem trace_turn {l : List (List Int)} {n : Nat} (h : sqB l = true) (hn : l.length = n) : TabIn l ∧ (l.getD 0 []).length = n ∧ sqB (turnL l) = true ∧ (turnL l).length = n ∧ szL (turnL l) ≤ 1048576 ∧ sumN (trF (turnL l)) n = sumN (trF l) n := by
  obtain ⟨hT, hw⟩ := sqB_of h
  have hT2 := tabIn_turn hT
  have h1 := hT.1
  have e0 : ((turnL l).getD 0 []).length = l.length := tabF_len _ _ _ _ (by omega)
  refine ⟨hT, by omega, ?_, by rw [turnL_length]; omega, szL_turn hT, ?_⟩
  · unfold sqB; rw [hT2, e0, turnL_length, ← hw]; simp
  · exact sumN_congr _ fun i hi => tabF_at _ _ _ i i (by omega) (by omega)
theorem trace_neg {l : List (List Int)} {n : Nat} (h : sqB l = true) (hn : l.length = n) : timesOk l (-1) = true ∧ sqB (timesL l (-1)) = true ∧ (timesL l (-1)).length = n ∧ szL (timesL l (-1)) ≤ 1048576 ∧ sumN (trF (timesL l (-1))) n = -sumN (trF l) n ∧ -180 ≤ sumN (trF l) n ∧ sumN (trF l) n ≤ 180 := by
  obtain ⟨hT, hw⟩ := sqB_of h
  have h1 := hT.1
  have h6 := hT.2.1
  have hT2 : TabIn (timesL l (-1)) := tabIn_tabF (by omega) (by omega) (by omega) (by omega) fun i k hi hk => by have := hT.at hi hk; omega
  have e0 : ((timesL l (-1)).getD 0 []).length = (l.getD 0 []).length := tabF_len _ _ _ _ (by omega)
  have hb : ∀ m, m ≤ n → -(30 * (m : Int)) ≤ sumN (trF l) m ∧ sumN (trF l) m ≤ 30 * (m : Int) := by
    intro m
    induction m with
    | zero => exact fun _ => ⟨by simp [sumN], by simp [sumN]⟩
    | succ m ih =>
      intro hm
      obtain ⟨i1, i2⟩ := ih (by omega)
      have := hT.at (i := m) (k := m) (by omega) (by omega)
      have e : sumN (trF l) (m + 1) = sumN (trF l) m + at2 l m m := rfl
      rw [e]
      omega
  obtain ⟨b1, b2⟩ := hb n (Nat.le_refl _)
  refine ⟨by unfold timesOk; rw [tabIn_true hT, tabIn_true hT2]; decide, ?_, by rw [timesL_length]; exact hn, szL_times _ hT, ?_, by omega, by omega⟩
  · unfold sqB; rw [tabIn_true hT2, e0, timesL_length, ← hw]; simp
  · rw [sumN_congr n (g := fun j => (-1) * trF l j) (fun j hj => ?_), sumN_mul]
    · omega
    · have e : at2 (timesL l (-1)) j j = at2 l j j * (-1) := tabF_at _ _ _ j j (by omega) (by omega)
      show at2 (timesL l (-1)) j j = _
      rw [e]; unfold trF; omega

end Go.Proofs.Ytkfondipmhjhjaa
