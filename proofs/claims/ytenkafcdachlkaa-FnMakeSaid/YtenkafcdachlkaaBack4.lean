/- Products turned, and by a unit. -/
import Derived.Test.YtenkafcdachlkaaBack3
import Derived.Test.YtenkafcdachlkaaMakeSpec
namespace Go.Proofs.Ytenkafcdachlkaa
open Go.RowKit Go.Deep

theorem sumN_congr {f g : Nat → Int} : ∀ n, (∀ j, j < n → f j = g j) → sumN f n = sumN g n
  | 0, _ => by simp [sumN]
  | n + 1, h => by
    have h1 := sumN_congr n (fun j hj => h j (by omega))
    unfold sumN
    rw [h1, h n (by omega)]
theorem sumN_unit (f : Nat → Int) (c : Nat) : ∀ n, sumN (fun j => f j * unitF j c) n = if c < n then f c else 0
  | 0 => by simp [sumN]
  | n + 1 => by
    have h1 := sumN_unit f c n
    unfold sumN
    rw [h1]
    unfold unitF
    by_cases e : n = c
    · subst e
      rw [if_neg (by omega), if_pos rfl, if_pos (by omega)]
      simp
    · rw [if_neg e, Int.mul_zero]
      by_cases h2 : c < n
      · rw [if_pos h2, if_pos (by omega)]; omega
      · rw [if_neg h2, if_neg (by omega)]; omega

theorem makeOk_of {l u : List (List Int)} (h : makeOk l u = true) : TabIn l ∧ TabIn u ∧ (l.getD 0 []).length = u.length ∧ TabIn (makeL l u) := by
  unfold makeOk at h
  simp only [Bool.and_eq_true, beq_iff_eq] at h
  exact ⟨tabIn_of h.1, tabIn_of h.2.1, h.2.2.1, tabIn_of h.2.2.2⟩
theorem makeOk_mk {l u : List (List Int)} (h1 : TabIn l) (h2 : TabIn u) (h3 : (l.getD 0 []).length = u.length) (h4 : TabIn (makeL l u)) : makeOk l u = true := by
  unfold makeOk
  rw [tabIn_true h1, tabIn_true h2, tabIn_true h4, h3]
  simp
theorem makeL_at {l u : List (List Int)} {i k : Nat} (hi : i < l.length) (hk : k < (u.getD 0 []).length) : at2 (makeL l u) i k = sumN (dotF l u i k) u.length := tabF_at _ _ _ _ _ hi hk
theorem makeL_width {l : List (List Int)} (u : List (List Int)) (h : 1 ≤ l.length) : ((makeL l u).getD 0 []).length = (u.getD 0 []).length := tabF_len _ _ _ _ (by omega)

theorem make_turn {l u : List (List Int)} (h : makeOk l u = true) : makeOk (turnL u) (turnL l) = true ∧ makeL (turnL u) (turnL l) = turnL (makeL l u) := by
  obtain ⟨h1, h2, h3, h4⟩ := makeOk_of h
  have e : makeL (turnL u) (turnL l) = turnL (makeL l u) := by
    show tabF (turnL u).length ((turnL l).getD 0 []).length (fun i k => sumN (dotF (turnL u) (turnL l) i k) (turnL l).length) = tabF ((makeL l u).getD 0 []).length (makeL l u).length fun k i => at2 (makeL l u) i k
    rw [turnL_length, turnL_width h1, turnL_length, makeL_width u h1.1, makeL_length]
    refine tabF_congr fun i k hi hk => ?_
    rw [makeL_at hk hi, h3]
    refine sumN_congr _ fun j hj => ?_
    unfold dotF
    rw [turnL_at (l := u) hj hi, turnL_at (l := l) hk (by omega), Int.mul_comm]
  exact ⟨makeOk_mk (turnL_tab h2) (turnL_tab h1) (by rw [turnL_width h2, turnL_length, h3]) (by rw [e]; exact turnL_tab h4), e⟩

theorem unit_tab {k : Nat} (h : 1 ≤ k ∧ k ≤ 6) : TabIn (unitL k k) := tabF_tab h h fun i j _ _ => by unfold unitF; split <;> omega
theorem make_unit {l : List (List Int)} {k : Nat} (hT : TabIn l) (hk : (l.getD 0 []).length = k) : makeOk l (unitL k k) = true ∧ makeL l (unitL k k) = l := by
  have hw := hT.width
  rw [hk] at hw
  have e0 : ((unitL k k).getD 0 []).length = k := tabF_len _ _ _ _ (by omega)
  have e : makeL l (unitL k k) = l := by
    show tabF l.length ((unitL k k).getD 0 []).length (fun i c => sumN (dotF l (unitL k k) i c) (unitL k k).length) = l
    rw [e0, unitL_length]
    refine Eq.trans (tabF_congr fun i c hi hc => ?_) (tab_self rfl (fun r hr => (hT.row hr).trans hk))
    refine Eq.trans (sumN_congr (g := fun j => at2 l i j * unitF j c) k fun j hj => ?_) ?_
    · unfold dotF
      have : at2 (unitL k k) j c = unitF j c := tabF_at _ _ _ _ _ hj hc
      rw [this]
    · rw [sumN_unit (fun j => at2 l i j) c k, if_pos hc]
  exact ⟨makeOk_mk hT (unit_tab hw) (by rw [unitL_length, hk]) (by rw [e]; exact hT), e⟩

end Go.Proofs.Ytenkafcdachlkaa
