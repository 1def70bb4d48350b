/- Sums without signs: the pure side of spec.l5Plain. -/
import Derived.Test.YtpimdgijjljejaaDoorOrdF
namespace Go.Proofs.YtpimdgijjljejaaDoor
open Go.RowKit Go.Deep

/-- One term of the sum over the columns that are not used. -/
def plT (l : List (List Int)) (i used : Nat) (f : Nat → Int) (k : Nat) : Int := if used.testBit k then 0 else at2 l i k * f (used ||| 2 ^ k)
theorem plT_yes {l : List (List Int)} {i used k : Nat} (f : Nat → Int) (h : used.testBit k = true) : plT l i used f k = 0 := by unfold plT; rw [if_pos h]
theorem plT_no {l : List (List Int)} {i used k : Nat} (f : Nat → Int) (h : used.testBit k = false) : plT l i used f k = at2 l i k * f (used ||| 2 ^ k) := by unfold plT; rw [if_neg (by rw [h]; simp)]
/-- What l5Plain returns with d rows to go. -/
def plF (l : List (List Int)) (n : Nat) : Nat → Nat → Int
  | 0, _ => 1
  | d + 1, used => sumN (plT l (n - (d + 1)) used (plF l n d)) n
theorem plF_zero (l : List (List Int)) (n used : Nat) : plF l n 0 used = 1 := rfl
theorem plF_succ (l : List (List Int)) (n d used : Nat) : plF l n (d + 1) used = sumN (plT l (n - (d + 1)) used (plF l n d)) n := rfl

/-- A square whose entries are within the limits. -/
def EntB (l : List (List Int)) (n : Nat) : Prop := n ≤ 6 ∧ ∀ i j, i < n → j < n → -30 ≤ at2 l i j ∧ at2 l i j ≤ 30
theorem plT_bd {l : List (List Int)} {n i used k : Nat} {f : Nat → Int} {B : Int} (h : EntB l n) (hi : i < n) (hk : k < n) (hB : 0 ≤ B) (hf : ∀ u, -B ≤ f u ∧ f u ≤ B) : -(30 * B) ≤ plT l i used f k ∧ plT l i used f k ≤ 30 * B := by
  unfold plT
  split
  · omega
  · have h1 := h.2 i k hi hk
    have h2 := hf (used ||| 2 ^ k)
    exact mul_bdB h1.1 h1.2 h2.1 h2.2
theorem sumP_bd {l : List (List Int)} {n i used k : Nat} {f : Nat → Int} {B : Int} (h : EntB l n) (hi : i < n) (hk : k ≤ n) (hB : 0 ≤ B) (hf : ∀ u, -B ≤ f u ∧ f u ≤ B) : -(180 * B) ≤ sumN (plT l i used f) k ∧ sumN (plT l i used f) k ≤ 180 * B := by
  have h6 := h.1
  have h1 := sumN_bdB (f := plT l i used f) (B := 30 * B) k (fun j hj => plT_bd h hi (by omega) hB hf)
  have h2 : (k : Int) * (30 * B) ≤ 6 * (30 * B) := Int.mul_le_mul_of_nonneg_right (by omega) (by omega)
  omega
theorem plF_bd {l : List (List Int)} {n : Nat} (h : EntB l n) : ∀ d, d ≤ n → ∀ u, -(p180 d) ≤ plF l n d u ∧ plF l n d u ≤ p180 d
  | 0, _, u => by rw [plF_zero]; simp [p180]
  | d + 1, hd, u => by
    have ih := plF_bd h d (by omega)
    rw [plF_succ]
    have := p180_pos d
    exact sumP_bd h (by omega) (Nat.le_refl _) (by omega) ih
theorem entB_of {l : List (List Int)} {n : Nat} (hT : TabIn l) (hn : l.length = n) (hm : (l.getD 0 []).length = n) : EntB l n :=
  ⟨by have := hT.2.1; omega, fun i j hi hj => hT.at (by omega) (by omega)⟩

end Go.Proofs.YtpimdgijjljejaaDoor
