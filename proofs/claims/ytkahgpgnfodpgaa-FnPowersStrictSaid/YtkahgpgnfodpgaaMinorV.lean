/- The contract of spec.ValueMinor. -/
import Derived.Test.YtkahgpgnfodpgaaRowsV
namespace Go.Proofs.Ytkahgpgnfodpgaa
open Go.RowKit Go.Deep

theorem popcS_sel : ∀ n : Fin 7, ∀ s : Fin 64, s.val < 2 ^ n.val → (sel s.val n.val n.val).length = popcS s.val := by decide +kernel
theorem popcS_pos : ∀ s : Fin 64, 1 ≤ popcS s.val → 1 ≤ s.val := by decide +kernel

/-- Does ValueMinor succeed? -/
noncomputable def minorOk (l : List (List Int)) (s c : Int) : Bool := tabIn l && (inB s 0 (2 ^ l.length - 1 : Nat) && (inB c 0 (2 ^ (l.getD 0 []).length - 1 : Nat) && (popcS s.toNat == popcS c.toNat)))
/-- The minor. -/
def minorV (l : List (List Int)) (s c : Int) : Int := ordF (partL l s.toNat c.toNat) (popcS s.toNat) (popcS s.toNat) 0
theorem part_sq {l : List (List Int)} {s c : Nat} (hT : TabIn l) (hs : s < 2 ^ l.length) (hc : c < 2 ^ (l.getD 0 []).length) (h : popcS s = popcS c) : SqD (popcS s) (partL l s c) := by
  have hsd := hT.2.1
  have hw := hT.width
  have p1 : 2 ^ l.length ≤ 2 ^ 6 := Nat.pow_le_pow_right (by omega) hsd
  have p2 : 2 ^ (l.getD 0 []).length ≤ 2 ^ 6 := Nat.pow_le_pow_right (by omega) hw.2
  have e1 : (partL l s c).length = popcS s := by rw [partL_length]; exact popcS_sel ⟨l.length, by omega⟩ ⟨s, by omega⟩ hs
  refine ⟨e1, fun h0 => ?_⟩
  have h1 := popcS_pos ⟨s, by omega⟩ h0
  have h2 := popcS_pos ⟨c, by omega⟩ (by rw [h] at h0; exact h0)
  refine ⟨partL_tab hT h1 hs h2 hc, ?_⟩
  rw [partL_rowlen _ _ _ (by omega), h]
  exact popcS_sel ⟨(l.getD 0 []).length, by omega⟩ ⟨c, by omega⟩ hc

end Go.Proofs.Ytkahgpgnfodpgaa
