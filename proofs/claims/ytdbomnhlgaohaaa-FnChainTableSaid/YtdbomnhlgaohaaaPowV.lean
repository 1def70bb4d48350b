/- The contract of spec.KnownPowers. -/
import Derived.Test.YtdbomnhlgaohaaaCopy
import Derived.Test.YtdbomnhlgaohaaaTurnSpec
import Derived.Test.YtdbomnhlgaohaaaAppK
import Derived.Deep.RegionHeld3
namespace Go.Proofs.Ytdbomnhlgaohaaa
open Go.RowKit Go.Deep

/-- The first numbers lie in a range. -/
def ListK (x : List Int) (most : Int) (k : Nat) : Prop := ∀ j, j < k → inB (x.getD j 0) (-most) most = true
open Classical in
noncomputable def l8B (x : List Int) (most : Int) : Bool := decide (ListK x most x.length) && inB x.length 1 6
theorem ListK.succ {x : List Int} {most : Int} {k : Nat} (h : ListK x most k) (hk : inB (x.getD k 0) (-most) most = true) : ListK x most (k + 1) := fun j hj => by
  rcases Nat.lt_succ_iff_lt_or_eq.1 hj with hlt | heq
  · exact h j hlt
  · rw [heq]; exact hk
theorem l8B_no {x : List Int} {most : Int} (h : ¬ ListK x most x.length) : l8B x most = false := by simp [l8B, h]
theorem l8B_all {x : List Int} {most : Int} (h : ListK x most x.length) : l8B x most = inB x.length 1 6 := by simp [l8B, h]
theorem l8B_of {x : List Int} {most : Int} (h : l8B x most = true) : ListK x most x.length ∧ 1 ≤ x.length ∧ x.length ≤ 6 := by
  simp only [l8B, Bool.and_eq_true, decide_eq_true_eq] at h
  refine ⟨h.1, ?_⟩
  have := h.2
  simp [inB] at this
  omega

/-- Row i of the powers, as far as its first k numbers, and the first rows of them. -/
def pwRow (x : List Int) (i k : Nat) : List Int := (List.range k).map fun j => (x.getD i 0) ^ j
theorem pwRow_succ (x : List Int) (i k : Nat) : pwRow x i (k + 1) = pwRow x i k ++ [(x.getD i 0) ^ k] := by simp [pwRow, List.range_succ]
theorem pwRow_length (x : List Int) (i k : Nat) : (pwRow x i k).length = k := by simp [pwRow]
theorem pwRow_at (x : List Int) (i : Nat) {k j : Nat} (h : j < k) : (pwRow x i k).getD j 0 = (x.getD i 0) ^ j := by simp [pwRow, List.getD, h]
def pwTo (x : List Int) (m r : Nat) : List (List Int) := tabF r m fun i k => (x.getD i 0) ^ k
theorem pwTo_succ (x : List Int) (m r : Nat) : pwTo x m (r + 1) = pwTo x m r ++ [pwRow x r m] := by simp [pwTo, tabF, pwRow, List.range_succ]
theorem pwTo_length (x : List Int) (m r : Nat) : (pwTo x m r).length = r := tabF_length _ _ _
theorem pow_bd {y : Int} (h : -30 ≤ y ∧ y ≤ 30) : ∀ t : Nat, -((30 : Int) ^ t) ≤ y ^ t ∧ y ^ t ≤ (30 : Int) ^ t
  | 0 => by simp
  | t + 1 => by
    obtain ⟨i1, i2⟩ := pow_bd h t
    rw [Int.pow_succ, Int.pow_succ]
    generalize (30 : Int) ^ t = A at *
    generalize y ^ t = b at *
    have h1 : (A + b) * (30 - y) ≥ 0 := Int.mul_nonneg (by omega) (by omega)
    have h2 : (A + b) * (30 + y) ≥ 0 := Int.mul_nonneg (by omega) (by omega)
    have h3 : (A - b) * (30 + y) ≥ 0 := Int.mul_nonneg (by omega) (by omega)
    have h4 : (A - b) * (30 - y) ≥ 0 := Int.mul_nonneg (by omega) (by omega)
    simp only [Int.add_mul, Int.sub_mul, Int.mul_add, Int.mul_sub] at h1 h2 h3 h4
    omega
theorem pow30 : ∀ t : Fin 6, (30 : Int) ^ t.val ≤ 24300000 := by decide +kernel
theorem pow_bd5 {y : Int} (h : -30 ≤ y ∧ y ≤ 30) {t : Nat} (ht : t ≤ 5) : -24300000 ≤ y ^ t ∧ y ^ t ≤ 24300000 := by
  have h1 := pow_bd h t
  have h2 := pow30 ⟨t, by omega⟩
  simp only at h2
  omega
theorem rb_one (w : World) (v : Int) : RB w (w.alloc (.cells #[.int .i64 v] 3)) (.slice (some ⟨w.heap.size, 0, none⟩) 1 1) [v] :=
  ⟨(World.Since.refl _ _).alloc (Nat.le_refl _) _, by simp, .inr ⟨w.heap.size, 1, #[.int .i64 v], rfl, Nat.le_refl _, heap_alloc_new w _, Nat.le_refl _, by unfold maxLen; omega, by simp, by simp⟩⟩

end Go.Proofs.Ytdbomnhlgaohaaa
