/- The contracts of spec.l2Rank and spec.ValueRank. -/
import Derived.Test.YtlgjplhffpmfpaaMinorV
namespace Go.Proofs.Ytlgjplhffpmfpaa
open Go.RowKit Go.Deep

theorem ipow_fin : ∀ n : Fin 7, wrap64 ((2 : Int) ^ n.val) = ((2 ^ n.val : Nat) : Int) := by decide +kernel

/-- What one pair of sets makes of the best number so far. -/
def stepR (l : List (List Int)) (r c b : Nat) : Nat := if popcS r = popcS c ∧ b < popcS r ∧ ordF (partL l r c) (popcS r) (popcS r) 0 ≠ 0 then popcS r else b
/-- .. the sets of columns from 1 to c - 1. -/
def rkC (l : List (List Int)) (r b : Nat) : Nat → Nat
  | 0 => b
  | c + 1 => if c = 0 then b else stepR l r c (rkC l r b c)
/-- .. the sets of rows from 1 to r - 1. -/
def rkR (l : List (List Int)) (C : Nat) : Nat → Nat
  | 0 => 0
  | r + 1 => if r = 0 then 0 else rkC l r (rkR l C r) C
theorem rkC_one (l : List (List Int)) (r b : Nat) : rkC l r b 1 = b := rfl
theorem rkC_succ (l : List (List Int)) (r b : Nat) {c : Nat} (h : 1 ≤ c) : rkC l r b (c + 1) = stepR l r c (rkC l r b c) := by
  show (if c = 0 then b else stepR l r c (rkC l r b c)) = _
  rw [if_neg (by omega)]
theorem rkR_one (l : List (List Int)) (C : Nat) : rkR l C 1 = 0 := rfl
theorem rkR_succ (l : List (List Int)) (C : Nat) {r : Nat} (h : 1 ≤ r) : rkR l C (r + 1) = rkC l r (rkR l C r) C := by
  show (if r = 0 then 0 else rkC l r (rkR l C r) C) = _
  rw [if_neg (by omega)]
theorem stepR_le (l : List (List Int)) (r c b : Nat) (h : b ≤ 6) : stepR l r c b ≤ 6 := by
  unfold stepR
  split
  · exact popcS_le r
  · exact h
theorem rkC_le (l : List (List Int)) (r b : Nat) (h : b ≤ 6) : ∀ c, rkC l r b c ≤ 6
  | 0 => h
  | c + 1 => by
    show (if c = 0 then b else stepR l r c (rkC l r b c)) ≤ 6
    split
    · exact h
    · exact stepR_le l r c _ (rkC_le l r b h c)
theorem rkR_le (l : List (List Int)) (C : Nat) : ∀ r, rkR l C r ≤ 6
  | 0 => by simp [rkR]
  | r + 1 => by
    show (if r = 0 then 0 else rkC l r (rkR l C r) C) ≤ 6
    split
    · omega
    · exact rkC_le l r _ (rkR_le l C r) C

end Go.Proofs.Ytlgjplhffpmfpaa
