/- The contract of spec.TableAdd. -/
import Derived.Test.YtlgjplhffpmfpaaAddImpl
import Derived.Test.YtlgjplhffpmfpaaSumSpec
namespace Go.Proofs.Ytlgjplhffpmfpaa
open Go.RowKit Go.Deep

theorem WR.start {w1 wr : World} {b n m : Nat} {A : Nat → Option Addr} {G C : Nat → Nat} {F : Nat → Nat → Int} {l : List (List Int)} {i hi : Nat} (h : WR w1 wr b n m A G C F l 0 0 hi) (hF : ∀ r c, r < i → F r c = at2 l r c) : WR w1 wr b n m A G C F l i 0 hi :=
  ⟨h.since, h.size, h.own.congr fun r _ c _ => by
    unfold updF
    rw [if_neg (by omega)]
    by_cases h2 : r < i ∨ (r = i ∧ c < 0)
    · rw [if_pos h2, hF r c (by omega)]
    · rw [if_neg h2]⟩
theorem WR.finish {w1 wr : World} {b n m : Nat} {A : Nat → Option Addr} {G C : Nat → Nat} {F : Nat → Nat → Int} {l : List (List Int)} {i hi : Nat} (h : WR w1 wr b n m A G C F l i m hi) (hF : ∀ r c, i < r → F r c = at2 l r c) : WR w1 wr b n m A G C F l n 0 hi :=
  ⟨h.since, h.size, h.own.congr fun r hr c hc => by
    have hc' : c < m := hc
    unfold updF
    rw [if_pos (show r < n ∨ (r = n ∧ c < 0) from .inl hr)]
    by_cases h2 : r < i ∨ (r = i ∧ c < m)
    · rw [if_pos h2]
    · rw [if_neg h2, hF r c (by omega)]⟩

theorem l6In_row (i : Int) (n : Nat) (w : World) : Calls Try.prog 41 #[.int .i64 i, .int .i64 0, .int .i64 ((n : Int) - 1)] w fun e w' => e = .returned (.bool (rowB i n)) ∧ w = w' := l6In_any i 0 ((n : Int) - 1) w

theorem szL_addOk (l : List (List Int)) (fr to f : Int) (h : addOk l fr to f = true) : szL (addL l fr.toNat to.toNat f) ≤ 1048576 := by
  unfold addOk at h
  rw [Bool.and_eq_true] at h
  exact szL_add _ _ f (tabIn_of h.1)

end Go.Proofs.Ytlgjplhffpmfpaa
