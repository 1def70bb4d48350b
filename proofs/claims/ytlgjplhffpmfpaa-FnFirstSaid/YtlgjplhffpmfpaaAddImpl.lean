/- The contract of impl.TableAdd. -/
import Derived.Test.YtlgjplhffpmfpaaSumImpl
namespace Go.Proofs.Ytlgjplhffpmfpaa
open Go.RowKit Go.Deep

def addF (l : List (List Int)) (fr to : Nat) (f : Int) (i k : Nat) : Int := if i = to then at2 l i k + f * at2 l fr k else at2 l i k
def addL (l : List (List Int)) (fr to : Nat) (f : Int) : List (List Int) := tabF l.length (l.getD 0 []).length (addF l fr to f)
theorem addL_length (l : List (List Int)) (fr to : Nat) (f : Int) : (addL l fr to f).length = l.length := tabF_length _ _ _

/-- Is a number that of a row? -/
def rowB (i : Int) (n : Nat) : Bool := inB i 0 ((n : Int) - 1)
theorem rowB_of {i : Int} {n : Nat} (h : rowB i n = true) : ∃ k : Nat, i = k ∧ k < n := by
  have h1 := of_decide_eq_true h
  exact ⟨i.toNat, by omega, by omega⟩
/-- Does TableAdd succeed? -/
noncomputable def addOk (l : List (List Int)) (fr to f : Int) : Bool := tabIn l && (rowB fr l.length && (rowB to l.length && (!(fr == to) && (inB f (-30) 30 && tabIn (addL l fr.toNat to.toNat f)))))
theorem szL_add {l : List (List Int)} (fr to : Nat) (f : Int) (h : TabIn l) : szL (addL l fr to f) ≤ 1048576 := szL_tabF _ _ _ (by have := h.2.1; omega) (by have := h.width; omega)

end Go.Proofs.Ytlgjplhffpmfpaa
