/- The contract of spec.l91Some. -/
import Derived.Test.YtdbomnhlgaohaaaSome0
namespace Go.Proofs.Ytdbomnhlgaohaaa
open Go.RowKit Go.Deep

/-- A table that a call has drawn: at least one row, no row empty. -/
def Drawn0 (w w' : World) (R K : Nat) (a : Option Addr) (l : List (List Int)) : Prop :=
  1 ≤ l.length ∧ l.length ≤ R ∧ (∀ j, j < l.length → 1 ≤ (l.getD j []).length ∧ (l.getD j []).length ≤ K + 1) ∧ InT w.heap.size w'.heap.size w' a l

theorem lens_set {l : List (List Int)} {r : Nat} {y : List Int} {n m K : Nat} (hl : l.length = n) (h : ∀ j, j < n → (l.getD j []).length = m) (hm : 1 ≤ m ∧ m ≤ K) (hy : 1 ≤ y.length ∧ y.length ≤ K + 1) : ∀ j, j < (l.set r y).length → 1 ≤ ((l.set r y).getD j []).length ∧ ((l.set r y).getD j []).length ≤ K + 1 := by
  intro j hj
  rw [List.length_set] at hj
  by_cases e : j = r
  · subst e
    rw [show (l.set j y).getD j [] = y by simp [List.getD, hj]]
    exact hy
  · rw [show (l.set r y).getD j [] = l.getD j [] by simp [List.getD, List.getElem?_set_ne (Ne.symm e)], h j (by omega)]
    omega

end Go.Proofs.Ytdbomnhlgaohaaa
