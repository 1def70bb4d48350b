/- The contract of spec.TableUnit. -/
import Derived.Test.YtkahgpgnfodpgaaBuild
import Derived.Test.YtkahgpgnfodpgaaNewTable
namespace Go.Proofs.Ytkahgpgnfodpgaa
open Go.RowKit Go.Deep

/-- The unit square, as far as its first i rows. -/
def unitF (i k : Nat) : Int := if i = k then 1 else 0
def unitL (n i : Nat) : List (List Int) := tabF i n unitF
theorem unitL_succ (n i : Nat) : unitL n (i + 1) = unitL n i ++ [(List.range n).map fun k => unitF i k] := by simp [unitL, tabF, List.range_succ]
theorem unitL_length (n i : Nat) : (unitL n i).length = i := tabF_length _ _ _

/-- What a function that makes a table returns: a table and true, or none and false. -/
def resT (ok : Bool) (l : List (List Int)) : List (List Int) := if ok then l else []
def SpecT (w : World) (ok : Bool) (l : List (List Int)) (e : Ending) (w' : World) : Prop :=
  ∃ a cap, e = .returned (.tuple #[.slice a (resT ok l).length cap, .bool ok]) ∧ w.Since w.heap.size w' ∧ InT w.heap.size w'.heap.size w' a (resT ok l)
def ImplT (w : World) (ok : Bool) (l : List (List Int)) (e : Ending) (w' : World) : Prop :=
  ∃ a cap, e = .returned (.tuple #[.slice a (resT ok l).length cap, .bool ok]) ∧ w.Since w.heap.size w' ∧ OwnT w.heap.size w'.heap.size w' a (resT ok l)

set_option maxHeartbeats 1000000 in
theorem l1None_any (w : World) : Calls Try.prog 68 #[] w fun e w' => e = .returned (.tuple #[.slice (some ⟨w.heap.size, 0, none⟩) 0 0, .bool false]) ∧ w.Since w.heap.size w' := by
  go_enter Try.func68, Try.ntmps68
  go_wp2
  go_ret2
  exact ⟨rfl, (World.Since.refl _ _).alloc (Nat.le_refl _) _⟩

end Go.Proofs.Ytkahgpgnfodpgaa
