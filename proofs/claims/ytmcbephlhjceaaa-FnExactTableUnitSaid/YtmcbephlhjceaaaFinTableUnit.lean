/- The walk of laws.FnExactTableUnit at any number. -/
import Derived.Test.YtmcbephlhjceaaaLawTableUnit
import Derived.Test.YtmcbephlhjceaaaUnitImpl
namespace Go.Proofs.Ytmcbephlhjceaaa
open Go.RowKit Go.Deep

theorem szL_res (ok : Bool) (l : List (List Int)) (h : ok = true → szL l ≤ 1048576) : szL (resT ok l) ≤ 1048576 := by
  cases ok
  · simp [resT, szL, sumTo]
  · exact h rfl

theorem lawTableUnit (x : Int) (w : World) :
    Calls Try.prog 9 #[.int .i64 x] w fun e w' => e = .returned (.bool true) ∧ w.Since w.heap.size w' :=
  lawTableUnit_aux x (inB x 1 6) (resT (inB x 1 6) (unitL x.toNat x.toNat)) w (szL_res _ _ fun h => szL_tabF _ _ _ (by have := of_decide_eq_true h; omega) (by have := of_decide_eq_true h; omega))
    (fun W => specTableUnit_any x W) (fun W => implTableUnit_any x W)

end Go.Proofs.Ytmcbephlhjceaaa
