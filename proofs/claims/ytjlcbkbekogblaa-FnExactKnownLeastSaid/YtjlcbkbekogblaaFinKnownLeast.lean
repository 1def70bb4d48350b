/- The walk of laws.FnExactKnownLeast at any arguments. -/
import Derived.Test.YtjlcbkbekogblaaLawKnownLeast
import Derived.Test.YtjlcbkbekogblaaKnownS
namespace Go.Proofs.Ytjlcbkbekogblaa
open Go.RowKit Go.Deep

theorem lawKnownLeast (x0 : Int) (w : World)  :
    Calls Try.prog 11 #[.int .i64 x0] w fun e w' => e = .returned (.bool true) ∧ w.Since w.heap.size w' :=
  lawKnownLeast_aux x0 (inB x0 1 6) (resT (inB x0 1 6) (mnL x0.toNat)) w (szL_res fun h => by have := of_decide_eq_true h; omega)
    (fun W => specKnownLeast_any x0 W)
    (fun W => implKnownLeast_any x0 W)

end Go.Proofs.Ytjlcbkbekogblaa
