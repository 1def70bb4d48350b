/- The walk of laws.FnExactKnownDivisors at any arguments. -/
import Derived.Test.YtjlcbkbekogblaaLawKnownDivisors
import Derived.Test.YtjlcbkbekogblaaKnownS
namespace Go.Proofs.Ytjlcbkbekogblaa
open Go.RowKit Go.Deep

theorem lawKnownDivisors (x0 : Int) (w : World)  :
    Calls Try.prog 9 #[.int .i64 x0] w fun e w' => e = .returned (.bool true) ∧ w.Since w.heap.size w' :=
  lawKnownDivisors_aux x0 (inB x0 1 6) (resT (inB x0 1 6) (gcL x0.toNat)) w (szL_res fun h => by have := of_decide_eq_true h; omega)
    (fun W => specKnownDivisors_any x0 W)
    (fun W => implKnownDivisors_any x0 W)

end Go.Proofs.Ytjlcbkbekogblaa
