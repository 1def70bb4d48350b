/- The walk of laws.FnExactKnownOnes at any arguments. -/
import Derived.Test.YtjlcbkbekogblaaLawKnownOnes
import Derived.Test.YtjlcbkbekogblaaKnownS
namespace Go.Proofs.Ytjlcbkbekogblaa
open Go.RowKit Go.Deep

theorem lawKnownOnes (x0 : Int) (x1 : Int) (x2 : Int) (w : World)  :
    Calls Try.prog 7 #[.int .i64 x0, .int .i64 x1, .int .i64 x2] w fun e w' => e = .returned (.bool true) ∧ w.Since w.heap.size w' :=
  lawKnownOnes_aux x0 x1 x2 (onB x0 x1 x2) (resT (onB x0 x1 x2) (onL x0.toNat x1 x2)) w (szL_res fun h => by have := onB_of h; omega)
    (fun W => specKnownOnes_any x0 x1 x2 W)
    (fun W => implKnownOnes_any x0 x1 x2 W)

end Go.Proofs.Ytjlcbkbekogblaa
