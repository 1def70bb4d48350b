/- The walk of laws.FnExactKnownDivisorsValue at any arguments. -/
import Derived.Test.YtjlcbkbekogblaaLawKnownDivisorsValue
import Derived.Test.YtjlcbkbekogblaaKnownX
namespace Go.Proofs.Ytjlcbkbekogblaa
open Go.RowKit Go.Deep

theorem lawKnownDivisorsValue (x0 : Int) (w : World)  :
    Calls Try.prog 10 #[.int .i64 x0] w fun e w' => e = .returned (.bool true) ∧ w.Since w.heap.size w' :=
  lawKnownDivisorsValue_aux x0 (inB x0 1 6) (if (inB x0 1 6) = true then (dvK x0.toNat : Nat) else 0) w
    (fun W => (specKnownDivisorsValue_any x0 W).mono fun _ _ h => ⟨h.1, h.2 ▸ World.Since.refl _ _⟩)
    (fun W => implKnownDivisorsValue_any x0 W)

end Go.Proofs.Ytjlcbkbekogblaa
