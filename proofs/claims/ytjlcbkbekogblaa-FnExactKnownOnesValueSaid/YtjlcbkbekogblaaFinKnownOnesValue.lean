/- The walk of laws.FnExactKnownOnesValue at any arguments. -/
import Derived.Test.YtjlcbkbekogblaaLawKnownOnesValue
import Derived.Test.YtjlcbkbekogblaaKnownY
namespace Go.Proofs.Ytjlcbkbekogblaa
open Go.RowKit Go.Deep

theorem lawKnownOnesValue (x0 : Int) (x1 : Int) (x2 : Int) (w : World)  :
    Calls Try.prog 8 #[.int .i64 x0, .int .i64 x1, .int .i64 x2] w fun e w' => e = .returned (.bool true) ∧ w.Since w.heap.size w' :=
  lawKnownOnesValue_aux x0 x1 x2 (onB x0 x1 x2) (if (onB x0 x1 x2) = true then onV x0 x1 x2 else 0) w
    (fun W => (specKnownOnesValue_any x0 x1 x2 W).mono fun _ _ h => ⟨h.1, h.2 ▸ World.Since.refl _ _⟩)
    (fun W => (implKnownOnesValue_any x0 x1 x2 W).mono fun _ _ h => ⟨h.1, h.2 ▸ World.Since.refl _ _⟩)

end Go.Proofs.Ytjlcbkbekogblaa
