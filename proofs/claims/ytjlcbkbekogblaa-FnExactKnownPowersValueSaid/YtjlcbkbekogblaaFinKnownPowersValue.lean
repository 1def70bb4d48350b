/- The walk of laws.FnExactKnownPowersValue at any arguments. -/
import Derived.Test.YtjlcbkbekogblaaLawKnownPowersValue
import Derived.Test.YtjlcbkbekogblaaKnownW
namespace Go.Proofs.Ytjlcbkbekogblaa
open Go.RowKit Go.Deep

theorem lawKnownPowersValue (a0 : Option Addr) (cap0 n0 : Nat) (l0 : List Int) (w : World) (hn0 : l0.length = n0) (h630 : n0 ≤ 9223372036854775807) (hm0 : RowR w a0 l0) :
    Calls Try.prog 6 #[.slice a0 n0 cap0] w fun e w' => e = .returned (.bool true) ∧ w.Since w.heap.size w' :=
  lawKnownPowersValue_aux a0 cap0 n0 l0 (l8B l0 9) (if (l8B l0 9) = true then vdO l0 n0 else 0) w hn0 h630 hm0
    (fun W b0 _ hr0 => specKnownPowersValue_any b0 n0 n0 l0 W hn0 h630 hr0)
    (fun W b0 _ hr0 => (implKnownPowersValue_any b0 n0 n0 l0 W hn0 h630 (Nat.le_refl _) hr0).mono fun _ _ h => ⟨h.1, h.2 ▸ World.Since.refl _ _⟩)

end Go.Proofs.Ytjlcbkbekogblaa
