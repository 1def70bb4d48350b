/- The walk of laws.FnExactKnownTurnsSum at any arguments. -/
import Derived.Test.YtjlcbkbekogblaaLawKnownTurnsSum
import Derived.Test.YtjlcbkbekogblaaKnownV
namespace Go.Proofs.Ytjlcbkbekogblaa
open Go.RowKit Go.Deep

theorem lawKnownTurnsSum (a0 : Option Addr) (cap0 n0 : Nat) (l0 : List Int) (w : World) (hn0 : l0.length = n0) (h630 : n0 ≤ 9223372036854775807) (hm0 : RowR w a0 l0) :
    Calls Try.prog 14 #[.slice a0 n0 cap0] w fun e w' => e = .returned (.bool true) ∧ w.Since w.heap.size w' :=
  lawKnownTurnsSum_aux a0 cap0 n0 l0 (l8B l0 30) (if (l8B l0 30) = true then smK l0 n0 else 0) w hn0 h630 hm0
    (fun W b0 _ hr0 => (specTurnsSum_loop b0 n0 n0 l0 W hn0 h630 hr0).mono fun _ _ h => ⟨h.1, h.2 ▸ World.Since.refl _ _⟩)
    (fun W b0 h10 hr0 => (implKnownTurnsSum_any b0 n0 n0 l0 W hn0 h10 hr0).mono fun _ _ h => ⟨h.1, h.2 ▸ World.Since.refl _ _⟩)

end Go.Proofs.Ytjlcbkbekogblaa
