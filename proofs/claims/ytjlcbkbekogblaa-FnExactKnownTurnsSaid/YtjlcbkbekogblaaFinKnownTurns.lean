/- The walk of laws.FnExactKnownTurns at any arguments. -/
import Derived.Test.YtjlcbkbekogblaaLawKnownTurns
import Derived.Test.YtjlcbkbekogblaaKnownU
namespace Go.Proofs.Ytjlcbkbekogblaa
open Go.RowKit Go.Deep

theorem lawKnownTurns (a0 : Option Addr) (cap0 n0 : Nat) (l0 : List Int) (w : World) (hn0 : l0.length = n0) (h630 : n0 ≤ 9223372036854775807) (hm0 : RowR w a0 l0) :
    Calls Try.prog 13 #[.slice a0 n0 cap0] w fun e w' => e = .returned (.bool true) ∧ w.Since w.heap.size w' :=
  lawKnownTurns_aux a0 cap0 n0 l0 (l8B l0 30) (resT (l8B l0 30) (tuL l0 n0)) w hn0 h630 hm0 (szL_res fun h => by have := l8B_of h; omega)
    (fun W b0 _ hr0 => specKnownTurns_any b0 n0 n0 l0 W hn0 h630 hr0)
    (fun W b0 h10 hr0 => implKnownTurns_any b0 n0 n0 l0 W hn0 h10 hr0)

end Go.Proofs.Ytjlcbkbekogblaa
