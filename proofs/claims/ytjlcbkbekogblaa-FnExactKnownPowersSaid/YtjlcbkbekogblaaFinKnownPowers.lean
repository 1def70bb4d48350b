/- The walk of laws.FnExactKnownPowers at any arguments. -/
import Derived.Test.YtjlcbkbekogblaaLawKnownPowers
import Derived.Test.YtjlcbkbekogblaaPowV
import Derived.Test.YtjlcbkbekogblaaKnownS
namespace Go.Proofs.Ytjlcbkbekogblaa
open Go.RowKit Go.Deep

theorem lawKnownPowers (a0 : Option Addr) (cap0 n0 : Nat) (l0 : List Int) (w : World) (hn0 : l0.length = n0) (h630 : n0 ≤ 9223372036854775807) (hm0 : RowR w a0 l0) :
    Calls Try.prog 5 #[.slice a0 n0 cap0] w fun e w' => e = .returned (.bool true) ∧ w.Since w.heap.size w' :=
  lawKnownPowers_aux a0 cap0 n0 l0 (l8B l0 30 && tabIn (pwTo l0 n0 n0)) (resT (l8B l0 30 && tabIn (pwTo l0 n0 n0)) (pwTo l0 n0 n0)) w hn0 h630 hm0 (szL_res fun h => by rw [Bool.and_eq_true] at h; have := l8B_of h.1; omega)
    (fun W b0 _ hr0 => specKnownPowers_any b0 n0 n0 l0 W hn0 h630 hr0)
    (fun W b0 h10 hr0 => implKnownPowers_any b0 n0 n0 l0 W hn0 h10 hr0)

end Go.Proofs.Ytjlcbkbekogblaa
