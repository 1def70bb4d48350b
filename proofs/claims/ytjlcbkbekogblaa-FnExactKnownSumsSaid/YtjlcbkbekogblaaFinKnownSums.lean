/- The walk of laws.FnExactKnownSums at any arguments. -/
import Derived.Test.YtjlcbkbekogblaaLawKnownSums
import Derived.Test.YtjlcbkbekogblaaKnownT
namespace Go.Proofs.Ytjlcbkbekogblaa
open Go.RowKit Go.Deep

theorem lawKnownSums (x0 : Int) (a1 : Option Addr) (cap1 n1 : Nat) (l1 : List Int) (w : World) (hn1 : l1.length = n1) (h631 : n1 ≤ 9223372036854775807) (hm1 : RowR w a1 l1) :
    Calls Try.prog 12 #[.int .i64 x0, .slice a1 n1 cap1] w fun e w' => e = .returned (.bool true) ∧ w.Since w.heap.size w' :=
  lawKnownSums_aux x0 a1 cap1 n1 l1 (suB x0 n1 && tabIn (suL x0.toNat l1)) (resT (suB x0 n1 && tabIn (suL x0.toNat l1)) (suL x0.toNat l1)) w hn1 h631 hm1 (szL_res fun h => by rw [Bool.and_eq_true] at h; have := suB_of h.1; omega)
    (fun W b1 _ hr1 => specKnownSums_any x0 b1 n1 n1 l1 W hn1 h631 (Nat.le_refl _) hr1)
    (fun W b1 _ hr1 => implKnownSums_any x0 b1 n1 n1 l1 W hn1 h631 (Nat.le_refl _) hr1)

end Go.Proofs.Ytjlcbkbekogblaa
