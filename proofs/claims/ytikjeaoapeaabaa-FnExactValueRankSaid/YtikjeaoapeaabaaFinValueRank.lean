/- The walk of laws.FnExactValueRank at any arguments. -/
import Derived.Test.YtikjeaoapeaabaaLawValueRank
import Derived.Test.YtikjeaoapeaabaaRankV
import Derived.Test.YtikjeaoapeaabaaRankJ
namespace Go.Proofs.Ytikjeaoapeaabaa
open Go.RowKit Go.Deep

theorem lawValueRank (a : Option Addr) (cap n : Nat) (l : List (List Int)) (w : World) (hn : l.length = n) (h63 : n ≤ 9223372036854775807) (hl : ∀ r, r < l.length → (l.getD r []).length ≤ 9223372036854775807) (hm : MatR w a l) :
    Calls Try.prog 8 #[.slice a n cap] w fun e w' => e = .returned (.bool true) ∧ w.Since w.heap.size w' :=
  lawValueRank_aux a cap n l (tabIn l) (if (tabIn l) = true then (rkR l (2 ^ (l.getD 0 []).length) (2 ^ n) : Nat) else 0) w hn h63 hl hm
    (fun hz W b c hb => (specValueRank_any b c n l W hn hz hb).mono fun _ _ h => ⟨h.1, h.2⟩) (fun hz W b c hb => (implValueRank_any b c n l W hn hz hb).mono fun _ _ h => ⟨h.1, h.2⟩)

end Go.Proofs.Ytikjeaoapeaabaa
