/- The walk of laws.FnExactValueRows at any arguments. -/
import Derived.Test.YtikjeaoapeaabaaLawValueRows
import Derived.Test.YtikjeaoapeaabaaRowsV
import Derived.Test.YtikjeaoapeaabaaRowsJ
namespace Go.Proofs.Ytikjeaoapeaabaa
open Go.RowKit Go.Deep

theorem lawValueRows (a : Option Addr) (cap n : Nat) (l : List (List Int)) (w : World) (hn : l.length = n) (h63 : n ≤ 9223372036854775807) (hl : ∀ r, r < l.length → (l.getD r []).length ≤ 9223372036854775807) (hm : MatR w a l) :
    Calls Try.prog 3 #[.slice a n cap] w fun e w' => e = .returned (.bool true) ∧ w.Since w.heap.size w' :=
  lawValueRows_aux a cap n l (sqB l) (if (sqB l) = true then rowF n l else 0) w hn h63 hl hm
    (fun hz W b c hb => (specValueRows_any b c n l W hn hz hb).mono fun _ _ h => ⟨h.1, h.2⟩) (fun hz W b c hb => (implValueRows_any b c n l W hn hz hb).mono fun _ _ h => ⟨h.1, h.2⟩)

end Go.Proofs.Ytikjeaoapeaabaa
