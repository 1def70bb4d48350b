/- The walk of laws.FnExactValuePivots at any arguments. -/
import Derived.Test.YtikjeaoapeaabaaLawValuePivots
import Derived.Test.YtikjeaoapeaabaaPivotsV
import Derived.Test.YtikjeaoapeaabaaPivotsJ
namespace Go.Proofs.Ytikjeaoapeaabaa
open Go.RowKit Go.Deep

theorem lawValuePivots (a : Option Addr) (cap n : Nat) (l : List (List Int)) (w : World) (hn : l.length = n) (h63 : n ≤ 9223372036854775807) (hl : ∀ r, r < l.length → (l.getD r []).length ≤ 9223372036854775807) (hm : MatR w a l) :
    Calls Try.prog 4 #[.slice a n cap] w fun e w' => e = .returned (.bool true) ∧ w.Since w.heap.size w' :=
  lawValuePivots_aux a cap n l (sqB l) (if (sqB l) = true then ordF l n n 0 else 0) w hn h63 hl hm
    (fun hz W b c hb => (specValuePivots_any b c n l W hn hz hb).mono fun _ _ h => ⟨h.1, h.2⟩) (fun hz W b c hb => (implValuePivots_any b c n l W hn hz hb).mono fun _ _ h => ⟨h.1, h.2⟩)

end Go.Proofs.Ytikjeaoapeaabaa
