/- The contract of impl.ValuePivots. -/
import Derived.Test.YtikjeaoapeaabaaSquareV
import Derived.Test.YtikjeaoapeaabaaPivotsI
import Derived.Test.YtikjeaoapeaabaaOrdDet
namespace Go.Proofs.Ytikjeaoapeaabaa
open Go.RowKit Go.Deep

theorem implValuePivots_any (a : Option Addr) (cap n : Nat) (l : List (List Int)) (w : World) (hn : l.length = n) (hsz : szL l ≤ 1048576) (hm : MatR w a l) :
    Calls Try.prog 21 #[.slice a n cap] w (SpecW w (sqB l) (ordF l n n 0)) :=
  implValuePivots_of a cap n l (ordF l n n 0) w hn hsz hm fun hs W' hm' => by
    obtain ⟨hT, hw⟩ := sqB_of hs
    have h6 := hT.2.1
    rw [ordF_all l (by omega)]
    exact byPivots_any n l a cap W' ⟨hn, fun _ => ⟨hT, by rw [← hw, hn]⟩⟩ (by omega) hm'

end Go.Proofs.Ytikjeaoapeaabaa
