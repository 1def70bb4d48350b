/- The contract of impl.ValueRows. -/
import Derived.Test.YtikjeaoapeaabaaSquareV
import Derived.Test.YtikjeaoapeaabaaRowsI
namespace Go.Proofs.Ytikjeaoapeaabaa
open Go.RowKit Go.Deep

theorem implValueRows_any (a : Option Addr) (cap n : Nat) (l : List (List Int)) (w : World) (hn : l.length = n) (hsz : szL l ≤ 1048576) (hm : MatR w a l) :
    Calls Try.prog 18 #[.slice a n cap] w (SpecW w (sqB l) (rowF n l)) :=
  implValueRows_of a cap n l (rowF n l) w hn hsz hm fun hs W' hm' => by
    obtain ⟨hT, hw⟩ := sqB_of hs
    have h6 := hT.2.1
    exact byRows_any n (by omega) l a cap W' ⟨hn, fun _ => ⟨hT, by rw [← hw, hn]⟩⟩ hm'

end Go.Proofs.Ytikjeaoapeaabaa
