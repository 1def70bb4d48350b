/- The walk of laws.FnExactTableTurn at any table. -/
import Derived.Test.YtmcbephlhjceaaaLawTableTurn
import Derived.Test.YtmcbephlhjceaaaTurnSpec
namespace Go.Proofs.Ytmcbephlhjceaaa
open Go.RowKit Go.Deep

theorem szL_res (ok : Bool) (l : List (List Int)) (h : ok = true → szL l ≤ 1048576) : szL (resT ok l) ≤ 1048576 := by
  cases ok
  · simp [resT, szL, sumTo]
  · exact h rfl

theorem lawTableTurn (a : Option Addr) (cap n : Nat) (l : List (List Int)) (w : World) (hn : l.length = n) (h63 : n ≤ 9223372036854775807) (hl : ∀ r, r < l.length → (l.getD r []).length ≤ 9223372036854775807) (hm : MatR w a l) :
    Calls Try.prog 7 #[.slice a n cap] w fun e w' => e = .returned (.bool true) ∧ w.Since w.heap.size w' :=
  lawTableTurn_aux a cap n l (tabIn l) (resT (tabIn l) (turnL l)) w hn h63 hl hm (szL_res _ _ fun h => szL_turn (tabIn_of h))
    (fun hz W b c hb => specTableTurn_any b c n l W hn hz hb) (fun hz W b c hb => implTableTurn_any b c n l W hn hz hb)

end Go.Proofs.Ytmcbephlhjceaaa
