/- The walk of laws.FnExactValueOther at any table. -/
import Derived.Test.YtikjeaoapeaabaaLawValueOther
import Derived.Test.YtikjeaoapeaabaaOtherV
import Derived.Test.YtikjeaoapeaabaaOtherJ
namespace Go.Proofs.Ytikjeaoapeaabaa
open Go.RowKit Go.Deep

theorem szL_resO (ok : Bool) (l : List (List Int)) (h : ok = true → szL l ≤ 1048576) : szL (resT ok l) ≤ 1048576 := by
  cases ok
  · simp [resT, szL, sumTo]
  · exact h rfl

theorem lawValueOther (a : Option Addr) (cap n : Nat) (l : List (List Int)) (w : World) (hn : l.length = n) (h63 : n ≤ 9223372036854775807) (hl : ∀ r, r < l.length → (l.getD r []).length ≤ 9223372036854775807) (hm : MatR w a l) :
    Calls Try.prog 7 #[.slice a n cap] w fun e w' => e = .returned (.bool true) ∧ w.Since w.heap.size w' :=
  lawValueOther_aux a cap n l (sqB l) (resT (sqB l) (tabF n n (othF l n))) w hn h63 hl hm (szL_resO _ _ fun h => by
      obtain ⟨hT, _⟩ := sqB_of h
      have := hT.2.1
      exact szL_tabF _ _ _ (by omega) (by omega))
    (fun hz W b c hb => specValueOther_any b c n l W hn hz hb) (fun hz W b c hb => implValueOther_any b c n l W hn hz hb)

end Go.Proofs.Ytikjeaoapeaabaa
