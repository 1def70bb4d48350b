/- The walk of laws.FnExactValueOrders at any arguments. -/
import Derived.Test.YtiabnlebonmedaaLawValueOrders
import Derived.Test.YtiabnlebonmedaaSpecOrders
import Derived.Test.YtiabnlebonmedaaOrdersK
namespace Go.Proofs.Ytiabnlebonmedaa
open Go.RowKit Go.Deep

theorem lawValueOrders (a : Option Addr) (cap n : Nat) (l : List (List Int)) (w : World) (hn : l.length = n) (h63 : n ≤ 9223372036854775807) (hl : ∀ r, r < l.length → (l.getD r []).length ≤ 9223372036854775807) (hm : MatR w a l) :
    Calls Try.prog 9 #[.slice a n cap] w fun e w' => e = .returned (.bool true) ∧ w.Since w.heap.size w' :=
  lawValueOrders_aux a cap n l (sqB l) (if (sqB l) = true then ordF l n n 0 else 0) w hn h63 hl hm
    (fun hz W b c hb => (specValueOrders_any b c n l W hn hz hb).mono fun _ _ h => ⟨h.1, h.2.since _⟩) (fun hz W b c hb => (implValueOrders_any b c n l W hn hz hb).mono fun _ _ h => ⟨h.1, h.2⟩)

end Go.Proofs.Ytiabnlebonmedaa
