/- The walk of laws.FnExactTableBeside at any two tables. -/
import Derived.Test.YtmcbephlhjceaaaLawTableBeside
import Derived.Test.YtmcbephlhjceaaaBesideSpec
namespace Go.Proofs.Ytmcbephlhjceaaa
open Go.RowKit Go.Deep

theorem szL_resBeside (ok : Bool) (l : List (List Int)) (h : ok = true → szL l ≤ 1048576) : szL (resT ok l) ≤ 1048576 := by
  cases ok
  · simp [resT, szL, sumTo]
  · exact h rfl

theorem lawTableBeside (a : Option Addr) (cap n : Nat) (l : List (List Int)) (a2 : Option Addr) (cap2 n2 : Nat) (u : List (List Int)) (w : World)
    (hn : l.length = n) (h63 : n ≤ 9223372036854775807) (hl : ∀ r, r < l.length → (l.getD r []).length ≤ 9223372036854775807) (hm : MatR w a l)
    (hn2 : u.length = n2) (h632 : n2 ≤ 9223372036854775807) (hl2 : ∀ r, r < u.length → (u.getD r []).length ≤ 9223372036854775807) (hm2 : MatR w a2 u) :
    Calls Try.prog 10 #[.slice a n cap, .slice a2 n2 cap2] w fun e w' => e = .returned (.bool true) ∧ w.Since w.heap.size w' :=
  lawTableBeside_aux a cap n l a2 cap2 n2 u (besideOk l u) (resT (besideOk l u) (besideL l u)) w hn h63 hl hm hn2 h632 hl2 hm2 (szL_resBeside _ _ fun h => szL_besideOk l u h)
    (fun hz W b c b2 c2 hb hb2 => specTableBeside_any b b2 c c2 n n2 l u W hn hn2 hz.1 hz.2 hb hb2) (fun hz W b c b2 c2 hb hb2 => implTableBeside_any b b2 c c2 n n2 l u W hn hn2 hz.1 hz.2 hb hb2)

end Go.Proofs.Ytmcbephlhjceaaa
