/- The walk of laws.FnExactTableSame at any two tables. -/
import Derived.Test.YtmcbephlhjceaaaLawTableSame
import Derived.Test.YtmcbephlhjceaaaSameImpl
namespace Go.Proofs.Ytmcbephlhjceaaa
open Go.RowKit Go.Deep

theorem lawTableSame (a : Option Addr) (cap n : Nat) (l : List (List Int)) (a2 : Option Addr) (cap2 n2 : Nat) (u : List (List Int)) (w : World)
    (hn : l.length = n) (h63 : n ≤ 9223372036854775807) (hl : ∀ r, r < l.length → (l.getD r []).length ≤ 9223372036854775807) (hm : MatR w a l)
    (hn2 : u.length = n2) (h632 : n2 ≤ 9223372036854775807) (hl2 : ∀ r, r < u.length → (u.getD r []).length ≤ 9223372036854775807) (hm2 : MatR w a2 u) :
    Calls Try.prog 13 #[.slice a n cap, .slice a2 n2 cap2] w fun e w' => e = .returned (.bool true) ∧ w.Since w.heap.size w' :=
  lawTableSame_aux a cap n l a2 cap2 n2 u (sameOk l u) w hn h63 hl hm hn2 h632 hl2 hm2
    (fun hz W b c b2 c2 hb hb2 => specTableSame_any b b2 c c2 n n2 l u W hn hn2 hz.1 hz.2 hb hb2) (fun hz W b c b2 c2 hb hb2 => implTableSame_any b b2 c c2 n n2 l u W hn hn2 hz.1 hz.2 hb hb2)

end Go.Proofs.Ytmcbephlhjceaaa
