/- The walk of laws.FnExactTablePart at any table and any two numbers. -/
import Derived.Test.YtmcbephlhjceaaaLawTablePart
import Derived.Test.YtmcbephlhjceaaaPartSpec
import Derived.Test.YtmcbephlhjceaaaFinTableSum
namespace Go.Proofs.Ytmcbephlhjceaaa
open Go.RowKit Go.Deep

theorem lawTablePart (a : Option Addr) (cap n : Nat) (l : List (List Int)) (s c : Int) (w : World)
    (hn : l.length = n) (h63 : n ≤ 9223372036854775807) (hl : ∀ r, r < l.length → (l.getD r []).length ≤ 9223372036854775807) (hm : MatR w a l) :
    Calls Try.prog 8 #[.slice a n cap, .int .i64 s, .int .i64 c] w fun e w' => e = .returned (.bool true) ∧ w.Since w.heap.size w' :=
  lawTablePart_aux a cap n l s c (partOk l s c) (resT (partOk l s c) (partL l s.toNat c.toNat)) w hn h63 hl hm (szL_res _ _ fun h => szL_partOk l s c h)
    (fun hz W b cp hb => specTablePart_any b cp n l s c W hn hz hb) (fun hz W b cp hb => implTablePart_any b cp n l s c W hn hz hb)

end Go.Proofs.Ytmcbephlhjceaaa
