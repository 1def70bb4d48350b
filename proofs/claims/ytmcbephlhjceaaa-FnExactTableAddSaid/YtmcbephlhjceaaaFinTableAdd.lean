/- The walk of laws.FnExactTableAdd at any table and numbers. -/
import Derived.Test.YtmcbephlhjceaaaLawTableAdd
import Derived.Test.YtmcbephlhjceaaaAddSpec
namespace Go.Proofs.Ytmcbephlhjceaaa
open Go.RowKit Go.Deep

theorem szL_res (ok : Bool) (l : List (List Int)) (h : ok = true → szL l ≤ 1048576) : szL (resT ok l) ≤ 1048576 := by
  cases ok
  · simp [resT, szL, sumTo]
  · exact h rfl

theorem lawTableAdd (a : Option Addr) (cap n : Nat) (l : List (List Int)) (fr to f : Int) (w : World) (hn : l.length = n) (h63 : n ≤ 9223372036854775807) (hl : ∀ r, r < l.length → (l.getD r []).length ≤ 9223372036854775807) (hm : MatR w a l) :
    Calls Try.prog 12 #[.slice a n cap, .int .i64 fr, .int .i64 to, .int .i64 f] w fun e w' => e = .returned (.bool true) ∧ w.Since w.heap.size w' :=
  lawTableAdd_aux a cap n l fr to f (addOk l fr to f) (resT (addOk l fr to f) (addL l fr.toNat to.toNat f)) w hn h63 hl hm (szL_res _ _ fun h => szL_addOk l fr to f h)
    (fun hz W b c hb => specTableAdd_any b c n l fr to f W hn hz hb) (fun hz W b c hb => implTableAdd_any b c n l fr to f W hn hz hb)

end Go.Proofs.Ytmcbephlhjceaaa
