/- The walk of laws.FnExactTableTimes at any table and number. -/
import Derived.Test.YtmcbephlhjceaaaLawTableTimes
import Derived.Test.YtmcbephlhjceaaaTimesSpec
namespace Go.Proofs.Ytmcbephlhjceaaa
open Go.RowKit Go.Deep

theorem szL_res (ok : Bool) (l : List (List Int)) (h : ok = true → szL l ≤ 1048576) : szL (resT ok l) ≤ 1048576 := by
  cases ok
  · simp [resT, szL, sumTo]
  · exact h rfl

theorem lawTableTimes (a : Option Addr) (cap n : Nat) (l : List (List Int)) (f : Int) (w : World) (hn : l.length = n) (h63 : n ≤ 9223372036854775807) (hl : ∀ r, r < l.length → (l.getD r []).length ≤ 9223372036854775807) (hm : MatR w a l) :
    Calls Try.prog 5 #[.slice a n cap, .int .i64 f] w fun e w' => e = .returned (.bool true) ∧ w.Since w.heap.size w' :=
  lawTableTimes_aux a cap n l f (timesOk l f) (resT (timesOk l f) (timesL l f)) w hn h63 hl hm (szL_res _ _ fun h => szL_timesOk l f h)
    (fun hz W b c hb => specTableTimes_any b c n l f W hn hz hb) (fun hz W b c hb => implTableTimes_any b c n l f W hn hz hb)

end Go.Proofs.Ytmcbephlhjceaaa
