/- The walk of laws.FnExactTableSwap at any table and any two numbers. -/
import Derived.Test.YtmcbephlhjceaaaLawTableSwap
import Derived.Test.YtmcbephlhjceaaaSwapSpec
namespace Go.Proofs.Ytmcbephlhjceaaa
open Go.RowKit Go.Deep

theorem szL_resSwap (ok : Bool) (l : List (List Int)) (h : ok = true → szL l ≤ 1048576) : szL (resT ok l) ≤ 1048576 := by
  cases ok
  · simp [resT, szL, sumTo]
  · exact h rfl

theorem lawTableSwap (a : Option Addr) (cap n : Nat) (l : List (List Int)) (i k : Int) (w : World)
    (hn : l.length = n) (h63 : n ≤ 9223372036854775807) (hl : ∀ r, r < l.length → (l.getD r []).length ≤ 9223372036854775807) (hm : MatR w a l) :
    Calls Try.prog 11 #[.slice a n cap, .int .i64 i, .int .i64 k] w fun e w' => e = .returned (.bool true) ∧ w.Since w.heap.size w' :=
  lawTableSwap_aux a cap n l i k (swapOk l i k) (resT (swapOk l i k) (swapL l i.toNat k.toNat)) w hn h63 hl hm (szL_resSwap _ _ fun h => szL_swapOk l i k h)
    (fun hz W b cp hb => specTableSwap_any b cp n l i k W hn hz hb) (fun hz W b cp hb => implTableSwap_any b cp n l i k W hn hz hb)

end Go.Proofs.Ytmcbephlhjceaaa
