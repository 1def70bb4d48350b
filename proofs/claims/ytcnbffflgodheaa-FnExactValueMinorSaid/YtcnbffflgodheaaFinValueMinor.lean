/- The walk of laws.FnExactValueMinor at any arguments. -/
import Derived.Test.YtcnbffflgodheaaLawValueMinor
import Derived.Test.YtcnbffflgodheaaMinorV
import Derived.Test.YtcnbffflgodheaaMinorJ
namespace Go.Proofs.Ytcnbffflgodheaa
open Go.RowKit Go.Deep

theorem lawValueMinor (a : Option Addr) (cap n : Nat) (l : List (List Int)) (s : Int) (u : Int) (w : World) (hn : l.length = n) (h63 : n ≤ 9223372036854775807) (hl : ∀ r, r < l.length → (l.getD r []).length ≤ 9223372036854775807) (hm : MatR w a l) :
    Calls Try.prog 5 #[.slice a n cap, .int .i64 s, .int .i64 u] w fun e w' => e = .returned (.bool true) ∧ w.Since w.heap.size w' :=
  lawValueMinor_aux a cap n l s u (minorOk l s u) (if (minorOk l s u) = true then minorV l s u else 0) w hn h63 hl hm
    (fun hz W b c hb => (specValueMinor_any b c n l s u W hn hz hb).mono fun _ _ h => ⟨h.1, h.2⟩) (fun hz W b c hb => (implValueMinor_any b c n l s u W hn hz hb).mono fun _ _ h => ⟨h.1, h.2⟩)

end Go.Proofs.Ytcnbffflgodheaa
