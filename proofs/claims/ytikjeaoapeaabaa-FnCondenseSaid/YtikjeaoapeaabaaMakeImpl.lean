/- The contract of impl.TableMake. -/
import Derived.Test.YtikjeaoapeaabaaSumSpec
import Derived.Test.YtikjeaoapeaabaaMakeEntry
namespace Go.Proofs.Ytikjeaoapeaabaa
open Go.RowKit Go.Deep

def makeL (l u : List (List Int)) : List (List Int) := tabF l.length (u.getD 0 []).length fun i k => sumN (dotF l u i k) u.length
theorem makeL_length (l u : List (List Int)) : (makeL l u).length = l.length := tabF_length _ _ _

/-- Does TableMake succeed? -/
noncomputable def makeOk (l u : List (List Int)) : Bool := tabIn l && (tabIn u && (((l.getD 0 []).length == u.length) && tabIn (makeL l u)))
theorem szL_make {l u : List (List Int)} (h : TabIn l) (hu : TabIn u) : szL (makeL l u) ≤ 1048576 := szL_tabF _ _ _ (by have := h.2.1; omega) (by have := hu.width; omega)

end Go.Proofs.Ytikjeaoapeaabaa
