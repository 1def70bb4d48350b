/- Does TableSame hold? -/
import Derived.Test.YtenkafcdachlkaaSumSpec
namespace Go.Proofs.Ytenkafcdachlkaa

/-- Does TableSame hold? -/
noncomputable def sameOk (l u : List (List Int)) : Bool := tabIn l && (tabIn u && decide (l = u))

end Go.Proofs.Ytenkafcdachlkaa
