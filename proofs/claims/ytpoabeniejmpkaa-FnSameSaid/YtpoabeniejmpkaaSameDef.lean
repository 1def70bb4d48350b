/- Does TableSame hold? -/
import Derived.Test.YtpoabeniejmpkaaSumSpec
namespace Go.Proofs.Ytpoabeniejmpkaa

/-- Does TableSame hold? -/
noncomputable def sameOk (l u : List (List Int)) : Bool := tabIn l && (tabIn u && decide (l = u))

end Go.Proofs.Ytpoabeniejmpkaa
