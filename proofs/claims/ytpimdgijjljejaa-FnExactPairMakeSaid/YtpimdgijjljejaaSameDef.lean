/- Does TableSame hold? -/
import Derived.Test.YtpimdgijjljejaaSumSpec
namespace Go.Proofs.Ytpimdgijjljejaa

/-- Does TableSame hold? -/
noncomputable def sameOk (l u : List (List Int)) : Bool := tabIn l && (tabIn u && decide (l = u))

end Go.Proofs.Ytpimdgijjljejaa
