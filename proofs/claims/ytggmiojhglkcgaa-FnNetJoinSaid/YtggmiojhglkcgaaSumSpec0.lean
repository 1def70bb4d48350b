/- The contract of spec.TableSum. -/
import Derived.Test.YtggmiojhglkcgaaTimesSpec
import Derived.Test.YtggmiojhglkcgaaSumImpl
namespace Go.Proofs.Ytggmiojhglkcgaa
open Go.RowKit Go.Deep

end Go.Proofs.Ytggmiojhglkcgaa
