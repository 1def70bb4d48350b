/- The contract of spec.TableSum. -/
import Derived.Test.YtikjeaoapeaabaaTimesSpec
import Derived.Test.YtikjeaoapeaabaaSumImpl
namespace Go.Proofs.Ytikjeaoapeaabaa
open Go.RowKit Go.Deep

end Go.Proofs.Ytikjeaoapeaabaa
