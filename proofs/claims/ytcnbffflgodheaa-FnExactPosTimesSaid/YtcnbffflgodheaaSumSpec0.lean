/- The contract of spec.TableSum. -/
import Derived.Test.YtcnbffflgodheaaTimesSpec
import Derived.Test.YtcnbffflgodheaaSumImpl
namespace Go.Proofs.Ytcnbffflgodheaa
open Go.RowKit Go.Deep

end Go.Proofs.Ytcnbffflgodheaa
