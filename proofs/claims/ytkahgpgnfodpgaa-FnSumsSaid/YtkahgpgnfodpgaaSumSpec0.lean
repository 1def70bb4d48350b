/- The contract of spec.TableSum. -/
import Derived.Test.YtkahgpgnfodpgaaTimesSpec
import Derived.Test.YtkahgpgnfodpgaaSumImpl
namespace Go.Proofs.Ytkahgpgnfodpgaa
open Go.RowKit Go.Deep

end Go.Proofs.Ytkahgpgnfodpgaa
