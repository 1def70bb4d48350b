/- The contract of spec.TableSum. -/
import Derived.Test.YtkfondipmhjhjaaTimesSpec
import Derived.Test.YtkfondipmhjhjaaSumImpl
namespace Go.Proofs.Ytkfondipmhjhjaa
open Go.RowKit Go.Deep

end Go.Proofs.Ytkfondipmhjhjaa
