/- The contract of spec.TableSum. -/
import Derived.Test.YteaabemnolacdaaTimesSpec
import Derived.Test.YteaabemnolacdaaSumImpl
namespace Go.Proofs.Yteaabemnolacdaa
open Go.RowKit Go.Deep

end Go.Proofs.Yteaabemnolacdaa
