/- The contract of spec.TableSum. -/
import Derived.Test.YtiabnlebonmedaaTimesSpec
import Derived.Test.YtiabnlebonmedaaSumImpl
namespace Go.Proofs.Ytiabnlebonmedaa
open Go.RowKit Go.Deep

end Go.Proofs.Ytiabnlebonmedaa
