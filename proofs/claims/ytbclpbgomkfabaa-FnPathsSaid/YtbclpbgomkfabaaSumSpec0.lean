/- The contract of spec.TableSum. -/
import Derived.Test.YtbclpbgomkfabaaTimesSpec
import Derived.Test.YtbclpbgomkfabaaSumImpl
namespace Go.Proofs.Ytbclpbgomkfabaa
open Go.RowKit Go.Deep

end Go.Proofs.Ytbclpbgomkfabaa
