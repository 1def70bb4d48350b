/- The contract of spec.TableSum. -/
import Derived.Test.YthdemjfllfhhpaaTimesSpec
import Derived.Test.YthdemjfllfhhpaaSumImpl
namespace Go.Proofs.Ythdemjfllfhhpaa
open Go.RowKit Go.Deep

end Go.Proofs.Ythdemjfllfhhpaa
