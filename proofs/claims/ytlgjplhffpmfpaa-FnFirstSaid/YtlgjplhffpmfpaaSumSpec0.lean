/- The contract of spec.TableSum. -/
import Derived.Test.YtlgjplhffpmfpaaTimesSpec
import Derived.Test.YtlgjplhffpmfpaaSumImpl
namespace Go.Proofs.Ytlgjplhffpmfpaa
open Go.RowKit Go.Deep

end Go.Proofs.Ytlgjplhffpmfpaa
