/- The contract of spec.TableSum. -/
import Derived.Test.YtpimdgijjljejaaDoorTimesSpec
import Derived.Test.YtpimdgijjljejaaDoorSumImpl
namespace Go.Proofs.YtpimdgijjljejaaDoor
open Go.RowKit Go.Deep

end Go.Proofs.YtpimdgijjljejaaDoor
