/- The contract of spec.TableSum. -/
import Derived.Test.YtpimdgijjljejaaTimesSpec
import Derived.Test.YtpimdgijjljejaaSumImpl
namespace Go.Proofs.Ytpimdgijjljejaa
open Go.RowKit Go.Deep

end Go.Proofs.Ytpimdgijjljejaa
