/- The contract of spec.TableSum. -/
import Derived.Test.YtdodchmelepkeaaTimesSpec
import Derived.Test.YtdodchmelepkeaaSumImpl
namespace Go.Proofs.Ytdodchmelepkeaa
open Go.RowKit Go.Deep

end Go.Proofs.Ytdodchmelepkeaa
