/- The contract of spec.TableSum. -/
import Derived.Test.YtdbomnhlgaohaaaTimesSpec
import Derived.Test.YtdbomnhlgaohaaaSumImpl
namespace Go.Proofs.Ytdbomnhlgaohaaa
open Go.RowKit Go.Deep

end Go.Proofs.Ytdbomnhlgaohaaa
