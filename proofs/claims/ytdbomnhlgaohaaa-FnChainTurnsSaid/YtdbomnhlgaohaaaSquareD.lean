/- The contracts of the functions that draw a square. -/
import Derived.Test.YtdbomnhlgaohaaaDrawOne
namespace Go.Proofs.Ytdbomnhlgaohaaa
open Go.RowKit Go.Deep









end Go.Proofs.Ytdbomnhlgaohaaa
