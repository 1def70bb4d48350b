/- Sums of integers. -/
import Derived.Test.YtdbomnhlgaohaaaData
namespace Go.Proofs.Ytdbomnhlgaohaaa

/-- The sum of f at 0 .. n - 1. -/
def sumN (f : Nat → Int) : Nat → Int
  | 0 => 0
  | n + 1 => sumN f n + f n

end Go.Proofs.Ytdbomnhlgaohaaa
