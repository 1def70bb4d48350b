/- The contracts of spec.l2Orders and spec.l2Value. -/
import Derived.Test.YtdbomnhlgaohaaaL2Size
import Derived.Test.YtdbomnhlgaohaaaL2Square
import Derived.Test.YtdbomnhlgaohaaaGrid
namespace Go.Proofs.Ytdbomnhlgaohaaa
open Go.RowKit Go.Deep

theorem orS_fin : ∀ s : Fin 64, ∀ k : Fin 6, bits BinOp.or IntKind.i64 (s.val : Int) (2 ^ k.val) = ((s.val ||| 2 ^ k.val : Nat) : Int) := by decide +kernel
theorem orS_lt : ∀ s : Fin 64, ∀ k : Fin 6, s.val ||| 2 ^ k.val ≤ 63 := by decide +kernel
theorem pow_in : ∀ k : Fin 6, IntKind.i64.wrap ((2 : Int) ^ k.val) = (2 : Int) ^ k.val := by decide +kernel
theorem popcS_le (s : Nat) : popcS s ≤ 6 := sel_length s 6 6

end Go.Proofs.Ytdbomnhlgaohaaa
