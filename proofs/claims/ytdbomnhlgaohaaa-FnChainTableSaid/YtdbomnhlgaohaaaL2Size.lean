/- The contract of spec.l2Size. -/
import Derived.Test.YtdbomnhlgaohaaaOrdF
import Derived.Test.YtdbomnhlgaohaaaHarn2
namespace Go.Proofs.Ytdbomnhlgaohaaa
open Go.RowKit Go.Deep

theorem and1S_fin : ∀ s : Fin 64, bits BinOp.and IntKind.i64 (s.val : Int) 1 = ((s.val % 2 : Nat) : Int) := by decide +kernel

end Go.Proofs.Ytdbomnhlgaohaaa
