/- The contracts of spec.l2Rows and spec.ValueRows. -/
import Derived.Test.YtdbomnhlgaohaaaRowsF
import Derived.Test.YtdbomnhlgaohaaaL1Part
import Derived.Test.YtdbomnhlgaohaaaSpecOrders
import Derived.Deep.RegionHeld3
namespace Go.Proofs.Ytdbomnhlgaohaaa
open Go.RowKit Go.Deep

theorem andNot_fin : ∀ n : Fin 7, ∀ k : Fin 6, k.val < n.val → bits BinOp.andNot IntKind.i64 ((2 ^ n.val - 1 : Nat) : Int) (2 ^ k.val) = ((2 ^ n.val - 1 - 2 ^ k.val : Nat) : Int) := by decide +kernel
theorem less_fin : ∀ n : Fin 7, 1 ≤ n.val → IntKind.i64.wrap (((2 ^ n.val - 1 : Nat) : Int) - 1) = ((2 ^ n.val - 2 : Nat) : Int) := by decide +kernel
theorem pow63 : ∀ n : Fin 7, 2 ^ n.val - 1 ≤ 63 := by decide +kernel

/-- A number and whether there is one; other blocks may have come. -/
def SpecW (w : World) (ok : Bool) (x : Int) (e : Ending) (w' : World) : Prop := e = .returned (.tuple #[.int .i64 (if ok then x else 0), .bool ok]) ∧ w.Since w.heap.size w'

end Go.Proofs.Ytdbomnhlgaohaaa
