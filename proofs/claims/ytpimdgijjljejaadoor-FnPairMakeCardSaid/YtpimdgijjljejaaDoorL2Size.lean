/- The contract of spec.l2Size. -/
import Derived.Test.YtpimdgijjljejaaDoorOrdF
import Derived.Test.YtpimdgijjljejaaDoorHarn2
namespace Go.Proofs.YtpimdgijjljejaaDoor
open Go.RowKit Go.Deep

theorem and1S_fin : ∀ s : Fin 64, bits BinOp.and IntKind.i64 (s.val : Int) 1 = ((s.val % 2 : Nat) : Int) := by decide +kernel

end Go.Proofs.YtpimdgijjljejaaDoor
