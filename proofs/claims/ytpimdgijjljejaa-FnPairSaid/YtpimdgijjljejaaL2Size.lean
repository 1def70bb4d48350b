/- The contract of spec.l2Size. -/
import Derived.Test.YtpimdgijjljejaaOrdF
import Derived.Test.YtpimdgijjljejaaHarn2
namespace Go.Proofs.Ytpimdgijjljejaa
open Go.RowKit Go.Deep

theorem and1S_fin : ∀ s : Fin 64, bits BinOp.and IntKind.i64 (s.val : Int) 1 = ((s.val % 2 : Nat) : Int) := by decide +kernel

end Go.Proofs.Ytpimdgijjljejaa
