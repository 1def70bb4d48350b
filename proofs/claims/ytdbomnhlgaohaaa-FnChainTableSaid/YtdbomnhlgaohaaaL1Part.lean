/- The contract of spec.l1Part. -/
import Derived.Test.YtdbomnhlgaohaaaPartPure
import Derived.Test.YtdbomnhlgaohaaaCopy
import Derived.Test.YtdbomnhlgaohaaaGrid
namespace Go.Proofs.Ytdbomnhlgaohaaa
open Go.RowKit Go.Deep

theorem bit0_fin : ∀ s : Fin 64, ∀ i : Fin 6, (bits BinOp.and IntKind.i64 ((s.val : Int) / 2 ^ i.val) 1 == 0) = !s.val.testBit i.val := by decide +kernel
theorem bit0_any (s i : Nat) (hs : s ≤ 63) (hi : i ≤ 5) : (bits BinOp.and IntKind.i64 ((s : Int) / 2 ^ i) 1 == 0) = !s.testBit i := bit0_fin ⟨s, by omega⟩ ⟨i, by omega⟩
theorem pow_wrap (n : Nat) (h : n ≤ 6) : wrap64 (wrap64 (2 ^ n) - 1) = ((2 ^ n - 1 : Nat) : Int) := by
  have h : n = 0 ∨ n = 1 ∨ n = 2 ∨ n = 3 ∨ n = 4 ∨ n = 5 ∨ n = 6 := by omega
  rcases h with rfl | rfl | rfl | rfl | rfl | rfl | rfl <;> decide +kernel

end Go.Proofs.Ytdbomnhlgaohaaa
