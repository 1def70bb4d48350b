/- The contracts of spec.l5Half and spec.l5Count. -/
import Derived.Test.YtpimdgijjljejaaHalfF
import Derived.Test.YtpimdgijjljejaaOrders
import Derived.Test.YtpimdgijjljejaaRowsV
namespace Go.Proofs.Ytpimdgijjljejaa
open Go.RowKit Go.Deep

theorem halfS_start (l : List (List Int)) (i s : Nat) (f : Nat → Int) : ∀ m, m ≤ i + 1 → sumN (halfT l i s f) m = 0
  | 0, _ => rfl
  | m + 1, h => by
    show sumN (halfT l i s f) m + halfT l i s f m = 0
    rw [halfS_start l i s f m (by omega), halfT_no f (by omega)]
    rfl
theorem popcS_oneH' : ∀ s : Fin 64, 0 < s.val → 1 ≤ popcS s.val := by decide +kernel
theorem btw_le (s i k : Nat) : btw s i k ≤ 6 := popcS_le _

end Go.Proofs.Ytpimdgijjljejaa
