/- The contract of spec.l5Count. -/
import Derived.Test.YtpimdgijjljejaaHalfV
namespace Go.Proofs.Ytpimdgijjljejaa
open Go.RowKit Go.Deep

theorem cntS_start (l : List (List Int)) (i s : Nat) (f : Nat → Nat) : ∀ m, m ≤ i + 1 → sumM (cntT l i s f) m = 0
  | 0, _ => rfl
  | m + 1, h => by
    show sumM (cntT l i s f) m + cntT l i s f m = 0
    rw [cntS_start l i s f m (by omega), cntT_no f (by omega)]
theorem p6_le : ∀ d, d ≤ 4 → p6 d ≤ 1296 := by
  intro d hd
  have h : d = 0 ∨ d = 1 ∨ d = 2 ∨ d = 3 ∨ d = 4 := by omega
  rcases h with rfl | rfl | rfl | rfl | rfl <;> decide
theorem cntS_bd {l : List (List Int)} {i s n : Nat} {f : Nat → Nat} {B : Nat} (h : ∀ u, f u ≤ B) : sumM (cntT l i s f) n ≤ n * B :=
  sumM_le (fun k => by
    unfold cntT
    split
    · exact h _
    · omega) n

end Go.Proofs.Ytpimdgijjljejaa
