/- The contract of spec.l6cFrom. -/
import Derived.Test.YtbclpbgomkfabaaChip
namespace Go.Proofs.Ytbclpbgomkfabaa
open Go.RowKit Go.Deep

set_option maxHeartbeats 1000000 in
theorem l6cFrom_any (K : ByteArray) (L : Nat) (V : Int) (w : World) (hL : L ≤ 10) :
    Calls Try.prog 103 #[.agg #[.string K, .int .i64 L, .int .i64 V]] w fun e w' => e = .returned (if K.toList = [117] then .tuple #[.int .i64 (L : Int), .int .i64 ((L + 1 : Nat) : Int)] else .tuple #[.int .i64 ((L + 1 : Nat) : Int), .int .i64 (L : Int)]) ∧ w.Since w.heap.size w' := by
  have hw : IntKind.i64.wrap ((L : Int) + 1) = ((L + 1 : Nat) : Int) := (IntWalk.i64_in _ ⟨by omega, by omega⟩).trans (by omega)
  have hb := World.alloc_heap_new w (.cells #[.string K, .int .i64 L, .int .i64 V] 36)
  have d1 : (w.alloc (.cells #[.string K, .int .i64 L, .int .i64 V] 36)).cell? ⟨w.heap.size, 0, none⟩ = some (.string K) := by unfold World.cell?; rw [hb]; rfl
  have d2 : (w.alloc (.cells #[.string K, .int .i64 L, .int .i64 V] 36)).cell? ⟨w.heap.size, 1, none⟩ = some (.int .i64 L) := by unfold World.cell?; rw [hb]; rfl
  have HS := Lib.hid ((World.Since.refl w.heap.size w).alloc (Nat.le_refl _) (.cells #[.string K, .int .i64 L, .int .i64 V] 36))
  clear hb
  by_cases hU : K.toList = [117]
  · rw [if_pos hU]
    go_enter Try.func103, Try.ntmps103
    go_wp2
    go_region
    all_goals
      go_wp2
      go_ret2
      exact ⟨rfl, HS.out.drew⟩
  · rw [if_neg hU]
    go_enter Try.func103, Try.ntmps103
    have hU' : (K.toList == [117]) = false := by simpa using hU
    go_wp2
    go_region
    all_goals
      go_wp2
      go_ret2
      exact ⟨rfl, HS.out.drew⟩

end Go.Proofs.Ytbclpbgomkfabaa
