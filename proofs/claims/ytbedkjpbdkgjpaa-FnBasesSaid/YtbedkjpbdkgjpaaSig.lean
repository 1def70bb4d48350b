/- The contracts of impl.signOf and of the methods isSquare and without. -/
import Derived.Test.YtbedkjpbdkgjpaaRowsV
import Derived.Test.YtbedkjpbdkgjpaaDet
import Derived.Test.YtbedkjpbdkgjpaaPartImpl
namespace Go.Proofs.Ytbedkjpbdkgjpaa
open Go.RowKit Go.Deep

theorem sn_tmod (k : Nat) (h : k < 64) : (Int.tmod (k : Int) 2 == 0) = !decide (k % 2 = 1) := by
  have h2 : ∀ k : Fin 64, (Int.tmod (k.val : Int) 2 == 0) = !decide (k.val % 2 = 1) := by decide +kernel
  exact h2 ⟨k, h⟩

set_option maxHeartbeats 400000 in
theorem signOf_any (k : Nat) (h : k < 64) (w : World) :
    Calls Try.prog 74 #[.int .i64 k] w fun e w' => e = .returned (.int .i64 (sn k)) ∧ w = w' := by
  have e := sn_tmod k h
  by_cases ho : k % 2 = 1
  · have e2 : sn k = -1 := if_pos ho
    rw [e2]
    have e3 : (Int.tmod (k : Int) 2 == 0) = false := by rw [e]; simp [ho]
    clear e h
    go_enter Try.func74, Try.ntmps74
    go_wp2
    go_ret
    exact ⟨rfl, rfl⟩
  · have e2 : sn k = 1 := if_neg ho
    rw [e2]
    have e3 : (Int.tmod (k : Int) 2 == 0) = true := by rw [e]; simp [ho]
    clear e h
    go_enter Try.func74, Try.ntmps74
    go_wp2
    go_ret
    exact ⟨rfl, rfl⟩

end Go.Proofs.Ytbedkjpbdkgjpaa
