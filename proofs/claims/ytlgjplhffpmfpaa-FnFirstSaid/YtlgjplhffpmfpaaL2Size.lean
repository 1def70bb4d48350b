/- The contract of spec.l2Size. -/
import Derived.Test.YtlgjplhffpmfpaaOrdF
import Derived.Test.YtlgjplhffpmfpaaHarn2
namespace Go.Proofs.Ytlgjplhffpmfpaa
open Go.RowKit Go.Deep

theorem and1S_fin : ∀ s : Fin 64, bits BinOp.and IntKind.i64 (s.val : Int) 1 = ((s.val % 2 : Nat) : Int) := by decide +kernel

set_option maxHeartbeats 1000000 in
theorem l2Size_any (s : Nat) (hs : s ≤ 63) (w : World) : Calls Try.prog 83 #[.int .i64 s] w fun e w' => e = .returned (.int .i64 (popcS s)) ∧ w = w' := by
  have hp6 : popcS s ≤ 6 := sel_length s 6 6
  go_enter Try.func83, Try.ntmps83
  go_wp2
  go_loopg [0, 3] s (fun g v k wr => ∃ x j : Nat, x ≤ s ∧ g = x ∧ v = .int .i64 (x : Nat) ∧ k = .int .i64 (j : Nat) ∧ j + popcS x = popcS s ∧ w = wr)
  case atStart => exact ⟨s, 0, Nat.le_refl _, rfl, rfl, rfl, Nat.zero_add _, rfl⟩
  case round =>
    obtain ⟨x, j, hx, rfl, rfl, rfl, hj, rfl⟩ := hrel
    by_cases h0 : 0 < gk
    · have h0' : decide ((0 : Int) < (gk : Int)) = true := by simp; omega
      have hst := popcS_step ⟨gk, by omega⟩
      have hb := and1S_fin ⟨gk, by omega⟩
      simp only at hst hb
      obtain ⟨d, hd⟩ : ∃ d, gk % 2 = d := ⟨_, rfl⟩
      have hd2 : d ≤ 1 := by omega
      rw [hd] at hst hb
      have HD := Lib.hid hd
      clear hd
      have hw : IntKind.i64.wrap ((j : Int) + (d : Int)) = (j : Int) + (d : Int) := IntWalk.i64_in _ ⟨by omega, by omega⟩
      go_wp2
      go_roundg (gk / 2)
      case measure => omega
      case rel => exact ⟨gk / 2, j + d, by omega, rfl, by first | rfl | go_num, by go_num, by omega, rfl⟩
    · have h0' : decide ((0 : Int) < (gk : Int)) = false := by simp; omega
      have hg0 : gk = 0 := by omega
      have hp0 : popcS 0 = 0 := by decide
      subst hg0
      go_wp2
      go_ret
      exact ⟨by rw [← hj, hp0]; rfl, rfl⟩

end Go.Proofs.Ytlgjplhffpmfpaa
