/- The contract of bits.TrailingZeros over its table. -/
import Derived.Test.YtpimdgijjljejaaDoorHalfF
namespace Go.Proofs.YtpimdgijjljejaaDoor
open Go.RowKit Go.Deep

/-- The table's cells for the powers of 2. -/
def TZ (w : World) : Prop := ∀ i : Nat, i < 6 → w.cell? ⟨1, 2 ^ i - 1, none⟩ = some (.int .u8 i)
theorem TZ.kept {w w' : World} (h : TZ w) (hk : w'.heap[1]? = w.heap[1]?) : TZ w' := fun i hi => (World.cell?_of_block hk).trans (h i hi)

theorem tz_fin : ∀ s : Fin 64, s.val ≠ 0 → IntKind.u64.wrap (bits BinOp.and IntKind.u64 (s.val : Int) (IntKind.u64.wrap (-(s.val : Int))) * 285870213051353865) / 288230376151711744 = ((2 ^ lowB s.val - 1 : Nat) : Int) ∧ lowB s.val < 6 := by decide +kernel

set_option maxRecDepth 100000 in
set_option maxHeartbeats 1000000 in
theorem trailing64_any (s : Nat) (h : s < 64) (h0 : s ≠ 0) (w : World) (hT : TZ w) :
    Calls Tryd.prog 101 #[.int .u64 s] w fun e w' => e = .returned (.int .i64 (lowB s)) ∧ w = w' := by
  have hne : ((s : Int) == 0) = false := by simp; omega
  obtain ⟨hf, h6⟩ := tz_fin ⟨s, h⟩ h0
  simp only at hf h6
  obtain ⟨i, hi⟩ : ∃ i, lowB s = i := ⟨_, rfl⟩
  rw [hi] at hf h6 ⊢
  have hc := hT i h6
  have hq : 2 ^ i - 1 < 64 := by have : 2 ^ i ≤ 2 ^ 6 := Nat.pow_le_pow_right (by omega) (by omega); omega
  obtain ⟨q, hqq⟩ : ∃ q, 2 ^ i - 1 = q := ⟨_, rfl⟩
  rw [hqq] at hf hc hq
  have hq1 : (q : Int) < 64 := by omega
  have hwi : IntKind.i64.wrap (i : Int) = (i : Int) := IntWalk.i64_in _ ⟨by omega, by omega⟩
  clear hT hi hqq h h0
  go_enter Tryd.func101, Tryd.ntmps101
  go_wp2
  go_ret
  exact ⟨rfl, rfl⟩

set_option maxHeartbeats 400000 in
theorem trailing_any (s : Nat) (h : s < 64) (h0 : s ≠ 0) (w : World) (hT : TZ w) :
    Calls Tryd.prog 82 #[.int .u64 s] w fun e w' => e = .returned (.int .i64 (lowB s)) ∧ w = w' := by
  have E := Lib.hid (trailing64_any s h h0 w hT)
  clear hT
  go_enter Tryd.func82, Tryd.ntmps82
  go_wp2_with fail
  refine (E.out).mono ?_
  rintro e w' ⟨rfl, rfl⟩
  go_wp2
  go_ret
  exact ⟨rfl, rfl⟩

end Go.Proofs.YtpimdgijjljejaaDoor
