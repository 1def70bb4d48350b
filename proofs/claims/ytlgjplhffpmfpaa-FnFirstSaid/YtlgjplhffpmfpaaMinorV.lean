/- The contract of spec.ValueMinor. -/
import Derived.Test.YtlgjplhffpmfpaaRowsV
namespace Go.Proofs.Ytlgjplhffpmfpaa
open Go.RowKit Go.Deep

theorem popcS_sel : ∀ n : Fin 7, ∀ s : Fin 64, s.val < 2 ^ n.val → (sel s.val n.val n.val).length = popcS s.val := by decide +kernel
theorem popcS_pos : ∀ s : Fin 64, 1 ≤ popcS s.val → 1 ≤ s.val := by decide +kernel

set_option maxHeartbeats 1000000 in
theorem l2Orders_end (a : Option Addr) (cap n used : Nat) (W : World) : Calls Try.prog 63 #[.slice a n cap, .int .i64 n, .int .i64 used] W fun e w' => e = .returned (.int .i64 1) ∧ Drawn W w' := by
  go_enter Try.func63, Try.ntmps63
  go_wp2
  go_ret
  exact ⟨rfl, Drawn.refl _⟩

set_option maxHeartbeats 1000000 in
theorem l2Value_sq (a : Option Addr) (cap k : Nat) (L : List (List Int)) (h : SqD k L) (W : World) (hm : MatR W a L) : Calls Try.prog 31 #[.slice a k cap] W fun e w' => e = .returned (.int .i64 (ordF L k k 0)) ∧ Drawn W w' := by
  by_cases h0 : 1 ≤ k
  · exact l2Value_any a cap k L h.1 (h.2 h0).1 (h.2 h0).2 W hm
  · have hk : k = 0 := by omega
    subst hk
    have E := Lib.hid (l2Orders_end a cap 0 0 W)
    rw [ordF_zero]
    clear hm h
    go_enter Try.func31, Try.ntmps31
    go_wp2_with fail
    refine (E.out).mono ?_
    rintro e w1 ⟨rfl, hd⟩
    go_wp2
    go_ret
    exact ⟨rfl, hd⟩

/-- Does ValueMinor succeed? -/
noncomputable def minorOk (l : List (List Int)) (s c : Int) : Bool := tabIn l && (inB s 0 (2 ^ l.length - 1 : Nat) && (inB c 0 (2 ^ (l.getD 0 []).length - 1 : Nat) && (popcS s.toNat == popcS c.toNat)))
/-- The minor. -/
def minorV (l : List (List Int)) (s c : Int) : Int := ordF (partL l s.toNat c.toNat) (popcS s.toNat) (popcS s.toNat) 0
theorem part_sq {l : List (List Int)} {s c : Nat} (hT : TabIn l) (hs : s < 2 ^ l.length) (hc : c < 2 ^ (l.getD 0 []).length) (h : popcS s = popcS c) : SqD (popcS s) (partL l s c) := by
  have hsd := hT.2.1
  have hw := hT.width
  have p1 : 2 ^ l.length ≤ 2 ^ 6 := Nat.pow_le_pow_right (by omega) hsd
  have p2 : 2 ^ (l.getD 0 []).length ≤ 2 ^ 6 := Nat.pow_le_pow_right (by omega) hw.2
  have e1 : (partL l s c).length = popcS s := by rw [partL_length]; exact popcS_sel ⟨l.length, by omega⟩ ⟨s, by omega⟩ hs
  refine ⟨e1, fun h0 => ?_⟩
  have h1 := popcS_pos ⟨s, by omega⟩ h0
  have h2 := popcS_pos ⟨c, by omega⟩ (by rw [h] at h0; exact h0)
  refine ⟨partL_tab hT h1 hs h2 hc, ?_⟩
  rw [partL_rowlen _ _ _ (by omega), h]
  exact popcS_sel ⟨(l.getD 0 []).length, by omega⟩ ⟨c, by omega⟩ hc

end Go.Proofs.Ytlgjplhffpmfpaa
