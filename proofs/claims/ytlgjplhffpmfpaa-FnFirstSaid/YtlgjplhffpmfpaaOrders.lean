/- The contracts of spec.l2Orders and spec.l2Value. -/
import Derived.Test.YtlgjplhffpmfpaaL2Size
import Derived.Test.YtlgjplhffpmfpaaL2Square
import Derived.Test.YtlgjplhffpmfpaaGrid
namespace Go.Proofs.Ytlgjplhffpmfpaa
open Go.RowKit Go.Deep

theorem orS_fin : ∀ s : Fin 64, ∀ k : Fin 6, bits BinOp.or IntKind.i64 (s.val : Int) (2 ^ k.val) = ((s.val ||| 2 ^ k.val : Nat) : Int) := by decide +kernel
theorem orS_lt : ∀ s : Fin 64, ∀ k : Fin 6, s.val ||| 2 ^ k.val ≤ 63 := by decide +kernel
theorem pow_in : ∀ k : Fin 6, IntKind.i64.wrap ((2 : Int) ^ k.val) = (2 : Int) ^ k.val := by decide +kernel
theorem popcS_le (s : Nat) : popcS s ≤ 6 := sel_length s 6 6

set_option maxRecDepth 100000 in
set_option maxHeartbeats 4000000 in
theorem l2Orders_any (a : Option Addr) (cap n : Nat) (l : List (List Int)) (hn : l.length = n) (hT : TabIn l) (hm : (l.getD 0 []).length = n) :
    ∀ d i used : Nat, i + d = n → used ≤ 63 → ∀ W : World, MatR W a l → Calls Try.prog 63 #[.slice a n cap, .int .i64 i, .int .i64 used] W fun e w' => e = .returned (.int .i64 (ordF l n d used)) ∧ Drawn W w' := by
  intro d
  induction d with
  | zero =>
    intro i used hi _ W _
    have hin : i = n := by omega
    subst hin
    rw [ordF_zero]
    clear hn hT hm
    go_enter Try.func63, Try.ntmps63
    go_wp2
    go_ret
    exact ⟨rfl, Drawn.refl _⟩
  | succ d ih =>
    intro i used hi hu W hmat
    rw [ordF_succ]
    have hi2 : n - (d + 1) = i := by omega
    rw [hi2]
    have h6 := hT.2.1
    rw [hn] at h6
    have hne : ((i : Int) == (n : Int)) = false := by simp; omega
    have hbF := fun u => ordF_bd hT hn hm d (by omega) u
    have hp1 := p180_pos d
    have hp2 := p180_le (d + 1) (by omega)
    have hsum := fun k (hk : k ≤ n) => sumT_bd hT hn hm (i := i) (used := used) (k := k) (by omega) hk (by omega) hbF
    obtain ⟨b, o, A, C, rfl, hrow, hcell⟩ := hmat.grid hn hT hm
    obtain ⟨F, hF⟩ : ∃ F, F = ordF l n d := ⟨_, rfl⟩
    simp only [← hF] at hbF hsum ih ⊢
    clear hF
    have HIH := Lib.hid (fun (u : Nat) (hu : u ≤ 63) (V : World) (hV : MatR V (some ⟨b, o, none⟩) l) => ih (i + 1) u (by omega) hu V hV)
    have HMAT := Lib.hid hmat
    have HC := Lib.hid hcell
    have HSUM := Lib.hid hsum
    have HBF := Lib.hid hbF
    have hii : i < n := by omega
    clear hmat hrow hcell ih hsum hbF hi2
    go_enter Try.func63, Try.ntmps63
    go_wp2
    go_loopg [7, 8, 9] n (fun g s k _ wr => ∃ q : Nat, q ≤ n ∧ g = n - q ∧ k = .int .i64 q ∧ s = .int .i64 (sumN (ordT l i used F) q) ∧ Drawn W wr)
    case atStart => exact ⟨0, Nat.zero_le _, rfl, rfl, rfl, Drawn.refl _⟩
    case round =>
      obtain ⟨q, hq, rfl, rfl, rfl, hD⟩ := hrel
      by_cases hlt : q < n
      · have hbit := bit_any used q hu (by omega)
        obtain ⟨s0, hs0⟩ : ∃ s, s = sumN (ordT l i used F) q := ⟨_, rfl⟩
        rw [← hs0]
        have HS0 := Lib.hid hs0
        clear hs0
        cases hb : used.testBit q with
        | true =>
          have e : sumN (ordT l i used F) (q + 1) = s0 := by
            show sumN (ordT l i used F) q + ordT l i used F q = s0
            rw [ordT_yes F hb, HS0.out, Int.add_zero]
          rw [hb] at hbit
          have HE := Lib.hid e
          clear e hb
          go_wp2
          go_roundg (n - (q + 1))
          case measure => omega
          case rel => exact ⟨q + 1, by omega, rfl, by go_num, by rw [HE.out], hD⟩
        | false =>
          rw [hb] at hbit
          obtain ⟨u2, hu2, hu2v⟩ : ∃ u : Nat, bits BinOp.or IntKind.i64 (used : Int) (2 ^ q) = u ∧ u = used ||| 2 ^ q := ⟨_, orS_fin ⟨used, by omega⟩ ⟨q, by omega⟩, rfl⟩
          have hu2l : u2 ≤ 63 := by rw [hu2v]; exact orS_lt ⟨used, by omega⟩ ⟨q, by omega⟩
          obtain ⟨v, hv, hvv⟩ : ∃ v : Nat, (used : Int) / 2 ^ q = v ∧ v = used / 2 ^ q := ⟨used / 2 ^ q, by rw [Int.natCast_ediv]; simp, rfl⟩
          rw [hv] at hbit
          have hvl : v ≤ 63 := by rw [hvv]; exact Nat.le_trans (Nat.div_le_self _ _) hu
          obtain ⟨b', o', e1, e2, e3, e4⟩ := HC.out i q hii hlt
          rw [← hD.cell] at e1 e2
          obtain ⟨y, hy⟩ : ∃ y, y = at2 l i q := ⟨_, rfl⟩
          rw [← hy] at e2 e3 e4
          obtain ⟨f2, hf2⟩ : ∃ z, z = F u2 := ⟨_, rfl⟩
          have hfb := HBF.out u2
          rw [← hf2] at hfb
          have hxb := mul_bdB e3 e4 hfb.1 hfb.2
          have hp3 : p180 (d + 1) = 180 * p180 d := rfl
          have hwx : IntKind.i64.wrap (y * f2) = y * f2 := IntWalk.i64_in _ ⟨by omega, by omega⟩
          have hwi : IntKind.i64.wrap ((i : Int) + 1) = (i : Int) + 1 := IntWalk.i64_in _ ⟨by omega, by omega⟩
          have hwq := pow_in ⟨q, by omega⟩
          simp only at hwq
          have hmq : min q 64 = q := by omega
          have E1 := fun (p : Nat) => HIH.out u2 hu2l (wr.drewN p) (HMAT.out.drawn (hD.trans (Drawn.mk _ _)))
          rw [← hf2, show ((i + 1 : Nat) : Int) = (i : Int) + 1 by omega] at E1
          replace E1 := Lib.hid E1
          have E2 := fun (V : World) => l2Size_any v hvl V
          obtain ⟨pc, hpc⟩ : ∃ p, p = popcS v := ⟨_, rfl⟩
          rw [← hpc] at E2
          replace E2 := Lib.hid E2
          obtain ⟨X, hX⟩ : ∃ X, X = y * f2 := ⟨_, rfl⟩
          rw [← hX] at hwx hxb
          have e : sumN (ordT l i used F) (q + 1) = s0 + sg pc X := by
            show sumN (ordT l i used F) q + ordT l i used F q = s0 + sg pc X
            rw [ordT_no F hb, ← HS0.out, ← hu2v, ← hvv, ← hy, ← hf2, ← hpc, ← hX]
          have hsb := HSUM.out (q + 1) (by omega)
          rw [e] at hsb
          have HE := Lib.hid e
          have HX := Lib.hid hX
          have HDD := Lib.hid hD
          rw [hX] at hwx
          have HWX := Lib.hid hwx
          clear e hb hu2v hvv hy hf2 hpc hX hfb hD
          go_wp2
          go_quiet ((go_at_call 63; exact Calls.quiet_of (E1.out _)))
          go_wp2_with fail
          refine (E2.out _).mono ?_
          rintro e w2 ⟨rfl, rfl⟩
          rw [HX.out] at hxb hsb
          have hbd : p180 (d + 1) ≤ 34012224000000 := hp2
          by_cases hodd : pc % 2 = 1
          · have ho : ((pc : Int) % 2 == 1) = true := by simp; omega
            have e0 : sg pc (y * f2) = -(y * f2) := by unfold sg; rw [if_pos hodd]
            rw [e0] at hsb
            have w1 : IntKind.i64.wrap (0 - y * f2) = -(y * f2) := (IntWalk.i64_in _ ⟨by omega, by omega⟩).trans (by omega)
            have w2 : IntKind.i64.wrap (-(y * f2)) = -(y * f2) := IntWalk.i64_in _ ⟨by omega, by omega⟩
            have w3 : IntKind.i64.wrap (s0 + -(y * f2)) = s0 + -(y * f2) := IntWalk.i64_in _ ⟨by omega, by omega⟩
            go_wp2
            go_roundg (n - (q + 1))
            case measure => omega
            case rel => exact ⟨q + 1, by omega, rfl, by go_num, by rw [HE.out, HX.out, e0], HDD.out.trans (Drawn.mk _ _)⟩
          · have ho : ((pc : Int) % 2 == 1) = false := by simp; omega
            have e0 : sg pc (y * f2) = y * f2 := by unfold sg; rw [if_neg hodd]
            rw [e0] at hsb
            have w3 : IntKind.i64.wrap (s0 + y * f2) = s0 + y * f2 := IntWalk.i64_in _ ⟨by omega, by omega⟩
            go_wp2
            go_roundg (n - (q + 1))
            case measure => omega
            case rel => exact ⟨q + 1, by omega, rfl, by go_num, by rw [HE.out, HX.out, e0], HDD.out.trans (Drawn.mk _ _)⟩
      · have hqn : n = q := by omega
        subst hqn
        go_wp2
        go_ret
        exact ⟨rfl, hD⟩

end Go.Proofs.Ytlgjplhffpmfpaa
