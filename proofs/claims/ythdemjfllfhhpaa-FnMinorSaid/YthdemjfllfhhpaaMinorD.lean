/- The contract of spec.DrawValueMinor. -/
import Derived.Test.YthdemjfllfhhpaaDraws
import Derived.Test.YthdemjfllfhhpaaL2Size
import Derived.Deep.RegionHeld3
namespace Go.Proofs.Ythdemjfllfhhpaa
open Go.RowKit Go.Deep

/-- A number of 64 bits. -/
def Rg (x : Int) : Prop := -9223372036854775808 ≤ x ∧ x ≤ 9223372036854775807
theorem rg_wrap (z : Int) : Rg (IntKind.i64.wrap z) := by
  unfold IntKind.wrap Rg
  simp only [IntKind.bits, IntKind.signed, Bool.true_and, decide_eq_true_eq, ge_iff_le]
  by_cases h : (2 : Int) ^ (64 - 1) ≤ z % 2 ^ 64
  · rw [if_pos h]; omega
  · rw [if_neg h]; omega
theorem rg_nat {y : Nat} {z : Int} (h : (y : Int) < IntKind.i64.wrap z ∨ y = 0) : Rg (y : Int) := by
  have := rg_wrap z
  unfold Rg at *
  omega
theorem rg_and (a b : Int) : Rg (bits .and .i64 a b) := rg_wrap _

set_option maxHeartbeats 1000000 in
theorem l2SizeA_any (s : Int) (hs : Rg s) (w : World) : Calls Try.prog 56 #[.int .i64 s] w fun e w' => (∃ r, e = .returned (.int .i64 r)) ∧ w = w' := by
  unfold Rg at hs
  go_enter Try.func56, Try.ntmps56
  go_wp2
  go_loopg [0, 3] s.toNat (fun g v k wr => ∃ x j : Int, (-9223372036854775808 ≤ x ∧ x ≤ 9223372036854775807) ∧ g = x.toNat ∧ v = .int .i64 x ∧ k = .int .i64 j ∧ w = wr)
  case atStart => exact ⟨s, 0, hs, rfl, rfl, rfl, rfl⟩
  case round =>
    obtain ⟨x, j, hx, rfl, rfl, rfl, rfl⟩ := hrel
    by_cases h0 : 0 < x
    · have h0' : decide ((0 : Int) < x) = true := by simpa using h0
      go_wp2
      go_roundg (x / 2).toNat
      case measure => omega
      case rel => exact ⟨x / 2, _, by omega, rfl, by first | rfl | go_num, rfl, rfl⟩
    · have h0' : decide ((0 : Int) < x) = false := by simpa using h0
      go_wp2
      go_ret
      exact ⟨⟨_, rfl⟩, rfl⟩

set_option maxRecDepth 100000 in
set_option maxHeartbeats 2000000 in
theorem l91SetsB_any (a : Option Addr) (nb cb : Nat) (w : World) (hc : nb ≤ cb) (h63 : cb ≤ 9223372036854775807) (hb : BytR w a nb) :
    Calls Try.prog 55 #[.slice a nb cb] w fun e w' => ∃ a' cap l, ∃ (x y : Int), e = .returned (.tuple #[.slice a' l.length cap, .int .i64 x, .int .i64 y]) ∧ w.Since w.heap.size w' ∧ DrawnT w w' 5 5 a' l ∧ Rg x ∧ Rg y := by
  have E := Lib.hid (l6Open_any a nb cb w hc h63 hb)
  clear hb
  go_enter Try.func55, Try.ntmps55
  go_wp2_with fail
  refine (E.out).mono ?_
  rintro e w1 ⟨n', c', rfl, hs, hz, hd⟩
  have HD0 := Lib.hid hd
  clear hd
  have hz1 : w.heap.size < w1.heap.size := by omega
  clear hz
  go_wp2_with fail
  refine (l91Some_any w w1 w.heap.size n' c' 0 5 5 a HD0.out (by omega) (by omega) (by omega) (by omega) (by omega)).mono ?_
  rintro e w2 ⟨a', cap', l, p', rfl, hg, hd2, hp, h1, h5, hl, hit⟩
  have HG0 := Lib.hid hg
  have HIT := Lib.hid hit
  have HL := Lib.hid hl
  have HD := Lib.hid hd2
  obtain ⟨nn, hnn⟩ : ∃ n, l.length = n := ⟨_, rfl⟩
  rw [hnn] at h1 h5 ⊢
  have HN := Lib.hid hnn
  clear hg hit hl hd2 hnn
  obtain ⟨bt, ot, At, Gt, Ot, Ct, rfl, hbt, hrt⟩ := HIT.out (by rw [HN.out]; omega)
  have c0 := (hrt 0 (by rw [HN.out]; omega)).1
  rw [Nat.add_zero] at c0
  obtain ⟨m0, hm0⟩ : ∃ m, (l.getD 0 []).length = m := ⟨_, rfl⟩
  rw [hm0] at c0
  have hm1 := HL.out 0 (by rw [HN.out]; omega)
  rw [hm0] at hm1
  have q0 : w2.drew.cell? ⟨bt, ot, none⟩ = some (.slice (At 0) m0 (Ct 0)) := c0
  have HG := Lib.hid (show w2.grownBy w2.drew (some w.heap.size) from ⟨rfl, rfl, rfl, Nat.le_refl _, fun _ _ _ => rfl⟩)
  have HD := Lib.hid (HD.out.later (World.Since.refl _ _).drew)
  have hn1 : 0 < nn := by omega
  have hn0 : (0 : Int) < (nn : Int) := by omega
  clear hm0 hrt
  go_wp2
  go_region_held3 (fun w' => w'.cell? ⟨bt, ot, none⟩ = some (.slice (At 0) m0 (Ct 0)))
    (first | exact q0 | exact c0)
    (first
      | (go_at_call 48; refine (pick_any w _ w.heap.size n' c' _ a _ HD.out (by omega)).mono ?_; rintro e wk ⟨y, rfl, hy, hg, hd⟩; have hR : Rg (y : Int) := (by first | exact rg_nat hy | (unfold Rg; omega)); have q0 := cell_grown q0 hg (show bt ≠ w.heap.size by omega); have HG := Lib.hid (grown_trans HG.out hg); have HD := Lib.hid hd; clear hd hg))
  all_goals
    have hs2 : w.Since w.heap.size w2 := hs.trans (since_grown HG0.out (Nat.le_refl _) hs.size)
    have hs3 := hs2.trans (since_grown HG.out (Nat.le_refl _) hs2.size)
    go_wp2
    go_ret3
    exact ⟨_, _, l, _, _, by rw [HN.out]; rfl, hs3, ⟨by rw [HN.out]; exact h1, by rw [HN.out]; exact h5, HL.out, (HIT.out.kept HG.out hz1).mono hs.size HG.out.size⟩, by assumption, rg_wrap _⟩

set_option maxHeartbeats 1000000 in
theorem drawMinor_any (a : Option Addr) (nb cb : Nat) (w : World) (hc : nb ≤ cb) (h63 : cb ≤ 9223372036854775807) (hb : BytR w a nb) :
    Calls Try.prog 16 #[.slice a nb cb] w fun e w' => ∃ a' cap l, ∃ (x y : Int), e = .returned (.tuple #[.slice a' l.length cap, .int .i64 x, .int .i64 y]) ∧ w.Since w.heap.size w' ∧ DrawnT w w' 5 5 a' l := by
  have E := Lib.hid (l91SetsB_any a nb cb w hc h63 hb)
  clear hb
  go_enter Try.func16, Try.ntmps16
  go_wp2_with fail
  refine (E.out).mono ?_
  rintro e w1 ⟨a', cap, l, x, y, rfl, hs, hl, hx, hy⟩
  have HD := Lib.hid hl
  have HS := Lib.hid hs
  clear hl hs
  go_wp2
  go_loopg [6, 7, 8] 5 (fun g u v k wr => ∃ x y : Int, ∃ j : Nat, j ≤ 5 ∧ g = 5 - j ∧ u = .int .i64 x ∧ v = .int .i64 y ∧ k = .int .i64 j ∧ Rg x ∧ Rg y ∧ w1 = wr)
  case atStart => exact ⟨x, y, 0, by omega, rfl, rfl, rfl, rfl, hx, hy, rfl⟩
  case round =>
    obtain ⟨x, y, j, hj, rfl, rfl, rfl, rfl, hx, hy, rfl⟩ := hrel
    have E1 := Lib.hid (fun W => l2SizeA_any x hx W)
    have E2 := Lib.hid (fun W => l2SizeA_any y hy W)
    by_cases hj5 : j < 5
    · go_wp2_with fail
      refine (E1.out _).mono ?_
      rintro e _ ⟨⟨r1, rfl⟩, rfl⟩
      go_wp2_with fail
      refine (E2.out _).mono ?_
      rintro e _ ⟨⟨r2, rfl⟩, rfl⟩
      by_cases hr : r1 = r2
      · have hr' : (r1 == r2) = true := by simpa using hr
        go_wp2
        go_ret3
        exact ⟨_, _, l, _, _, rfl, HS.out, HD.out⟩
      · have hr' : (r1 == r2) = false := by simpa using hr
        have hr2 : (r1 != r2) = true := by simpa using hr
        by_cases hq0 : ¬ (0 : Int) < (nb : Int) % 6
        · have hq' : decide ((0 : Int) < (nb : Int) % 6) = false := by simpa using hq0
          go_wp2
          go_ret3
          exact ⟨_, _, l, _, _, rfl, HS.out, HD.out⟩
        · have hq0 : (0 : Int) < (nb : Int) % 6 := Classical.not_not.1 hq0
          have hq' : decide ((0 : Int) < (nb : Int) % 6) = true := by simpa using hq0
          go_wp2_with fail
          refine (E1.out _).mono ?_
          rintro e _ ⟨⟨r3, rfl⟩, rfl⟩
          go_wp2_with fail
          refine (E2.out _).mono ?_
          rintro e _ ⟨⟨r4, rfl⟩, rfl⟩
          by_cases h34 : r4 < r3
          · have h34' : decide (r4 < r3) = true := by simpa using h34
            go_wp2
            go_roundg (5 - (j + 1))
            case measure => omega
            case rel => exact ⟨_, _, j + 1, by omega, rfl, rfl, rfl, by go_num, rg_and _ _, hy, rfl⟩
          · have h34' : decide (r4 < r3) = false := by simpa using h34
            go_wp2
            go_roundg (5 - (j + 1))
            case measure => omega
            case rel => exact ⟨_, _, j + 1, by omega, rfl, rfl, rfl, by go_num, hx, rg_and _ _, rfl⟩
    · go_wp2
      go_ret3
      exact ⟨_, _, l, ⟨_, _, rfl⟩, HS.out, HD.out⟩

end Go.Proofs.Ythdemjfllfhhpaa
