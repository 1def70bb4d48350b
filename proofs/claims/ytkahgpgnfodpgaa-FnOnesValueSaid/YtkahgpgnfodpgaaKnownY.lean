/- Chapter 8: the value of the square of two numbers. -/
import Derived.Test.YtkahgpgnfodpgaaKnownX
namespace Go.Proofs.Ytkahgpgnfodpgaa
open Go.RowKit Go.Deep

def onB (n a b : Int) : Bool := inB n 1 6 && (inB a (-30) 30 && inB b (-30) 30)
theorem onB_of {n a b : Int} (h : onB n a b = true) : (1 ≤ n ∧ n ≤ 6) ∧ (-30 ≤ a ∧ a ≤ 30) ∧ (-30 ≤ b ∧ b ≤ 30) := by
  simp only [onB, Bool.and_eq_true, inB, decide_eq_true_eq] at h
  exact ⟨h.1, h.2.1, h.2.2⟩
def onV (n a b : Int) : Int := (a - b) ^ (n.toNat - 1) * (a + (n - 1) * b)
theorem pw_pow (p : Int) : ∀ n, pw p n = p ^ n
  | 0 => by rw [Int.pow_zero]; rfl
  | n + 1 => by rw [show pw p (n + 1) = p * pw p n from rfl, pw_pow p n, Int.pow_succ, Int.mul_comm]

set_option maxHeartbeats 1000000 in
theorem isToldByOnes_any (n a b : Int) (w : World) :
    Calls Try.prog 78 #[.int .i64 n, .int .i64 a, .int .i64 b] w fun e w' => e = .returned (.bool (onB n a b)) ∧ w = w' := by
  have E1 := isSide_any n w
  unfold onB
  cases h1 : inB n 1 6 with
  | false =>
    rw [h1] at E1
    replace E1 := Lib.hid E1
    clear h1
    go_enter Try.func78, Try.ntmps78
    go_wp2_with fail
    refine (E1.out).mono ?_
    rintro e w' ⟨rfl, rfl⟩
    go_wp2
    go_ret
    exact ⟨rfl, rfl⟩
  | true =>
    rw [h1] at E1
    replace E1 := Lib.hid E1
    cases h2 : inB a (-30) 30 with
    | false =>
      have E2 := Lib.hid (isEntry_at a false w h2)
      clear h1 h2
      go_enter Try.func78, Try.ntmps78
      go_wp2_with fail
      refine (E1.out).mono ?_
      rintro e w' ⟨rfl, rfl⟩
      go_wp2_with fail
      refine (E2.out).mono ?_
      rintro e w' ⟨rfl, rfl⟩
      go_wp2
      go_ret
      exact ⟨rfl, rfl⟩
    | true =>
      have E2 := Lib.hid (isEntry_at a true w h2)
      obtain ⟨c, h3⟩ : ∃ c, inB b (-30) 30 = c := ⟨_, rfl⟩
      have E3 := Lib.hid (isEntry_at b c w h3)
      rw [h3]
      clear h1 h2 h3
      go_enter Try.func78, Try.ntmps78
      go_wp2_with fail
      refine (E1.out).mono ?_
      rintro e w' ⟨rfl, rfl⟩
      go_wp2_with fail
      refine (E2.out).mono ?_
      rintro e w' ⟨rfl, rfl⟩
      go_wp2_with fail
      refine (E3.out).mono ?_
      rintro e w' ⟨rfl, rfl⟩
      go_wp2
      go_ret
      exact ⟨by cases c <;> rfl, rfl⟩

theorem on_bd {a b : Int} (ha : -30 ≤ a ∧ a ≤ 30) (hb : -30 ≤ b ∧ b ≤ 30) (m : Nat) (h1 : 1 ≤ m) (h6 : m ≤ 6) : -180 ≤ a + ((m : Int) - 1) * b ∧ a + ((m : Int) - 1) * b ≤ 180 ∧ -150 ≤ ((m : Int) - 1) * b ∧ ((m : Int) - 1) * b ≤ 150 := by
  have h : m = 1 ∨ m = 2 ∨ m = 3 ∨ m = 4 ∨ m = 5 ∨ m = 6 := by omega
  rcases h with rfl | rfl | rfl | rfl | rfl | rfl <;> omega
theorem on_bd2 {p s : Int} (hp : -777600000 ≤ p ∧ p ≤ 777600000) (hs : -180 ≤ s ∧ s ≤ 180) : -139968000000 ≤ p * s ∧ p * s ≤ 139968000000 := by
  have h1 : (777600000 + p) * (180 - s) ≥ 0 := Int.mul_nonneg (by omega) (by omega)
  have h2 : (777600000 + p) * (180 + s) ≥ 0 := Int.mul_nonneg (by omega) (by omega)
  have h3 : (777600000 - p) * (180 + s) ≥ 0 := Int.mul_nonneg (by omega) (by omega)
  have h4 : (777600000 - p) * (180 - s) ≥ 0 := Int.mul_nonneg (by omega) (by omega)
  simp only [Int.add_mul, Int.sub_mul, Int.mul_add, Int.mul_sub] at h1 h2 h3 h4
  omega

set_option maxHeartbeats 1000000 in
theorem implKnownOnesValue_any (n a b : Int) (w : World) :
    Calls Try.prog 27 #[.int .i64 n, .int .i64 a, .int .i64 b] w fun e w' => e = .returned (.tuple #[.int .i64 (if onB n a b = true then onV n a b else 0), .bool (onB n a b)]) ∧ w = w' := by
  have E1 := isToldByOnes_any n a b w
  cases hok : onB n a b with
  | false =>
    rw [hok] at E1
    replace E1 := Lib.hid E1
    clear hok
    go_enter Try.func27, Try.ntmps27
    go_wp2_with fail
    refine (E1.out).mono ?_
    rintro e w' ⟨rfl, rfl⟩
    go_wp2
    go_ret2
    exact ⟨rfl, rfl⟩
  | true =>
    rw [hok] at E1
    replace E1 := Lib.hid E1
    obtain ⟨hn, ha, hb⟩ := onB_of hok
    clear hok
    obtain ⟨m, rfl⟩ := Int.eq_ofNat_of_zero_le (show 0 ≤ n by omega)
    unfold onV
    rw [Int.toNat_natCast]
    have hbd := on_bd ha hb m (by omega) (by omega)
    have hpb := pow_bd65 (y := a - b) (by omega) (t := m - 1) (by omega)
    have E2 := power_any (a - b) (m - 1) w (by omega) (by omega)
    rw [show ((m - 1 : Nat) : Int) = (m : Int) - 1 by omega] at E2
    have hq := on_bd2 hpb ⟨hbd.1, hbd.2.1⟩
    have h5 : 1 ≤ m ∧ m ≤ 6 := by omega
    obtain ⟨p, hp⟩ : ∃ p, (a - b) ^ (m - 1) = p := ⟨_, rfl⟩
    obtain ⟨u, hu⟩ : ∃ u, ((m : Int) - 1) * b = u := ⟨_, rfl⟩
    rw [hp] at E2 hpb hq ⊢
    rw [hu] at hbd hq ⊢
    have hw1 : wrap64 (((m : Int) - 1) * b) = u := by rw [hu]; unfold wrap64; omega
    obtain ⟨q, hqq⟩ : ∃ q, p * (a + u) = q := ⟨_, rfl⟩
    have hw2 : wrap64 (p * (a + u)) = q := by rw [hqq]; rw [hqq] at hq; unfold wrap64; omega
    rw [hqq] at hq ⊢
    replace E2 := Lib.hid E2
    clear hp hu hqq
    go_enter Try.func27, Try.ntmps27
    go_wp2_with fail
    refine (E1.out).mono ?_
    rintro e w' ⟨rfl, rfl⟩
    go_wp2_with fail
    refine (E2.out).mono ?_
    rintro e w' ⟨rfl, rfl⟩
    go_wp2
    go_ret2
    exact ⟨rfl, rfl⟩

set_option maxHeartbeats 2000000 in
theorem specKnownOnesValue_any (n a b : Int) (w : World) :
    Calls Try.prog 30 #[.int .i64 n, .int .i64 a, .int .i64 b] w fun e w' => e = .returned (.tuple #[.int .i64 (if onB n a b = true then onV n a b else 0), .bool (onB n a b)]) ∧ w = w' := by
  have E1 := l6In_any n 1 6 w
  have hsp : onB n a b = (inB n 1 6 && (inB a (-30) 30 && inB b (-30) 30)) := rfl
  cases h1 : inB n 1 6 with
  | false =>
    rw [h1, Bool.false_and] at hsp
    rw [hsp]
    rw [h1] at E1
    replace E1 := Lib.hid E1
    clear h1 hsp
    go_enter Try.func30, Try.ntmps30
    go_wp2_with fail
    refine (E1.out).mono ?_
    rintro e w' ⟨rfl, rfl⟩
    go_wp2
    go_ret2
    exact ⟨rfl, rfl⟩
  | true =>
    rw [h1] at E1
    replace E1 := Lib.hid E1
    have E2 := l6In_any a (-30) 30 w
    cases h2 : inB a (-30) 30 with
    | false =>
      rw [h1, h2, Bool.false_and, Bool.and_false] at hsp
      rw [hsp]
      rw [h2] at E2
      replace E2 := Lib.hid E2
      clear h1 h2 hsp
      go_enter Try.func30, Try.ntmps30
      go_wp2_with fail
      refine (E1.out).mono ?_
      rintro e w' ⟨rfl, rfl⟩
      go_wp2_with fail
      refine (E2.out).mono ?_
      rintro e w' ⟨rfl, rfl⟩
      go_wp2
      go_ret2
      exact ⟨rfl, rfl⟩
    | true =>
      rw [h2] at E2
      replace E2 := Lib.hid E2
      have E3 := l6In_any b (-30) 30 w
      cases h3 : inB b (-30) 30 with
      | false =>
        rw [h1, h2, h3, Bool.and_false, Bool.and_false] at hsp
        rw [hsp]
        rw [h3] at E3
        replace E3 := Lib.hid E3
        clear h1 h2 h3 hsp
        go_enter Try.func30, Try.ntmps30
        go_wp2_with fail
        refine (E1.out).mono ?_
        rintro e w' ⟨rfl, rfl⟩
        go_wp2_with fail
        refine (E2.out).mono ?_
        rintro e w' ⟨rfl, rfl⟩
        go_wp2_with fail
        refine (E3.out).mono ?_
        rintro e w' ⟨rfl, rfl⟩
        go_wp2
        go_ret2
        exact ⟨rfl, rfl⟩
      | true =>
        rw [h3] at E3
        replace E3 := Lib.hid E3
        rw [h1, h2, h3] at hsp
        obtain ⟨hn, ha, hb⟩ := onB_of (show onB n a b = true from hsp)
        rw [show onB n a b = true from hsp]
        clear h1 h2 h3 hsp
        obtain ⟨m, rfl⟩ := Int.eq_ofNat_of_zero_le (show 0 ≤ n by omega)
        unfold onV
        rw [Int.toNat_natCast]
        have hbd := on_bd ha hb m (by omega) (by omega)
        have HPB := Lib.hid (fun (t : Nat) (ht : t ≤ 5) => on_bd2 (pow_bd65 (y := a - b) (by omega) (t := t) ht) ⟨hbd.1, hbd.2.1⟩)
        have h5 : 1 ≤ m ∧ m ≤ 6 := by omega
        obtain ⟨u, hu⟩ : ∃ u, ((m : Int) - 1) * b = u := ⟨_, rfl⟩
        rw [hu] at hbd HPB ⊢
        have hw1 : wrap64 (((m : Int) - 1) * b) = u := by rw [hu]; unfold wrap64; omega
        obtain ⟨s, hss⟩ : ∃ s, a + u = s := ⟨_, rfl⟩
        rw [hss] at hbd HPB ⊢
        obtain ⟨d, hdd⟩ : ∃ d, a - b = d := ⟨_, rfl⟩
        rw [hdd] at HPB ⊢
        have HSS := Lib.hid hss
        have hd60 : -60 ≤ d ∧ d ≤ 60 := by omega
        clear hu hss
        go_enter Try.func30, Try.ntmps30
        go_wp2_with fail
        refine (E1.out).mono ?_
        rintro e w' ⟨rfl, rfl⟩
        go_wp2_with fail
        refine (E2.out).mono ?_
        rintro e w' ⟨rfl, rfl⟩
        go_wp2_with fail
        refine (E3.out).mono ?_
        rintro e w' ⟨rfl, rfl⟩
        go_wp2
        go_loopg [8, 9] m (fun g v i wr => ∃ t : Nat, t + 1 ≤ m ∧ g = m - t ∧ i = .int .i64 ((t : Int) + 1) ∧ v = .int .i64 (d ^ t * s) ∧ w = wr)
        case atStart => exact ⟨0, by omega, rfl, rfl, by rw [Int.pow_zero, Int.one_mul, HSS.out], rfl⟩
        case round =>
          obtain ⟨t, ht, rfl, rfl, rfl, rfl⟩ := hrel
          by_cases htm : t + 1 < m
          · have b1 := HPB.out t (by omega)
            have b2 := HPB.out (t + 1) (by omega)
            have hst : d ^ (t + 1) * s = d ^ t * s * d := by rw [Int.pow_succ, Int.mul_assoc, Int.mul_comm d s, Int.mul_assoc]
            obtain ⟨p, hp⟩ : ∃ p, d ^ t * s = p := ⟨_, rfl⟩
            obtain ⟨q, hq⟩ : ∃ q, d ^ (t + 1) * s = q := ⟨_, rfl⟩
            rw [hp] at b1 hst ⊢
            rw [hq] at b2 hst
            have hmul : wrap64 (p * d) = q := by rw [← hst]; unfold wrap64; omega
            have HQ := Lib.hid hq
            clear hp hq hst
            go_wp2
            go_roundg (m - (t + 1))
            case measure => omega
            case rel => exact ⟨t + 1, by omega, rfl, by go_num, by rw [HQ.out, hmul], rfl⟩
          · have : m = t + 1 := by omega
            subst this
            go_wp2
            go_ret2
            exact ⟨rfl, rfl⟩

end Go.Proofs.Ytkahgpgnfodpgaa
