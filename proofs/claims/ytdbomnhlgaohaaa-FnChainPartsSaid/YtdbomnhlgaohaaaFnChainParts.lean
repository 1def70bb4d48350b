/- The walk of laws.FnChainParts. -/
import Derived.Test.YtdbomnhlgaohaaaDrawCh
import Derived.Test.YtdbomnhlgaohaaaChainJ
import Derived.Test.YtdbomnhlgaohaaaSameRows
import Derived.BigQuiet
namespace Go.Proofs.Ytdbomnhlgaohaaa
open Go.RowKit Go.Deep

theorem kf_cross2 (f : Nat → Int) : ∀ m, 1 ≤ m → kf f m * kD f m - kP f m * kT f m = if m % 2 = 0 then 1 else -1
  | 0, h => absurd h (by omega)
  | 1, _ => by show kf f 1 * 0 - 1 * 1 = _; simp
  | n + 2, _ => by
    have h := kf_cross f n
    rw [show (n + 2) % 2 = n % 2 by omega]
    exact h
theorem kT_lt {f : Nat → Int} (h : ∀ j, -9 ≤ f j ∧ f j ≤ 9) {k : Nat} (hk : k ≤ 6) : -10000000 ≤ kT f k ∧ kT f k ≤ 10000000 := by
  cases k with
  | zero => show (-10000000 : Int) ≤ 0 ∧ (0 : Int) ≤ 10000000; decide
  | succ k => exact kf_lt (f := fun i => f (i + 1)) (fun j => h (j + 1)) (n := k) (by omega)
theorem kD_lt {f : Nat → Int} (h : ∀ j, -9 ≤ f j ∧ f j ≤ 9) {k : Nat} (hk : k ≤ 6) : -10000000 ≤ kD f k ∧ kD f k ≤ 10000000 := by
  cases k with
  | zero => show (-10000000 : Int) ≤ 0 ∧ (0 : Int) ≤ 10000000; decide
  | succ k => exact kP_lt (f := fun i => f (i + 1)) (fun j => h (j + 1)) (n := k) (by omega)

set_option maxRecDepth 100000 in
set_option maxHeartbeats 4000000 in
theorem fnChainParts (a : Option Addr) (cap n : Nat) (w : World) (hc : n ≤ cap) (h63 : cap ≤ 9223372036854775807) (hb : BytR w a n) :
    Calls Try.prog 6 #[.slice a n cap] w fun e w' => e = .returned (.bool true) ∧ w.Since w.heap.size w' := by
  by_cases hlen : 1048576 < n
  · have hl' : decide ((1048576 : Int) < (n : Int)) = true := by simp; omega
    clear hb
    go_enter Try.func6, Try.ntmps6
    go_wp2
    go_ret
    exact ⟨rfl, World.Since.refl _ _⟩
  · have hl' : decide ((1048576 : Int) < (n : Int)) = false := by simp; omega
    have ED := Lib.hid (drawChainParts_any a n cap w hc h63 hb)
    clear hb
    go_enter Try.func6, Try.ntmps6
    go_wp2_with fail
    refine (ED.out).mono ?_
    rintro e w1 ⟨ax, cx, x, rfl, hs1, hx7, hr, hcap⟩
    obtain ⟨m, hm⟩ : ∃ m, x.length = m := ⟨_, rfl⟩
    rw [hm] at hx7 hcap ⊢
    have HS1 := Lib.hid hs1
    have E1 := implChainParts_any ax cx m x w1 hm (by omega) hr
    have E2 := fun (W : World) (h : w1.Since w1.heap.size W) => specChainParts_any ax cx m x W hm hcap.1 hcap.2 (hr.since h)
    obtain ⟨ok, hok⟩ : ∃ ok, l9B x = ok := ⟨_, rfl⟩
    obtain ⟨M, hM⟩ : ∃ M, resR ok (paL (fun i => x.getD i 0) m) = M := ⟨_, rfl⟩
    rw [hok, hM] at E1
    simp only [hok, hM] at E2
    obtain ⟨q, hq⟩ : ∃ q, M.length = q := ⟨_, rfl⟩
    rw [hq] at E1
    simp only [hq] at E2
    have hq4 : q ≤ 4 := by
      rw [← hq, ← hM]
      cases ok <;> simp [resR, paL]
    replace E1 := Lib.hid E1
    replace E2 := Lib.hid E2
    have HQ := Lib.hid hq
    have HOK := Lib.hid hok
    have HMM := Lib.hid hM
    have HM := Lib.hid hm
    clear hs1 hq hok hM hr hm
    go_wp2_with fail
    refine (E1.out).mono ?_
    rintro e w2 ⟨a2, c2, rfl, hs2, ho2⟩
    have HO := Lib.hid (fun (W : World) (h : w2.Since w2.heap.size W) => ho2.rowR.since h)
    have HS2 := Lib.hid hs2
    clear ho2 hs2
    go_wp2_with fail
    refine (E2.out w2 HS2.out).mono ?_
    rintro e w3 ⟨a3, c3, rfl, hs3, hi3⟩
    have ES := Lib.hid (fun (W : World) (h : w3.Since w3.heap.size W) => sameInts_same a2 a3 c2 c3 q M W HQ.out (by omega) (HO.out W (hs3.trans (since_mono h hs3.size))) (hi3.rowR.since h))
    have HS3 := Lib.hid hs3
    clear hi3 hs3
    go_wp2_with fail
    refine (ES.out w3 (World.Since.refl _ _)).mono ?_
    rintro e w4 ⟨rfl, hd4⟩
    have hs4 := hd4.since w3.heap.size
    have HS4 := Lib.hid ((HS2.out.trans (since_mono HS3.out HS2.out.size)).trans (since_mono hs4 (by have := HS2.out.size; have := HS3.out.size; omega)))
    have HS24 := Lib.hid (HS3.out.trans (since_mono hs4 HS3.out.size))
    cases ok with
    | false =>
      clear hd4
      go_wp2_with fail
      refine (ES.out w4 hs4).mono ?_
      rintro e w5 ⟨rfl, hd5⟩
      have HS5 := Lib.hid (hd5.since w4.heap.size)
      clear hd5
      go_wp2
      go_ret
      exact ⟨rfl, HS1.out.trans (since_mono (HS4.out.trans (since_mono HS5.out HS4.out.size)) HS1.out.size)⟩
    | true =>
      have hMM := HMM.out
      have h9 := l9B_all9 HOK.out
      have h6 := (l9B_of HOK.out).2
      rw [HM.out] at h6
      obtain ⟨f, hf⟩ : ∃ f : Nat → Int, f = fun i => x.getD i 0 := ⟨_, rfl⟩
      have h9' : ∀ j, -9 ≤ f j ∧ f j ≤ 9 := fun j => by rw [hf]; exact h9 j
      rw [← hf, show resR true (paL f m) = [kf f m, kP f m, kT f m, kD f m] from rfl] at hMM
      have hq' : q = 4 := by rw [← HQ.out, ← hMM]; rfl
      obtain ⟨b, o, ha2, hc2⟩ := HO.out w4 HS24.out (by rw [HQ.out]; omega)
      rw [← hMM] at hc2
      have c0 := hc2 0 (by simp)
      have c1 := hc2 1 (by simp)
      have c2' := hc2 2 (by simp)
      have c3' := hc2 3 (by simp)
      have hx := kf_cross2 f m
      have b0 := kf_lt h9' (n := m) (by omega)
      have b1 := kP_lt h9' (n := m) (by omega)
      have b2 := kT_lt h9' h6
      have b3 := kD_lt h9' h6
      have hz0 : m = 0 → kf f m = 1 ∧ kP f m = 0 := fun h => by rw [h]; exact ⟨rfl, rfl⟩
      obtain ⟨v0, hv0⟩ : ∃ v, kf f m = v := ⟨_, rfl⟩
      obtain ⟨v1, hv1⟩ : ∃ v, kP f m = v := ⟨_, rfl⟩
      obtain ⟨v2, hv2⟩ : ∃ v, kT f m = v := ⟨_, rfl⟩
      obtain ⟨v3, hv3⟩ : ∃ v, kD f m = v := ⟨_, rfl⟩
      simp only [List.getD_cons_zero, List.getD_cons_succ, hv0, hv1, hv2, hv3, Nat.add_zero] at c0 c1 c2' c3' hx b0 b1 b2 b3 hz0
      have m03 := mulC b0 b3
      have m12 := mulC b1 b2
      subst hq'
      subst ha2
      clear hs4 hd4 hMM h9 h9' hc2 hv0 hv1 hv2 hv3 hf
      by_cases h0 : m = 0
      · obtain ⟨rfl, rfl⟩ := hz0 h0
        have hm0 : ((m : Int) == 0) = true := by simp; omega
        go_wp2
        go_ret
        exact ⟨rfl, HS1.out.trans (since_mono HS4.out HS1.out.size)⟩
      · have hm0 : ((m : Int) == 0) = false := by simp; omega
        have hx := hx (by omega)
        obtain ⟨z1, hz1⟩ : ∃ z, v0 * v3 = z := ⟨_, rfl⟩
        obtain ⟨z2, hz2⟩ : ∃ z, v1 * v2 = z := ⟨_, rfl⟩
        rw [hz1, hz2] at hx
        rw [hz1] at m03
        rw [hz2] at m12
        have hw1 : IntKind.i64.wrap (v0 * v3) = z1 := by rw [hz1]; exact IntWalk.i64_in _ ⟨by omega, by omega⟩
        have hw2 : IntKind.i64.wrap (v1 * v2) = z2 := by rw [hz2]; exact IntWalk.i64_in _ ⟨by omega, by omega⟩
        have ht : Int.tmod (m : Int) 2 = ((m % 2 : Nat) : Int) := rfl
        have ht2 : (m : Int) % 2 = ((m % 2 : Nat) : Int) := rfl
        by_cases h2 : m % 2 = 0
        · rw [if_pos h2] at hx
          have hw3 : IntKind.i64.wrap (z1 - z2) = 1 := by rw [hx]; decide
          rw [h2] at ht ht2
          have e1 : (Int.tmod (m : Int) 2 == 0) = true := by rw [ht]; rfl
          have e2 : ((m : Int) % 2 == 0) = true := by rw [ht2]; rfl
          clear hz1 hz2 hx h2 ht ht2 m03 m12 b0 b1 b2 b3 hz0 h0
          go_wp2
          go_quiet (fail)
          go_wp2
          go_ret
          exact ⟨rfl, HS1.out.trans (since_mono (since_drewN HS4.out _) HS1.out.size)⟩
        · rw [if_neg h2] at hx
          have hw3 : IntKind.i64.wrap (z1 - z2) = -1 := by rw [hx]; decide
          rw [show m % 2 = 1 by omega] at ht ht2
          have e1 : (Int.tmod (m : Int) 2 == 0) = false := by rw [ht]; rfl
          have e2 : ((m : Int) % 2 == 0) = false := by rw [ht2]; rfl
          have e3 : (Int.tmod (m : Int) 2 == 1) = true := by rw [ht]; rfl
          have e4 : ((m : Int) % 2 == 1) = true := by rw [ht2]; rfl
          clear hz1 hz2 hx h2 ht ht2 m03 m12 b0 b1 b2 b3 hz0 h0
          go_wp2
          go_quiet (fail)
          go_wp2
          go_ret
          exact ⟨rfl, HS1.out.trans (since_mono (since_drewN HS4.out _) HS1.out.size)⟩

end Go.Proofs.Ytdbomnhlgaohaaa
