/- The contract of impl.TablePart. -/
import Derived.Test.YtenkafcdachlkaaPartTab
namespace Go.Proofs.Ytenkafcdachlkaa
open Go.RowKit Go.Deep

set_option maxHeartbeats 1000000 in
theorem implTablePart_any (a : Option Addr) (cap n : Nat) (l : List (List Int)) (s c : Int) (w : World) (hn : l.length = n) (hsz : szL l ≤ 1048576) (hm : MatR w a l) :
    Calls Try.prog 35 #[.slice a n cap, .int .i64 s, .int .i64 c] w (ImplT w (partOk l s c) (partL l s.toNat c.toNat)) := by
  have E := Lib.hid (implTableIn_any a cap n l w hn hsz hm)
  cases hT : tabIn l with
  | false =>
    have hok : partOk l s c = false := by unfold partOk; rw [hT]; rfl
    rw [hT] at E
    rw [hok]
    clear hT hsz hm hn hok
    go_enter Try.func35, Try.ntmps35
    go_wp2_with fail
    refine (E.out).mono ?_
    rintro e w1 ⟨rfl, hs⟩
    go_wp2
    go_ret2
    exact ⟨_, _, rfl, hs, OwnT.nil _ _ _ _⟩
  | true =>
    have hTT := tabIn_of hT
    rw [hT] at E
    have h6 := hTT.2.1
    have h1 := hTT.1
    have hw := hTT.width
    rw [hn] at h6 h1
    have E2 := fun (W : World) => isFilled_any s n h6 W
    cases hb : inB s 1 (2 ^ n - 1 : Nat) with
    | false =>
      have hok : partOk l s c = false := by unfold partOk; rw [hT, hn, hb]; rfl
      rw [hok]
      rw [hb] at E2
      replace E2 := Lib.hid E2
      clear hT hsz hm hn hok hTT hb
      go_enter Try.func35, Try.ntmps35
      go_wp2_with fail
      refine (E.out).mono ?_
      rintro e w1 ⟨rfl, hs⟩
      go_wp2_with fail
      refine (E2.out w1).mono ?_
      rintro e w2 ⟨rfl, rfl⟩
      go_wp2
      go_ret2
      exact ⟨_, _, rfl, hs, OwnT.nil _ _ _ _⟩
    | true =>
      obtain ⟨m, hmm⟩ : ∃ m, (l.getD 0 []).length = m := ⟨_, rfl⟩
      have E3 := fun (W : World) (hs : w.Since w.heap.size W) => width_any a cap n l W hn (by omega) (by omega) (hm.since hs)
      rw [hmm] at E3 hw
      have E4 := fun (W : World) => isFilled_any c m hw.2 W
      rw [hb] at E2
      replace E2 := Lib.hid E2
      replace E3 := Lib.hid E3
      cases hbc : inB c 1 (2 ^ m - 1 : Nat) with
      | false =>
        have hok : partOk l s c = false := by unfold partOk; rw [hT, hn, hb, hmm, hbc]; rfl
        rw [hok]
        rw [hbc] at E4
        replace E4 := Lib.hid E4
        clear hT hsz hm hn hok hTT hb hbc hmm
        go_enter Try.func35, Try.ntmps35
        go_wp2_with fail
        refine (E.out).mono ?_
        rintro e w1 ⟨rfl, hs⟩
        go_wp2_with fail
        refine (E2.out w1).mono ?_
        rintro e w2 ⟨rfl, rfl⟩
        go_wp2_with fail
        refine (E3.out w1 hs).mono ?_
        rintro e w2 ⟨rfl, rfl⟩
        go_wp2_with fail
        refine (E4.out w1).mono ?_
        rintro e w2 ⟨rfl, rfl⟩
        go_wp2
        go_ret2
        exact ⟨_, _, rfl, hs, OwnT.nil _ _ _ _⟩
      | true =>
        have hok : partOk l s c = true := by unfold partOk; rw [hT, hn, hb, hmm, hbc]; rfl
        have hPT := partOk_tab hok
        rw [hok]
        rw [hbc] at E4
        replace E4 := Lib.hid E4
        have b1 := of_decide_eq_true hb
        have b2 := of_decide_eq_true hbc
        have p1 : 2 ^ n ≤ 2 ^ 6 := Nat.pow_le_pow_right (by omega) h6
        have p2 : 2 ^ m ≤ 2 ^ 6 := Nat.pow_le_pow_right (by omega) hw.2
        obtain ⟨sn, rfl⟩ := Int.eq_ofNat_of_zero_le (show 0 ≤ s by omega)
        obtain ⟨cn, rfl⟩ := Int.eq_ofNat_of_zero_le (show 0 ≤ c by omega)
        rw [Int.toNat_natCast, Int.toNat_natCast] at hPT ⊢
        have E5 := Lib.hid (fun (W : World) (hs : w.Since w.heap.size W) => part_any a cap n sn cn l W hn hTT (by omega) (by omega) (hm.since hs))
        have HPT := Lib.hid (tabIn_true hPT)
        have HSZ := Lib.hid (szL_tab hPT)
        clear hT hsz hm hn hok hTT hb hbc hmm b1 b2 p1 p2 hPT
        go_enter Try.func35, Try.ntmps35
        go_wp2_with fail
        refine (E.out).mono ?_
        rintro e w1 ⟨rfl, hs⟩
        go_wp2_with fail
        refine (E2.out w1).mono ?_
        rintro e w2 ⟨rfl, rfl⟩
        go_wp2_with fail
        refine (E3.out w1 hs).mono ?_
        rintro e w2 ⟨rfl, rfl⟩
        go_wp2_with fail
        refine (E4.out w1).mono ?_
        rintro e w2 ⟨rfl, rfl⟩
        go_wp2_with fail
        refine (E5.out w1 hs).mono ?_
        rintro e w3 ⟨a3, cap3, rfl, hs3, ho⟩
        have hs13 : w.Since w.heap.size w3 := hs.trans (since_mono hs3 hs.size)
        have hz := hs.size
        have E6 := result_any a3 cap3 _ _ _ (partL l sn cn) w3 rfl HSZ.out ho
        rw [HPT.out] at E6
        replace E6 := Lib.hid E6
        go_wp2_with fail
        refine (E6.out).mono ?_
        rintro e w4 ⟨a', cap', rfl, hs4, ho4⟩
        go_wp2
        go_ret2
        exact ⟨a', cap', rfl, hs13.trans (since_mono hs4 hs13.size), ho4.mono hz hs4.size⟩

end Go.Proofs.Ytenkafcdachlkaa
