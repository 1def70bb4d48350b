/- Chapter 9: the contracts of spec.l9Chain, spec.l9Value and spec.ChainValue. -/
import Derived.Test.YtdbomnhlgaohaaaChainP
import Derived.Test.YtdbomnhlgaohaaaPowV
namespace Go.Proofs.Ytdbomnhlgaohaaa
open Go.RowKit Go.Deep

open Classical in
noncomputable def l9B (x : List Int) : Bool := decide (ListK x 9 x.length) && decide ((x.length : Int) ≤ 6)
theorem l9B_no {x : List Int} (h : ¬ ListK x 9 x.length) : l9B x = false := by simp [l9B, h]
theorem l9B_all {x : List Int} (h : ListK x 9 x.length) : l9B x = decide ((x.length : Int) ≤ 6) := by simp [l9B, h]
theorem l9B_of {x : List Int} (h : l9B x = true) : ListK x 9 x.length ∧ x.length ≤ 6 := by
  simp only [l9B, Bool.and_eq_true, decide_eq_true_eq] at h
  exact ⟨h.1, by omega⟩
theorem l9B_all9 {x : List Int} (h : l9B x = true) (j : Nat) : -9 ≤ x.getD j 0 ∧ x.getD j 0 ≤ 9 := by
  by_cases hj : j < x.length
  · have := (l9B_of h).1 j hj
    simp only [inB, decide_eq_true_eq] at this
    exact this
  · have : x.getD j 0 = 0 := by simp [List.getD, List.getElem?_eq_none (show x.length ≤ j by omega)]
    omega
/-- The value of a chain. -/
def chV (x : List Int) : Int := kf (fun i => x.getD i 0) x.length
/-- A slice whose cells are the first m of f. -/
def CelR (w : World) (a : Option Addr) (f : Nat → Int) (m : Nat) : Prop := 0 < m → ∃ b o, a = some ⟨b, o, none⟩ ∧ ∀ i, i < m → w.cell? ⟨b, o + i, none⟩ = some (.int .i64 (f i))
theorem CelR.row {w : World} {a : Option Addr} {x : List Int} (h : RowR w a x) : CelR w a (fun i => x.getD i 0) x.length := h

set_option maxHeartbeats 1000000 in
theorem l9Chain_any (a : Option Addr) (cap m : Nat) (x : List Int) (w : World) (hn : x.length = m) (h63 : m ≤ 9223372036854775807) (hm : RowR w a x) :
    Calls Try.prog 49 #[.slice a m cap] w fun e w' => e = .returned (.bool (l9B x)) ∧ w = w' := by
  have H := Lib.hid hn; clear hn
  go_enter Try.func49, Try.ntmps49
  go_wp2
  go_loopg [3] m (fun g i wr => ∃ k : Nat, k ≤ m ∧ g = m - k ∧ i = .int .i64 k ∧ w = wr ∧ ListK x 9 k)
  case atStart => exact ⟨0, Nat.zero_le _, rfl, rfl, rfl, fun r hr => absurd hr (Nat.not_lt_zero _)⟩
  case round =>
    obtain ⟨k, hk, rfl, rfl, rfl, hN⟩ := hrel
    by_cases hlt : k < m
    · obtain ⟨b, o, rfl, hc⟩ := hm (by rw [H.out]; omega)
      have cj := hc k (by rw [H.out]; exact hlt)
      obtain ⟨y, hy⟩ : ∃ y, y = x.getD k 0 := ⟨_, rfl⟩
      rw [← hy] at cj
      have HY := Lib.hid hy
      clear hc hy hm
      have E1 := l6In_any y (-9) 9 w
      cases hiy : inB y (-9) 9 with
      | true =>
        rw [hiy] at E1
        replace E1 := Lib.hid E1
        have HI := Lib.hid hiy
        clear hiy
        go_wp2_with fail
        refine (E1.out).mono ?_
        rintro e w' ⟨rfl, rfl⟩
        go_wp2
        go_roundg (m - (k + 1))
        case measure => omega
        case rel => exact ⟨k + 1, by omega, rfl, by go_num, rfl, hN.succ (by rw [← HY.out]; exact HI.out)⟩
      | false =>
        rw [hiy] at E1
        replace E1 := Lib.hid E1
        have HI := Lib.hid hiy
        clear hiy
        have hno := Lib.hid (l9B_no (x := x) fun hT => by
          have := hT k (by rw [H.out]; exact hlt)
          rw [← HY.out, HI.out] at this
          exact Bool.noConfusion this)
        go_wp2_with fail
        refine (E1.out).mono ?_
        rintro e w' ⟨rfl, rfl⟩
        go_wp2
        go_ret
        exact ⟨by rw [hno.out]; rfl, rfl⟩
    · have hkm : k = m := by omega
      subst hkm
      have hal := Lib.hid (l9B_all (x := x) (by rw [H.out]; exact hN))
      go_wp2
      go_ret
      exact ⟨by rw [hal.out, H.out]; rfl, rfl⟩

set_option maxRecDepth 100000 in
set_option maxHeartbeats 1000000 in
theorem l9Value_any (a : Option Addr) (cap m : Nat) (f : Nat → Int) (w : World) (h7 : m ≤ 7) (hf : ∀ j, -9 ≤ f j ∧ f j ≤ 9) (hm : CelR w a f m) :
    Calls Try.prog 50 #[.slice a m cap] w fun e w' => e = .returned (.int .i64 (kf f m)) ∧ w = w' := by
  have HF := Lib.hid hf
  clear hf
  go_enter Try.func50, Try.ntmps50
  go_wp2
  go_loopg [3, 4, 5] m (fun g p q i wr => ∃ k : Nat, k ≤ m ∧ g = m - k ∧ i = .int .i64 k ∧ p = .int .i64 (kP f k) ∧ q = .int .i64 (kf f k) ∧ w = wr)
  case atStart => exact ⟨0, Nat.zero_le _, rfl, rfl, rfl, rfl, rfl⟩
  case round =>
    obtain ⟨k, hk, rfl, rfl, rfl, rfl, rfl⟩ := hrel
    by_cases hlt : k < m
    · obtain ⟨b, o, rfl, hc⟩ := hm (by omega)
      have cj := hc k hlt
      have hy9 := HF.out k
      have b1 := kf_lt HF.out (n := k) (by omega)
      have b2 := kP_lt HF.out (n := k) (by omega)
      have b3 := kf_lt HF.out (n := k + 1) (by omega)
      have hs := kf_step f k
      have hp1 := kP_succ f k
      obtain ⟨y, hy⟩ : ∃ y, f k = y := ⟨_, rfl⟩
      obtain ⟨p, hp⟩ : ∃ p, kf f k = p := ⟨_, rfl⟩
      obtain ⟨q, hq⟩ : ∃ q, kP f k = q := ⟨_, rfl⟩
      obtain ⟨r, hr⟩ : ∃ r, kf f (k + 1) = r := ⟨_, rfl⟩
      rw [hy] at cj hy9 hs
      rw [hp] at b1 hs hp1 ⊢
      rw [hq] at b2 hs ⊢
      rw [hr] at b3 hs
      have HR := Lib.hid hr
      have HP := Lib.hid hp1
      have hm9 := mul9 (b := p) hy9 (c := 10000000) ⟨by omega, by omega⟩
      obtain ⟨z, hz⟩ : ∃ z, y * p = z := ⟨_, rfl⟩
      rw [hz] at hm9 hs
      have hw1 : wrap64 (y * p) = z := by rw [hz]; unfold wrap64; omega
      have hw2 : wrap64 (z + q) = r := by rw [← hs]; unfold wrap64; omega
      have hzr : z + q = r := hs.symm
      clear hc hm hy hp hq hr hz hs hp1
      go_wp2
      go_roundg (m - (k + 1))
      case measure => omega
      case rel => exact ⟨k + 1, by omega, rfl, by go_num, by rw [HP.out], by rw [HR.out, ← hzr], rfl⟩
    · have : k = m := by omega
      subst this
      go_wp2
      go_ret
      exact ⟨rfl, rfl⟩

set_option maxHeartbeats 1000000 in
theorem specChainValue_any (a : Option Addr) (cap m : Nat) (x : List Int) (w : World) (hn : x.length = m) (h63 : m ≤ 9223372036854775807) (hm : RowR w a x) :
    Calls Try.prog 17 #[.slice a m cap] w fun e w' => e = .returned (.tuple #[.int .i64 (if l9B x = true then chV x else 0), .bool (l9B x)]) ∧ w = w' := by
  have E := l9Chain_any a cap m x w hn h63 hm
  cases hok : l9B x with
  | false =>
    rw [hok] at E
    replace E := Lib.hid E
    clear hok hm hn
    go_enter Try.func17, Try.ntmps17
    go_wp2_with fail
    refine (E.out).mono ?_
    rintro e w' ⟨rfl, rfl⟩
    go_wp2
    go_ret2
    exact ⟨rfl, rfl⟩
  | true =>
    rw [hok] at E
    have h6 := (l9B_of hok).2
    have h9 := l9B_all9 hok
    have E2 := l9Value_any a cap m (fun i => x.getD i 0) w (by omega) h9 (by rw [← hn]; exact CelR.row hm)
    rw [show kf (fun i => x.getD i 0) m = chV x by unfold chV; rw [hn]] at E2
    replace E := Lib.hid E
    replace E2 := Lib.hid E2
    clear hok hm hn h6 h9
    go_enter Try.func17, Try.ntmps17
    go_wp2_with fail
    refine (E.out).mono ?_
    rintro e w' ⟨rfl, rfl⟩
    go_wp2_with fail
    refine (E2.out).mono ?_
    rintro e w' ⟨rfl, rfl⟩
    go_wp2
    go_ret2
    exact ⟨rfl, rfl⟩
end Go.Proofs.Ytdbomnhlgaohaaa
