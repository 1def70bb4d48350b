/- Contracts of the small functions of impl's chapter 1: ranges, sets, entries. -/
import Derived.Test.YtdbomnhlgaohaaaTabIn
namespace Go.Proofs.Ytdbomnhlgaohaaa
open Go.RowKit Go.Deep

set_option maxHeartbeats 400000 in
theorem inRange_any (x lo hi : Int) (w : World) :
    Calls Try.prog 85 #[.int .i64 x, .int .i64 lo, .int .i64 hi] w fun e w' => e = .returned (.bool (inB x lo hi)) ∧ w = w' := by
  by_cases h1 : lo ≤ x
  · have d1 : decide (lo ≤ x) = true := by simpa using h1
    by_cases h2 : x ≤ hi
    · have hb : inB x lo hi = true := by simp [inB, h1, h2]
      go_enter Try.func85, Try.ntmps85
      go_wp2
      go_ret
      exact ⟨by first | rfl | (rw [hb]; rfl), rfl⟩
    · have hb : inB x lo hi = false := by simp [inB, h1, h2]
      go_enter Try.func85, Try.ntmps85
      go_wp2
      go_ret
      exact ⟨by first | rfl | (rw [hb]; rfl), rfl⟩
  · have hb : inB x lo hi = false := by simp [inB, h1]
    have d1 : decide (lo ≤ x) = false := by simpa using h1
    go_enter Try.func85, Try.ntmps85
    go_wp2
    go_ret
    exact ⟨by first | rfl | (rw [hb]; rfl), rfl⟩

theorem inRange_at (x lo hi : Int) (b : Bool) (w : World) (h : inB x lo hi = b) :
    Calls Try.prog 85 #[.int .i64 x, .int .i64 lo, .int .i64 hi] w fun e w' => e = .returned (.bool b) ∧ w = w' := by
  rw [← h]; exact inRange_any x lo hi w

set_option maxHeartbeats 400000 in
theorem fullSet_any (n : Nat) (hn : n ≤ 6) (w : World) :
    Calls Try.prog 98 #[.int .i64 n] w fun e w' => e = .returned (.int .i64 (2 ^ n - 1 : Nat)) ∧ w = w' := by
  have h : n = 0 ∨ n = 1 ∨ n = 2 ∨ n = 3 ∨ n = 4 ∨ n = 5 ∨ n = 6 := by omega
  rcases h with rfl | rfl | rfl | rfl | rfl | rfl | rfl
  all_goals
    go_enter Try.func98, Try.ntmps98
    go_wp2
    go_ret
    exact ⟨by first | rfl | (simp; rfl) | (exact ret_int (by decide)), rfl⟩

theorem bit_fin : ∀ s : Fin 64, ∀ i : Fin 7, (bits BinOp.and IntKind.i64 ((s.val : Int) / 2 ^ i.val) 1 == 1) = s.val.testBit i.val := by decide +kernel
theorem bit_any (s i : Nat) (hs : s ≤ 63) (hi : i ≤ 6) : (bits BinOp.and IntKind.i64 ((s : Int) / 2 ^ i) 1 == 1) = s.testBit i := bit_fin ⟨s, by omega⟩ ⟨i, by omega⟩

set_option maxHeartbeats 800000 in
theorem inSet_any (s i : Nat) (hs : s ≤ 63) (hi : i ≤ 6) (w : World) :
    Calls Try.prog 97 #[.int .i64 s, .int .i64 i] w fun e w' => e = .returned (.bool (s.testBit i)) ∧ w = w' := by
  go_enter Try.func97, Try.ntmps97
  go_wp2
  go_ret
  exact ⟨ret_bool (bit_any s i hs hi), rfl⟩


set_option maxHeartbeats 800000 in
theorem width_any (a : Option Addr) (cap n : Nat) (l : List (List Int)) (w : World) (hn : l.length = n) (h0 : 0 < n) (hn1 : n ≤ 1048576) (hm : MatR w a l) :
    Calls Try.prog 83 #[.slice a n cap] w fun e w' => e = .returned (.int .i64 (l.getD 0 []).length) ∧ w = w' := by
  obtain ⟨b, o, A, C, rfl, hc⟩ := hm (by omega)
  have c0 := (hc 0 (by omega)).1
  rw [Nat.add_zero] at c0
  obtain ⟨m, hmm⟩ : ∃ m, m = (l.getD 0 []).length := ⟨_, rfl⟩
  rw [← hmm] at c0 ⊢
  clear hmm hc hm hn
  go_enter Try.func83, Try.ntmps83
  go_wp2
  go_ret
  exact ⟨rfl, rfl⟩

set_option maxHeartbeats 800000 in
theorem allRows_any (a : Option Addr) (cap n : Nat) (w : World) (h6 : n ≤ 6) :
    Calls Try.prog 88 #[.slice a n cap] w fun e w' => e = .returned (.int .i64 (2 ^ n - 1 : Nat)) ∧ w = w' := by
  have E := Lib.hid (fullSet_any n h6 w)
  go_enter Try.func88, Try.ntmps88
  go_wp2_with fail
  refine (E.out).mono ?_
  rintro e w' ⟨rfl, rfl⟩
  go_wp2
  go_ret
  exact ⟨rfl, rfl⟩

open Classical in
/-- All numbers of a row lie in their range. -/
noncomputable def numsIn (r : List Int) : Bool := decide (NumsIn r r.length)
theorem numsIn_true {r : List Int} (h : NumsIn r r.length) : numsIn r = true := by simp [numsIn, h]
theorem numsIn_false {r : List Int} (h : ¬ NumsIn r r.length) : numsIn r = false := by simp [numsIn, h]
theorem numsIn_of {r : List Int} (h : numsIn r = true) : NumsIn r r.length := by simpa [numsIn] using h
theorem numsIn_not {r : List Int} (h : numsIn r = false) : ¬ NumsIn r r.length := by simpa [numsIn] using h

set_option maxHeartbeats 400000 in
theorem isSide_any (n : Int) (w : World) :
    Calls Try.prog 71 #[.int .i64 n] w fun e w' => e = .returned (.bool (inB n 1 6)) ∧ w = w' := by
  have E := Lib.hid (inRange_any n 1 6 w)
  obtain ⟨b, hb⟩ : ∃ b, inB n 1 6 = b := ⟨_, rfl⟩
  rw [hb] at E ⊢
  clear hb
  go_enter Try.func71, Try.ntmps71
  go_wp2_with fail
  refine (E.out).mono ?_
  rintro e w' ⟨rfl, rfl⟩
  go_wp2
  go_ret
  exact ⟨rfl, rfl⟩

theorem isSide_at (n : Int) (b : Bool) (w : World) (h : inB n 1 6 = b) :
    Calls Try.prog 71 #[.int .i64 n] w fun e w' => e = .returned (.bool b) ∧ w = w' := by
  rw [← h]; exact isSide_any n w

/-- The first numbers lie in a range. -/
def RngK (x : List Int) (lo hi : Int) (k : Nat) : Prop := ∀ j, j < k → inB (x.getD j 0) lo hi = true
open Classical in
noncomputable def rngB (x : List Int) (lo hi : Int) : Bool := decide (RngK x lo hi x.length)
theorem rngB_true {x : List Int} {lo hi : Int} (h : RngK x lo hi x.length) : rngB x lo hi = true := by simp [rngB, h]
theorem rngB_false {x : List Int} {lo hi : Int} (h : ¬ RngK x lo hi x.length) : rngB x lo hi = false := by simp [rngB, h]
theorem rngB_of {x : List Int} {lo hi : Int} (h : rngB x lo hi = true) : RngK x lo hi x.length := by simpa [rngB] using h
theorem RngK.succ {x : List Int} {lo hi : Int} {k : Nat} (h : RngK x lo hi k) (hk : inB (x.getD k 0) lo hi = true) : RngK x lo hi (k + 1) := fun j hj => by
  rcases Nat.lt_succ_iff_lt_or_eq.1 hj with hlt | heq
  · exact h j hlt
  · rw [heq]; exact hk

set_option maxHeartbeats 1000000 in
theorem allInRange_any (a : Option Addr) (cap m : Nat) (x : List Int) (lo hi : Int) (w : World) (hn : x.length = m) (h63 : m ≤ 9223372036854775807) (hm : RowR w a x) :
    Calls Try.prog 73 #[.slice a m cap, .int .i64 lo, .int .i64 hi] w fun e w' => e = .returned (.bool (rngB x lo hi)) ∧ w = w' := by
  have H := Lib.hid hn; clear hn
  go_enter Try.func73, Try.ntmps73
  go_wp2
  go_loopg [8, 11] m (fun g _ i wr => ∃ k : Nat, k ≤ m ∧ g = m - k ∧ i = .int .i64 k ∧ w = wr ∧ RngK x lo hi k)
  case atStart => exact ⟨0, Nat.zero_le _, rfl, rfl, rfl, fun r hr => absurd hr (Nat.not_lt_zero _)⟩
  case round =>
    obtain ⟨k, hk, rfl, rfl, rfl, hN⟩ := hrel
    by_cases hlt : k < m
    · obtain ⟨b, o, rfl, hc⟩ := hm (by rw [H.out]; omega)
      have cj := hc k (by rw [H.out]; exact hlt)
      obtain ⟨y, hy⟩ : ∃ y, y = x.getD k 0 := ⟨_, rfl⟩
      rw [← hy] at cj
      have HY := Lib.hid hy
      clear hc hy hm
      have E1 := inRange_any y lo hi w
      cases hiy : inB y lo hi with
      | true =>
        rw [hiy] at E1
        replace E1 := Lib.hid E1
        have HI := Lib.hid hiy
        clear hiy
        go_wp2_with fail
        refine (E1.out).mono ?_
        rintro e w' ⟨rfl, rfl⟩
        go_wp2
        go_roundg (m - (k + 1))
        case measure => omega
        case rel => exact ⟨k + 1, by omega, rfl, by go_num, rfl, hN.succ (by rw [← HY.out]; exact HI.out)⟩
      | false =>
        rw [hiy] at E1
        replace E1 := Lib.hid E1
        have HI := Lib.hid hiy
        clear hiy
        go_wp2_with fail
        refine (E1.out).mono ?_
        rintro e w' ⟨rfl, rfl⟩
        go_wp2
        go_ret
        refine ⟨ret_bool (rngB_false fun hT => ?_).symm, rfl⟩
        have := hT k (by rw [H.out]; exact hlt)
        rw [← HY.out, HI.out] at this
        exact Bool.noConfusion this
    · go_wp2
      go_ret
      exact ⟨ret_bool (rngB_true (by rw [H.out, show m = k by omega]; exact hN)).symm, rfl⟩

theorem numsIn_rng (x : List Int) : rngB x (-30) 30 = numsIn x := by
  unfold rngB numsIn RngK NumsIn
  congr 1
  simp [inB]

set_option maxHeartbeats 1000000 in
theorem entriesIn_any (a : Option Addr) (cap m : Nat) (x : List Int) (w : World) (hn : x.length = m) (hn1 : m ≤ 1048576) (hm : RowR w a x) :
    Calls Try.prog 89 #[.slice a m cap] w fun e w' => e = .returned (.bool (numsIn x)) ∧ w = w' := by
  have E := Lib.hid (allInRange_any a cap m x (-30) 30 w hn (by omega) hm)
  obtain ⟨b, hb⟩ : ∃ b, numsIn x = b := ⟨_, rfl⟩
  rw [numsIn_rng, hb] at E
  rw [hb]
  clear hb hm hn
  go_enter Try.func89, Try.ntmps89
  go_wp2_with fail
  refine (E.out).mono ?_
  rintro e w' ⟨rfl, rfl⟩
  go_wp2
  go_ret
  exact ⟨rfl, rfl⟩

end Go.Proofs.Ytdbomnhlgaohaaa
