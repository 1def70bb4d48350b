/- Contracts of spec.TableIn and of what it calls. -/
import Derived.Test.YtdbomnhlgaohaaaHarn2
namespace Go.Proofs.Ytdbomnhlgaohaaa
open Go.RowKit Go.Deep

/-- Does x lie from lo to hi? -/
def inB (x lo hi : Int) : Bool := decide (lo ≤ x ∧ x ≤ hi)

set_option maxHeartbeats 400000 in
theorem l6In_any (x lo hi : Int) (w : World) :
    Calls Try.prog 70 #[.int .i64 x, .int .i64 lo, .int .i64 hi] w fun e w' => e = .returned (.bool (inB x lo hi)) ∧ w = w' := by
  by_cases h1 : lo ≤ x
  · have d1 : decide (lo ≤ x) = true := by simpa using h1
    by_cases h2 : x ≤ hi
    · have hb : inB x lo hi = true := by simp [inB, h1, h2]
      go_enter Try.func70, Try.ntmps70
      go_wp2
      go_ret
      exact ⟨by first | rfl | (rw [hb]; rfl), rfl⟩
    · have hb : inB x lo hi = false := by simp [inB, h1, h2]
      go_enter Try.func70, Try.ntmps70
      go_wp2
      go_ret
      exact ⟨rfl, rfl⟩
  · have hb : inB x lo hi = false := by simp [inB, h1]
    have d1 : decide (lo ≤ x) = false := by simpa using h1
    go_enter Try.func70, Try.ntmps70
    go_wp2
    go_ret
    exact ⟨rfl, rfl⟩

theorem l6In_at (x lo hi : Int) (b : Bool) (w : World) (h : inB x lo hi = b) :
    Calls Try.prog 70 #[.int .i64 x, .int .i64 lo, .int .i64 hi] w fun e w' => e = .returned (.bool b) ∧ w = w' := by
  rw [← h]; exact l6In_any x lo hi w

/-- A row of a table. -/
def RowIn (c : Nat) (r : List Int) : Prop := r.length = c ∧ 1 ≤ r.length ∧ r.length ≤ 6 ∧ ∀ k, k < r.length → -30 ≤ r.getD k 0 ∧ r.getD k 0 ≤ 30
/-- A table. -/
def TabIn (l : List (List Int)) : Prop := 1 ≤ l.length ∧ l.length ≤ 6 ∧ ∀ r, r < l.length → RowIn (l.getD 0 []).length (l.getD r [])
open Classical in
noncomputable def tabIn (l : List (List Int)) : Bool := decide (TabIn l)
theorem tabIn_true {l : List (List Int)} (h : TabIn l) : tabIn l = true := by simp [tabIn, h]
theorem tabIn_false {l : List (List Int)} (h : ¬ TabIn l) : tabIn l = false := by simp [tabIn, h]
theorem tabIn_of {l : List (List Int)} (h : tabIn l = true) : TabIn l := by simpa [tabIn] using h
theorem tabIn_not {l : List (List Int)} (h : tabIn l = false) : ¬ TabIn l := by simpa [tabIn] using h
theorem ret_bool {a b : Bool} (h : a = b) : Ending.returned (.bool a) = .returned (.bool b) := by rw [h]

/-- The first k rows are rows of a table. -/
def RowsIn (l : List (List Int)) (k : Nat) : Prop := ∀ r, r < k → RowIn (l.getD 0 []).length (l.getD r [])
theorem RowsIn.succ {l : List (List Int)} {k : Nat} (h : RowsIn l k) (hk : RowIn (l.getD 0 []).length (l.getD k [])) : RowsIn l (k + 1) := by
  intro r hr
  by_cases e : r = k
  · subst e; exact hk
  · exact h r (by omega)
/-- The first k numbers of a row lie in their range. -/
def NumsIn (r : List Int) (k : Nat) : Prop := ∀ j, j < k → -30 ≤ r.getD j 0 ∧ r.getD j 0 ≤ 30
theorem NumsIn.succ {r : List Int} {k : Nat} (h : NumsIn r k) (hk : inB (r.getD k 0) (-30) 30 = true) : NumsIn r (k + 1) := by
  intro j hj
  by_cases e : j = k
  · subst e; exact of_decide_eq_true hk
  · exact h j (by omega)

set_option maxHeartbeats 2000000 in
theorem specTableIn_any (a : Option Addr) (cap n : Nat) (l : List (List Int)) (w : World) (hn : l.length = n) (hsz : szL l ≤ 1048576) (hm : MatR w a l) :
    Calls Try.prog 66 #[.slice a n cap] w fun e w' => e = .returned (.bool (tabIn l)) ∧ Drawn w w' := by
  have hn1 : n ≤ 1048576 := by rw [← hn]; unfold szL at hsz; omega
  have H := Lib.hid hn; clear hn
  go_enter Try.func66, Try.ntmps66
  go_wp2
  go_loopg [3, 4] n (fun g i _ wr => ∃ k : Nat, k ≤ n ∧ g = n - k ∧ i = .int .i64 k ∧ Drawn w wr ∧ RowsIn l k)
  case atStart => exact ⟨0, Nat.zero_le _, rfl, rfl, Drawn.refl w, fun r hr => absurd hr (Nat.not_lt_zero _)⟩
  case round =>
    obtain ⟨k, hk, rfl, rfl, hD, hR⟩ := hrel
    obtain ⟨wo, rfl⟩ : ∃ wo : World, wo = wr := ⟨_, rfl⟩
    by_cases hlt : k < n
    · obtain ⟨b, o, A, C, rfl, hc⟩ := hm (by rw [H.out]; omega)
      obtain ⟨c1, r1⟩ := hc k (by rw [H.out]; exact hlt)
      obtain ⟨c0, r0⟩ := hc 0 (by rw [H.out]; omega)
      have hml : (l.getD k []).length ≤ 1048576 := by have := row_le l (r := k) (by rw [H.out]; exact hlt); unfold szL at hsz; omega
      have hml0 : (l.getD 0 []).length ≤ 1048576 := by have := row_le l (r := 0) (by rw [H.out]; omega); unfold szL at hsz; omega
      rw [← hD.cell] at c1 c0
      simp only [Nat.add_zero] at c0
      replace r1 := r1.drawn hD
      obtain ⟨x, hx⟩ : ∃ x, x = l.getD k [] := ⟨_, rfl⟩
      rw [← hx] at c1 r1 hml
      have HX := Lib.hid hx
      obtain ⟨m, hmm⟩ : ∃ m, x.length = m := ⟨_, rfl⟩
      rw [hmm] at c1 hml
      have HM := Lib.hid hmm
      obtain ⟨m0, hm0⟩ : ∃ m, (l.getD 0 []).length = m := ⟨_, rfl⟩
      rw [hm0] at c0 hml0
      have HM0 := Lib.hid hm0
      clear hx hmm hm0 hc r0
      by_cases hne : m = m0
      · subst hne
        cases hin : inB (m : Int) 1 6 with
        | false =>
          have e1 := fun (p : Nat) => l6In_at m 1 6 false (wo.drewN p) hin
          have E1 := Lib.hid e1
          have HIN := Lib.hid hin
          clear e1 hin
          go_wp2
          go_quiet ((go_at_call 70; exact Calls.quiet_of_same ((E1.out _).mono fun e w' h => ⟨h.1, h.2.symm⟩)))
          go_wp2
          go_ret
          refine ⟨ret_bool (tabIn_false fun hT => ?_).symm, hD.trans (Drawn.mk _ _)⟩
          have := hT.2.2 k (by rw [H.out]; exact hlt)
          rw [← HX.out] at this
          have h2 := HIN.out
          unfold RowIn at this
          rw [HM.out] at this
          simp [inB] at h2
          omega
        | true =>
          have e1 := fun (p : Nat) => l6In_at m 1 6 true (wo.drewN p) hin
          have E1 := Lib.hid e1
          have HIN := Lib.hid hin
          clear e1 hin
          go_wp2
          go_quiet ((go_at_call 70; exact Calls.quiet_of_same ((E1.out _).mono fun e w' h => ⟨h.1, h.2.symm⟩)))
          go_wp2
          clear c0
          go_loopg [4] m (fun g i wi => ∃ j : Nat, j ≤ m ∧ g = m - j ∧ i = .int .i64 j ∧ Drawn wo wi ∧ NumsIn x j)
          case atStart => exact ⟨0, Nat.zero_le _, rfl, rfl, Drawn.mk _ _, fun r hr => absurd hr (Nat.not_lt_zero _)⟩
          case round =>
            obtain ⟨j, hj, rfl, rfl, hDi, hN⟩ := hrel
            rw [← hDi.cell] at c1
            by_cases hjm : j < m
            · obtain ⟨b', o', hA, hc'⟩ := r1 (by rw [HM.out]; omega)
              have cj := hc' j (by rw [HM.out]; exact hjm)
              rw [← hDi.cell] at cj
              rw [hA] at c1
              obtain ⟨y, hy⟩ : ∃ y, y = x.getD j 0 := ⟨_, rfl⟩
              rw [← hy] at cj
              have HY := Lib.hid hy
              clear hc' hA hy r1
              cases hiy : inB y (-30) 30 with
              | true =>
                have E1 := Lib.hid (l6In_at y (-30) 30 true wr hiy)
                have HI := Lib.hid hiy
                clear hiy
                go_wp2_with fail
                refine (E1.out).mono ?_
                rintro e w' ⟨rfl, rfl⟩
                go_wp2
                go_roundg (m - (j + 1))
                case measure => omega
                case rel => exact ⟨j + 1, by omega, rfl, by go_num, hDi, hN.succ (by rw [← HY.out]; exact HI.out)⟩
              | false =>
                have E1 := Lib.hid (l6In_at y (-30) 30 false wr hiy)
                have HI := Lib.hid hiy
                clear hiy
                go_wp2_with fail
                refine (E1.out).mono ?_
                rintro e w' ⟨rfl, rfl⟩
                go_wp2
                go_ret
                refine ⟨ret_bool (tabIn_false fun hT => ?_).symm, hD.trans hDi⟩
                have := (hT.2.2 k (by rw [H.out]; exact hlt)).2.2.2 j (by rw [← HX.out, HM.out]; exact hjm)
                rw [← HX.out, ← HY.out] at this
                have h2 := HI.out
                simp [inB] at h2
                omega
            · go_wp2
              go_roundg (n - (k + 1))
              case measure => omega
              case rel =>
                refine ⟨k + 1, by omega, rfl, by go_num, hD.trans hDi, hR.succ ?_⟩
                have := of_decide_eq_true HIN.out
                refine ⟨by rw [← HX.out, HM.out, HM0.out], ?_⟩
                rw [← HX.out, HM.out]
                exact ⟨by omega, by omega, fun i hi => hN i (by omega)⟩
      · have hne1 : ((m : Int) != (m0 : Int)) = true := by simp; omega
        go_wp2
        go_quiet (fail)
        go_wp2
        go_ret
        refine ⟨ret_bool (tabIn_false fun hT => ?_).symm, hD.trans (Drawn.mk _ _)⟩
        have := (hT.2.2 k (by rw [H.out]; exact hlt)).1
        rw [← HX.out, HM.out, HM0.out] at this
        exact hne this
    · have e1 := fun b h => l6In_at n 1 6 b wo h
      have E1 := Lib.hid e1
      clear e1
      go_wp2_with fail
      refine ((E1.out) _ rfl).mono ?_
      rintro e w' ⟨rfl, rfl⟩
      go_wp2
      go_ret
      refine ⟨ret_bool ?_, hD⟩
      have hkn : k = n := by omega
      subst hkn
      cases hin : inB (k : Int) 1 6 with
      | true =>
        have h6 := of_decide_eq_true hin
        exact (tabIn_true ⟨by rw [H.out]; omega, by rw [H.out]; omega, by rw [H.out]; exact hR⟩).symm
      | false =>
        have h6 := of_decide_eq_false hin
        refine (tabIn_false fun hT => ?_).symm
        have h7 := hT.1
        have h8 := hT.2.1
        rw [H.out] at h7 h8
        omega

end Go.Proofs.Ytdbomnhlgaohaaa
