/- Chapter 8: the values of squares of divisors and of two numbers. -/
import Derived.Test.YtkahgpgnfodpgaaKnownW
namespace Go.Proofs.Ytkahgpgnfodpgaa
open Go.RowKit Go.Deep

/-- How many numbers from 1 to k have no common divisor with i; the product of these. -/
def oneIf (d : Nat) : Nat := if d = 1 then 1 else 0
theorem oneIf_one : oneIf 1 = 1 := rfl
theorem oneIf_no {d : Nat} (h : d ≠ 1) : oneIf d = 0 := if_neg h
def phK (i : Nat) : Nat → Nat
  | 0 => 0
  | k + 1 => phK i k + oneIf (Nat.gcd i (k + 1))
def dvK : Nat → Nat
  | 0 => 1
  | i + 1 => dvK i * phK (i + 1) (i + 1)
theorem phK_le (i : Nat) : ∀ k, phK i k ≤ k
  | 0 => Nat.le_refl _
  | k + 1 => by have := phK_le i k; simp only [phK, oneIf]; split <;> omega
theorem dvK_le : ∀ i : Fin 7, 1 ≤ dvK i.val ∧ dvK i.val ≤ 32 := by decide +kernel

set_option maxHeartbeats 1000000 in
theorem countPrimeTo_any (n : Nat) (w : World) (hn : n ≤ 1000) :
    Calls Try.prog 88 #[.int .i64 n] w fun e w' => e = .returned (.int .i64 (phK n n : Nat)) ∧ w.Since w.heap.size w' := by
  go_enter Try.func88, Try.ntmps88
  go_wp2
  go_loopg [3, 4] n (fun g c i wr => ∃ k : Nat, k ≤ n ∧ g = n - k ∧ i = .int .i64 ((k : Int) + 1) ∧ c = .int .i64 (phK n k : Nat) ∧ w.Since w.heap.size wr)
  case atStart => exact ⟨0, Nat.zero_le _, rfl, by go_num, rfl, World.Since.refl _ _⟩
  case round =>
    obtain ⟨k, hk, rfl, rfl, rfl, hs⟩ := hrel
    have hp := phK_le n k
    by_cases hlt : k < n
    · have E := commonDivisor_any (k + 1) n wr (by omega) (by omega)
      have hst : phK n (k + 1) = phK n k + oneIf (Nat.gcd n (k + 1)) := rfl
      rw [Nat.gcd_comm, show ((k + 1 : Nat) : Int) = (k : Int) + 1 by omega] at E
      obtain ⟨d, hd⟩ : ∃ d, Nat.gcd n (k + 1) = d := ⟨_, rfl⟩
      rw [hd] at E hst
      replace E := Lib.hid E
      have HS := Lib.hid hs
      by_cases h1 : d = 1
      · subst h1
        rw [oneIf_one] at hst
        have HST := Lib.hid hst
        clear hd hs hst
        go_wp2_with fail
        refine (E.out).mono ?_
        rintro e w2 ⟨rfl, hs2⟩
        go_wp2
        go_roundg (n - (k + 1))
        case measure => omega
        case rel => exact ⟨k + 1, by omega, rfl, by go_num, by rw [HST.out]; go_num, HS.out.trans (since_mono hs2 HS.out.size)⟩
      · rw [oneIf_no h1] at hst
        have HST := Lib.hid hst
        have hne : ((d : Int) == 1) = false := by simp; omega
        clear hd hs hst
        go_wp2_with fail
        refine (E.out).mono ?_
        rintro e w2 ⟨rfl, hs2⟩
        go_wp2
        go_roundg (n - (k + 1))
        case measure => omega
        case rel => exact ⟨k + 1, by omega, rfl, by go_num, by rw [HST.out]; rfl, HS.out.trans (since_mono hs2 HS.out.size)⟩
    · have : k = n := by omega
      subst this
      go_wp2
      go_ret
      exact ⟨rfl, hs⟩

set_option maxHeartbeats 1000000 in
theorem implKnownDivisorsValue_any (n : Int) (w : World) :
    Calls Try.prog 34 #[.int .i64 n] w fun e w' => e = .returned (.tuple #[.int .i64 (if inB n 1 6 = true then (dvK n.toNat : Nat) else 0), .bool (inB n 1 6)]) ∧ w.Since w.heap.size w' := by
  have E := isSide_any n w
  cases hin : inB n 1 6 with
  | false =>
    rw [hin] at E
    replace E := Lib.hid E
    clear hin
    go_enter Try.func34, Try.ntmps34
    go_wp2_with fail
    refine (E.out).mono ?_
    rintro e w' ⟨rfl, rfl⟩
    go_wp2
    go_ret2
    exact ⟨rfl, World.Since.refl _ _⟩
  | true =>
    rw [hin] at E
    have h6 := of_decide_eq_true hin
    obtain ⟨m, rfl⟩ := Int.eq_ofNat_of_zero_le (show 0 ≤ n by omega)
    replace E := Lib.hid E
    clear hin
    rw [Int.toNat_natCast]
    go_enter Try.func34, Try.ntmps34
    go_wp2_with fail
    refine (E.out).mono ?_
    rintro e w' ⟨rfl, rfl⟩
    go_wp2
    go_loopg [4, 5] m (fun g c i wr => ∃ k : Nat, k ≤ m ∧ g = m - k ∧ i = .int .i64 ((k : Int) + 1) ∧ c = .int .i64 (dvK k : Nat) ∧ w.Since w.heap.size wr)
    case atStart => exact ⟨0, Nat.zero_le _, rfl, by go_num, rfl, World.Since.refl _ _⟩
    case round =>
      obtain ⟨k, hk, rfl, rfl, rfl, hs⟩ := hrel
      by_cases hlt : k < m
      · have E := countPrimeTo_any (k + 1) wr (by omega)
        have hst : dvK (k + 1) = dvK k * phK (k + 1) (k + 1) := rfl
        have b1 := dvK_le ⟨k, by omega⟩
        have b2 := dvK_le ⟨k + 1, by omega⟩
        simp only at b1 b2
        obtain ⟨p, hp⟩ : ∃ p, phK (k + 1) (k + 1) = p := ⟨_, rfl⟩
        obtain ⟨q, hq⟩ : ∃ q, dvK k = q := ⟨_, rfl⟩
        rw [hp, show ((k + 1 : Nat) : Int) = (k : Int) + 1 by omega] at E
        rw [hp, hq] at hst
        rw [hst] at b2
        rw [hq]
        have hmul : wrap64 ((q : Int) * (p : Int)) = ((dvK (k + 1) : Nat) : Int) := by rw [hst, Int.natCast_mul]; have : (q : Int) * (p : Int) = ((q * p : Nat) : Int) := by rw [Int.natCast_mul]
                                                                                       rw [this]; unfold wrap64; omega
        replace E := Lib.hid E
        have HS := Lib.hid hs
        have HMUL := Lib.hid hmul
        clear hp hq hst hs b1 b2 hmul
        go_wp2_with fail
        refine (E.out).mono ?_
        rintro e w2 ⟨rfl, hs2⟩
        go_wp2
        go_roundg (m - (k + 1))
        case measure => omega
        case rel => exact ⟨k + 1, by omega, rfl, by go_num, by rw [HMUL.out], HS.out.trans (since_mono hs2 HS.out.size)⟩
      · have : k = m := by omega
        subst this
        go_wp2
        go_ret2
        exact ⟨rfl, hs⟩

set_option maxHeartbeats 1000000 in
theorem specKnownDivisorsValue_any (n : Int) (w : World) :
    Calls Try.prog 36 #[.int .i64 n] w fun e w' => e = .returned (.tuple #[.int .i64 (if inB n 1 6 = true then (dvK n.toNat : Nat) else 0), .bool (inB n 1 6)]) ∧ w = w' := by
  have E := l6In_any n 1 6 w
  cases hin : inB n 1 6 with
  | false =>
    rw [hin] at E
    replace E := Lib.hid E
    clear hin
    go_enter Try.func36, Try.ntmps36
    go_wp2_with fail
    refine (E.out).mono ?_
    rintro e w' ⟨rfl, rfl⟩
    go_wp2
    go_ret2
    exact ⟨rfl, rfl⟩
  | true =>
    rw [hin] at E
    have h6 := of_decide_eq_true hin
    obtain ⟨m, rfl⟩ := Int.eq_ofNat_of_zero_le (show 0 ≤ n by omega)
    replace E := Lib.hid E
    clear hin
    rw [Int.toNat_natCast]
    go_enter Try.func36, Try.ntmps36
    go_wp2_with fail
    refine (E.out).mono ?_
    rintro e w' ⟨rfl, rfl⟩
    go_wp2
    go_loopg [4, 5, 6, 7] m (fun g c i _ _ wr => ∃ k : Nat, k ≤ m ∧ g = m - k ∧ i = .int .i64 ((k : Int) + 1) ∧ c = .int .i64 (dvK k : Nat) ∧ w = wr)
    case atStart => exact ⟨0, Nat.zero_le _, rfl, by go_num, rfl, rfl⟩
    case round =>
      obtain ⟨k, hk, rfl, rfl, rfl, rfl⟩ := hrel
      by_cases hlt : k < m
      · obtain ⟨q, hq⟩ : ∃ q, dvK k = q := ⟨_, rfl⟩
        have b2 := dvK_le ⟨k + 1, by omega⟩
        simp only at b2
        have hst : dvK (k + 1) = dvK k * phK (k + 1) (k + 1) := rfl
        rw [hq] at hst ⊢
        rw [hst] at b2
        have HST := Lib.hid hst
        have hkd : decide ((k : Int) + 1 ≤ (m : Int)) = true := by simp; omega
        clear hq hst
        go_wp2
        go_loopg [6, 7] (k + 1) (fun g c i wi => ∃ t : Nat, t ≤ k + 1 ∧ g = k + 1 - t ∧ i = .int .i64 ((t : Int) + 1) ∧ c = .int .i64 (phK (k + 1) t : Nat) ∧ w = wi)
        case atStart => exact ⟨0, Nat.zero_le _, rfl, by go_num, rfl, rfl⟩
        case round =>
          obtain ⟨t, ht, rfl, rfl, rfl, rfl⟩ := hrel
          have hp := phK_le (k + 1) t
          by_cases htl : t < k + 1
          · have E := l3Gcd_any (k + 1) (t + 1) w (by omega) (by omega)
            have hs2 : phK (k + 1) (t + 1) = phK (k + 1) t + oneIf (Nat.gcd (k + 1) (t + 1)) := rfl
            rw [show ((k + 1 : Nat) : Int) = (k : Int) + 1 by omega, show ((t + 1 : Nat) : Int) = (t : Int) + 1 by omega] at E
            obtain ⟨d, hd⟩ : ∃ d, Nat.gcd (k + 1) (t + 1) = d := ⟨_, rfl⟩
            rw [hd] at E hs2
            replace E := Lib.hid E
            by_cases h1 : d = 1
            · subst h1
              rw [oneIf_one] at hs2
              have HS2 := Lib.hid hs2
              clear hd hs2
              go_wp2_with fail
              refine (E.out).mono ?_
              rintro e w2 ⟨rfl, rfl⟩
              go_wp2
              go_roundg (k + 1 - (t + 1))
              case measure => omega
              case rel => exact ⟨t + 1, by omega, rfl, by go_num, by rw [HS2.out]; go_num, rfl⟩
            · rw [oneIf_no h1] at hs2
              have HS2 := Lib.hid hs2
              have hne : ((d : Int) == 1) = false := by simp; omega
              clear hd hs2
              go_wp2_with fail
              refine (E.out).mono ?_
              rintro e w2 ⟨rfl, rfl⟩
              go_wp2
              go_roundg (k + 1 - (t + 1))
              case measure => omega
              case rel => exact ⟨t + 1, by omega, rfl, by go_num, by rw [HS2.out]; rfl, rfl⟩
          · have htk : t = k + 1 := by omega
            subst htk
            obtain ⟨p, hpp⟩ : ∃ p, phK (k + 1) (k + 1) = p := ⟨_, rfl⟩
            rw [hpp] at hp b2 ⊢
            have hmul : wrap64 ((q : Int) * (p : Int)) = ((q * p : Nat) : Int) := by
              rw [show (q : Int) * (p : Int) = ((q * p : Nat) : Int) by rw [Int.natCast_mul]]
              unfold wrap64; omega
            have HM := Lib.hid (show wrap64 ((q : Int) * (p : Int)) = ((dvK (k + 1) : Nat) : Int) by rw [HST.out, hpp]; exact hmul)
            have HM2 := Lib.hid (show (q : Int) * (p : Int) = ((dvK (k + 1) : Nat) : Int) by rw [HST.out, hpp, Int.natCast_mul])
            clear hpp hmul
            go_wp2
            go_roundg (m - (k + 1))
            case measure => omega
            case rel => exact ⟨k + 1, by omega, rfl, by go_num, by first | rw [HM.out] | rw [HM2.out], rfl⟩
      · have : k = m := by omega
        subst this
        go_wp2
        go_ret2
        exact ⟨rfl, rfl⟩

end Go.Proofs.Ytkahgpgnfodpgaa
