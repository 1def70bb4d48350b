/- Chapter 8, the functions that tell a value. -/
import Derived.Test.YtkahgpgnfodpgaaKnownP
import Derived.Test.YtkahgpgnfodpgaaPowV
namespace Go.Proofs.Ytkahgpgnfodpgaa
open Go.RowKit Go.Deep

theorem pow_bd60 {y : Int} (h : -60 ≤ y ∧ y ≤ 60) : ∀ t : Nat, -((60 : Int) ^ t) ≤ y ^ t ∧ y ^ t ≤ (60 : Int) ^ t
  | 0 => by simp
  | t + 1 => by
    obtain ⟨i1, i2⟩ := pow_bd60 h t
    rw [Int.pow_succ, Int.pow_succ]
    generalize (60 : Int) ^ t = A at *
    generalize y ^ t = b at *
    have h1 : (A + b) * (60 - y) ≥ 0 := Int.mul_nonneg (by omega) (by omega)
    have h2 : (A + b) * (60 + y) ≥ 0 := Int.mul_nonneg (by omega) (by omega)
    have h3 : (A - b) * (60 + y) ≥ 0 := Int.mul_nonneg (by omega) (by omega)
    have h4 : (A - b) * (60 - y) ≥ 0 := Int.mul_nonneg (by omega) (by omega)
    simp only [Int.add_mul, Int.sub_mul, Int.mul_add, Int.mul_sub] at h1 h2 h3 h4
    omega
theorem pow60 : ∀ t : Fin 6, (60 : Int) ^ t.val ≤ 777600000 := by decide +kernel
theorem pow_bd65 {y : Int} (h : -60 ≤ y ∧ y ≤ 60) {t : Nat} (ht : t ≤ 5) : -777600000 ≤ y ^ t ∧ y ^ t ≤ 777600000 := by
  have h1 := pow_bd60 h t
  have h2 := pow60 ⟨t, by omega⟩
  simp only at h2
  omega

set_option maxHeartbeats 1000000 in
theorem power_any (x : Int) (n : Nat) (w : World) (hx : -60 ≤ x ∧ x ≤ 60) (hn : n ≤ 5) :
    Calls Try.prog 65 #[.int .i64 x, .int .i64 n] w fun e w' => e = .returned (.int .i64 (x ^ n)) ∧ w = w' := by
  go_enter Try.func65, Try.ntmps65
  go_wp2
  go_loopg [5, 7] n (fun g p i wr => ∃ k : Nat, k ≤ n ∧ g = n - k ∧ i = .int .i64 k ∧ p = .int .i64 (x ^ k) ∧ w = wr)
  case atStart => exact ⟨0, Nat.zero_le _, rfl, rfl, by rw [Int.pow_zero], rfl⟩
  case round =>
    obtain ⟨k, hk, rfl, rfl, rfl, rfl⟩ := hrel
    by_cases hlt : k < n
    · have h2 := pow_bd65 hx (t := k + 1) (by omega)
      have h3 := Int.pow_succ x k
      obtain ⟨p, hp⟩ : ∃ p, x ^ k = p := ⟨_, rfl⟩
      obtain ⟨q, hq⟩ : ∃ q, x ^ (k + 1) = q := ⟨_, rfl⟩
      rw [hq, hp] at h3
      rw [hq] at h2
      rw [hp]
      have hw : wrap64 (p * x) = q := by rw [← h3]; unfold wrap64; omega
      have hw2 : IntKind.i64.wrap (p * x) = q := by rw [← h3]; exact IntWalk.i64_in _ ⟨by omega, by omega⟩
      have HQ := Lib.hid hq
      clear h3 hp hq
      go_wp2
      go_roundg (n - (k + 1))
      case measure => omega
      case rel => exact ⟨k + 1, by omega, rfl, by go_num, by first | rw [HQ.out] | rw [HQ.out, hw], rfl⟩
    · have : k = n := by omega
      subst this
      go_wp2
      go_ret
      exact ⟨rfl, rfl⟩

/-- The sum of the first k numbers. -/
def smK (x : List Int) : Nat → Int
  | 0 => 0
  | k + 1 => smK x k + x.getD k 0
theorem smK_bd {x : List Int} {m : Nat} (hx : RngK x (-30) 30 m) : ∀ k, k ≤ m → -(30 * (k : Int)) ≤ smK x k ∧ smK x k ≤ 30 * (k : Int)
  | 0, _ => by simp [smK]
  | k + 1, h => by
    have i := smK_bd hx k (by omega)
    have c := hx k (by omega)
    simp only [inB, decide_eq_true_eq] at c
    simp only [smK]
    omega

set_option maxHeartbeats 1000000 in
theorem sumOf_any (a : Option Addr) (cap m : Nat) (x : List Int) (w : World) (hn : x.length = m) (h6 : m ≤ 1048576) (hx : RngK x (-30) 30 m) (hm : RowR w a x) :
    Calls Try.prog 99 #[.slice a m cap] w fun e w' => e = .returned (.int .i64 (smK x m)) ∧ w = w' := by
  have H := Lib.hid hn; clear hn
  have HX := Lib.hid hx; clear hx
  go_enter Try.func99, Try.ntmps99
  go_wp2
  go_loopg [3, 5, 8] m (fun g s _ i wr => ∃ k : Nat, k ≤ m ∧ g = m - k ∧ i = .int .i64 k ∧ s = .int .i64 (smK x k) ∧ w = wr)
  case atStart => exact ⟨0, Nat.zero_le _, rfl, rfl, rfl, rfl⟩
  case round =>
    obtain ⟨k, hk, rfl, rfl, rfl, rfl⟩ := hrel
    by_cases hlt : k < m
    · obtain ⟨b, o, rfl, hc⟩ := hm (by rw [H.out]; omega)
      have cj := hc k (by rw [H.out]; exact hlt)
      have b1 := smK_bd HX.out k (by omega)
      have b2 := smK_bd HX.out (k + 1) (by omega)
      have hs : smK x (k + 1) = smK x k + x.getD k 0 := rfl
      obtain ⟨y, hy⟩ : ∃ y, x.getD k 0 = y := ⟨_, rfl⟩
      obtain ⟨p, hp⟩ : ∃ p, smK x k = p := ⟨_, rfl⟩
      rw [hs] at b2
      rw [hy] at cj hs b2
      rw [hp] at b1 b2 hs ⊢
      have HS := Lib.hid hs
      clear hc hm hs hy hp
      go_wp2
      go_roundg (m - (k + 1))
      case measure => omega
      case rel => exact ⟨k + 1, by omega, rfl, by go_num, by rw [HS.out], rfl⟩
    · have : k = m := by omega
      subst this
      go_wp2
      go_ret
      exact ⟨rfl, rfl⟩

set_option maxHeartbeats 1000000 in
theorem specTurnsSum_loop (a : Option Addr) (cap m : Nat) (x : List Int) (w : World) (hn : x.length = m) (h63 : m ≤ 9223372036854775807) (hm : RowR w a x) :
    Calls Try.prog 51 #[.slice a m cap] w fun e w' => e = .returned (.tuple #[.int .i64 (if l8B x 30 = true then smK x m else 0), .bool (l8B x 30)]) ∧ w = w' := by
  have E := l8List_any a cap m x 30 w ⟨by omega, by omega⟩ hn h63 hm
  have H := Lib.hid hn
  cases hok : l8B x 30 with
  | false =>
    rw [hok] at E
    replace E := Lib.hid E
    clear hok hm hn
    go_enter Try.func51, Try.ntmps51
    go_wp2_with fail
    refine (E.out).mono ?_
    rintro e w' ⟨rfl, rfl⟩
    go_wp2
    go_ret2
    exact ⟨rfl, rfl⟩
  | true =>
    rw [hok] at E
    replace E := Lib.hid E
    obtain ⟨hx, h1, h6⟩ := l8B_of hok
    rw [hn] at hx h1 h6
    have HX := Lib.hid (show RngK x (-30) 30 m from hx)
    clear hok hn hx
    go_enter Try.func51, Try.ntmps51
    go_wp2_with fail
    refine (E.out).mono ?_
    rintro e w' ⟨rfl, rfl⟩
    go_wp2
    go_loopg [4, 5] m (fun g s i wr => ∃ k : Nat, k ≤ m ∧ g = m - k ∧ i = .int .i64 k ∧ s = .int .i64 (smK x k) ∧ w = wr)
    case atStart => exact ⟨0, Nat.zero_le _, rfl, rfl, rfl, rfl⟩
    case round =>
      obtain ⟨k, hk, rfl, rfl, rfl, rfl⟩ := hrel
      by_cases hlt : k < m
      · obtain ⟨b, o, rfl, hc⟩ := hm (by rw [H.out]; omega)
        have cj := hc k (by rw [H.out]; exact hlt)
        have b1 := smK_bd HX.out k (by omega)
        have b2 := smK_bd HX.out (k + 1) (by omega)
        have hs : smK x (k + 1) = smK x k + x.getD k 0 := rfl
        obtain ⟨y, hy⟩ : ∃ y, x.getD k 0 = y := ⟨_, rfl⟩
        obtain ⟨p, hp⟩ : ∃ p, smK x k = p := ⟨_, rfl⟩
        rw [hs] at b2
        rw [hy] at cj hs b2
        rw [hp] at b1 b2 hs ⊢
        have HS := Lib.hid hs
        clear hc hm hs hy hp
        go_wp2
        go_roundg (m - (k + 1))
        case measure => omega
        case rel => exact ⟨k + 1, by omega, rfl, by go_num, by rw [HS.out], rfl⟩
      · have : k = m := by omega
        subst this
        go_wp2
        go_ret2
        exact ⟨rfl, rfl⟩

theorem l8B_split (x : List Int) (most : Int) : l8B x most = (rngB x (-most) most && inB x.length 1 6) := rfl

set_option maxHeartbeats 1000000 in
theorem implKnownTurnsSum_any (a : Option Addr) (cap m : Nat) (x : List Int) (w : World) (hn : x.length = m) (h6 : m ≤ 1048576) (hm : RowR w a x) :
    Calls Try.prog 49 #[.slice a m cap] w fun e w' => e = .returned (.tuple #[.int .i64 (if l8B x 30 = true then smK x m else 0), .bool (l8B x 30)]) ∧ w = w' := by
  have E1 := isSide_any m w
  have E2 := entriesIn_any a cap m x w hn h6 hm
  rw [← numsIn_rng] at E2
  have hsp := l8B_split x 30
  rw [hn] at hsp
  cases h1 : inB (m : Int) 1 6 with
  | false =>
    rw [h1, Bool.and_false] at hsp
    rw [hsp]
    rw [h1] at E1
    replace E1 := Lib.hid E1
    clear E2 hm hn h1 hsp
    go_enter Try.func49, Try.ntmps49
    go_wp2_with fail
    refine (E1.out).mono ?_
    rintro e w' ⟨rfl, rfl⟩
    go_wp2
    go_ret2
    exact ⟨rfl, rfl⟩
  | true =>
    rw [h1] at E1
    replace E1 := Lib.hid E1
    cases h2 : rngB x (-30) 30 with
    | false =>
      rw [h1, h2] at hsp
      rw [hsp]
      rw [h2] at E2
      replace E2 := Lib.hid E2
      clear hm hn h1 h2 hsp
      go_enter Try.func49, Try.ntmps49
      go_wp2_with fail
      refine (E1.out).mono ?_
      rintro e w' ⟨rfl, rfl⟩
      go_wp2_with fail
      refine (E2.out).mono ?_
      rintro e w' ⟨rfl, rfl⟩
      go_wp2
      go_ret2
      exact ⟨rfl, rfl⟩
    | true =>
      rw [h1, h2] at hsp
      rw [hsp]
      rw [h2] at E2
      replace E2 := Lib.hid E2
      have hx := rngB_of h2
      rw [hn] at hx
      have E3 := Lib.hid (sumOf_any a cap m x w hn h6 hx hm)
      clear hm hn h1 h2 hsp hx
      go_enter Try.func49, Try.ntmps49
      go_wp2_with fail
      refine (E1.out).mono ?_
      rintro e w' ⟨rfl, rfl⟩
      go_wp2_with fail
      refine (E2.out).mono ?_
      rintro e w' ⟨rfl, rfl⟩
      go_wp2_with fail
      refine (E3.out).mono ?_
      rintro e w' ⟨rfl, rfl⟩
      go_wp2
      go_ret2
      exact ⟨rfl, rfl⟩

end Go.Proofs.Ytkahgpgnfodpgaa
