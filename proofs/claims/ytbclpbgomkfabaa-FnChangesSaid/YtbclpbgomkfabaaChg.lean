/- Changes of signs: spec.PosChanges and impl.PosChanges. -/
import Derived.Test.YtbclpbgomkfabaaImpl1
import Derived.Test.YtbclpbgomkfabaaOwnR
namespace Go.Proofs.Ytbclpbgomkfabaa
open Go.RowKit Go.Deep

/-- The first numbers lie from -1000 to 1000. -/
def NumK (x : List Int) (k : Nat) : Prop := ∀ j, j < k → inB (x.getD j 0) (-1000) 1000 = true
open Classical in
noncomputable def numK (x : List Int) : Bool := decide (NumK x x.length)
theorem numK_true {x : List Int} (h : NumK x x.length) : numK x = true := by simp [numK, h]
theorem numK_false {x : List Int} (h : ¬ NumK x x.length) : numK x = false := by simp [numK, h]
theorem numK_of {x : List Int} (h : numK x = true) : NumK x x.length := by simpa [numK] using h
theorem NumK.succ {x : List Int} {k : Nat} (h : NumK x k) (hk : inB (x.getD k 0) (-1000) 1000 = true) : NumK x (k + 1) := fun j hj => by
  rcases Nat.lt_succ_iff_lt_or_eq.1 hj with hlt | heq
  · exact h j hlt
  · rw [heq]; exact hk

/-- How often signs have changed, and the last number that is not 0. -/
def chgStep (p : Int × Int) (y : Int) : Int × Int := (if p.2 * y < 0 then p.1 + 1 else p.1, if y = 0 then p.2 else y)
def chgS (x : List Int) : Nat → Int × Int
  | 0 => (0, 0)
  | k + 1 => chgStep (chgS x k) (x.getD k 0)
theorem chgS_ok (x : List Int) (k : Nat) (h : NumK x k) : 0 ≤ (chgS x k).1 ∧ (chgS x k).1 ≤ k ∧ -1000 ≤ (chgS x k).2 ∧ (chgS x k).2 ≤ 1000 := by
  induction k with
  | zero => simp [chgS]
  | succ k ih =>
    have i := ih fun j hj => h j (by omega)
    have y := h k (by omega)
    simp only [inB, decide_eq_true_eq] at y
    simp only [chgS, chgStep]
    generalize (chgS x k).1 = c at *
    generalize (chgS x k).2 = p at *
    generalize x.getD k 0 = y0 at *
    refine ⟨?_, ?_, ?_, ?_⟩ <;> split <;> omega
/-- A list of at most 12 such numbers, and how often it changes. -/
noncomputable def chgOk (x : List Int) : Bool := decide (x.length ≤ 12) && numK x
noncomputable def chgV (x : List Int) : Int := if chgOk x then (chgS x x.length).1 else 0
theorem chgOk_long {x : List Int} (h : 12 < x.length) : chgOk x = false := by simp [chgOk]; omega
theorem chgOk_false {x : List Int} (h : numK x = false) : chgOk x = false := by simp [chgOk, h]
theorem chgOk_true {x : List Int} (h1 : x.length ≤ 12) (h : numK x = true) : chgOk x = true := by simp [chgOk, h1, h]
theorem mul_bound {p y : Int} (hp : -1000 ≤ p ∧ p ≤ 1000) (hy : -1000 ≤ y ∧ y ≤ 1000) : -1000000 ≤ p * y ∧ p * y ≤ 1000000 := by
  have h1 : (p + 1000) * (1000 - y) ≥ 0 := Int.mul_nonneg (by omega) (by omega)
  have h2 : (p + 1000) * (1000 + y) ≥ 0 := Int.mul_nonneg (by omega) (by omega)
  have h3 : (1000 - p) * (1000 + y) ≥ 0 := Int.mul_nonneg (by omega) (by omega)
  have h4 : (1000 - p) * (1000 - y) ≥ 0 := Int.mul_nonneg (by omega) (by omega)
  simp only [Int.add_mul, Int.sub_mul, Int.mul_add, Int.mul_sub] at h1 h2 h3 h4
  omega
theorem wrap_mul {p y : Int} (hp : -1000 ≤ p ∧ p ≤ 1000) (hy : -1000 ≤ y ∧ y ≤ 1000) : wrap64 (p * y) = p * y := by
  have h := mul_bound hp hy
  generalize p * y = z at h ⊢
  unfold wrap64
  omega

set_option maxHeartbeats 1000000 in
theorem numbersIn_any (a : Option Addr) (cap m : Nat) (x : List Int) (w : World) (hn : x.length = m) (hn1 : m ≤ 1048576) (hm : RowR w a x) :
    Calls Try.prog 78 #[.slice a m cap] w fun e w' => e = .returned (.bool (numK x)) ∧ w = w' := by
  have H := Lib.hid hn; clear hn
  go_enter Try.func78, Try.ntmps78
  go_wp2
  go_loopg [4, 7] m (fun g _ i wr => ∃ k : Nat, k ≤ m ∧ g = m - k ∧ i = .int .i64 k ∧ w = wr ∧ NumK x k)
  case atStart => exact ⟨0, Nat.zero_le _, rfl, rfl, rfl, fun r hr => absurd hr (Nat.not_lt_zero _)⟩
  case round =>
    obtain ⟨k, hk, rfl, rfl, rfl, hN⟩ := hrel
    by_cases hlt : k < m
    · obtain ⟨b, o, rfl, hc⟩ := hm (by rw [H.out]; omega)
      have cj := hc k (by rw [H.out]; exact hlt)
      obtain ⟨y, hy⟩ : ∃ y, y = x.getD k 0 := ⟨_, rfl⟩
      rw [← hy] at cj
      have HY := Lib.hid hy
      clear hc hy hm
      have E1 := inRange_any y (-1000) 1000 w
      cases hiy : inB y (-1000) 1000 with
      | true =>
        rw [hiy] at E1
        replace E1 := Lib.hid E1
        have HI := Lib.hid hiy
        clear hiy
        go_wp2_with fail
        refine (E1.out).mono ?_
        rintro e w' ⟨rfl, rfl⟩
        go_wp2
        go_roundg (m - (k + 1))
        case measure => omega
        case rel => exact ⟨k + 1, by omega, rfl, by go_num, rfl, hN.succ (by rw [← HY.out]; exact HI.out)⟩
      | false =>
        rw [hiy] at E1
        replace E1 := Lib.hid E1
        have HI := Lib.hid hiy
        clear hiy
        go_wp2_with fail
        refine (E1.out).mono ?_
        rintro e w' ⟨rfl, rfl⟩
        go_wp2
        go_ret
        refine ⟨ret_bool (numK_false fun hT => ?_).symm, rfl⟩
        have := hT k (by rw [H.out]; exact hlt)
        rw [← HY.out, HI.out] at this
        exact Bool.noConfusion this
    · go_wp2
      go_ret
      exact ⟨ret_bool (numK_true (by rw [H.out, show m = k by omega]; exact hN)).symm, rfl⟩

set_option maxRecDepth 100000 in
set_option maxHeartbeats 4000000 in
theorem implChanges_any (a : Option Addr) (cap m : Nat) (x : List Int) (w : World) (hn : x.length = m) (h12 : m ≤ 12) (hm : RowR w a x) (hN : NumK x m) :
    Calls Try.prog 79 #[.slice a m cap] w fun e w' => e = .returned (.int .i64 (chgS x m).1) ∧ w = w' := by
  have H := Lib.hid hn; clear hn
  have HN := Lib.hid hN; clear hN
  go_enter Try.func79, Try.ntmps79
  go_wp2
  go_loopg [3, 4, 6, 9] m (fun g n0 l0 _ i wr => ∃ k : Nat, k ≤ m ∧ g = m - k ∧ i = .int .i64 k ∧ n0 = .int .i64 (chgS x k).1 ∧ l0 = .int .i64 (chgS x k).2 ∧ w = wr)
  case atStart => exact ⟨0, Nat.zero_le _, rfl, rfl, rfl, rfl, rfl⟩
  case round =>
    obtain ⟨k, hk, rfl, rfl, rfl, rfl, rfl⟩ := hrel
    by_cases hlt : k < m
    · obtain ⟨b, o, rfl, hc⟩ := hm (by rw [H.out]; omega)
      have cj := hc k (by rw [H.out]; exact hlt)
      have hy := HN.out k hlt
      have hcs := chgS_ok x k (fun j hj => HN.out j (by omega))
      have HS := Lib.hid (show chgS x (k + 1) = chgStep ((chgS x k).1, (chgS x k).2) (x.getD k 0) from rfl)
      simp only [inB, decide_eq_true_eq] at hy
      obtain ⟨y, hyy⟩ : ∃ y, x.getD k 0 = y := ⟨_, rfl⟩
      obtain ⟨c, hcc⟩ : ∃ c, (chgS x k).1 = c := ⟨_, rfl⟩
      obtain ⟨p, hpp⟩ : ∃ p, (chgS x k).2 = p := ⟨_, rfl⟩
      rw [hyy] at cj hy
      rw [hcc, hpp] at hcs
      replace HS := Lib.hid (hyy ▸ hcc ▸ hpp ▸ HS.out)
      rw [hcc, hpp]
      obtain ⟨hc0, hc1, hp0, hp1⟩ := hcs
      obtain ⟨hy0, hy1⟩ := hy
      have HM := Lib.hid (wrap_mul ⟨hp0, hp1⟩ ⟨hy0, hy1⟩)
      clear hc hm hyy hcc hpp

      by_cases hl : p * y < 0
      · have hz : ¬ y = 0 := fun h => by rw [h, Int.mul_zero] at hl; omega
        have d1 : decide (wrap64 (p * y) < 0) = true := by rw [HM.out]; simpa using hl
        have d2 : (y != 0) = true := by simpa using hz
        have HL := Lib.hid hl
        have HZ := Lib.hid hz
        clear hl hz
        go_wp2
        go_roundg (m - (k + 1))
        case measure => omega
        case rel => exact ⟨k + 1, by omega, rfl, by go_num, by rw [HS.out]; simp only [chgStep]; (rw [if_pos HL.out] <;> go_num), by rw [HS.out]; simp only [chgStep]; rw [if_neg HZ.out], rfl⟩
      · have d1 : decide (wrap64 (p * y) < 0) = false := by rw [HM.out]; simpa using hl
        have HL := Lib.hid (Int.not_lt.1 hl)
        clear hl
        by_cases hz : y = 0
        · have d2 : (y != 0) = false := by simpa using hz
          have HZ := Lib.hid hz
          clear hz
          go_wp2
          go_roundg (m - (k + 1))
          case measure => omega
          case rel => exact ⟨k + 1, by omega, rfl, by go_num, by rw [HS.out]; simp only [chgStep]; rw [if_neg (Int.not_lt.2 HL.out)], by rw [HS.out]; simp only [chgStep]; rw [if_pos HZ.out], rfl⟩
        · have d2 : (y != 0) = true := by simpa using hz
          have HZ := Lib.hid hz
          clear hz
          go_wp2
          go_roundg (m - (k + 1))
          case measure => omega
          case rel => exact ⟨k + 1, by omega, rfl, by go_num, by rw [HS.out]; simp only [chgStep]; rw [if_neg (Int.not_lt.2 HL.out)], by rw [HS.out]; simp only [chgStep]; rw [if_neg HZ.out], rfl⟩
    · go_wp2
      go_ret
      exact ⟨by (obtain rfl : m = k := by omega); rfl, rfl⟩

set_option maxRecDepth 100000 in
set_option maxHeartbeats 4000000 in
theorem specChanges_any (a : Option Addr) (cap m : Nat) (x : List Int) (w : World) (hn : x.length = m) (h12 : m ≤ 12) (hm : RowR w a x) (hN : NumK x m) :
    Calls Try.prog 80 #[.slice a m cap] w fun e w' => e = .returned (.int .i64 (chgS x m).1) ∧ w = w' := by
  have H := Lib.hid hn; clear hn
  have HN := Lib.hid hN; clear hN
  go_enter Try.func80, Try.ntmps80
  go_wp2
  go_loopg [3, 4, 5] m (fun g n0 l0 i wr => ∃ k : Nat, k ≤ m ∧ g = m - k ∧ i = .int .i64 k ∧ n0 = .int .i64 (chgS x k).1 ∧ l0 = .int .i64 (chgS x k).2 ∧ w = wr)
  case atStart => exact ⟨0, Nat.zero_le _, rfl, rfl, rfl, rfl, rfl⟩
  case round =>
    obtain ⟨k, hk, rfl, rfl, rfl, rfl, rfl⟩ := hrel
    by_cases hlt : k < m
    · obtain ⟨b, o, rfl, hc⟩ := hm (by rw [H.out]; omega)
      have cj := hc k (by rw [H.out]; exact hlt)
      have hy := HN.out k hlt
      have hcs := chgS_ok x k (fun j hj => HN.out j (by omega))
      have HS := Lib.hid (show chgS x (k + 1) = chgStep ((chgS x k).1, (chgS x k).2) (x.getD k 0) from rfl)
      simp only [inB, decide_eq_true_eq] at hy
      obtain ⟨y, hyy⟩ : ∃ y, x.getD k 0 = y := ⟨_, rfl⟩
      obtain ⟨c, hcc⟩ : ∃ c, (chgS x k).1 = c := ⟨_, rfl⟩
      obtain ⟨p, hpp⟩ : ∃ p, (chgS x k).2 = p := ⟨_, rfl⟩
      rw [hyy] at cj hy
      rw [hcc, hpp] at hcs
      replace HS := Lib.hid (hyy ▸ hcc ▸ hpp ▸ HS.out)
      rw [hcc, hpp]
      obtain ⟨hc0, hc1, hp0, hp1⟩ := hcs
      obtain ⟨hy0, hy1⟩ := hy
      have HM := Lib.hid (wrap_mul ⟨hp0, hp1⟩ ⟨hy0, hy1⟩)
      clear hc hm hyy hcc hpp

      rcases Int.lt_trichotomy y 0 with hz | hz | hz
      · rcases Int.lt_trichotomy p 0 with hp | hp | hp
        · have d2 : (y == 0) = false := by simp; omega
          have d3 : decide (0 < p) = false := by simp; omega
          have d4 : decide (p < 0) = true := by simp; omega
          have d5 : decide (0 < y) = false := by simp; omega
          have d6 : decide (y < 0) = true := by simp; omega
          have HL := Lib.hid (show 0 ≤ p * y from Int.mul_nonneg_of_nonpos_of_nonpos (by omega) (by omega))
          have HZ := Lib.hid (show ¬ y = 0 by omega)
          clear hz hp
          go_wp2
          go_roundg (m - (k + 1))
          case measure => omega
          case rel => exact ⟨k + 1, by omega, rfl, by go_num, by rw [HS.out]; simp only [chgStep]; rw [if_neg (Int.not_lt.2 HL.out)], by rw [HS.out]; simp only [chgStep]; rw [if_neg HZ.out], rfl⟩
        · have d2 : (y == 0) = false := by simp; omega
          have d3 : decide (0 < p) = false := by simp; omega
          have d4 : decide (p < 0) = false := by simp; omega
          have d5 : decide (0 < y) = false := by simp; omega
          have d6 : decide (y < 0) = true := by simp; omega
          have HL := Lib.hid (show 0 ≤ p * y by rw [hp, Int.zero_mul]; omega)
          have HZ := Lib.hid (show ¬ y = 0 by omega)
          clear hz hp
          go_wp2
          go_roundg (m - (k + 1))
          case measure => omega
          case rel => exact ⟨k + 1, by omega, rfl, by go_num, by rw [HS.out]; simp only [chgStep]; rw [if_neg (Int.not_lt.2 HL.out)], by rw [HS.out]; simp only [chgStep]; rw [if_neg HZ.out], rfl⟩
        · have d2 : (y == 0) = false := by simp; omega
          have d3 : decide (0 < p) = true := by simp; omega
          have d4 : decide (p < 0) = false := by simp; omega
          have d5 : decide (0 < y) = false := by simp; omega
          have d6 : decide (y < 0) = true := by simp; omega
          have HL := Lib.hid (show p * y < 0 from Int.mul_neg_of_pos_of_neg hp hz)
          have HZ := Lib.hid (show ¬ y = 0 by omega)
          clear hz hp
          go_wp2
          go_roundg (m - (k + 1))
          case measure => omega
          case rel => exact ⟨k + 1, by omega, rfl, by go_num, by rw [HS.out]; simp only [chgStep]; (rw [if_pos HL.out] <;> go_num), by rw [HS.out]; simp only [chgStep]; rw [if_neg HZ.out], rfl⟩
      · have d2 : (y == 0) = true := by simpa using hz
        have HL := Lib.hid (show 0 ≤ p * y by rw [hz, Int.mul_zero]; omega)
        have HZ := Lib.hid hz
        clear hz
        go_wp2
        go_roundg (m - (k + 1))
        case measure => omega
        case rel => exact ⟨k + 1, by omega, rfl, by go_num, by rw [HS.out]; simp only [chgStep]; rw [if_neg (Int.not_lt.2 HL.out)], by rw [HS.out]; simp only [chgStep]; rw [if_pos HZ.out], rfl⟩
      · rcases Int.lt_trichotomy p 0 with hp | hp | hp
        · have d2 : (y == 0) = false := by simp; omega
          have d3 : decide (0 < p) = false := by simp; omega
          have d4 : decide (p < 0) = true := by simp; omega
          have d5 : decide (0 < y) = true := by simp; omega
          have d6 : decide (y < 0) = false := by simp; omega
          have HL := Lib.hid (show p * y < 0 from Int.mul_neg_of_neg_of_pos hp hz)
          have HZ := Lib.hid (show ¬ y = 0 by omega)
          clear hz hp
          go_wp2
          go_roundg (m - (k + 1))
          case measure => omega
          case rel => exact ⟨k + 1, by omega, rfl, by go_num, by rw [HS.out]; simp only [chgStep]; (rw [if_pos HL.out] <;> go_num), by rw [HS.out]; simp only [chgStep]; rw [if_neg HZ.out], rfl⟩
        · have d2 : (y == 0) = false := by simp; omega
          have d3 : decide (0 < p) = false := by simp; omega
          have d4 : decide (p < 0) = false := by simp; omega
          have d5 : decide (0 < y) = true := by simp; omega
          have d6 : decide (y < 0) = false := by simp; omega
          have HL := Lib.hid (show 0 ≤ p * y by rw [hp, Int.zero_mul]; omega)
          have HZ := Lib.hid (show ¬ y = 0 by omega)
          clear hz hp
          go_wp2
          go_roundg (m - (k + 1))
          case measure => omega
          case rel => exact ⟨k + 1, by omega, rfl, by go_num, by rw [HS.out]; simp only [chgStep]; rw [if_neg (Int.not_lt.2 HL.out)], by rw [HS.out]; simp only [chgStep]; rw [if_neg HZ.out], rfl⟩
        · have d2 : (y == 0) = false := by simp; omega
          have d3 : decide (0 < p) = true := by simp; omega
          have d4 : decide (p < 0) = false := by simp; omega
          have d5 : decide (0 < y) = true := by simp; omega
          have d6 : decide (y < 0) = false := by simp; omega
          have HL := Lib.hid (show 0 ≤ p * y from Int.mul_nonneg (by omega) (by omega))
          have HZ := Lib.hid (show ¬ y = 0 by omega)
          clear hz hp
          go_wp2
          go_roundg (m - (k + 1))
          case measure => omega
          case rel => exact ⟨k + 1, by omega, rfl, by go_num, by rw [HS.out]; simp only [chgStep]; rw [if_neg (Int.not_lt.2 HL.out)], by rw [HS.out]; simp only [chgStep]; rw [if_neg HZ.out], rfl⟩
    · go_wp2
      go_ret
      exact ⟨by (obtain rfl : m = k := by omega); rfl, rfl⟩

set_option maxRecDepth 100000 in
set_option maxHeartbeats 1000000 in
theorem implPosChanges_any (a : Option Addr) (cap m : Nat) (x : List Int) (w : World) (hn : x.length = m) (hn1 : m ≤ 1048576) (hm : RowR w a x) :
    Calls Try.prog 30 #[.slice a m cap] w fun e w' => e = .returned (.tuple #[.int .i64 (chgV x), .bool (chgOk x)]) ∧ w = w' := by
  by_cases h12 : 12 < m
  · have d1 : decide ((12 : Int) < (m : Int)) = true := by simp; omega
    have hf : chgOk x = false := chgOk_long (by rw [hn]; exact h12)
    have hv : chgV x = 0 := by unfold chgV; rw [hf]; rfl
    rw [hf, hv]
    clear hn hm hf hv
    go_enter Try.func30, Try.ntmps30
    go_wp2
    go_ret2
    exact ⟨rfl, rfl⟩
  · have d1 : decide ((12 : Int) < (m : Int)) = false := by simp; omega
    have E1 := numbersIn_any a cap m x w hn hn1 hm
    cases hk : numK x with
    | false =>
      rw [hk] at E1
      replace E1 := Lib.hid E1
      have hf : chgOk x = false := chgOk_false hk
      have hv : chgV x = 0 := by unfold chgV; rw [hf]; rfl
      rw [hf, hv]
      clear hn hm hf hv hk
      go_enter Try.func30, Try.ntmps30
      go_wp2_with fail
      refine (E1.out).mono ?_
      rintro e w' ⟨rfl, rfl⟩
      go_wp2
      go_ret2
      exact ⟨rfl, rfl⟩
    | true =>
      rw [hk] at E1
      replace E1 := Lib.hid E1
      have hf : chgOk x = true := chgOk_true (by omega) hk
      have hv : chgV x = (chgS x m).1 := by unfold chgV; rw [hf, hn]; rfl
      have E2 := Lib.hid (implChanges_any a cap m x w hn (by omega) hm (by have := numK_of hk; rwa [hn] at this))
      rw [hf, hv]
      clear hn hm hf hv hk
      go_enter Try.func30, Try.ntmps30
      go_wp2_with fail
      refine (E1.out).mono ?_
      rintro e w' ⟨rfl, rfl⟩
      go_wp2_with fail
      refine (E2.out).mono ?_
      rintro e w' ⟨rfl, rfl⟩
      go_wp2
      go_ret2
      exact ⟨rfl, rfl⟩

set_option maxRecDepth 100000 in
set_option maxHeartbeats 1000000 in
theorem specPosChanges_any (a : Option Addr) (cap m : Nat) (x : List Int) (w : World) (hn : x.length = m) (hn1 : m ≤ 1048576) (hm : RowR w a x) :
    Calls Try.prog 31 #[.slice a m cap] w fun e w' => e = .returned (.tuple #[.int .i64 (chgV x), .bool (chgOk x)]) ∧ w = w' := by
  have EC := Lib.hid (fun (h12 : m ≤ 12) (hN : NumK x m) => specChanges_any a cap m x w hn h12 hm hN)
  have H := Lib.hid hn; clear hn
  go_enter Try.func31, Try.ntmps31
  go_wp2
  go_loopg [4] m (fun g i wr => ∃ k : Nat, k ≤ m ∧ g = m - k ∧ i = .int .i64 k ∧ w = wr ∧ NumK x k)
  case atStart => exact ⟨0, Nat.zero_le _, rfl, rfl, rfl, fun r hr => absurd hr (Nat.not_lt_zero _)⟩
  case round =>
    obtain ⟨k, hk, rfl, rfl, rfl, hN⟩ := hrel
    by_cases hlt : k < m
    · obtain ⟨b, o, rfl, hc⟩ := hm (by rw [H.out]; omega)
      have cj := hc k (by rw [H.out]; exact hlt)
      obtain ⟨y, hy⟩ : ∃ y, y = x.getD k 0 := ⟨_, rfl⟩
      rw [← hy] at cj
      have HY := Lib.hid hy
      clear hc hy hm
      have E1 := l6In_any y (-1000) 1000 w
      cases hiy : inB y (-1000) 1000 with
      | true =>
        rw [hiy] at E1
        replace E1 := Lib.hid E1
        have HI := Lib.hid hiy
        clear hiy
        go_wp2_with fail
        refine (E1.out).mono ?_
        rintro e w' ⟨rfl, rfl⟩
        go_wp2
        go_roundg (m - (k + 1))
        case measure => omega
        case rel => exact ⟨k + 1, by omega, rfl, by go_num, rfl, hN.succ (by rw [← HY.out]; exact HI.out)⟩
      | false =>
        rw [hiy] at E1
        replace E1 := Lib.hid E1
        have HI := Lib.hid hiy
        clear hiy
        have hf : chgOk x = false := chgOk_false (numK_false fun hT => by
          have := hT k (by rw [H.out]; exact hlt)
          rw [← HY.out, HI.out] at this
          exact Bool.noConfusion this)
        have hv : chgV x = 0 := by unfold chgV; rw [hf]; rfl
        have HF := Lib.hid hf
        have HV := Lib.hid hv
        clear hf hv
        go_wp2_with fail
        refine (E1.out).mono ?_
        rintro e w' ⟨rfl, rfl⟩
        go_wp2
        go_ret2
        exact ⟨by rw [HF.out, HV.out]; rfl, rfl⟩
    · have hN' : NumK x m := by rw [show m = k by omega]; exact hN
      have hK : numK x = true := numK_true (by rw [H.out]; exact hN')
      by_cases h12 : 12 < m
      · have d1 : decide ((12 : Int) < (m : Int)) = true := by simp; omega
        have hf : chgOk x = false := chgOk_long (by rw [H.out]; exact h12)
        have hv : chgV x = 0 := by unfold chgV; rw [hf]; rfl
        have HF := Lib.hid hf
        have HV := Lib.hid hv
        clear hf hv hK hN' hN
        go_wp2
        go_ret2
        exact ⟨by rw [HF.out, HV.out]; rfl, rfl⟩
      · have d1 : decide ((12 : Int) < (m : Int)) = false := by simp; omega
        have hf : chgOk x = true := chgOk_true (by rw [H.out]; omega) hK
        have hv : chgV x = (chgS x m).1 := by unfold chgV; rw [hf, H.out]; rfl
        have HF := Lib.hid hf
        have HV := Lib.hid hv
        have E2 := Lib.hid (EC.out (by omega) hN')
        clear hf hv hK hN' hN EC
        go_wp2_with fail
        refine (E2.out).mono ?_
        rintro e w' ⟨rfl, rfl⟩
        go_wp2
        go_ret2
        exact ⟨by rw [HF.out, HV.out]; rfl, rfl⟩

end Go.Proofs.Ytbclpbgomkfabaa
