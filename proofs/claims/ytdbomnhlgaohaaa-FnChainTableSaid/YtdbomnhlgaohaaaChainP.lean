/- Chapter 9, the pure side: values of chains, forwards, backwards, by pairs left out, by parts, and as values of squares. -/
import Derived.Test.YtdbomnhlgaohaaaDetMul
namespace Go.Proofs.Ytdbomnhlgaohaaa

/-- The value of the first n numbers of a chain. -/
def kf (f : Nat → Int) : Nat → Int
  | 0 => 1
  | 1 => f 0
  | n + 2 => f (n + 1) * kf f (n + 1) + kf f n
/-- The value without the last number, 0 for none. -/
def kP (f : Nat → Int) : Nat → Int
  | 0 => 0
  | n + 1 => kf f n
theorem kf_step (f : Nat → Int) : ∀ n, kf f (n + 1) = f n * kf f n + kP f n
  | 0 => by simp [kf, kP]
  | _ + 1 => rfl
theorem kP_succ (f : Nat → Int) (n : Nat) : kP f (n + 1) = kf f n := rfl
theorem kf_congr {f g : Nat → Int} : ∀ n, (∀ i, i < n → f i = g i) → kf f n = kf g n
  | 0, _ => rfl
  | 1, h => h 0 (by omega)
  | n + 2, h => by
    show f (n + 1) * kf f (n + 1) + kf f n = g (n + 1) * kf g (n + 1) + kf g n
    rw [h (n + 1) (by omega), kf_congr (n + 1) fun i hi => h i (by omega), kf_congr n fun i hi => h i (by omega)]
/-- By the first number. -/
theorem kf_first (f : Nat → Int) : ∀ n, kf f (n + 2) = f 0 * kf (fun i => f (i + 1)) (n + 1) + kf (fun i => f (i + 2)) n
  | 0 => by simp only [kf]; grind
  | 1 => by simp only [kf]; grind
  | n + 2 => by
    show f (n + 3) * kf f (n + 3) + kf f (n + 2) = f 0 * (f (n + 3) * kf (fun i => f (i + 1)) (n + 2) + kf (fun i => f (i + 1)) (n + 1)) + (f (n + 3) * kf (fun i => f (i + 2)) (n + 1) + kf (fun i => f (i + 2)) n)
    rw [kf_first f (n + 1), kf_first f n]
    grind
/-- The same backwards. -/
theorem kf_back : ∀ (n : Nat) (f : Nat → Int), kf (fun i => f (n - 1 - i)) n = kf f n
  | 0, _ => rfl
  | 1, _ => rfl
  | n + 2, f => by
    rw [kf_first, show kf f (n + 2) = f (n + 1) * kf f (n + 1) + kf f n from rfl, ← kf_back (n + 1) f, ← kf_back n f]
    have h1 : (fun i => (fun i => f (n + 2 - 1 - i)) (i + 1)) = fun i => f (n + 1 - 1 - i) := by
      funext i
      exact congrArg f (by omega)
    have h2 : (fun i => (fun i => f (n + 2 - 1 - i)) (i + 2)) = fun i => f (n - 1 - i) := by
      funext i
      exact congrArg f (by omega)
    rw [h1, h2]
    rfl
/-- Parts differ by 1 crosswise. -/
theorem kf_cross (f : Nat → Int) : ∀ n, kf f (n + 2) * kf (fun i => f (i + 1)) n - kf f (n + 1) * kf (fun i => f (i + 1)) (n + 1) = if n % 2 = 0 then 1 else -1
  | 0 => by simp only [kf]; grind
  | n + 1 => by
    have h := kf_cross f n
    have e : kf f (n + 1 + 2) = f (n + 2) * kf f (n + 2) + kf f (n + 1) := rfl
    have e2 : kf (fun i => f (i + 1)) (n + 1 + 1) = f (n + 2) * kf (fun i => f (i + 1)) (n + 1) + kf (fun i => f (i + 1)) n := rfl
    rw [e, e2]
    by_cases hn : n % 2 = 0
    · rw [if_pos hn] at h
      rw [if_neg (by omega)]
      grind
    · rw [if_neg hn] at h
      rw [if_pos (by omega)]
      grind

/-- The square of a chain. -/
def chF (f : Nat → Int) (i j : Nat) : Int := if i = j then f i else if j = i + 1 then 1 else if i = j + 1 then -1 else 0
theorem dt_ch : ∀ (n : Nat) (f : Nat → Int), dt n (chF f) = kf f n
  | 0, _ => rfl
  | 1, f => by rw [dt_one]; rfl
  | n + 2, f => by
    rw [dt_succ, kf_first]
    have h0 : ∀ j, j < n + 2 → sn j * (chF f 0 j * dt (n + 1) (dr j (chF f))) = if j = 0 then f 0 * dt (n + 1) (chF fun i => f (i + 1)) else if j = 1 then dt n (chF fun i => f (i + 2)) else 0 := fun j hj => by
      by_cases e0 : j = 0
      · subst e0
        rw [if_pos rfl, sn_zero, Int.one_mul]
        rw [show chF f 0 0 = f 0 by simp [chF]]
        refine congrArg _ (dt_congr _ fun i k _ _ => ?_)
        simp only [dr, skip, chF]
        grind
      · rw [if_neg e0]
        by_cases e1 : j = 1
        · subst e1
          rw [if_pos rfl, dt_corner _ fun i hi => by simp only [dr, skip, chF]; grind]
          have hc : dr 1 (chF f) 0 0 = -1 := by simp [dr, skip, chF]
          have hd : dt n (fun i k => dr 1 (chF f) (i + 1) (k + 1)) = dt n (chF fun i => f (i + 2)) := dt_congr _ fun i k _ _ => by
            simp only [dr, skip, chF]
            grind
          rw [hc, hd]
          have : chF f 0 1 = 1 := by simp [chF]
          rw [this, show sn 1 = -1 from rfl]
          omega
        · rw [if_neg e1]
          have : chF f 0 j = 0 := by simp only [chF]; grind
          rw [this]
          simp
    rw [sumN_congr _ h0, sumN_first, sumN_first]
    rw [sumN_none n fun j hj => by rw [if_neg (by omega), if_neg (by omega)]]
    rw [dt_ch (n + 1), dt_ch n]
    simp

/-- 10 to the power of n. -/
def p10 : Nat → Int
  | 0 => 1
  | n + 1 => 10 * p10 n
theorem p10_pos : ∀ n, 1 ≤ p10 n
  | 0 => by decide
  | n + 1 => by have := p10_pos n; show 1 ≤ 10 * p10 n; omega
theorem mul9 {a b c : Int} (ha : -9 ≤ a ∧ a ≤ 9) (hb : -c ≤ b ∧ b ≤ c) : -(9 * c) ≤ a * b ∧ a * b ≤ 9 * c := by
  have h1 : 0 ≤ (9 - a) * (c - b) := Int.mul_nonneg (by omega) (by omega)
  have h2 : 0 ≤ (9 + a) * (c + b) := Int.mul_nonneg (by omega) (by omega)
  have h3 : 0 ≤ (9 - a) * (c + b) := Int.mul_nonneg (by omega) (by omega)
  have h4 : 0 ≤ (9 + a) * (c - b) := Int.mul_nonneg (by omega) (by omega)
  constructor <;> grind
theorem kf_bd {f : Nat → Int} (h : ∀ j, -9 ≤ f j ∧ f j ≤ 9) : ∀ n, -(p10 n) ≤ kf f n ∧ kf f n ≤ p10 n
  | 0 => by show (-1 : Int) ≤ 1 ∧ (1 : Int) ≤ 1; decide
  | 1 => by have := h 0; show -10 ≤ f 0 ∧ f 0 ≤ 10; omega
  | n + 2 => by
    have h1 := kf_bd h (n + 1)
    have h2 := kf_bd h n
    have h3 := mul9 (h (n + 1)) h1
    have hp := p10_pos n
    have e1 : p10 (n + 1) = 10 * p10 n := rfl
    have e2 : p10 (n + 2) = 10 * p10 (n + 1) := rfl
    have e : kf f (n + 2) = f (n + 1) * kf f (n + 1) + kf f n := rfl
    rw [e]
    omega
theorem p10_le : ∀ n, n ≤ 7 → p10 n ≤ 10000000
  | 0, _ => by decide
  | 1, _ => by decide
  | 2, _ => by decide
  | 3, _ => by decide
  | 4, _ => by decide
  | 5, _ => by decide
  | 6, _ => by decide
  | 7, _ => by decide
  | _ + 8, h => by omega
theorem kf_lt {f : Nat → Int} (h : ∀ j, -9 ≤ f j ∧ f j ≤ 9) {n : Nat} (hn : n ≤ 7) : -10000000 ≤ kf f n ∧ kf f n ≤ 10000000 := by
  have h1 := kf_bd h n
  have h2 := p10_le n hn
  omega
theorem kP_lt {f : Nat → Int} (h : ∀ j, -9 ≤ f j ∧ f j ≤ 9) {n : Nat} (hn : n ≤ 7) : -10000000 ≤ kP f n ∧ kP f n ≤ 10000000 := by
  cases n with
  | zero => show (-10000000 : Int) ≤ 0 ∧ (0 : Int) ≤ 10000000; decide
  | succ n => exact kf_lt h (by omega)
end Go.Proofs.Ytdbomnhlgaohaaa
