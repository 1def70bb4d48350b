/- Chapter 9, the pure side of what landed: the sum over pairs left out, from a place on. -/
import Derived.Test.YtdbomnhlgaohaaaChainP
namespace Go.Proofs.Ytdbomnhlgaohaaa

/-- The product of the first n numbers. -/
def pdF (f : Nat → Int) : Nat → Int
  | 0 => 1
  | n + 1 => pdF f n * f n
theorem pdF_congr {f g : Nat → Int} : ∀ n, (∀ i, i < n → f i = g i) → pdF f n = pdF g n
  | 0, _ => rfl
  | n + 1, h => by
    show pdF f n * f n = pdF g n * g n
    rw [pdF_congr n fun i hi => h i (by omega), h n (by omega)]
/-- The sum over all ways to leave out pairs from p on. -/
def rsF (f : Nat → Int) (m p : Nat) : Int := pdF f p * kf (fun i => f (i + p)) (m - p)
theorem rs_all (f : Nat → Int) (m : Nat) : rsF f m 0 = kf f m := by
  unfold rsF
  rw [show pdF f 0 = 1 from rfl, Int.one_mul]
  rfl
theorem rs_end (f : Nat → Int) (m : Nat) : rsF f m m = pdF f m := by
  unfold rsF
  rw [Nat.sub_self, show kf (fun i => f (i + m)) 0 = 1 from rfl, Int.mul_one]
theorem rs_last (f : Nat → Int) (m : Nat) : rsF f (m + 1) m = pdF f (m + 1) := by
  unfold rsF
  rw [Nat.add_sub_cancel_left, show kf (fun i => f (i + m)) 1 = f (0 + m) from rfl, Nat.zero_add]
  rfl
/-- Without the pair at i. -/
def wpF (f : Nat → Int) (i j : Nat) : Int := if j < i then f j else f (j + 2)
theorem rs_step (f : Nat → Int) (k p : Nat) : rsF f (p + k + 2) p = rsF f (p + k + 2) (p + 1) + rsF (wpF f p) (p + k) p := by
  unfold rsF
  rw [show p + k + 2 - p = k + 2 by omega, show p + k + 2 - (p + 1) = k + 1 by omega, show p + k - p = k by omega, kf_first]
  have h1 : kf (fun i => (fun i => f (i + p)) (i + 1)) (k + 1) = kf (fun i => f (i + (p + 1))) (k + 1) := kf_congr _ fun i _ => congrArg f (by omega)
  have h2 : kf (fun i => (fun i => f (i + p)) (i + 2)) k = kf (fun i => wpF f p (i + p)) k := kf_congr _ fun i _ => by
    unfold wpF
    rw [if_neg (by omega)]
    exact congrArg f (by omega)
  have h3 : pdF (wpF f p) p = pdF f p := pdF_congr _ fun i hi => by unfold wpF; rw [if_pos hi]
  rw [h1, h2, h3, show pdF f (p + 1) = pdF f p * f p from rfl, show (0 : Nat) + p = p by omega]
  grind
theorem wpF_lt {f : Nat → Int} (h : ∀ j, -9 ≤ f j ∧ f j ≤ 9) (i j : Nat) : -9 ≤ wpF f i j ∧ wpF f i j ≤ 9 := by
  unfold wpF
  split
  · exact h j
  · exact h (j + 2)
theorem pd_bd {f : Nat → Int} (h : ∀ j, -9 ≤ f j ∧ f j ≤ 9) : ∀ n, -(p10 n) ≤ pdF f n ∧ pdF f n ≤ p10 n
  | 0 => by show (-1 : Int) ≤ 1 ∧ (1 : Int) ≤ 1; decide
  | n + 1 => by
    have h1 := pd_bd h n
    have h3 := mul9 (h n) h1
    have hp := p10_pos n
    have e1 : p10 (n + 1) = 10 * p10 n := rfl
    have e : pdF f (n + 1) = f n * pdF f n := Int.mul_comm _ _
    rw [e]
    omega
theorem pd_lt {f : Nat → Int} (h : ∀ j, -9 ≤ f j ∧ f j ≤ 9) {n : Nat} (hn : n ≤ 7) : -10000000 ≤ pdF f n ∧ pdF f n ≤ 10000000 := by
  have h1 := pd_bd h n
  have h2 := p10_le n hn
  omega
theorem mulC {a b c : Int} (ha : -c ≤ a ∧ a ≤ c) (hb : -c ≤ b ∧ b ≤ c) : -(c * c) ≤ a * b ∧ a * b ≤ c * c := by
  have h1 : 0 ≤ (c - a) * (c - b) := Int.mul_nonneg (by omega) (by omega)
  have h2 : 0 ≤ (c + a) * (c + b) := Int.mul_nonneg (by omega) (by omega)
  have h3 : 0 ≤ (c - a) * (c + b) := Int.mul_nonneg (by omega) (by omega)
  have h4 : 0 ≤ (c + a) * (c - b) := Int.mul_nonneg (by omega) (by omega)
  constructor <;> grind
theorem rs_lt {f : Nat → Int} (h : ∀ j, -9 ≤ f j ∧ f j ≤ 9) {m p : Nat} (hm : m ≤ 7) (hp : p ≤ m) : -100000000000000 ≤ rsF f m p ∧ rsF f m p ≤ 100000000000000 := by
  have h1 := pd_lt h (n := p) (by omega)
  have h2 := kf_lt (f := fun i => f (i + p)) (fun j => h (j + p)) (n := m - p) (by omega)
  have h3 := mulC h1 h2
  unfold rsF
  omega
/-- The value without the last two numbers, 0 if there are not as many. -/
def kQ (f : Nat → Int) : Nat → Int
  | 0 => 0
  | 1 => 0
  | n + 2 => kf f n
theorem kf_kQ (f : Nat → Int) : ∀ n, kf f (n + 1) = f n * kf f n + kQ f (n + 1)
  | 0 => by simp [kf, kQ]
  | _ + 1 => rfl
end Go.Proofs.Ytdbomnhlgaohaaa
