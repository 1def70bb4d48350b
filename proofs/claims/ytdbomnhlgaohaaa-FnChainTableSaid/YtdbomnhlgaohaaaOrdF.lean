/- The value of a square as spec.l2Orders adds it up: the pure side. -/
import Derived.Test.YtdbomnhlgaohaaaSumN
import Derived.Test.YtdbomnhlgaohaaaIter
import Derived.Test.YtdbomnhlgaohaaaTurnImpl
namespace Go.Proofs.Ytdbomnhlgaohaaa
open Go.RowKit Go.Deep

/-- How many numbers a set below 64 holds. -/
def popcS (s : Nat) : Nat := (sel s 6 6).length
theorem popcS_step : ∀ s : Fin 64, popcS s.val = s.val % 2 + popcS (s.val / 2) := by decide +kernel
/-- With a minus at odd p. -/
def sg (p : Nat) (x : Int) : Int := if p % 2 = 1 then -x else x
/-- One term of the sum over the columns that are not used. -/
def ordT (l : List (List Int)) (i used : Nat) (f : Nat → Int) (k : Nat) : Int := if used.testBit k then 0 else sg (popcS (used / 2 ^ k)) (at2 l i k * f (used ||| 2 ^ k))
theorem ordT_yes {l : List (List Int)} {i used k : Nat} (f : Nat → Int) (h : used.testBit k = true) : ordT l i used f k = 0 := by unfold ordT; rw [if_pos h]
theorem ordT_no {l : List (List Int)} {i used k : Nat} (f : Nat → Int) (h : used.testBit k = false) : ordT l i used f k = sg (popcS (used / 2 ^ k)) (at2 l i k * f (used ||| 2 ^ k)) := by unfold ordT; rw [if_neg (by rw [h]; simp)]
/-- What l2Orders returns with d rows to go. -/
def ordF (l : List (List Int)) (n : Nat) : Nat → Nat → Int
  | 0, _ => 1
  | d + 1, used => sumN (ordT l (n - (d + 1)) used (ordF l n d)) n
theorem ordF_zero (l : List (List Int)) (n used : Nat) : ordF l n 0 used = 1 := rfl
theorem ordF_succ (l : List (List Int)) (n d used : Nat) : ordF l n (d + 1) used = sumN (ordT l (n - (d + 1)) used (ordF l n d)) n := rfl

theorem sg_bd {p : Nat} {x B : Int} (h : -B ≤ x ∧ x ≤ B) : -B ≤ sg p x ∧ sg p x ≤ B := by
  unfold sg
  split <;> omega
theorem mul_bdB {a b B : Int} (h1 : -30 ≤ a) (h2 : a ≤ 30) (h3 : -B ≤ b) (h4 : b ≤ B) : -(30 * B) ≤ a * b ∧ a * b ≤ 30 * B := by
  have hB : 0 ≤ B := by omega
  have e1 : (30 - a) * (B - b) ≥ 0 := Int.mul_nonneg (by omega) (by omega)
  have e2 : (30 + a) * (B + b) ≥ 0 := Int.mul_nonneg (by omega) (by omega)
  have e3 : (30 - a) * (B + b) ≥ 0 := Int.mul_nonneg (by omega) (by omega)
  have e4 : (30 + a) * (B - b) ≥ 0 := Int.mul_nonneg (by omega) (by omega)
  simp only [Int.sub_mul, Int.add_mul, Int.mul_sub, Int.mul_add] at e1 e2 e3 e4
  omega
theorem sumN_bdB {f : Nat → Int} {B : Int} : ∀ n : Nat, (∀ j, j < n → -B ≤ f j ∧ f j ≤ B) → -(n * B) ≤ sumN f n ∧ sumN f n ≤ n * B
  | 0, _ => by simp [sumN]
  | n + 1, h => by
    have h1 := sumN_bdB n (fun j hj => h j (by omega))
    have h2 := h n (by omega)
    unfold sumN
    rw [show ((n + 1 : Nat) : Int) * B = n * B + B by rw [Int.natCast_add, Int.add_mul]; simp]
    omega

/-- 180 to the power of d. -/
def p180 : Nat → Int
  | 0 => 1
  | d + 1 => 180 * p180 d
theorem p180_pos : ∀ d, 1 ≤ p180 d
  | 0 => by simp [p180]
  | d + 1 => by have := p180_pos d; unfold p180; omega
theorem p180_le : ∀ d, d ≤ 6 → p180 d ≤ 34012224000000 := by
  intro d hd
  have h : d = 0 ∨ d = 1 ∨ d = 2 ∨ d = 3 ∨ d = 4 ∨ d = 5 ∨ d = 6 := by omega
  rcases h with rfl | rfl | rfl | rfl | rfl | rfl | rfl <;> decide

theorem ordT_bd {l : List (List Int)} {n i used k : Nat} {f : Nat → Int} {B : Int} (hT : TabIn l) (hn : l.length = n) (hm : (l.getD 0 []).length = n) (hi : i < n) (hk : k < n) (hB : 0 ≤ B) (hf : ∀ u, -B ≤ f u ∧ f u ≤ B) : -(30 * B) ≤ ordT l i used f k ∧ ordT l i used f k ≤ 30 * B := by
  unfold ordT
  split
  · omega
  · have h1 := hT.at (i := i) (k := k) (by omega) (by omega)
    have h2 := hf (used ||| 2 ^ k)
    exact sg_bd (mul_bdB h1.1 h1.2 h2.1 h2.2)
theorem sumT_bd {l : List (List Int)} {n i used k : Nat} {f : Nat → Int} {B : Int} (hT : TabIn l) (hn : l.length = n) (hm : (l.getD 0 []).length = n) (hi : i < n) (hk : k ≤ n) (hB : 0 ≤ B) (hf : ∀ u, -B ≤ f u ∧ f u ≤ B) : -(180 * B) ≤ sumN (ordT l i used f) k ∧ sumN (ordT l i used f) k ≤ 180 * B := by
  have h6 := hT.2.1
  have h1 := sumN_bdB (f := ordT l i used f) (B := 30 * B) k (fun j hj => ordT_bd hT hn hm hi (by omega) hB hf)
  have h2 : (k : Int) * (30 * B) ≤ 6 * (30 * B) := Int.mul_le_mul_of_nonneg_right (by omega) (by omega)
  omega
theorem ordF_bd {l : List (List Int)} {n : Nat} (hT : TabIn l) (hn : l.length = n) (hm : (l.getD 0 []).length = n) : ∀ d, d ≤ n → ∀ u, -(p180 d) ≤ ordF l n d u ∧ ordF l n d u ≤ p180 d
  | 0, _, u => by rw [ordF_zero]; simp [p180]
  | d + 1, hd, u => by
    have ih := ordF_bd hT hn hm d (by omega)
    rw [ordF_succ]
    have := p180_pos d
    exact sumT_bd hT hn hm (by omega) (Nat.le_refl _) (by omega) ih

end Go.Proofs.Ytdbomnhlgaohaaa
