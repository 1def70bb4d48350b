/- Halves of squares turned about: the pure side of spec.l5Half and spec.l5Count. -/
import Derived.Test.YtpimdgijjljejaaDoorPlainF
namespace Go.Proofs.YtpimdgijjljejaaDoor
open Go.RowKit Go.Deep

/-- The least member of a set. -/
def lowB (s : Nat) : Nat := if s % 2 = 1 then 0 else if s / 2 % 2 = 1 then 1 else if s / 4 % 2 = 1 then 2 else if s / 8 % 2 = 1 then 3 else if s / 16 % 2 = 1 then 4 else 5
theorem lowB_fin : ∀ s : Fin 64, s.val ≠ 0 → s.val.testBit (lowB s.val) = true ∧ lowB s.val < 6 ∧ ∀ j : Fin 6, j.val < lowB s.val → s.val.testBit j.val = false := by decide +kernel
theorem lowB_in : ∀ n : Fin 7, ∀ s : Fin 64, s.val < 2 ^ n.val → s.val ≠ 0 → lowB s.val < n.val := by decide +kernel
/-- How many members lie between two places. -/
def btw (s i k : Nat) : Nat := popcS (s / 2 ^ (i + 1) % 2 ^ (k - i - 1))
theorem btw_fin : ∀ s : Fin 64, ∀ i k : Fin 6, i.val < k.val → btw s.val i.val (k.val + 1) = btw s.val i.val k.val + (if s.val.testBit k.val = true then 1 else 0) := by decide +kernel
theorem btw_zero : ∀ s : Fin 64, ∀ i : Fin 6, btw s.val i.val (i.val + 1) = 0 := by decide +kernel
theorem two_off : ∀ s : Fin 64, ∀ i k : Fin 6, i.val < k.val → s.val.testBit i.val = true → s.val.testBit k.val = true →
    bits BinOp.andNot IntKind.i64 (s.val : Int) (2 ^ i.val) = ((s.val - 2 ^ i.val : Nat) : Int) ∧ bits BinOp.andNot IntKind.i64 ((s.val - 2 ^ i.val : Nat) : Int) (2 ^ k.val) = ((s.val - 2 ^ i.val - 2 ^ k.val : Nat) : Int) ∧
    popcS (s.val - 2 ^ i.val - 2 ^ k.val) + 2 = popcS s.val := by decide +kernel
theorem two_less {s i k m : Nat} (h : s < m) : s - 2 ^ i - 2 ^ k < m := Nat.lt_of_le_of_lt (Nat.le_trans (Nat.sub_le _ _) (Nat.sub_le _ _)) h

/-- One term of the half over the rows that are left. -/
def halfT (l : List (List Int)) (i s : Nat) (f : Nat → Int) (k : Nat) : Int := if i < k ∧ s.testBit k = true then sg (btw s i k) (at2 l i k * f (s - 2 ^ i - 2 ^ k)) else 0
theorem halfT_no {l : List (List Int)} {i s k : Nat} (f : Nat → Int) (h : ¬(i < k ∧ s.testBit k = true)) : halfT l i s f k = 0 := by unfold halfT; rw [if_neg h]
theorem halfT_yes {l : List (List Int)} {i s k : Nat} (f : Nat → Int) (h1 : i < k) (h2 : s.testBit k = true) : halfT l i s f k = sg (btw s i k) (at2 l i k * f (s - 2 ^ i - 2 ^ k)) := by unfold halfT; rw [if_pos ⟨h1, h2⟩]
/-- What l5Half returns; d: at most so many pairs. -/
def halfF (l : List (List Int)) (n : Nat) : Nat → Nat → Int
  | 0, s => if s = 0 then 1 else 0
  | d + 1, s => if s = 0 then 1 else sumN (halfT l (lowB s) s (halfF l n d)) n
theorem halfF_none (l : List (List Int)) (n d : Nat) : halfF l n d 0 = 1 := by cases d <;> rfl
theorem halfF_some (l : List (List Int)) (n d : Nat) {s : Nat} (h : s ≠ 0) : halfF l n (d + 1) s = sumN (halfT l (lowB s) s (halfF l n d)) n := if_neg h

/-- One term of the count of pairings. -/
def cntT (l : List (List Int)) (i s : Nat) (f : Nat → Nat) (k : Nat) : Nat := if (i < k ∧ s.testBit k = true) ∧ at2 l i k ≠ 0 then f (s - 2 ^ i - 2 ^ k) else 0
/-- A sum of numbers from 0 on. -/
def sumM (f : Nat → Nat) : Nat → Nat
  | 0 => 0
  | n + 1 => sumM f n + f n
/-- What l5Count returns. -/
def cntF (l : List (List Int)) (n : Nat) : Nat → Nat → Nat
  | 0, s => if s = 0 then 1 else 0
  | d + 1, s => if s = 0 then 1 else sumM (cntT l (lowB s) s (cntF l n d)) n
theorem cntF_none (l : List (List Int)) (n d : Nat) : cntF l n d 0 = 1 := by cases d <;> rfl
theorem cntF_some (l : List (List Int)) (n d : Nat) {s : Nat} (h : s ≠ 0) : cntF l n (d + 1) s = sumM (cntT l (lowB s) s (cntF l n d)) n := if_neg h
theorem cntT_no {l : List (List Int)} {i s k : Nat} (f : Nat → Nat) (h : ¬((i < k ∧ s.testBit k = true) ∧ at2 l i k ≠ 0)) : cntT l i s f k = 0 := by unfold cntT; rw [if_neg h]
theorem cntT_yes {l : List (List Int)} {i s k : Nat} (f : Nat → Nat) (h : (i < k ∧ s.testBit k = true) ∧ at2 l i k ≠ 0) : cntT l i s f k = f (s - 2 ^ i - 2 ^ k) := by unfold cntT; rw [if_pos h]

theorem sumN_congrH {f g : Nat → Int} : ∀ n, (∀ c, c < n → f c = g c) → sumN f n = sumN g n
  | 0, _ => rfl
  | n + 1, h => by
    show sumN f n + f n = sumN g n + g n
    rw [sumN_congrH n (fun c hc => h c (by omega)), h n (by omega)]
theorem halfT_bd {l : List (List Int)} {n i s k : Nat} {f : Nat → Int} {B : Int} (h : EntB l n) (hi : i < n) (hk : k < n) (hB : 0 ≤ B) (hf : ∀ u, -B ≤ f u ∧ f u ≤ B) : -(30 * B) ≤ halfT l i s f k ∧ halfT l i s f k ≤ 30 * B := by
  unfold halfT
  split
  · have h1 := h.2 i k hi hk
    have h2 := hf (s - 2 ^ i - 2 ^ k)
    exact sg_bd (mul_bdB h1.1 h1.2 h2.1 h2.2)
  · omega
theorem halfT_in {l : List (List Int)} {i s k m : Nat} {f : Nat → Int} (hs : s < m) : halfT l i s (fun u => if u < m then f u else 0) k = halfT l i s f k := by
  unfold halfT
  split
  · show sg _ (at2 l i k * (if s - 2 ^ i - 2 ^ k < m then f (s - 2 ^ i - 2 ^ k) else 0)) = _
    rw [if_pos (two_less hs)]
  · rfl
theorem sumH_bd {l : List (List Int)} {n i s k : Nat} {f : Nat → Int} {B : Int} (h : EntB l n) (hi : i < n) (hk : k ≤ n) (hB : 0 ≤ B) (hf : ∀ u, -B ≤ f u ∧ f u ≤ B) : -(180 * B) ≤ sumN (halfT l i s f) k ∧ sumN (halfT l i s f) k ≤ 180 * B := by
  have h6 := h.1
  have h1 := sumN_bdB (f := halfT l i s f) (B := 30 * B) k (fun j hj => halfT_bd h hi (by omega) hB hf)
  have h2 : (k : Int) * (30 * B) ≤ 6 * (30 * B) := Int.mul_le_mul_of_nonneg_right (by omega) (by omega)
  omega
/-- A bound for sets of any kind: the numbers of rows beyond the square count for nothing. -/
theorem halfF_bd {l : List (List Int)} {n : Nat} (h : EntB l n) : ∀ d s, s < 2 ^ n → -(p180 d) ≤ halfF l n d s ∧ halfF l n d s ≤ p180 d
  | 0, s, _ => by unfold halfF; split <;> simp [p180]
  | d + 1, s, hs => by
    have hp := p180_pos d
    have hp3 : p180 (d + 1) = 180 * p180 d := rfl
    by_cases h0 : s = 0
    · rw [h0, halfF_none]; omega
    · rw [halfF_some l n d h0]
      have h6 := h.1
      have h64 : 2 ^ n ≤ 2 ^ 6 := Nat.pow_le_pow_right (by omega) h6
      have hl := lowB_in ⟨n, by omega⟩ ⟨s, by omega⟩ hs h0
      simp only at hl
      have e : sumN (halfT l (lowB s) s (halfF l n d)) n = sumN (halfT l (lowB s) s (fun u => if u < 2 ^ n then halfF l n d u else 0)) n := by
        exact sumN_congrH n (fun k _ => (halfT_in hs).symm)
      rw [e]
      exact sumH_bd h hl (Nat.le_refl _) (by omega) (fun u => by
        by_cases hu : u < 2 ^ n
        · rw [if_pos hu]; exact halfF_bd h d u hu
        · rw [if_neg hu]; omega)

theorem sumM_le {f : Nat → Nat} {B : Nat} (h : ∀ k, f k ≤ B) : ∀ n, sumM f n ≤ n * B
  | 0 => by simp [sumM]
  | n + 1 => by
    have := sumM_le h n
    have := h n
    rw [Nat.add_mul, Nat.one_mul]
    show sumM f n + f n ≤ _
    omega
/-- 6 to the power of d. -/
def p6 : Nat → Nat
  | 0 => 1
  | d + 1 => 6 * p6 d
theorem p6_pos : ∀ d, 1 ≤ p6 d
  | 0 => by simp [p6]
  | d + 1 => by have := p6_pos d; unfold p6; omega
theorem cntF_bd (l : List (List Int)) {n : Nat} (h6 : n ≤ 6) : ∀ d s, cntF l n d s ≤ p6 d
  | 0, s => by unfold cntF; split <;> simp [p6]
  | d + 1, s => by
    have hp := p6_pos (d + 1)
    by_cases h0 : s = 0
    · rw [h0, cntF_none]; exact hp
    · rw [cntF_some l n d h0]
      have := sumM_le (f := cntT l (lowB s) s (cntF l n d)) (B := p6 d) (fun k => by
        unfold cntT
        split
        · exact cntF_bd l h6 d _
        · omega) n
      have h2 : n * p6 d ≤ 6 * p6 d := Nat.mul_le_mul_right _ h6
      show _ ≤ 6 * p6 d
      omega

end Go.Proofs.YtpimdgijjljejaaDoor
