/- Chapter 8, the pure side: squares of powers, of two numbers, of turns, and their values. -/
import Derived.Test.YtkahgpgnfodpgaaDetMul
namespace Go.Proofs.Ytkahgpgnfodpgaa

/-- The product of the first n. -/
def pr (c : Nat → Int) : Nat → Int
  | 0 => 1
  | n + 1 => c 0 * pr (fun i => c (i + 1)) n
theorem dt_rows : ∀ (n : Nat) (c : Nat → Int) (h : Nat → Nat → Int), dt n (fun i j => c i * h i j) = pr c n * dt n h
  | 0, _, _ => by simp [dt, pr]
  | n + 1, c, h => by
    rw [dt_succ, dt_succ, ← sumN_mul]
    refine sumN_congr _ fun k _ => ?_
    rw [show dr k (fun i j => c i * h i j) = fun i j => (fun i => c (i + 1)) i * dr k h i j from rfl, dt_rows n]
    show sn k * (c 0 * h 0 k * (pr (fun i => c (i + 1)) n * dt n (dr k h))) = c 0 * pr (fun i => c (i + 1)) n * (sn k * (h 0 k * dt n (dr k h)))
    grind

/-- Each row but the first with c times the one ahead of it, from below on. -/
theorem vd_op (n : Nat) (g : Nat → Nat → Int) (c : Int) : ∀ t, t ≤ n → dt (n + 1) (fun k i => if n - t < k then g k i + c * g (k - 1) i else g k i) = dt (n + 1) g
  | 0, _ => dt_congr _ fun k i hk _ => by
    rw [if_neg (by omega)]
  | t + 1, ht => by
    rw [← vd_op n g c t (by omega), dt_congr (n + 1) (g := setR (fun k i => if n - t < k then g k i + c * g (k - 1) i else g k i) (n - t) (fun j => 1 * (if n - t < n - t then g (n - t) j + c * g (n - t - 1) j else g (n - t) j) + c * (if n - t < n - t - 1 then g (n - t - 1) j + c * g (n - t - 1 - 1) j else g (n - t - 1) j))) (fun k i hk _ => by
      unfold setR
      simp only
      by_cases e : k = n - t
      · subst e
        rw [if_pos rfl, if_pos (by omega), if_neg (by omega), if_neg (by omega)]
        omega
      · rw [if_neg e]
        by_cases h : n - t < k
        · rw [if_pos h, if_pos (by omega)]
        · rw [if_neg h, if_neg (by omega)])]
    have h := dt_add (n := n + 1) (r := n - t) (s := n - t - 1) (fun k i => if n - t < k then g k i + c * g (k - 1) i else g k i) 1 c (by omega) (by omega) (by omega)
    rw [h]
    omega

/-- The product of all numbers less each one ahead of them, the first one first. -/
def vdF : (Nat → Int) → Nat → Int
  | _, 0 => 1
  | x, n + 1 => pr (fun i => x (i + 1) - x 0) n * vdF (fun i => x (i + 1)) n
theorem dt_pow : ∀ (n : Nat) (x : Nat → Int), dt n (fun i k => (x i) ^ k) = vdF x n
  | 0, _ => rfl
  | n + 1, x => by
    rw [← dt_turn (n + 1) (fun i k => (x i) ^ k), ← vd_op n (fun k i => (x i) ^ k) (-(x 0)) n (Nat.le_refl _)]
    rw [← dt_turn, dt_congr (n + 1) (g := fun i k => if 0 < k then (x i - x 0) * (x i) ^ (k - 1) else 1) (fun i k _ _ => by
      simp only [Nat.sub_self]
      by_cases h : 0 < k
      · rw [if_pos h, if_pos h]
        obtain ⟨k, rfl⟩ : ∃ j, k = j + 1 := ⟨k - 1, by omega⟩
        simp only [Nat.add_sub_cancel, Int.pow_succ]
        grind
      · rw [if_neg h, if_neg h, show k = 0 by omega, Int.pow_zero])]
    rw [← dt_turn, dt_corner _ (fun k _ => by simp)]
    simp only [Nat.lt_irrefl, if_false, Nat.succ_pos, if_true, Nat.add_sub_cancel, Int.one_mul]
    rw [dt_turn n (fun i k => (x (i + 1) - x 0) * (x (i + 1)) ^ k)]
    rw [dt_rows n (fun i => x (i + 1) - x 0) (fun i k => (x (i + 1)) ^ k), dt_pow n (fun i => x (i + 1))]
    rfl

/-- The same in the order in which it is found. -/
def vdI (x : List Int) (i : Nat) (p : Int) : Nat → Int
  | 0 => p
  | k + 1 => vdI x i p k * (x.getD i 0 - x.getD k 0)
def vdO (x : List Int) : Nat → Int
  | 0 => 1
  | i + 1 => vdI x i (vdO x i) i
theorem vdF_vdO (x : List Int) : ∀ n : Nat, n ≤ 6 → vdF (fun i => x.getD i 0) n = vdO x n := by
  intro n hn
  have h : n = 0 ∨ n = 1 ∨ n = 2 ∨ n = 3 ∨ n = 4 ∨ n = 5 ∨ n = 6 := by omega
  rcases h with rfl | rfl | rfl | rfl | rfl | rfl | rfl <;> simp only [vdF, pr, vdO, vdI, Int.one_mul, Int.mul_one, Nat.reduceAdd] <;> ac_rfl

theorem vdI_zero (x : List Int) (i : Nat) (p : Int) : ∀ k, vdI x i p k = 0 ↔ p = 0 ∨ ∃ t, t < k ∧ x.getD i 0 = x.getD t 0
  | 0 => by simp [vdI]
  | k + 1 => by
    rw [show vdI x i p (k + 1) = vdI x i p k * (x.getD i 0 - x.getD k 0) from rfl, Int.mul_eq_zero, vdI_zero x i p k]
    constructor
    · rintro ((h | ⟨t, h1, h2⟩) | h)
      · exact .inl h
      · exact .inr ⟨t, by omega, h2⟩
      · exact .inr ⟨k, by omega, by omega⟩
    · rintro (h | ⟨t, h1, h2⟩)
      · exact .inl (.inl h)
      · rcases Nat.lt_succ_iff_lt_or_eq.1 h1 with h | h
        · exact .inl (.inr ⟨t, h, h2⟩)
        · subst h; exact .inr (by omega)
theorem vdO_zero (x : List Int) : ∀ m, vdO x m = 0 ↔ ∃ i k, i < m ∧ k < i ∧ x.getD i 0 = x.getD k 0
  | 0 => by simp [vdO]
  | m + 1 => by
    rw [show vdO x (m + 1) = vdI x m (vdO x m) m from rfl, vdI_zero, vdO_zero x m]
    constructor
    · rintro (⟨i, k, h1, h2, h3⟩ | ⟨t, h1, h2⟩)
      · exact ⟨i, k, by omega, h2, h3⟩
      · exact ⟨m, t, by omega, h1, h2⟩
    · rintro ⟨i, k, h1, h2, h3⟩
      rcases Nat.lt_succ_iff_lt_or_eq.1 h1 with h | h
      · exact .inl ⟨i, k, h, h2, h3⟩
      · subst h; exact .inr ⟨k, h2, h3⟩

/-- The first two exchanged. -/
theorem vdI_swap {x y : List Int} (h0 : y.getD 0 0 = x.getD 1 0) (h1 : y.getD 1 0 = x.getD 0 0) (h : ∀ j, 2 ≤ j → y.getD j 0 = x.getD j 0) {i : Nat} (hi : 2 ≤ i) (p : Int) : ∀ k, vdI y i (-p) (k + 2) = -vdI x i p (k + 2)
  | 0 => by
    simp only [vdI]
    rw [h i hi, h0, h1]
    grind
  | k + 1 => by
    rw [show vdI y i (-p) (k + 1 + 2) = vdI y i (-p) (k + 2) * (y.getD i 0 - y.getD (k + 2) 0) from rfl, vdI_swap h0 h1 h hi p k, h i hi, h (k + 2) (by omega),
      show vdI x i p (k + 1 + 2) = vdI x i p (k + 2) * (x.getD i 0 - x.getD (k + 2) 0) from rfl, Int.neg_mul]
theorem vdO_swap {x y : List Int} (h0 : y.getD 0 0 = x.getD 1 0) (h1 : y.getD 1 0 = x.getD 0 0) (h : ∀ j, 2 ≤ j → y.getD j 0 = x.getD j 0) : ∀ m, vdO y (m + 2) = -vdO x (m + 2)
  | 0 => by
    simp only [vdO, vdI]
    rw [h0, h1]
    omega
  | m + 1 => by
    rw [show vdO y (m + 1 + 2) = vdI y (m + 2) (vdO y (m + 2)) (m + 2) from rfl, vdO_swap h0 h1 h m, vdI_swap h0 h1 h (by omega)]
    rfl

/-- Bounds: 18 to the power of how many numbers have been multiplied. -/
def p18 : Nat → Int
  | 0 => 1
  | n + 1 => 18 * p18 n
def tri : Nat → Nat
  | 0 => 0
  | n + 1 => tri n + n
theorem p18_pos : ∀ n, 1 ≤ p18 n
  | 0 => by simp [p18]
  | n + 1 => by have := p18_pos n; simp only [p18]; omega
theorem p18_mono {m : Nat} : ∀ n, m ≤ n → p18 m ≤ p18 n
  | 0, h => by rw [show m = 0 by omega]; exact Int.le_refl _
  | n + 1, h => by
    by_cases e : m = n + 1
    · rw [e]; exact Int.le_refl _
    · have h1 := p18_mono n (show m ≤ n by omega)
      have h2 := p18_pos n
      simp only [p18]; omega
theorem p18_le {n : Nat} (h : n ≤ 15) : p18 n ≤ 6746640616477458432 := by
  have h1 := p18_mono 15 h
  have h2 : p18 15 = 6746640616477458432 := by decide
  omega
theorem vdI_bd {x : List Int} (hx : ∀ j, -9 ≤ x.getD j 0 ∧ x.getD j 0 ≤ 9) (i : Nat) (p : Int) (t : Nat) (hp : -(p18 t) ≤ p ∧ p ≤ p18 t) : ∀ k, -(p18 (t + k)) ≤ vdI x i p k ∧ vdI x i p k ≤ p18 (t + k)
  | 0 => hp
  | k + 1 => by
    have h := vdI_bd hx i p t hp k
    have a := hx i
    have b := hx k
    simp only [vdI]
    rw [show p18 (t + (k + 1)) = 18 * p18 (t + k) from rfl]
    generalize vdI x i p k = q at *
    generalize p18 (t + k) = P at *
    obtain ⟨d, hd⟩ : ∃ d, x.getD i 0 - x.getD k 0 = d := ⟨_, rfl⟩
    rw [hd]
    have h1 : (P + q) * (18 - d) ≥ 0 := Int.mul_nonneg (by omega) (by omega)
    have h2 : (P + q) * (18 + d) ≥ 0 := Int.mul_nonneg (by omega) (by omega)
    have h3 : (P - q) * (18 + d) ≥ 0 := Int.mul_nonneg (by omega) (by omega)
    have h4 : (P - q) * (18 - d) ≥ 0 := Int.mul_nonneg (by omega) (by omega)
    simp only [Int.add_mul, Int.sub_mul, Int.mul_add, Int.mul_sub] at h1 h2 h3 h4
    omega
theorem vdO_bd {x : List Int} (hx : ∀ j, -9 ≤ x.getD j 0 ∧ x.getD j 0 ≤ 9) : ∀ i, -(p18 (tri i)) ≤ vdO x i ∧ vdO x i ≤ p18 (tri i)
  | 0 => by simp [vdO, tri, p18]
  | i + 1 => vdI_bd hx i (vdO x i) (tri i) (vdO_bd hx i) i
theorem tri_le : ∀ i : Fin 6, tri i.val + i.val ≤ 15 := by decide
/-- All that is found on the way is small. -/
theorem vdI_lt {x : List Int} (hx : ∀ j, -9 ≤ x.getD j 0 ∧ x.getD j 0 ≤ 9) {i k : Nat} (hi : i < 6) (hk : k ≤ i) : -6746640616477458432 ≤ vdI x i (vdO x i) k ∧ vdI x i (vdO x i) k ≤ 6746640616477458432 := by
  have h := vdI_bd hx i (vdO x i) (tri i) (vdO_bd hx i) k
  have h2 := tri_le ⟨i, hi⟩
  have h3 := p18_le (n := tri i + k) (by simp only at h2; omega)
  omega

/-- The square of a and b, and its value. -/
def onF (a b : Int) (i k : Nat) : Int := if i = k then a else b
theorem on_step (n : Nat) (a b : Int) : ∀ t, t ≤ n → dt (n + 1) (fun i j => if i = 0 then b else if i ≤ t then (if i = j then a - b else 0) else onF a b i j) = dt (n + 1) (fun i j => if i = 0 then b else onF a b i j)
  | 0, _ => dt_congr _ fun i j _ _ => by
    by_cases e : i = 0
    · rw [if_pos e, if_pos e]
    · rw [if_neg e, if_neg e, if_neg (by omega)]
  | t + 1, ht => by
    rw [← on_step n a b t (by omega)]
    have h := dt_add (n := n + 1) (r := t + 1) (s := 0) (fun i j => if i = 0 then b else if i ≤ t then (if i = j then a - b else 0) else onF a b i j) 1 (-1) (by omega) (by omega) (by omega)
    rw [Int.one_mul] at h
    rw [← h]
    refine dt_congr _ fun i j _ _ => ?_
    unfold setR
    by_cases e : i = 0
    · rw [if_pos e, if_neg (by omega)]; dsimp only; rw [if_pos e]
    · by_cases e2 : i = t + 1
      · subst e2
        rw [if_neg (by omega), if_pos (Nat.le_refl _), if_pos rfl]
        simp only [Nat.succ_ne_zero, if_false, if_true, show ¬ (t + 1 ≤ t) by omega]
        unfold onF
        by_cases e3 : t + 1 = j
        · rw [if_pos e3, if_pos e3]; omega
        · rw [if_neg e3, if_neg e3]; omega
      · rw [if_neg e, if_neg e2]; dsimp only; rw [if_neg e]
        by_cases e4 : i ≤ t
        · rw [if_pos (by omega), if_pos e4]
        · rw [if_neg (by omega), if_neg e4]
theorem pr_same (c : Int) : ∀ n, pr (fun _ => c) n = pw c n
  | 0 => rfl
  | n + 1 => by rw [show pr (fun _ => c) (n + 1) = c * pr (fun _ => c) n from rfl, pr_same c n]; rfl
theorem on_low (n : Nat) (a b : Int) : dt (n + 1) (fun i j => if i = 0 then b else onF a b i j) = b * pw (a - b) n := by
  rw [← on_step n a b n (Nat.le_refl _), dt_congr (n + 1) (g := fun i j => if i = 0 then b else if i = j then a - b else 0) (fun i j hi _ => by
    by_cases e : i = 0
    · rw [if_pos e, if_pos e]
    · rw [if_neg e, if_neg e, if_pos (by omega)]),
    dt_corner _ (fun i _ => by rw [if_neg (by omega), if_neg (by omega)]), if_pos rfl]
  congr 1
  rw [dt_congr n (g := fun i j => (fun _ => a - b) i * oneF i j) (fun i j _ _ => by
    unfold oneF
    dsimp only
    rw [if_neg (by omega)]
    by_cases e : i = j
    · rw [if_pos (by omega), if_pos e]; omega
    · rw [if_neg (by omega), if_neg e]; omega), dt_rows, dt_oneF, Int.mul_one, pr_same]
theorem dt_on (a b : Int) : ∀ n : Nat, dt (n + 1) (onF a b) = pw (a - b) n * (a + n * b)
  | 0 => by rw [dt_one]; simp [onF, pw]
  | n + 1 => by
    have h := dt_add (n := n + 1 + 1) (r := 0) (s := 1) (onF a b) 1 (-1) (by omega) (by omega) (by omega)
    rw [Int.one_mul] at h
    rw [← h, dt_succ, sumN_first, sumN_first, sumN_none n (fun j _ => by
      show sn (j + 1 + 1) * (setR (onF a b) 0 _ 0 (j + 1 + 1) * _) = 0
      have e : (1 * onF a b 0 (j + 1 + 1) + -1 * onF a b 1 (j + 1 + 1)) = 0 := by unfold onF; rw [if_neg (by omega), if_neg (by omega)]; omega
      show sn (j + 1 + 1) * ((1 * onF a b 0 (j + 1 + 1) + -1 * onF a b 1 (j + 1 + 1)) * _) = 0
      rw [e]; simp)]
    have e0 : dt (n + 1) (dr 0 (setR (onF a b) 0 (fun j => 1 * onF a b 0 j + -1 * onF a b 1 j))) = dt (n + 1) (onF a b) := dt_congr _ fun i j _ _ => by
      unfold dr setR onF
      rw [if_neg (by omega), skip_zero]
      by_cases e : i = j
      · rw [if_pos (by omega), if_pos e]
      · rw [if_neg (by omega), if_neg e]
    have e1 : dt (n + 1) (dr 1 (setR (onF a b) 0 (fun j => 1 * onF a b 0 j + -1 * onF a b 1 j))) = dt (n + 1) (fun i j => if i = 0 then b else onF a b i j) := dt_congr _ fun i j _ _ => by
      unfold dr setR onF
      rw [if_neg (by omega)]
      by_cases e : i = 0
      · subst e
        rw [if_pos rfl]
        by_cases e2 : j = 0
        · subst e2; rw [skip_lt (by omega), if_neg (by omega)]
        · rw [skip_ge (by omega), if_neg (by omega)]
      · rw [if_neg e]
        by_cases e2 : j = 0
        · subst e2; rw [skip_lt (by omega), if_neg (by omega), if_neg (by omega)]
        · rw [skip_ge (by omega)]
          by_cases e3 : i = j
          · rw [if_pos (by omega), if_pos e3]
          · rw [if_neg (by omega), if_neg e3]
    show sn 0 * (_ * dt (n + 1) (dr 0 _)) + (sn 1 * (_ * dt (n + 1) (dr 1 _)) + 0) = _
    rw [e0, e1, dt_on a b n, on_low, show sn 0 = 1 from rfl, show sn 1 = -1 from rfl]
    show 1 * ((if (0 : Nat) = 0 then 1 * onF a b 0 0 + -1 * onF a b 1 0 else _) * _) + (-1 * ((if (0 : Nat) = 0 then 1 * onF a b 0 1 + -1 * onF a b 1 1 else _) * _) + 0) = (a - b) * pw (a - b) n * _
    rw [if_pos rfl, if_pos rfl, show onF a b 0 0 = a from rfl, show onF a b 1 0 = b from rfl, show onF a b 0 1 = b from rfl, show onF a b 1 1 = a from rfl]
    rw [show ((n + 1 : Nat) : Int) = (n : Int) + 1 by omega]
    generalize pw (a - b) n = P
    grind
theorem pw_zero_iff (p : Int) : ∀ n, pw p (n + 1) = 0 ↔ p = 0
  | 0 => by simp [pw]
  | n + 1 => by
    rw [show pw p (n + 1 + 1) = p * pw p (n + 1) from rfl, Int.mul_eq_zero, pw_zero_iff p n]
    simp

/-- A square whose columns have the sum s: s divides the value, and the value is 0 if s is. -/
theorem dt_sums {n : Nat} (f : Nat → Nat → Int) (s : Int) (h : ∀ j, j < n + 1 → sumN (fun i => f i j) (n + 1) = s) : dt (n + 1) f = s * dt (n + 1) (setR f 0 (fun _ => 1)) := by
  have h1 := dt_addS (n := n + 1) (r := 0) f (fun _ => 1) (fun m => m + 1) (by omega) n (fun m hm => ⟨by omega, by omega⟩)
  rw [← h1, dt_congr (n + 1) (g := setR f 0 (fun j => s * (fun _ => 1) j + 0 * (fun _ => 1) j)) (fun i j _ hj => by
    unfold setR
    by_cases e : i = 0
    · rw [if_pos e, if_pos e]
      have h2 := h j hj
      rw [sumN_first] at h2
      show f 0 j + sumN (fun m => 1 * f (m + 1) j) n = s * 1 + 0 * 1
      rw [sumN_congr n (g := fun m => f (m + 1) j) (fun m _ => by simp), h2]
      omega
    · rw [if_neg e, if_neg e]), dt_lin (n + 1) 0 f s 0 (fun _ => 1) (fun _ => 1) (by omega)]
  omega

end Go.Proofs.Ytkahgpgnfodpgaa
