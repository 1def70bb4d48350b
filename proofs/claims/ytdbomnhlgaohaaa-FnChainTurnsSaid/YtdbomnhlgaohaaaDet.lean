/- Values of squares of whole numbers: the pure side. -/
import Derived.Test.YtdbomnhlgaohaaaOrdF
namespace Go.Proofs.Ytdbomnhlgaohaaa

theorem sumN_congr {f g : Nat → Int} : ∀ n, (∀ j, j < n → f j = g j) → sumN f n = sumN g n
  | 0, _ => rfl
  | n + 1, h => by
    unfold sumN
    rw [sumN_congr n (fun j hj => h j (by omega)), h n (by omega)]
theorem sumN_zero : ∀ n, sumN (fun _ => 0) n = 0
  | 0 => rfl
  | n + 1 => by unfold sumN; rw [sumN_zero n]; rfl
theorem sumN_none {f : Nat → Int} (n : Nat) (h : ∀ j, j < n → f j = 0) : sumN f n = 0 := by rw [sumN_congr n h, sumN_zero]
theorem sumN_add (f g : Nat → Int) : ∀ n, sumN (fun j => f j + g j) n = sumN f n + sumN g n
  | 0 => rfl
  | n + 1 => by unfold sumN; rw [sumN_add f g n]; omega
theorem sumN_mul (c : Int) (f : Nat → Int) : ∀ n, sumN (fun j => c * f j) n = c * sumN f n
  | 0 => by simp [sumN]
  | n + 1 => by unfold sumN; rw [sumN_mul c f n, Int.mul_add]
theorem sumN_neg (f : Nat → Int) (n : Nat) : sumN (fun j => -f j) n = -sumN f n := by
  have h := sumN_mul (-1) f n
  rw [sumN_congr (g := fun j => -1 * f j) n (fun j _ => by omega), h]; omega
/-- The first one taken off. -/
theorem sumN_first (f : Nat → Int) : ∀ n, sumN f (n + 1) = f 0 + sumN (fun j => f (j + 1)) n
  | 0 => by simp [sumN]
  | n + 1 => by
    rw [show sumN f (n + 1 + 1) = sumN f (n + 1) + f (n + 1) from rfl, sumN_first f n]
    rw [show sumN (fun j => f (j + 1)) (n + 1) = sumN (fun j => f (j + 1)) n + f (n + 1) from rfl]
    omega
theorem sumN_comm (f : Nat → Nat → Int) (m : Nat) : ∀ n, sumN (fun i => sumN (fun j => f i j) m) n = sumN (fun j => sumN (fun i => f i j) n) m
  | 0 => by simp [sumN, sumN_zero]
  | n + 1 => by
    rw [show sumN (fun i => sumN (fun j => f i j) m) (n + 1) = sumN (fun i => sumN (fun j => f i j) m) n + sumN (fun j => f n j) m from rfl, sumN_comm f m n, ← sumN_add]
    rfl

/-- 1 or -1. -/
def sn (p : Nat) : Int := if p % 2 = 1 then -1 else 1
theorem sg_sn (p : Nat) (x : Int) : sg p x = sn p * x := by unfold sg sn; split <;> omega
theorem sn_zero : sn 0 = 1 := rfl
theorem sn_succ (p : Nat) : sn (p + 1) = -sn p := by unfold sn; split <;> split <;> omega
theorem sn_sq (p : Nat) : sn p * sn p = 1 := by unfold sn; split <;> rfl
theorem sn_add (p q : Nat) : sn (p + q) = sn p * sn q := by
  induction q with
  | zero => simp [sn_zero]
  | succ q ih => rw [show p + (q + 1) = (p + q) + 1 by omega, sn_succ, sn_succ, ih]; grind
theorem sn_ne (p : Nat) : sn p ≠ 0 := by unfold sn; split <;> omega

/-- Numbers without k. -/
def skip (k j : Nat) : Nat := if j < k then j else j + 1
theorem skip_lt {k j : Nat} (h : j < k) : skip k j = j := if_pos h
theorem skip_ge {k j : Nat} (h : k ≤ j) : skip k j = j + 1 := if_neg (by omega)
theorem skip_zero (j : Nat) : skip 0 j = j + 1 := rfl
theorem skip_bd {k j n : Nat} (h : j < n) : skip k j < n + 1 := by unfold skip; split <;> omega
theorem skip_succ (k j : Nat) : skip (k + 1) (j + 1) = skip k j + 1 := by unfold skip; split <;> split <;> omega
theorem skip_skip {k l j : Nat} (h : k ≤ l) : skip k (skip l j) = skip (l + 1) (skip k j) := by unfold skip; repeat (first | split | omega)
/-- Without row 0 and column k. -/
def dr (k : Nat) (f : Nat → Nat → Int) : Nat → Nat → Int := fun i j => f (i + 1) (skip k j)
/-- The value of n rows and columns, by the first row. -/
def dt : Nat → (Nat → Nat → Int) → Int
  | 0, _ => 1
  | n + 1, f => sumN (fun k => sn k * (f 0 k * dt n (dr k f))) (n + 1)
theorem dt_zero (f : Nat → Nat → Int) : dt 0 f = 1 := rfl
theorem dt_succ (n : Nat) (f : Nat → Nat → Int) : dt (n + 1) f = sumN (fun k => sn k * (f 0 k * dt n (dr k f))) (n + 1) := rfl
theorem dt_one (f : Nat → Nat → Int) : dt 1 f = f 0 0 := by simp [dt, sumN, sn]
theorem dt_two (f : Nat → Nat → Int) : dt 2 f = f 0 0 * f 1 1 - f 0 1 * f 1 0 := by
  rw [dt_succ]; simp only [sumN, dt_one, dr]; simp [skip, sn]; omega
theorem dt_congr : ∀ (n : Nat) {f g : Nat → Nat → Int}, (∀ i j, i < n → j < n → f i j = g i j) → dt n f = dt n g
  | 0, _, _, _ => rfl
  | n + 1, f, g, h => by
    rw [dt_succ, dt_succ]
    refine sumN_congr _ fun k hk => ?_
    rw [h 0 k (by omega) hk, dt_congr n (f := dr k f) (g := dr k g) (fun i j hi hj => h _ _ (by omega) (skip_bd hj))]

/-- By the first column. -/
theorem dt_col : ∀ (n : Nat) (f : Nat → Nat → Int), dt (n + 1) f = sumN (fun i => sn i * (f i 0 * dt n (fun r j => f (skip i r) (j + 1)))) (n + 1)
  | 0, f => by rw [dt_one]; simp [sumN, dt, sn]
  | n + 1, f => by
    rw [dt_succ, sumN_first, sumN_first (fun i => sn i * (f i 0 * dt (n + 1) (fun r j => f (skip i r) (j + 1))))]
    have e0 : dt (n + 1) (dr 0 f) = dt (n + 1) (fun r j => f (skip 0 r) (j + 1)) := rfl
    rw [e0]
    congr 1
    have h1 : ∀ k, k < n + 1 → sn (k + 1) * (f 0 (k + 1) * dt (n + 1) (dr (k + 1) f)) = sumN (fun i => sn (k + 1) * f 0 (k + 1) * (sn i * (f (i + 1) 0 * dt n (fun r j => f (skip i r + 1) (skip k j + 1))))) (n + 1) := fun k _ => by
      rw [dt_col n (dr (k + 1) f), sumN_mul, ← Int.mul_assoc]
      refine congrArg _ (sumN_congr _ fun i _ => ?_)
      have e1 : dr (k + 1) f i 0 = f (i + 1) 0 := by unfold dr; rw [skip_lt (by omega)]
      have e2 : dt n (fun r j => dr (k + 1) f (skip i r) (j + 1)) = dt n (fun r j => f (skip i r + 1) (skip k j + 1)) := dt_congr n (fun r j _ _ => by unfold dr; rw [skip_succ])
      rw [e1, e2]
    have h2 : ∀ i, i < n + 1 → sn (i + 1) * (f (i + 1) 0 * dt (n + 1) (fun r j => f (skip (i + 1) r) (j + 1))) = sumN (fun k => sn (k + 1) * f 0 (k + 1) * (sn i * (f (i + 1) 0 * dt n (fun r j => f (skip i r + 1) (skip k j + 1))))) (n + 1) := fun i _ => by
      rw [dt_succ, ← Int.mul_assoc, ← sumN_mul]
      refine sumN_congr _ fun k _ => ?_
      have e1 : f (skip (i + 1) 0) (k + 1) = f 0 (k + 1) := by rw [skip_lt (by omega)]
      have e2 : dt n (dr k (fun r j => f (skip (i + 1) r) (j + 1))) = dt n (fun r j => f (skip i r + 1) (skip k j + 1)) := dt_congr n (fun r j _ _ => by show f (skip (i + 1) (r + 1)) (skip k j + 1) = _; rw [skip_succ])
      rw [e1, e2, sn_succ, sn_succ]
      grind
    rw [sumN_congr _ h1, sumN_congr _ h2, sumN_comm]

/-- Turned. -/
theorem dt_turn : ∀ (n : Nat) (f : Nat → Nat → Int), dt n (fun i j => f j i) = dt n f
  | 0, _ => rfl
  | n + 1, f => by
    rw [dt_col n f, dt_succ]
    refine sumN_congr _ fun k _ => ?_
    rw [show dr k (fun i j => f j i) = fun i j => (fun r j => f (skip k r) (j + 1)) j i from rfl, dt_turn n]

/-- q and q + 1 exchanged. -/
def ex1 (q j : Nat) : Nat := if j = q then q + 1 else if j = q + 1 then q else j
theorem ex1_bd {q j n : Nat} (h : j < n) (hq : q + 1 < n) : ex1 q j < n := by unfold ex1; repeat (first | split | omega)
theorem ex1_a (q j : Nat) : ex1 q (skip q j) = skip (q + 1) j := by unfold skip ex1; repeat (first | split | omega)
theorem ex1_b (q j : Nat) : ex1 q (skip (q + 1) j) = skip q j := by unfold skip ex1; repeat (first | split | omega)
theorem ex1_c {q k : Nat} (h : k < q) (j : Nat) : ex1 q (skip k j) = skip k (ex1 (q - 1) j) := by unfold skip ex1; repeat (first | split | omega)
theorem ex1_d {q k : Nat} (h : q + 1 < k) (j : Nat) : ex1 q (skip k j) = skip k (ex1 q j) := by unfold skip ex1; repeat (first | split | omega)
/-- Two sums that differ at q and q + 1. -/
theorem sumN_ex (f g : Nat → Int) (q : Nat) (h0 : f q + f (q + 1) = -(g q + g (q + 1))) : ∀ n, (∀ j, j < n → j ≠ q → j ≠ q + 1 → f j = -g j) → q + 1 < n → sumN f n = -sumN g n
  | 0, _, h => by omega
  | n + 1, h, hn => by
    by_cases h1 : q + 1 < n
    · unfold sumN
      rw [sumN_ex f g q h0 n (fun j hj => h j (by omega)) h1, h n (by omega) (by omega) (by omega)]; omega
    · have : n = q + 1 := by omega
      subst this
      have h2 : sumN f q = -sumN g q := by
        rw [← sumN_neg]; exact sumN_congr _ fun j hj => h j (by omega) (by omega) (by omega)
      simp only [sumN]
      omega
/-- Two columns beside each other exchanged. -/
theorem dt_ex1 (q : Nat) : ∀ (n : Nat) (f : Nat → Nat → Int), q + 1 < n → dt n (fun i j => f i (ex1 q j)) = -dt n f
  | 0, _, h => by omega
  | n + 1, f, hq => by
    rw [dt_succ, dt_succ]
    refine sumN_ex _ _ q ?_ _ (fun k hkn h1 h2 => ?_) hq
    · have e1 : ex1 q q = q + 1 := by simp [ex1]
      have e2 : ex1 q (q + 1) = q := by simp [ex1]
      have e3 : dt n (dr q (fun i j => f i (ex1 q j))) = dt n (dr (q + 1) f) := dt_congr n fun i j _ _ => by
        show f (i + 1) (ex1 q (skip q j)) = _; rw [ex1_a]; rfl
      have e4 : dt n (dr (q + 1) (fun i j => f i (ex1 q j))) = dt n (dr q f) := dt_congr n fun i j _ _ => by
        show f (i + 1) (ex1 q (skip (q + 1) j)) = _; rw [ex1_b]; rfl
      simp only [e1, e2, e3, e4, sn_succ]
      grind
    · have e1 : ex1 q k = k := by unfold ex1; rw [if_neg h1, if_neg h2]
      have e3 : dt n (dr k (fun i j => f i (ex1 q j))) = -dt n (dr k f) := by
        by_cases hk : k < q
        · rw [← dt_ex1 (q - 1) n (dr k f) (by omega)]
          refine dt_congr n fun i j _ _ => ?_
          show f (i + 1) (ex1 q (skip k j)) = _; rw [ex1_c hk]; rfl
        · rw [← dt_ex1 q n (dr k f) (by omega)]
          refine dt_congr n fun i j _ _ => ?_
          show f (i + 1) (ex1 q (skip k j)) = _; rw [ex1_d (by omega)]; rfl
      simp only [e1, e3]; grind
/-- p and q exchanged. -/
def ex (p q j : Nat) : Nat := if j = p then q else if j = q then p else j
theorem ex_bd {p q j n : Nat} (hp : p < n) (hq : q < n) (h : j < n) : ex p q j < n := by unfold ex; repeat (first | split | omega)
theorem ex_self (p j : Nat) : ex p p j = j := by unfold ex; repeat (first | split | omega)
theorem ex_ex (p q j : Nat) : ex p q (ex p q j) = j := by unfold ex; repeat (first | split | omega)
theorem ex_step (p d j : Nat) : ex p (p + 1 + d + 1) j = ex1 p (ex (p + 1) (p + 1 + d + 1) (ex1 p j)) := by unfold ex ex1; repeat (first | split | omega)
theorem dt_exC_d : ∀ (d p n : Nat) (f : Nat → Nat → Int), p + d + 1 < n → dt n (fun i j => f i (ex p (p + d + 1) j)) = -dt n f
  | 0, p, n, f, h => by
    rw [← dt_ex1 p n f h]
    exact dt_congr n fun i j _ _ => by rfl
  | d + 1, p, n, f, h => by
    have e : ∀ i j, f i (ex p (p + (d + 1) + 1) j) = (fun i j => f i (ex1 p (ex (p + 1) (p + 1 + d + 1) j))) i (ex1 p j) := fun i j => by
      rw [show p + (d + 1) + 1 = p + 1 + d + 1 by omega, ex_step]
    rw [dt_congr n (fun i j _ _ => e i j), dt_ex1 p n (fun i j => f i (ex1 p (ex (p + 1) (p + 1 + d + 1) j))) (by omega), dt_exC_d d (p + 1) n (fun i j => f i (ex1 p j)) (by omega), dt_ex1 p n f (by omega)]
    omega
theorem ex_comm (p q j : Nat) : ex p q j = ex q p j := by unfold ex; repeat (first | split | omega)
/-- Two columns exchanged. -/
theorem dt_exC {p q n : Nat} (f : Nat → Nat → Int) (hpq : p ≠ q) (hp : p < n) (hq : q < n) : dt n (fun i j => f i (ex p q j)) = -dt n f := by
  by_cases h : p < q
  · rw [show q = p + (q - p - 1) + 1 by omega]; exact dt_exC_d _ _ _ _ (by omega)
  · rw [dt_congr n (fun i j _ _ => by rw [ex_comm] : ∀ i j, i < n → j < n → f i (ex p q j) = f i (ex q p j)), show p = q + (p - q - 1) + 1 by omega]; exact dt_exC_d _ _ _ _ (by omega)
/-- Two rows exchanged. -/
theorem dt_exR {p q n : Nat} (f : Nat → Nat → Int) (hpq : p ≠ q) (hp : p < n) (hq : q < n) : dt n (fun i j => f (ex p q i) j) = -dt n f := by
  rw [← dt_turn n f, ← dt_exC (fun i j => f j i) hpq hp hq, ← dt_turn]
/-- Two rows that are the same. -/
theorem dt_sameR {p q n : Nat} (f : Nat → Nat → Int) (hpq : p ≠ q) (hp : p < n) (hq : q < n) (h : ∀ j, j < n → f p j = f q j) : dt n f = 0 := by
  have e := dt_exR f hpq hp hq
  rw [dt_congr n (g := f) (fun i j _ hj => by unfold ex; split; · subst_vars; exact (h j hj).symm
                                              split
                                              · subst_vars; exact h j hj
                                              · rfl)] at e
  omega
theorem dt_sameC {p q n : Nat} (f : Nat → Nat → Int) (hpq : p ≠ q) (hp : p < n) (hq : q < n) (h : ∀ i, i < n → f i p = f i q) : dt n f = 0 := by
  rw [← dt_turn]; exact dt_sameR _ hpq hp hq h

/-- A row replaced. -/
def setR (f : Nat → Nat → Int) (r : Nat) (u : Nat → Int) : Nat → Nat → Int := fun i j => if i = r then u j else f i j
/-- Sums and products in a row. -/
theorem dt_lin : ∀ (n r : Nat) (f : Nat → Nat → Int) (a b : Int) (u v : Nat → Int), r < n → dt n (setR f r (fun j => a * u j + b * v j)) = a * dt n (setR f r u) + b * dt n (setR f r v)
  | 0, r, _, _, _, _, _, h => by omega
  | n + 1, 0, f, a, b, u, v, _ => by
    rw [dt_succ, dt_succ, dt_succ, ← sumN_mul, ← sumN_mul, ← sumN_add]
    refine sumN_congr _ fun k _ => ?_
    have e : ∀ w : Nat → Int, dt n (dr k (setR f 0 w)) = dt n (dr k f) := fun w => dt_congr n fun i j _ _ => by unfold dr setR; rw [if_neg (by omega)]
    have e2 : ∀ w : Nat → Int, setR f 0 w 0 k = w k := fun w => if_pos rfl
    rw [e, e, e, e2, e2, e2]
    grind
  | n + 1, r + 1, f, a, b, u, v, h => by
    rw [dt_succ, dt_succ, dt_succ, ← sumN_mul, ← sumN_mul, ← sumN_add]
    refine sumN_congr _ fun k _ => ?_
    have e : ∀ w : Nat → Int, dr k (setR f (r + 1) w) = setR (dr k f) r (fun j => w (skip k j)) := fun w => by
      funext i j; unfold dr setR; by_cases hi : i = r
      · rw [if_pos hi, if_pos (by omega)]
      · rw [if_neg hi, if_neg (by omega)]
    have e2 : ∀ w : Nat → Int, setR f (r + 1) w 0 k = f 0 k := fun w => if_neg (by omega)
    rw [e, e, e, e2, e2, e2, dt_lin n r (dr k f) a b _ _ (by omega)]
    grind
theorem setR_self (f : Nat → Nat → Int) (r : Nat) : setR f r (f r) = f := by
  funext i j; unfold setR; split
  · subst_vars; rfl
  · rfl
/-- A row times p less another row times c. -/
theorem dt_add {n r s : Nat} (f : Nat → Nat → Int) (p c : Int) (hr : r < n) (hs : s < n) (hrs : r ≠ s) : dt n (setR f r (fun j => p * f r j + c * f s j)) = p * dt n f := by
  rw [dt_lin n r f p c (f r) (f s) hr, setR_self, dt_sameR (setR f r (f s)) hrs hr hs (fun j _ => by unfold setR; rw [if_pos rfl, if_neg (by omega)])]
  omega
/-- A first column of noughts. -/
theorem dt_nought {n : Nat} (f : Nat → Nat → Int) (h : ∀ i, i < n + 1 → f i 0 = 0) : dt (n + 1) f = 0 := by
  rw [dt_col]
  exact sumN_none _ fun i hi => by rw [h i hi]; simp
/-- A first column of noughts but for the first row. -/
theorem dt_corner {n : Nat} (f : Nat → Nat → Int) (h : ∀ i, i < n → f (i + 1) 0 = 0) : dt (n + 1) f = f 0 0 * dt n (fun i j => f (i + 1) (j + 1)) := by
  rw [dt_col, sumN_first, sumN_none n (fun i hi => by rw [h i hi]; simp), sn_zero]
  simp only [Int.one_mul, Int.add_zero]
  rfl
/-- p to the power of n. -/
def pw (p : Int) : Nat → Int
  | 0 => 1
  | n + 1 => p * pw p n
theorem pw_ne {p : Int} (h : p ≠ 0) : ∀ n, pw p n ≠ 0
  | 0 => by simp [pw]
  | n + 1 => by unfold pw; exact Int.mul_ne_zero h (pw_ne h n)
/-- The rows 1 .. m times p less the first row. -/
def chioTo (f : Nat → Nat → Int) (m : Nat) : Nat → Nat → Int := fun i j => if 1 ≤ i ∧ i ≤ m then f 0 0 * f i j - f i 0 * f 0 j else f i j
theorem dt_chioTo (n : Nat) (f : Nat → Nat → Int) : ∀ m, m ≤ n → dt (n + 1) (chioTo f m) = pw (f 0 0) m * dt (n + 1) f
  | 0, _ => by
    rw [dt_congr (n + 1) (g := f) (fun i j _ _ => by unfold chioTo; rw [if_neg (by omega)])]
    simp [pw]
  | m + 1, h => by
    have e : ∀ i j, chioTo f (m + 1) i j = setR (chioTo f m) (m + 1) (fun j => f 0 0 * chioTo f m (m + 1) j + (-(f (m + 1) 0)) * chioTo f m 0 j) i j := fun i j => by
      unfold setR
      by_cases hi : i = m + 1
      · rw [if_pos hi]; subst hi
        show _ = f 0 0 * chioTo f m (m + 1) j + (-(f (m + 1) 0)) * chioTo f m 0 j
        unfold chioTo; rw [if_pos (by omega), if_neg (by omega), if_neg (by omega)]; grind
      · rw [if_neg hi]
        unfold chioTo
        by_cases h2 : 1 ≤ i ∧ i ≤ m
        · rw [if_pos h2, if_pos (by omega)]
        · rw [if_neg h2, if_neg (by omega)]
    rw [dt_congr (n + 1) (fun i j _ _ => e i j), dt_add (chioTo f m) _ _ (by omega) (by omega) (by omega), dt_chioTo n f m (by omega)]
    show _ = f 0 0 * pw (f 0 0) m * _
    rw [Int.mul_assoc]
/-- What is behind the first entry, crosswise. -/
def chio (f : Nat → Nat → Int) : Nat → Nat → Int := fun i j => f (i + 1) (j + 1) * f 0 0 - f 0 (j + 1) * f (i + 1) 0
theorem dt_chio {n : Nat} {f : Nat → Nat → Int} (h : f 0 0 ≠ 0) : dt (n + 1) (chio f) = pw (f 0 0) n * dt (n + 2) f := by
  have e := dt_chioTo (n + 1) f (n + 1) (Nat.le_refl _)
  rw [dt_corner _ (fun i hi => by unfold chioTo; rw [if_pos (by omega)]; grind)] at e
  have e1 : chioTo f (n + 1) 0 0 = f 0 0 := by unfold chioTo; rw [if_neg (by omega)]
  have e2 : dt (n + 1) (fun i j => chioTo f (n + 1) (i + 1) (j + 1)) = dt (n + 1) (chio f) := dt_congr _ fun i j hi _ => by
    unfold chioTo chio; rw [if_pos (by omega)]; grind
  rw [e1, e2, show pw (f 0 0) (n + 1) = f 0 0 * pw (f 0 0) n from rfl, Int.mul_assoc] at e
  exact Int.eq_of_mul_eq_mul_left h e

end Go.Proofs.Ytdbomnhlgaohaaa
