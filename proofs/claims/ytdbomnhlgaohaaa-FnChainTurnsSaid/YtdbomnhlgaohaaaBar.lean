/- Values by adding rows, each number being divided by the entry used ahead: the pure side. -/
import Derived.Test.YtdbomnhlgaohaaaDet
namespace Go.Proofs.Ytdbomnhlgaohaaa

/-- A factor of all entries. -/
theorem dt_scale (c : Int) : ∀ (n : Nat) (f : Nat → Nat → Int), dt n (fun i j => c * f i j) = pw c n * dt n f
  | 0, _ => by simp [dt, pw]
  | n + 1, f => by
    rw [dt_succ, dt_succ, ← sumN_mul]
    refine sumN_congr _ fun k _ => ?_
    rw [show dr k (fun i j => c * f i j) = fun i j => c * dr k f i j from rfl, dt_scale c n]
    rw [show pw c (n + 1) = c * pw c n from rfl]
    grind

/-- The first k ones, then those of R. -/
def pre (k : Nat) (R : Nat → Nat) (i : Nat) : Nat := if i < k then i else k + R (i - k)
/-- 0, then those of R behind it. -/
def bef (R : Nat → Nat) (i : Nat) : Nat := if i = 0 then 0 else R (i - 1) + 1
theorem pre_bef (k : Nat) (R : Nat → Nat) (i : Nat) : pre k (bef R) i = pre (k + 1) R i := by
  unfold pre bef
  by_cases h1 : i < k
  · rw [if_pos h1, if_pos (by omega)]
  · rw [if_neg h1]
    by_cases h2 : i - k = 0
    · rw [if_pos h2, if_pos (by omega)]; omega
    · rw [if_neg h2, if_neg (by omega), show i - (k + 1) = i - k - 1 by omega]; omega
theorem pre_ex (k a : Nat) (R : Nat → Nat) (i : Nat) : ex k (k + a) (pre k R i) = pre k (fun i => ex 0 a (R i)) i := by
  unfold pre
  by_cases h1 : i < k
  · rw [if_pos h1, if_pos h1]; unfold ex; repeat (first | split | omega)
  · rw [if_neg h1, if_neg h1]; dsimp only; unfold ex; repeat (first | split | omega)
theorem pre_id (k i : Nat) : pre k (fun i => i) i = i := by unfold pre; dsimp only; split <;> omega

/-- What is left of a square after k columns: entries are minors of a square F, whose rows are those of A in another order. -/
structure Bar (N : Nat) (A : Nat → Nat → Int) (k : Nat) (t : Nat → Nat → Int) (q s : Int) (F : Nat → Nat → Int) : Prop where
  val : dt N F = s * dt N A
  sgn : s = 1 ∨ s = -1
  src : ∀ i j, i < N → j < N → ∃ r c, r < N ∧ c < N ∧ F i j = A r c
  ne : q ≠ 0
  main : ∀ (d : Nat) (R C : Nat → Nat), (∀ i, i < d + 1 → R i < N - k) → (∀ i, i < d + 1 → C i < N - k) → dt (d + 1) (fun i j => t (R i) (C j)) = pw q d * dt (k + d + 1) (fun i j => F (pre k R i) (pre k C j))
  last : k = N → q = dt N F

theorem Bar.start {N : Nat} {A t : Nat → Nat → Int} (h : ∀ i j, i < N → j < N → t i j = A i j) : Bar N A 0 t 1 1 A where
  val := by omega
  sgn := Or.inl rfl
  src := fun i j hi hj => ⟨i, j, hi, hj, rfl⟩
  ne := by omega
  main := fun d R C hR hC => by
    have e : pw 1 d = 1 := by
      induction d with
      | zero => rfl
      | succ d ih => unfold pw; rw [ih (fun i hi => hR i (by omega)) (fun i hi => hC i (by omega))]; rfl
    rw [e, Int.one_mul, show 0 + d + 1 = d + 1 by omega]
    exact dt_congr _ fun i j hi hj => by unfold pre; rw [if_neg (by omega), if_neg (by omega), h _ _ (hR i hi) (hC j hj)]; simp
  last := fun h => by subst h; rfl

theorem Bar.entry {N : Nat} {A : Nat → Nat → Int} {k : Nat} {t : Nat → Nat → Int} {q s : Int} {F : Nat → Nat → Int} (h : Bar N A k t q s F) {i j : Nat} (hi : i < N - k) (hj : j < N - k) : t i j = dt (k + 1) (fun r c => F (pre k (fun _ => i) r) (pre k (fun _ => j) c)) := by
  have e := h.main 0 (fun _ => i) (fun _ => j) (fun _ _ => hi) (fun _ _ => hj)
  rw [dt_one] at e
  simpa [pw] using e

theorem Bar.exact {N : Nat} {A : Nat → Nat → Int} {k : Nat} {t : Nat → Nat → Int} {q s : Int} {F : Nat → Nat → Int} (h : Bar N A k t q s F) {i j : Nat} (hi : i + 1 < N - k) (hj : j + 1 < N - k) : ∃ x, chio t i j = q * x := by
  have e := h.main 1 (fun r => if r = 0 then 0 else i + 1) (fun r => if r = 0 then 0 else j + 1) (fun r _ => by split <;> omega) (fun r _ => by split <;> omega)
  rw [dt_two] at e
  exact ⟨dt (k + 2) (fun r c => F (pre k (fun r => if r = 0 then 0 else i + 1) r) (pre k (fun r => if r = 0 then 0 else j + 1) c)), by
    have e2 : pw q 1 = q := by simp [pw]
    rw [e2] at e
    have e3 : k + 1 + 1 = k + 2 := by omega
    rw [e3] at e
    rw [← e]
    show t (i + 1) (j + 1) * t 0 0 - t 0 (j + 1) * t (i + 1) 0 = t 0 0 * t (i + 1) (j + 1) - t 0 (j + 1) * t (i + 1) 0
    rw [Int.mul_comm (t (i + 1) (j + 1))]⟩

theorem Bar.swap {N : Nat} {A : Nat → Nat → Int} {k : Nat} {t u : Nat → Nat → Int} {q s : Int} {F : Nat → Nat → Int} (h : Bar N A k t q s F) {a : Nat} (ha : a < N - k) (h0 : a ≠ 0) (hu : ∀ i j, i < N - k → j < N - k → u i j = t (ex 0 a i) j) : Bar N A k u q (-s) (fun i j => F (ex k (k + a) i) j) where
  val := by rw [dt_exR F (by omega) (by omega) (by omega), h.val]; grind
  sgn := by rcases h.sgn with h | h <;> omega
  src := fun i j hi hj => h.src _ j (ex_bd (by omega) (by omega) hi) hj
  ne := h.ne
  main := fun d R C hR hC => by
    have e := h.main d (fun i => ex 0 a (R i)) C (fun i hi => ex_bd (by omega) ha (hR i hi)) hC
    rw [dt_congr (d + 1) (g := fun i j => t (ex 0 a (R i)) (C j)) (fun i j hi hj => hu _ _ (hR i hi) (hC j hj)), e]
    refine congrArg _ (dt_congr _ fun i j _ _ => ?_)
    rw [pre_ex]
  last := fun h => by omega

theorem Bar.step {N : Nat} {A : Nat → Nat → Int} {k : Nat} {t u : Nat → Nat → Int} {q s : Int} {F : Nat → Nat → Int} (h : Bar N A k t q s F) (hk : k < N) (h0 : t 0 0 ≠ 0) (hu : ∀ i j, i + 1 < N - k → j + 1 < N - k → chio t i j = q * u i j) : Bar N A (k + 1) u (t 0 0) s F where
  val := h.val
  sgn := h.sgn
  src := h.src
  ne := h0
  main := fun d R C hR hC => by
    have e := h.main (d + 1) (bef R) (bef C) (fun i hi => by unfold bef; split; · omega
                                                             have := hR (i - 1) (by omega); omega) (fun i hi => by unfold bef; split; · omega
                                                                                                                   have := hC (i - 1) (by omega); omega)
    have e1 := dt_chio (n := d) (f := fun i j => t (bef R i) (bef C j)) h0
    have e2 : dt (d + 1) (chio (fun i j => t (bef R i) (bef C j))) = dt (d + 1) (fun i j => q * u (R i) (C j)) := dt_congr _ fun i j hi hj => by
      have h1 := hR i hi
      have h2 := hC j hj
      rw [← hu _ _ (by omega) (by omega)]
      rfl
    have e3 : t (bef R 0) (bef C 0) = t 0 0 := rfl
    rw [e2, e3, dt_scale q (d + 1) (fun i j => u (R i) (C j))] at e1
    rw [show d + 1 + 1 = d + 2 by omega] at e
    rw [e] at e1
    have e4 : dt (k + (d + 1) + 1) (fun i j => F (pre k (bef R) i) (pre k (bef C) j)) = dt (k + 1 + d + 1) (fun i j => F (pre (k + 1) R i) (pre (k + 1) C j)) := by
      rw [show k + (d + 1) + 1 = k + 1 + d + 1 by omega]
      exact dt_congr _ fun i j _ _ => by rw [pre_bef, pre_bef]
    rw [e4] at e1
    refine Int.eq_of_mul_eq_mul_left (pw_ne h.ne (d + 1)) (e1.trans ?_)
    grind
  last := fun hN => by
    rw [h.entry (show 0 < N - k by omega) (show 0 < N - k by omega), ← hN]
    refine dt_congr _ fun i j hi hj => ?_
    congr 1 <;> (unfold pre; dsimp only; split <;> omega)

theorem Bar.zero {N : Nat} {A : Nat → Nat → Int} {k : Nat} {t : Nat → Nat → Int} {q s : Int} {F : Nat → Nat → Int} (h : Bar N A k t q s F) (hk : k < N) (h0 : ∀ i, i < N - k → t i 0 = 0) : dt N A = 0 := by
  have e := h.main (N - k - 1) (fun i => i) (fun i => i) (fun i hi => by omega) (fun i hi => by omega)
  rw [dt_nought _ (fun i hi => h0 i (by omega)), show k + (N - k - 1) + 1 = N by omega] at e
  have e2 : dt N (fun i j => F (pre k (fun i => i) i) (pre k (fun i => i) j)) = dt N F := dt_congr _ fun i j _ _ => by rw [pre_id, pre_id]
  rw [e2, h.val] at e
  have e3 := pw_ne h.ne (N - k - 1)
  rcases Int.mul_eq_zero.mp e.symm with h1 | h1
  · exact absurd h1 e3
  · rcases Int.mul_eq_zero.mp h1 with h2 | h2
    · rcases h.sgn with h3 | h3 <;> omega
    · exact h2
theorem Bar.done {N : Nat} {A : Nat → Nat → Int} {t : Nat → Nat → Int} {q s : Int} {F : Nat → Nat → Int} (h : Bar N A N t q s F) : s * q = dt N A := by
  rw [h.last rfl, h.val]
  rcases h.sgn with h3 | h3 <;> subst h3 <;> omega

/-! How great values are. -/
theorem tri_bd {a b c P Q R M : Int} (ha : -30 ≤ a ∧ a ≤ 30) (hb : -30 ≤ b ∧ b ≤ 30) (hc : -30 ≤ c ∧ c ≤ 30) (h : ∀ x y z : Int, (x = 1 ∨ x = -1) → (y = 1 ∨ y = -1) → (z = 1 ∨ z = -1) → x * P + y * Q + z * R ≤ M) : -(30 * M) ≤ a * P + b * Q + c * R ∧ a * P + b * Q + c * R ≤ 30 * M := by
  have one : ∀ u U : Int, (-30 ≤ u ∧ u ≤ 30) → ∃ x : Int, (x = 1 ∨ x = -1) ∧ -(30 * (x * U)) ≤ u * U ∧ u * U ≤ 30 * (x * U) := fun u U hu => by
    by_cases hU : 0 ≤ U
    · have e1 : 0 ≤ (30 - u) * U := Int.mul_nonneg (by omega) hU
      have e2 : 0 ≤ (30 + u) * U := Int.mul_nonneg (by omega) hU
      rw [Int.sub_mul] at e1
      rw [Int.add_mul] at e2
      exact ⟨1, Or.inl rfl, by omega, by omega⟩
    · have e1 : 0 ≤ (30 - u) * (-U) := Int.mul_nonneg (by omega) (by omega)
      have e2 : 0 ≤ (30 + u) * (-U) := Int.mul_nonneg (by omega) (by omega)
      rw [Int.sub_mul, Int.mul_neg, Int.mul_neg] at e1
      rw [Int.add_mul, Int.mul_neg, Int.mul_neg] at e2
      exact ⟨-1, Or.inr rfl, by omega, by omega⟩
  obtain ⟨x, hx, x1, x2⟩ := one a P ha
  obtain ⟨y, hy, y1, y2⟩ := one b Q hb
  obtain ⟨z, hz, z1, z2⟩ := one c R hc
  have := h x y z hx hy hz
  omega
theorem dt_three (f : Nat → Nat → Int) : dt 3 f = f 0 0 * (f 1 1 * f 2 2 - f 1 2 * f 2 1) + f 0 1 * (f 1 2 * f 2 0 - f 1 0 * f 2 2) + f 0 2 * (f 1 0 * f 2 1 - f 1 1 * f 2 0) := by
  rw [dt_succ]
  simp only [sumN, dt_two, dr]
  simp [skip, sn]
  grind
theorem dt_three_bd {f : Nat → Nat → Int} (h : ∀ i j, i < 3 → j < 3 → -30 ≤ f i j ∧ f i j ≤ 30) : -108000 ≤ dt 3 f ∧ dt 3 f ≤ 108000 := by
  rw [dt_three]
  have g0 := h 2 0 (by omega) (by omega)
  have g1 := h 2 1 (by omega) (by omega)
  have g2 := h 2 2 (by omega) (by omega)
  refine tri_bd (M := 3600) (h 0 0 (by omega) (by omega)) (h 0 1 (by omega) (by omega)) (h 0 2 (by omega) (by omega)) (fun x y z hx hy hz => ?_)
  have e := tri_bd (M := 120) (P := z * f 2 1 - y * f 2 2) (Q := x * f 2 2 - z * f 2 0) (R := y * f 2 0 - x * f 2 1) (h 1 0 (by omega) (by omega)) (h 1 1 (by omega) (by omega)) (h 1 2 (by omega) (by omega)) (fun u v w hu hv hw => by
    rcases hx with rfl | rfl <;> rcases hy with rfl | rfl <;> rcases hz with rfl | rfl <;> rcases hu with rfl | rfl <;> rcases hv with rfl | rfl <;> rcases hw with rfl | rfl <;> omega)
  have e2 := e.2
  grind
/-- The greatest value of n rows. -/
def bdN : Nat → Int
  | 0 => 1
  | 1 => 30
  | 2 => 1800
  | 3 => 108000
  | 4 => 12960000
  | 5 => 1944000000
  | _ => 349920000000
theorem sumN_bdC {f : Nat → Int} {B : Int} : ∀ n : Nat, (∀ j, j < n → -B ≤ f j ∧ f j ≤ B) → -(n * B) ≤ sumN f n ∧ sumN f n ≤ n * B
  | 0, _ => by simp [sumN]
  | n + 1, h => by
    have h1 := sumN_bdC n (fun j hj => h j (by omega))
    have h2 := h n (by omega)
    unfold sumN
    rw [show ((n + 1 : Nat) : Int) * B = n * B + B by rw [Int.natCast_add, Int.add_mul]; simp]
    omega
theorem dt_step_bd {n : Nat} {f : Nat → Nat → Int} {B : Int} (h : ∀ i j, i < n + 1 → j < n + 1 → -30 ≤ f i j ∧ f i j ≤ 30) (hB : ∀ g : Nat → Nat → Int, (∀ i j, i < n → j < n → -30 ≤ g i j ∧ g i j ≤ 30) → -B ≤ dt n g ∧ dt n g ≤ B) : -((n + 1 : Nat) * (30 * B)) ≤ dt (n + 1) f ∧ dt (n + 1) f ≤ (n + 1 : Nat) * (30 * B) := by
  rw [dt_succ]
  refine sumN_bdC _ fun k hk => ?_
  have h1 := h 0 k (by omega) hk
  have h2 := hB (dr k f) (fun i j hi hj => h _ _ (by omega) (skip_bd hj))
  have e := tri_bd (a := f 0 k) (b := 0) (c := 0) (P := dt n (dr k f)) (Q := 0) (R := 0) (M := B) h1 (by omega) (by omega) (fun x y z hx _ _ => by rcases hx with rfl | rfl <;> omega)
  unfold sn
  split <;> omega
theorem dt_bd : ∀ (n : Nat) (f : Nat → Nat → Int), n ≤ 6 → (∀ i j, i < n → j < n → -30 ≤ f i j ∧ f i j ≤ 30) → -(bdN n) ≤ dt n f ∧ dt n f ≤ bdN n
  | 0, f, _, _ => by rw [dt_zero]; simp [bdN]
  | 1, f, _, h => by rw [dt_one]; exact h 0 0 (by omega) (by omega)
  | 2, f, _, h => dt_step_bd h (fun g hg => dt_bd 1 g (by omega) hg)
  | 3, f, _, h => dt_three_bd h
  | 4, f, _, h => dt_step_bd h (fun g hg => dt_bd 3 g (by omega) hg)
  | 5, f, _, h => dt_step_bd h (fun g hg => dt_bd 4 g (by omega) hg)
  | 6, f, _, h => dt_step_bd h (fun g hg => dt_bd 5 g (by omega) hg)
  | n + 7, f, h, _ => by omega
theorem bdN_le {n : Nat} (h : n ≤ 5) : bdN n ≤ 1944000000 := by
  have : n = 0 ∨ n = 1 ∨ n = 2 ∨ n = 3 ∨ n = 4 ∨ n = 5 := by omega
  rcases this with rfl | rfl | rfl | rfl | rfl | rfl <;> decide
theorem Bar.bd {N : Nat} {A : Nat → Nat → Int} {k : Nat} {t : Nat → Nat → Int} {q s : Int} {F : Nat → Nat → Int} (h : Bar N A k t q s F) (hN : N ≤ 6) (hA : ∀ i j, i < N → j < N → -30 ≤ A i j ∧ A i j ≤ 30) {i j : Nat} (hi : i < N - k) (hj : j < N - k) : -(bdN (k + 1)) ≤ t i j ∧ t i j ≤ bdN (k + 1) := by
  rw [h.entry hi hj]
  refine dt_bd _ _ (by omega) fun r c hr hc => ?_
  obtain ⟨r', c', h1, h2, e⟩ := h.src (pre k (fun _ => i) r) (pre k (fun _ => j) c) (by unfold pre; dsimp only; split <;> omega) (by unfold pre; dsimp only; split <;> omega)
  rw [e]
  exact hA _ _ h1 h2

end Go.Proofs.Ytdbomnhlgaohaaa
