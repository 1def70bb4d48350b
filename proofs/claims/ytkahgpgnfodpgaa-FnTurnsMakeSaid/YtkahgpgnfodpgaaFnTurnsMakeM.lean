import Derived.Test.YtkahgpgnfodpgaaDet
import Derived.Test.YtkahgpgnfodpgaaRowsF
import Derived.Test.YtkahgpgnfodpgaaCopy
import Derived.Test.YtkahgpgnfodpgaaTurnSpec
import Derived.Test.YtkahgpgnfodpgaaAppK
import Derived.Deep.RegionHeld3
import Derived.Test.YtkahgpgnfodpgaaUnitImpl
import Derived.BigQuiet
import Derived.Laws.EntriesVeiled
import Derived.Test.YtkahgpgnfodpgaaL2Square
import Derived.Lib.AppendZerosOnto
import Derived.Lib.SliceRun
import Derived.Test.YtkahgpgnfodpgaaRoads
import Derived.Test.YtkahgpgnfodpgaaSig
import Derived.Test.YtkahgpgnfodpgaaOrdersI
import Derived.Maps.AppendAt
import Derived.Test.YtkahgpgnfodpgaaHarn2
import Derived.Test.YtkahgpgnfodpgaaDrawKn
import Derived.Test.YtkahgpgnfodpgaaTurnImpl
import Derived.Test.YtkahgpgnfodpgaaWR
import Derived.Test.YtkahgpgnfodpgaaGrid
import Derived.Test.YtkahgpgnfodpgaaMakeEntry
import Derived.StillTailTactics
import Derived.Test.YtkahgpgnfodpgaaOrdF
import Derived.Test.YtkahgpgnfodpgaaPartImpl
import Derived.Test.YtkahgpgnfodpgaaRows
import Derived.Test.YtkahgpgnfodpgaaData
import Derived.ProofKit
import Derived.Deep.Matrix
import Derived.Test.YtkahgpgnfodpgaaDraw0

section
namespace Go.Proofs.Ytkahgpgnfodpgaa
open Go.RowKit Go.Deep

def lacks (n U : Nat) : List Nat := (List.range n).filter fun k => !U.testBit k
def gam (U j : Nat) : Nat := (lacks 6 U).getD j 0
def sgU (U : Nat) : Int := sn (((List.range 6).filter fun k => U.testBit k).foldl (· + ·) 0 + popcS U * (popcS U - 1) / 2)

theorem lacks_len : ∀ n : Fin 7, ∀ U : Fin 64, U.val < 2 ^ n.val → (lacks n.val U.val).length + popcS U.val = n.val := by decide +kernel
theorem lacks_get : ∀ n : Fin 7, ∀ U : Fin 64, ∀ j : Fin 6, U.val < 2 ^ n.val → j.val + popcS U.val < n.val → (lacks n.val U.val).getD j.val 0 = gam U.val j.val ∧ gam U.val j.val < n.val ∧ U.val.testBit (gam U.val j.val) = false := by decide +kernel
theorem gam_or : ∀ U : Fin 64, ∀ j j' : Fin 6, j.val + popcS U.val < 6 → j'.val + popcS U.val + 1 < 6 → gam (U.val ||| 2 ^ gam U.val j.val) j'.val = gam U.val (skip j.val j'.val) := by decide +kernel
theorem sgU_or : ∀ U : Fin 64, ∀ j : Fin 6, j.val + popcS U.val < 6 → sn (popcS (U.val / 2 ^ gam U.val j.val)) * sgU (U.val ||| 2 ^ gam U.val j.val) = sgU U.val * sn j.val := by decide +kernel
theorem popcS_add : ∀ U : Fin 64, ∀ k : Fin 6, U.val.testBit k.val = false → popcS (U.val ||| 2 ^ k.val) = popcS U.val + 1 := by decide +kernel

theorem sumL_get (F : Nat → Int) : ∀ l : List Nat, (l.map F).foldr (· + ·) 0 = sumN (fun j => F (l.getD j 0)) l.length
  | [] => rfl
  | x :: xs => by
    rw [List.length_cons, sumN_first, List.map_cons, List.foldr_cons, sumL_get F xs]
    rfl
theorem sumL_snoc (l : List Int) (x : Int) : (l ++ [x]).foldr (· + ·) 0 = l.foldr (· + ·) 0 + x := by
  induction l with
  | nil => simp
  | cons y ys ih => simp only [List.cons_append, List.foldr_cons, ih]; omega
theorem sumN_lacks (F : Nat → Int) (U : Nat) : ∀ n, sumN (fun k => if U.testBit k then 0 else F k) n = ((lacks n U).map F).foldr (· + ·) 0
  | 0 => rfl
  | n + 1 => by
    have e : lacks (n + 1) U = lacks n U ++ (if U.testBit n then [] else [n]) := by
      unfold lacks
      rw [List.range_succ, List.filter_append]
      cases h : U.testBit n <;> simp [h]
    unfold sumN
    rw [sumN_lacks F U n, e]
    cases h : U.testBit n
    · simp only [Bool.false_eq_true, if_false, List.map_append, List.map_cons, List.map_nil, sumL_snoc]
    · simp

theorem ordF_dt (l : List (List Int)) {n : Nat} (hn : n ≤ 6) : ∀ (d U : Nat), U < 2 ^ n → popcS U + d = n → ordF l n d U = sgU U * dt d (fun i j => at2 l (n - d + i) (gam U j))
  | 0, U, hU, hp => by
    rw [ordF_zero, dt_zero]
    have h : ∀ n : Fin 7, ∀ U : Fin 64, U.val < 2 ^ n.val → popcS U.val = n.val → sgU U.val = 1 := by decide +kernel
    have p : 2 ^ n ≤ 2 ^ 6 := Nat.pow_le_pow_right (by omega) hn
    have := h ⟨n, by omega⟩ ⟨U, by omega⟩ hU (by simpa using hp)
    simp only at this
    rw [this]; rfl
  | d + 1, U, hU, hp => by
    have p : 2 ^ n ≤ 2 ^ 6 := Nat.pow_le_pow_right (by omega) hn
    have hlen := lacks_len ⟨n, by omega⟩ ⟨U, by omega⟩ hU
    simp only at hlen
    rw [ordF_succ, dt_succ, ← sumN_mul]
    have e0 : ∀ k, ordT l (n - (d + 1)) U (ordF l n d) k = if U.testBit k then 0 else sn (popcS (U / 2 ^ k)) * (at2 l (n - (d + 1)) k * ordF l n d (U ||| 2 ^ k)) := fun k => by
      unfold ordT
      split
      · rfl
      · rw [sg_sn]
    rw [sumN_congr n (fun k _ => e0 k), sumN_lacks (fun k => sn (popcS (U / 2 ^ k)) * (at2 l (n - (d + 1)) k * ordF l n d (U ||| 2 ^ k))), sumL_get, show (lacks n U).length = d + 1 by omega]
    refine sumN_congr _ fun j hj => ?_
    obtain ⟨g1, g2, g3⟩ := lacks_get ⟨n, by omega⟩ ⟨U, by omega⟩ ⟨j, by omega⟩ hU (by simp only; omega)
    simp only at g1 g2 g3
    have hs := sgU_or ⟨U, by omega⟩ ⟨j, by omega⟩ (by simp only; omega)
    have ha := popcS_add ⟨U, by omega⟩ ⟨gam U j, by omega⟩ g3
    simp only at hs ha
    rw [g1, ordF_dt l hn d (U ||| 2 ^ gam U j) (Nat.or_lt_two_pow hU (Nat.pow_lt_pow_right (by omega) g2)) (by omega)]
    have ed : dt d (fun i j' => at2 l (n - d + i) (gam (U ||| 2 ^ gam U j) j')) = dt d (dr j (fun i j => at2 l (n - (d + 1) + i) (gam U j))) := dt_congr d fun i j' _ hj' => by
      have := gam_or ⟨U, by omega⟩ ⟨j, by omega⟩ ⟨j', by omega⟩ (by simp only; omega) (by simp only; omega)
      simp only at this
      rw [this]
      show _ = at2 l (n - (d + 1) + (i + 1)) (gam U (skip j j'))
      rw [show n - (d + 1) + (i + 1) = n - d + i by omega]
    rw [ed, Nat.add_zero]
    generalize dt d (dr j (fun i j => at2 l (n - (d + 1) + i) (gam U j))) = D
    generalize at2 l (n - (d + 1)) (gam U j) = y
    rw [show sn (popcS (U / 2 ^ gam U j)) * (y * (sgU (U ||| 2 ^ gam U j) * D)) = (sn (popcS (U / 2 ^ gam U j)) * sgU (U ||| 2 ^ gam U j)) * (y * D) by grind, hs, Int.mul_assoc]
theorem gam_zero : ∀ j : Fin 6, gam 0 j.val = j.val := by decide +kernel
theorem ordF_all (l : List (List Int)) {n : Nat} (hn : n ≤ 6) : ordF l n n 0 = dt n (at2 l) := by
  rw [ordF_dt l hn n 0 (Nat.pow_pos (by omega)) (by have : popcS 0 = 0 := by decide
                                                    omega)]
  have h1 : sgU 0 = 1 := by decide +kernel
  rw [h1, Int.one_mul]
  refine dt_congr n fun i j hi hj => ?_
  have := gam_zero ⟨j, by omega⟩
  simp only at this
  rw [this, Nat.sub_self, Nat.zero_add]

end Go.Proofs.Ytkahgpgnfodpgaa
end

section
namespace Go.Proofs.Ytkahgpgnfodpgaa

theorem dt_scale (c : Int) : ∀ (n : Nat) (f : Nat → Nat → Int), dt n (fun i j => c * f i j) = pw c n * dt n f
  | 0, _ => by simp [dt, pw]
  | n + 1, f => by
    rw [dt_succ, dt_succ, ← sumN_mul]
    refine sumN_congr _ fun k _ => ?_
    rw [show dr k (fun i j => c * f i j) = fun i j => c * dr k f i j from rfl, dt_scale c n]
    rw [show pw c (n + 1) = c * pw c n from rfl]
    grind

def pre (k : Nat) (R : Nat → Nat) (i : Nat) : Nat := if i < k then i else k + R (i - k)
def bef (R : Nat → Nat) (i : Nat) : Nat := if i = 0 then 0 else R (i - 1) + 1
theorem pre_bef (k : Nat) (R : Nat → Nat) (i : Nat) : pre k (bef R) i = pre (k + 1) R i := by
  unfold pre bef
  by_cases h1 : i < k
  · rw [if_pos h1, if_pos (by omega)]
  · rw [if_neg h1]
    by_cases h2 : i - k = 0
    · rw [if_pos h2, if_pos (by omega)]; omega
    · rw [if_neg h2, if_neg (by omega), show i - (k + 1) = i - k - 1 by omega]; omega
theorem pre_ex (k a : Nat) (R : Nat → Nat) (i : Nat) : ex k (k + a) (pre k R i) = pre k (fun i => ex 0 a (R i)) i := by
  unfold pre
  by_cases h1 : i < k
  · rw [if_pos h1, if_pos h1]; unfold ex; repeat (first | split | omega)
  · rw [if_neg h1, if_neg h1]; dsimp only; unfold ex; repeat (first | split | omega)
theorem pre_id (k i : Nat) : pre k (fun i => i) i = i := by unfold pre; dsimp only; split <;> omega

structure Bar (N : Nat) (A : Nat → Nat → Int) (k : Nat) (t : Nat → Nat → Int) (q s : Int) (F : Nat → Nat → Int) : Prop where
  val : dt N F = s * dt N A
  sgn : s = 1 ∨ s = -1
  src : ∀ i j, i < N → j < N → ∃ r c, r < N ∧ c < N ∧ F i j = A r c
  ne : q ≠ 0
  main : ∀ (d : Nat) (R C : Nat → Nat), (∀ i, i < d + 1 → R i < N - k) → (∀ i, i < d + 1 → C i < N - k) → dt (d + 1) (fun i j => t (R i) (C j)) = pw q d * dt (k + d + 1) (fun i j => F (pre k R i) (pre k C j))
  last : k = N → q = dt N F

theorem Bar.start {N : Nat} {A t : Nat → Nat → Int} (h : ∀ i j, i < N → j < N → t i j = A i j) : Bar N A 0 t 1 1 A where
  val := by omega
  sgn := Or.inl rfl
  src := fun i j hi hj => ⟨i, j, hi, hj, rfl⟩
  ne := by omega
  main := fun d R C hR hC => by
    have e : pw 1 d = 1 := by
      induction d with
      | zero => rfl
      | succ d ih => unfold pw; rw [ih (fun i hi => hR i (by omega)) (fun i hi => hC i (by omega))]; rfl
    rw [e, Int.one_mul, show 0 + d + 1 = d + 1 by omega]
    exact dt_congr _ fun i j hi hj => by unfold pre; rw [if_neg (by omega), if_neg (by omega), h _ _ (hR i hi) (hC j hj)]; simp
  last := fun h => by subst h; rfl

theorem Bar.entry {N : Nat} {A : Nat → Nat → Int} {k : Nat} {t : Nat → Nat → Int} {q s : Int} {F : Nat → Nat → Int} (h : Bar N A k t q s F) {i j : Nat} (hi : i < N - k) (hj : j < N - k) : t i j = dt (k + 1) (fun r c => F (pre k (fun _ => i) r) (pre k (fun _ => j) c)) := by
  have e := h.main 0 (fun _ => i) (fun _ => j) (fun _ _ => hi) (fun _ _ => hj)
  rw [dt_one] at e
  simpa [pw] using e

theorem Bar.exact {N : Nat} {A : Nat → Nat → Int} {k : Nat} {t : Nat → Nat → Int} {q s : Int} {F : Nat → Nat → Int} (h : Bar N A k t q s F) {i j : Nat} (hi : i + 1 < N - k) (hj : j + 1 < N - k) : ∃ x, chio t i j = q * x := by
  have e := h.main 1 (fun r => if r = 0 then 0 else i + 1) (fun r => if r = 0 then 0 else j + 1) (fun r _ => by split <;> omega) (fun r _ => by split <;> omega)
  rw [dt_two] at e
  exact ⟨dt (k + 2) (fun r c => F (pre k (fun r => if r = 0 then 0 else i + 1) r) (pre k (fun r => if r = 0 then 0 else j + 1) c)), by
    have e2 : pw q 1 = q := by simp [pw]
    rw [e2] at e
    have e3 : k + 1 + 1 = k + 2 := by omega
    rw [e3] at e
    rw [← e]
    show t (i + 1) (j + 1) * t 0 0 - t 0 (j + 1) * t (i + 1) 0 = t 0 0 * t (i + 1) (j + 1) - t 0 (j + 1) * t (i + 1) 0
    rw [Int.mul_comm (t (i + 1) (j + 1))]⟩

theorem Bar.swap {N : Nat} {A : Nat → Nat → Int} {k : Nat} {t u : Nat → Nat → Int} {q s : Int} {F : Nat → Nat → Int} (h : Bar N A k t q s F) {a : Nat} (ha : a < N - k) (h0 : a ≠ 0) (hu : ∀ i j, i < N - k → j < N - k → u i j = t (ex 0 a i) j) : Bar N A k u q (-s) (fun i j => F (ex k (k + a) i) j) where
  val := by rw [dt_exR F (by omega) (by omega) (by omega), h.val]; grind
  sgn := by rcases h.sgn with h | h <;> omega
  src := fun i j hi hj => h.src _ j (ex_bd (by omega) (by omega) hi) hj
  ne := h.ne
  main := fun d R C hR hC => by
    have e := h.main d (fun i => ex 0 a (R i)) C (fun i hi => ex_bd (by omega) ha (hR i hi)) hC
    rw [dt_congr (d + 1) (g := fun i j => t (ex 0 a (R i)) (C j)) (fun i j hi hj => hu _ _ (hR i hi) (hC j hj)), e]
    refine congrArg _ (dt_congr _ fun i j _ _ => ?_)
    rw [pre_ex]
  last := fun h => by omega

theorem Bar.step {N : Nat} {A : Nat → Nat → Int} {k : Nat} {t u : Nat → Nat → Int} {q s : Int} {F : Nat → Nat → Int} (h : Bar N A k t q s F) (hk : k < N) (h0 : t 0 0 ≠ 0) (hu : ∀ i j, i + 1 < N - k → j + 1 < N - k → chio t i j = q * u i j) : Bar N A (k + 1) u (t 0 0) s F where
  val := h.val
  sgn := h.sgn
  src := h.src
  ne := h0
  main := fun d R C hR hC => by
    have e := h.main (d + 1) (bef R) (bef C) (fun i hi => by unfold bef; split; · omega
                                                             have := hR (i - 1) (by omega); omega) (fun i hi => by unfold bef; split; · omega
                                                                                                                   have := hC (i - 1) (by omega); omega)
    have e1 := dt_chio (n := d) (f := fun i j => t (bef R i) (bef C j)) h0
    have e2 : dt (d + 1) (chio (fun i j => t (bef R i) (bef C j))) = dt (d + 1) (fun i j => q * u (R i) (C j)) := dt_congr _ fun i j hi hj => by
      have h1 := hR i hi
      have h2 := hC j hj
      rw [← hu _ _ (by omega) (by omega)]
      rfl
    have e3 : t (bef R 0) (bef C 0) = t 0 0 := rfl
    rw [e2, e3, dt_scale q (d + 1) (fun i j => u (R i) (C j))] at e1
    rw [show d + 1 + 1 = d + 2 by omega] at e
    rw [e] at e1
    have e4 : dt (k + (d + 1) + 1) (fun i j => F (pre k (bef R) i) (pre k (bef C) j)) = dt (k + 1 + d + 1) (fun i j => F (pre (k + 1) R i) (pre (k + 1) C j)) := by
      rw [show k + (d + 1) + 1 = k + 1 + d + 1 by omega]
      exact dt_congr _ fun i j _ _ => by rw [pre_bef, pre_bef]
    rw [e4] at e1
    refine Int.eq_of_mul_eq_mul_left (pw_ne h.ne (d + 1)) (e1.trans ?_)
    grind
  last := fun hN => by
    rw [h.entry (show 0 < N - k by omega) (show 0 < N - k by omega), ← hN]
    refine dt_congr _ fun i j hi hj => ?_
    congr 1 <;> (unfold pre; dsimp only; split <;> omega)

theorem Bar.zero {N : Nat} {A : Nat → Nat → Int} {k : Nat} {t : Nat → Nat → Int} {q s : Int} {F : Nat → Nat → Int} (h : Bar N A k t q s F) (hk : k < N) (h0 : ∀ i, i < N - k → t i 0 = 0) : dt N A = 0 := by
  have e := h.main (N - k - 1) (fun i => i) (fun i => i) (fun i hi => by omega) (fun i hi => by omega)
  rw [dt_nought _ (fun i hi => h0 i (by omega)), show k + (N - k - 1) + 1 = N by omega] at e
  have e2 : dt N (fun i j => F (pre k (fun i => i) i) (pre k (fun i => i) j)) = dt N F := dt_congr _ fun i j _ _ => by rw [pre_id, pre_id]
  rw [e2, h.val] at e
  have e3 := pw_ne h.ne (N - k - 1)
  rcases Int.mul_eq_zero.mp e.symm with h1 | h1
  · exact absurd h1 e3
  · rcases Int.mul_eq_zero.mp h1 with h2 | h2
    · rcases h.sgn with h3 | h3 <;> omega
    · exact h2
theorem Bar.done {N : Nat} {A : Nat → Nat → Int} {t : Nat → Nat → Int} {q s : Int} {F : Nat → Nat → Int} (h : Bar N A N t q s F) : s * q = dt N A := by
  rw [h.last rfl, h.val]
  rcases h.sgn with h3 | h3 <;> subst h3 <;> omega

theorem tri_bd {a b c P Q R M : Int} (ha : -30 ≤ a ∧ a ≤ 30) (hb : -30 ≤ b ∧ b ≤ 30) (hc : -30 ≤ c ∧ c ≤ 30) (h : ∀ x y z : Int, (x = 1 ∨ x = -1) → (y = 1 ∨ y = -1) → (z = 1 ∨ z = -1) → x * P + y * Q + z * R ≤ M) : -(30 * M) ≤ a * P + b * Q + c * R ∧ a * P + b * Q + c * R ≤ 30 * M := by
  have one : ∀ u U : Int, (-30 ≤ u ∧ u ≤ 30) → ∃ x : Int, (x = 1 ∨ x = -1) ∧ -(30 * (x * U)) ≤ u * U ∧ u * U ≤ 30 * (x * U) := fun u U hu => by
    by_cases hU : 0 ≤ U
    · have e1 : 0 ≤ (30 - u) * U := Int.mul_nonneg (by omega) hU
      have e2 : 0 ≤ (30 + u) * U := Int.mul_nonneg (by omega) hU
      rw [Int.sub_mul] at e1
      rw [Int.add_mul] at e2
      exact ⟨1, Or.inl rfl, by omega, by omega⟩
    · have e1 : 0 ≤ (30 - u) * (-U) := Int.mul_nonneg (by omega) (by omega)
      have e2 : 0 ≤ (30 + u) * (-U) := Int.mul_nonneg (by omega) (by omega)
      rw [Int.sub_mul, Int.mul_neg, Int.mul_neg] at e1
      rw [Int.add_mul, Int.mul_neg, Int.mul_neg] at e2
      exact ⟨-1, Or.inr rfl, by omega, by omega⟩
  obtain ⟨x, hx, x1, x2⟩ := one a P ha
  obtain ⟨y, hy, y1, y2⟩ := one b Q hb
  obtain ⟨z, hz, z1, z2⟩ := one c R hc
  have := h x y z hx hy hz
  omega
theorem dt_three (f : Nat → Nat → Int) : dt 3 f = f 0 0 * (f 1 1 * f 2 2 - f 1 2 * f 2 1) + f 0 1 * (f 1 2 * f 2 0 - f 1 0 * f 2 2) + f 0 2 * (f 1 0 * f 2 1 - f 1 1 * f 2 0) := by
  rw [dt_succ]
  simp only [sumN, dt_two, dr]
  simp [skip, sn]
  grind
theorem dt_three_bd {f : Nat → Nat → Int} (h : ∀ i j, i < 3 → j < 3 → -30 ≤ f i j ∧ f i j ≤ 30) : -108000 ≤ dt 3 f ∧ dt 3 f ≤ 108000 := by
  rw [dt_three]
  have g0 := h 2 0 (by omega) (by omega)
  have g1 := h 2 1 (by omega) (by omega)
  have g2 := h 2 2 (by omega) (by omega)
  refine tri_bd (M := 3600) (h 0 0 (by omega) (by omega)) (h 0 1 (by omega) (by omega)) (h 0 2 (by omega) (by omega)) (fun x y z hx hy hz => ?_)
  have e := tri_bd (M := 120) (P := z * f 2 1 - y * f 2 2) (Q := x * f 2 2 - z * f 2 0) (R := y * f 2 0 - x * f 2 1) (h 1 0 (by omega) (by omega)) (h 1 1 (by omega) (by omega)) (h 1 2 (by omega) (by omega)) (fun u v w hu hv hw => by
    rcases hx with rfl | rfl <;> rcases hy with rfl | rfl <;> rcases hz with rfl | rfl <;> rcases hu with rfl | rfl <;> rcases hv with rfl | rfl <;> rcases hw with rfl | rfl <;> omega)
  have e2 := e.2
  grind
def bdN : Nat → Int
  | 0 => 1
  | 1 => 30
  | 2 => 1800
  | 3 => 108000
  | 4 => 12960000
  | 5 => 1944000000
  | _ => 349920000000
theorem sumN_bdC {f : Nat → Int} {B : Int} : ∀ n : Nat, (∀ j, j < n → -B ≤ f j ∧ f j ≤ B) → -(n * B) ≤ sumN f n ∧ sumN f n ≤ n * B
  | 0, _ => by simp [sumN]
  | n + 1, h => by
    have h1 := sumN_bdC n (fun j hj => h j (by omega))
    have h2 := h n (by omega)
    unfold sumN
    rw [show ((n + 1 : Nat) : Int) * B = n * B + B by rw [Int.natCast_add, Int.add_mul]; simp]
    omega
theorem dt_step_bd {n : Nat} {f : Nat → Nat → Int} {B : Int} (h : ∀ i j, i < n + 1 → j < n + 1 → -30 ≤ f i j ∧ f i j ≤ 30) (hB : ∀ g : Nat → Nat → Int, (∀ i j, i < n → j < n → -30 ≤ g i j ∧ g i j ≤ 30) → -B ≤ dt n g ∧ dt n g ≤ B) : -((n + 1 : Nat) * (30 * B)) ≤ dt (n + 1) f ∧ dt (n + 1) f ≤ (n + 1 : Nat) * (30 * B) := by
  rw [dt_succ]
  refine sumN_bdC _ fun k hk => ?_
  have h1 := h 0 k (by omega) hk
  have h2 := hB (dr k f) (fun i j hi hj => h _ _ (by omega) (skip_bd hj))
  have e := tri_bd (a := f 0 k) (b := 0) (c := 0) (P := dt n (dr k f)) (Q := 0) (R := 0) (M := B) h1 (by omega) (by omega) (fun x y z hx _ _ => by rcases hx with rfl | rfl <;> omega)
  unfold sn
  split <;> omega
theorem dt_bd : ∀ (n : Nat) (f : Nat → Nat → Int), n ≤ 6 → (∀ i j, i < n → j < n → -30 ≤ f i j ∧ f i j ≤ 30) → -(bdN n) ≤ dt n f ∧ dt n f ≤ bdN n
  | 0, f, _, _ => by rw [dt_zero]; simp [bdN]
  | 1, f, _, h => by rw [dt_one]; exact h 0 0 (by omega) (by omega)
  | 2, f, _, h => dt_step_bd h (fun g hg => dt_bd 1 g (by omega) hg)
  | 3, f, _, h => dt_three_bd h
  | 4, f, _, h => dt_step_bd h (fun g hg => dt_bd 3 g (by omega) hg)
  | 5, f, _, h => dt_step_bd h (fun g hg => dt_bd 4 g (by omega) hg)
  | 6, f, _, h => dt_step_bd h (fun g hg => dt_bd 5 g (by omega) hg)
  | n + 7, f, h, _ => by omega
theorem bdN_le {n : Nat} (h : n ≤ 5) : bdN n ≤ 1944000000 := by
  have : n = 0 ∨ n = 1 ∨ n = 2 ∨ n = 3 ∨ n = 4 ∨ n = 5 := by omega
  rcases this with rfl | rfl | rfl | rfl | rfl | rfl <;> decide
theorem Bar.bd {N : Nat} {A : Nat → Nat → Int} {k : Nat} {t : Nat → Nat → Int} {q s : Int} {F : Nat → Nat → Int} (h : Bar N A k t q s F) (hN : N ≤ 6) (hA : ∀ i j, i < N → j < N → -30 ≤ A i j ∧ A i j ≤ 30) {i j : Nat} (hi : i < N - k) (hj : j < N - k) : -(bdN (k + 1)) ≤ t i j ∧ t i j ≤ bdN (k + 1) := by
  rw [h.entry hi hj]
  refine dt_bd _ _ (by omega) fun r c hr hc => ?_
  obtain ⟨r', c', h1, h2, e⟩ := h.src (pre k (fun _ => i) r) (pre k (fun _ => j) c) (by unfold pre; dsimp only; split <;> omega) (by unfold pre; dsimp only; split <;> omega)
  rw [e]
  exact hA _ _ h1 h2

end Go.Proofs.Ytkahgpgnfodpgaa
end

section
namespace Go.Proofs.Ytkahgpgnfodpgaa
open Go.RowKit Go.Deep

theorem sumN_more (f : Nat → Int) (n : Nat) : ∀ m, (∀ j, n ≤ j → j < n + m → f j = 0) → sumN f (n + m) = sumN f n
  | 0, _ => rfl
  | m + 1, h => by
    show sumN f (n + m) + f (n + m) = _
    rw [sumN_more f n m (fun j h1 h2 => h j h1 (by omega)), h (n + m) (by omega) (by omega)]
    omega
theorem sumN_one (f : Nat → Int) (k : Nat) : ∀ n, k < n → (∀ j, j < n → j ≠ k → f j = 0) → sumN f n = f k
  | 0, h, _ => by omega
  | n + 1, h, hz => by
    unfold sumN
    by_cases e : k = n
    · subst e
      rw [sumN_none k (fun j hj => hz j (by omega) (by omega))]; omega
    · rw [sumN_one f k n (by omega) (fun j hj hk => hz j (by omega) hk), hz n (by omega) (fun h => e h.symm)]; omega
theorem sumN_mulR (c : Int) (f : Nat → Int) (n : Nat) : sumN (fun j => f j * c) n = sumN f n * c := by
  rw [sumN_congr n (g := fun j => c * f j) (fun j _ => Int.mul_comm _ _), sumN_mul, Int.mul_comm]

theorem dt_block (m : Nat) : ∀ (n : Nat) (f : Nat → Nat → Int), (∀ i j, i < n → n ≤ j → j < n + m → f i j = 0) → dt (n + m) f = dt n f * dt m (fun i j => f (n + i) (n + j))
  | 0, f, _ => by
    rw [dt_zero, Int.one_mul, Nat.zero_add]
    exact dt_congr m fun i j _ _ => by rw [Nat.zero_add, Nat.zero_add]
  | n + 1, f, h => by
    rw [show n + 1 + m = (n + m) + 1 by omega, dt_succ, show n + m + 1 = (n + 1) + m by omega, sumN_more _ (n + 1) m (fun j h1 h2 => by rw [h 0 j (by omega) h1 h2]; simp), dt_succ, ← sumN_mulR]
    refine sumN_congr _ fun k hk => ?_
    rw [dt_block m n (dr k f) (fun i j h1 h2 h3 => by
      show f (i + 1) (skip k j) = 0
      rw [skip_ge (by omega)]
      exact h _ _ (by omega) (by omega) (by omega))]
    have e : dt m (fun i j => dr k f (n + i) (n + j)) = dt m (fun i j => f (n + 1 + i) (n + 1 + j)) := dt_congr m fun i j _ _ => by
      show f (n + i + 1) (skip k (n + j)) = _
      rw [skip_ge (by omega), show n + i + 1 = n + 1 + i by omega, show n + j + 1 = n + 1 + j by omega]
    rw [e, Int.mul_assoc, Int.mul_assoc]

theorem dt_addS {n r : Nat} (f : Nat → Nat → Int) (c : Nat → Int) (s : Nat → Nat) (hr : r < n) : ∀ k, (∀ m, m < k → s m < n ∧ s m ≠ r) → dt n (setR f r (fun j => f r j + sumN (fun m => c m * f (s m) j) k)) = dt n f
  | 0, _ => by
    rw [dt_congr n (g := f) (fun i j _ _ => by
      unfold setR
      split
      · rename_i h; rw [h]; simp [sumN]
      · rfl)]
  | k + 1, h => by
    have e : ∀ i j, setR f r (fun j => f r j + sumN (fun m => c m * f (s m) j) (k + 1)) i j = setR f r (fun j => 1 * (f r j + sumN (fun m => c m * f (s m) j) k) + c k * f (s k) j) i j := fun i j => by
      unfold setR
      split
      · show f r j + (sumN (fun m => c m * f (s m) j) k + c k * f (s k) j) = 1 * (f r j + sumN (fun m => c m * f (s m) j) k) + c k * f (s k) j
        omega
      · rfl
    obtain ⟨h1, h2⟩ := h k (by omega)
    rw [dt_congr n (fun i j _ _ => e i j), dt_lin n r f 1 (c k) _ _ hr, dt_addS f c s hr k (fun m hm => h m (by omega)), dt_sameR (setR f r (fun j => f (s k) j)) (Ne.symm h2) hr h1 (fun j _ => by unfold setR; rw [if_pos rfl, if_neg h2])]
    omega

def mulF (n : Nat) (A B : Nat → Nat → Int) (i j : Nat) : Int := sumN (fun m => A i m * B m j) n
def oneF (i j : Nat) : Int := if i = j then 1 else 0
def blk (n : Nat) (A B : Nat → Nat → Int) (i j : Nat) : Int := if i < n then (if j < n then A i j else 0) else (if j < n then (if i - n = j then -1 else 0) else B (i - n) (j - n))
def blkT (n : Nat) (A B : Nat → Nat → Int) (t i j : Nat) : Int := if i < t then (if j < n then 0 else mulF n A B i (j - n)) else blk n A B i j
theorem dt_blkT (n : Nat) (A B : Nat → Nat → Int) : ∀ t, t ≤ n → dt (n + n) (blkT n A B t) = dt (n + n) (blk n A B)
  | 0, _ => dt_congr _ fun i j _ _ => by unfold blkT; rw [if_neg (by omega)]
  | t + 1, ht => by
    rw [← dt_blkT n A B t (by omega), ← dt_addS (blkT n A B t) (A t) (fun m => n + m) (show t < n + n by omega) n (fun m hm => ⟨by omega, by omega⟩)]
    refine dt_congr _ fun i j _ hj => ?_
    unfold setR
    by_cases hi : i = t
    · subst hi
      rw [if_pos rfl]
      have e1 : blkT n A B (i + 1) i j = if j < n then 0 else mulF n A B i (j - n) := if_pos (by omega)
      have e2 : blkT n A B i i j = if j < n then A i j else 0 := by unfold blkT blk; rw [if_neg (by omega), if_pos (by omega)]
      have e3 : ∀ m, blkT n A B i (n + m) j = if j < n then (if m = j then -1 else 0) else B m (j - n) := fun m => by unfold blkT blk; rw [if_neg (by omega), if_neg (by omega), Nat.add_sub_cancel_left]
      show _ = blkT n A B i i j + sumN (fun m => A i m * blkT n A B i (n + m) j) n
      rw [e1, e2]
      by_cases hjn : j < n
      · rw [if_pos hjn, if_pos hjn, sumN_one (fun m => A i m * blkT n A B i (n + m) j) j n hjn (fun m _ hmj => by rw [e3, if_pos hjn, if_neg hmj]; simp), e3, if_pos hjn, if_pos rfl]
        omega
      · rw [if_neg hjn, if_neg hjn, Int.zero_add]
        exact sumN_congr n fun m _ => by rw [e3, if_neg hjn]
    · rw [if_neg hi]
      unfold blkT
      by_cases h1 : i < t
      · rw [if_pos (by omega), if_pos h1]
      · rw [if_neg (by omega), if_neg h1]
def colT (n t j : Nat) : Nat := if j < t then n + j else if n ≤ j ∧ j < n + t then j - n else j
theorem dt_colT (n : Nat) (f : Nat → Nat → Int) : ∀ t, t ≤ n → dt (n + n) (fun i j => f i (colT n t j)) = sn t * dt (n + n) f
  | 0, _ => by
    rw [sn_zero, Int.one_mul]
    exact dt_congr _ fun i j _ _ => by
      congr 1
      unfold colT
      rw [if_neg (by omega), if_neg (by omega)]
  | t + 1, ht => by
    have h := dt_exC (fun i j => f i (colT n t j)) (show t ≠ n + t by omega) (show t < n + n by omega) (show n + t < n + n by omega)
    rw [dt_colT n f t (by omega)] at h
    rw [sn_succ]
    have e : dt (n + n) (fun i j => f i (colT n (t + 1) j)) = dt (n + n) (fun i j => f i (colT n t (ex t (n + t) j))) := dt_congr _ fun i j _ _ => by
      congr 1
      unfold colT ex
      repeat (first | split | omega)
    rw [e, h]
    grind
theorem dt_oneF : ∀ n, dt n oneF = 1
  | 0 => rfl
  | n + 1 => by
    rw [dt_corner oneF (fun i _ => if_neg (by omega)), show oneF 0 0 = 1 from rfl, Int.one_mul]
    rw [dt_congr n (g := oneF) (fun i j _ _ => by unfold oneF; by_cases h : i = j <;> simp [h])]
    exact dt_oneF n
theorem pw_neg : ∀ n, pw (-1) n = sn n
  | 0 => rfl
  | n + 1 => by rw [sn_succ, ← pw_neg n]; show -1 * pw (-1) n = _; omega
theorem dt_mul (n : Nat) (A B : Nat → Nat → Int) : dt n (mulF n A B) = dt n A * dt n B := by
  have h1 : dt (n + n) (blk n A B) = dt n A * dt n B := by
    rw [dt_block n n (blk n A B) (fun i j h1 h2 _ => by unfold blk; rw [if_pos h1, if_neg (by omega)])]
    congr 1
    · exact dt_congr n fun i j hi hj => by unfold blk; rw [if_pos hi, if_pos hj]
    · exact dt_congr n fun i j _ _ => by unfold blk; rw [if_neg (by omega), if_neg (by omega), Nat.add_sub_cancel_left, Nat.add_sub_cancel_left]
  have h2 := dt_colT n (blkT n A B n) n (Nat.le_refl _)
  rw [dt_blkT n A B n (Nat.le_refl _), h1] at h2
  have h3 : dt (n + n) (fun i j => blkT n A B n i (colT n n j)) = dt n (mulF n A B) * sn n := by
    rw [dt_block n n _ (fun i j h1 h2 h3 => by
      show blkT n A B n i (colT n n j) = 0
      have ec : colT n n j = j - n := by unfold colT; rw [if_neg (by omega), if_pos ⟨h2, h3⟩]
      rw [ec]
      unfold blkT
      rw [if_pos h1, if_pos (by omega)])]
    congr 1
    · refine dt_congr n fun i j hi hj => ?_
      show blkT n A B n i (colT n n j) = _
      have ec : colT n n j = n + j := by unfold colT; rw [if_pos hj]
      rw [ec]
      unfold blkT
      rw [if_pos hi, if_neg (by omega), Nat.add_sub_cancel_left]
    · rw [dt_congr n (g := fun i j => -1 * oneF i j) (fun i j hi hj => by
        show blkT n A B n (n + i) (colT n n (n + j)) = _
        have ec : colT n n (n + j) = j := by unfold colT; rw [if_neg (by omega), if_pos (by omega), Nat.add_sub_cancel_left]
        rw [ec]
        unfold blkT blk oneF
        rw [if_neg (show ¬ n + i < n by omega), if_neg (show ¬ n + i < n by omega), if_pos hj, Nat.add_sub_cancel_left]
        by_cases e : i = j <;> simp [e]), dt_scale (-1) n oneF, dt_oneF, pw_neg]
      omega
  rw [h3] at h2
  have h4 := sn_sq n
  have h5 : dt n (mulF n A B) * (sn n * sn n) = sn n * sn n * (dt n A * dt n B) := by grind
  rw [h4] at h5
  omega

def selN (s n i : Nat) : Nat := ((sel s n n).map (·.1)).getD i 0
theorem pickTo_at (c : Nat) (x : List Int) (m j : Nat) (hj : j < (sel c m m).length) : (pickTo c x m m).getD j 0 = x.getD (selN c m j) 0 := by
  unfold pickTo selN
  simp [List.getD, hj]
theorem partL_at (l : List (List Int)) (s c : Nat) {i j : Nat} (hi : i < (sel s l.length l.length).length) (hj : j < (sel c (l.getD 0 []).length (l.getD 0 []).length).length) :
    at2 (partL l s c) i j = at2 l (selN s l.length i) (selN c (l.getD 0 []).length j) := by
  have e1 : (partL l s c).getD i [] = pickTo c (l.getD (selN s l.length i) []) (l.getD 0 []).length (l.getD 0 []).length := by
    unfold partL partRows selN
    simp [List.getD, hi]
  unfold at2
  rw [e1, pickTo_at _ _ _ _ hj]
theorem selN_but : ∀ n : Fin 7, ∀ k : Fin 6, ∀ j : Fin 6, k.val < n.val → j.val + 1 < n.val → selN (2 ^ n.val - 1 - 2 ^ k.val) n.val j.val = skip k.val j.val := by decide +kernel
theorem sel_but_len : ∀ n : Fin 7, ∀ k : Fin 6, k.val < n.val → (sel (2 ^ n.val - 1 - 2 ^ k.val) n.val n.val).length + 1 = n.val := by decide +kernel
theorem partL_but {l : List (List Int)} {n r k i j : Nat} (hn : l.length = n) (hw : (l.getD 0 []).length = n) (h6 : n ≤ 6) (hr : r < n) (hk : k < n) (hi : i + 1 < n) (hj : j + 1 < n) :
    at2 (partL l (2 ^ n - 1 - 2 ^ r) (2 ^ n - 1 - 2 ^ k)) i j = at2 l (skip r i) (skip k j) := by
  have l1 := sel_but_len ⟨n, by omega⟩ ⟨r, by omega⟩ hr
  have l2 := sel_but_len ⟨n, by omega⟩ ⟨k, by omega⟩ hk
  simp only at l1 l2
  rw [partL_at l _ _ (by rw [hn]; omega) (by rw [hw]; omega), hn, hw]
  have e1 := selN_but ⟨n, by omega⟩ ⟨r, by omega⟩ ⟨i, by omega⟩ hr hi
  have e2 := selN_but ⟨n, by omega⟩ ⟨k, by omega⟩ ⟨j, by omega⟩ hk hj
  simp only at e1 e2
  rw [e1, e2]
theorem rowF_dt : ∀ (d : Nat) (l : List (List Int)), SqD d l → rowF d l = dt d (at2 l)
  | 0, _, _ => rfl
  | d + 1, l, h => by
    obtain ⟨hT, hw⟩ := h.2 (by omega)
    have h6 := hT.2.1
    have hn := h.1
    rw [rowF_succ, dt_succ]
    refine sumN_congr _ fun k hk => ?_
    rw [sg_sn, rowF_dt d _ (minor_sq h hk)]
    have e : dt d (at2 (minorL l (d + 1) k)) = dt d (dr k (at2 l)) := dt_congr d fun i j hi hj => by
      have := partL_but (r := 0) (k := k) (i := i) (j := j) hn hw (by omega) (by omega) hk (by omega) (by omega)
      exact this
    rw [e]

end Go.Proofs.Ytkahgpgnfodpgaa
end

section
namespace Go.Proofs.Ytkahgpgnfodpgaa

def pr (c : Nat → Int) : Nat → Int
  | 0 => 1
  | n + 1 => c 0 * pr (fun i => c (i + 1)) n
theorem dt_rows : ∀ (n : Nat) (c : Nat → Int) (h : Nat → Nat → Int), dt n (fun i j => c i * h i j) = pr c n * dt n h
  | 0, _, _ => by simp [dt, pr]
  | n + 1, c, h => by
    rw [dt_succ, dt_succ, ← sumN_mul]
    refine sumN_congr _ fun k _ => ?_
    rw [show dr k (fun i j => c i * h i j) = fun i j => (fun i => c (i + 1)) i * dr k h i j from rfl, dt_rows n]
    show sn k * (c 0 * h 0 k * (pr (fun i => c (i + 1)) n * dt n (dr k h))) = c 0 * pr (fun i => c (i + 1)) n * (sn k * (h 0 k * dt n (dr k h)))
    grind

theorem vd_op (n : Nat) (g : Nat → Nat → Int) (c : Int) : ∀ t, t ≤ n → dt (n + 1) (fun k i => if n - t < k then g k i + c * g (k - 1) i else g k i) = dt (n + 1) g
  | 0, _ => dt_congr _ fun k i hk _ => by
    rw [if_neg (by omega)]
  | t + 1, ht => by
    rw [← vd_op n g c t (by omega), dt_congr (n + 1) (g := setR (fun k i => if n - t < k then g k i + c * g (k - 1) i else g k i) (n - t) (fun j => 1 * (if n - t < n - t then g (n - t) j + c * g (n - t - 1) j else g (n - t) j) + c * (if n - t < n - t - 1 then g (n - t - 1) j + c * g (n - t - 1 - 1) j else g (n - t - 1) j))) (fun k i hk _ => by
      unfold setR
      simp only
      by_cases e : k = n - t
      · subst e
        rw [if_pos rfl, if_pos (by omega), if_neg (by omega), if_neg (by omega)]
        omega
      · rw [if_neg e]
        by_cases h : n - t < k
        · rw [if_pos h, if_pos (by omega)]
        · rw [if_neg h, if_neg (by omega)])]
    have h := dt_add (n := n + 1) (r := n - t) (s := n - t - 1) (fun k i => if n - t < k then g k i + c * g (k - 1) i else g k i) 1 c (by omega) (by omega) (by omega)
    rw [h]
    omega

def vdF : (Nat → Int) → Nat → Int
  | _, 0 => 1
  | x, n + 1 => pr (fun i => x (i + 1) - x 0) n * vdF (fun i => x (i + 1)) n
theorem dt_pow : ∀ (n : Nat) (x : Nat → Int), dt n (fun i k => (x i) ^ k) = vdF x n
  | 0, _ => rfl
  | n + 1, x => by
    rw [← dt_turn (n + 1) (fun i k => (x i) ^ k), ← vd_op n (fun k i => (x i) ^ k) (-(x 0)) n (Nat.le_refl _)]
    rw [← dt_turn, dt_congr (n + 1) (g := fun i k => if 0 < k then (x i - x 0) * (x i) ^ (k - 1) else 1) (fun i k _ _ => by
      simp only [Nat.sub_self]
      by_cases h : 0 < k
      · rw [if_pos h, if_pos h]
        obtain ⟨k, rfl⟩ : ∃ j, k = j + 1 := ⟨k - 1, by omega⟩
        simp only [Nat.add_sub_cancel, Int.pow_succ]
        grind
      · rw [if_neg h, if_neg h, show k = 0 by omega, Int.pow_zero])]
    rw [← dt_turn, dt_corner _ (fun k _ => by simp)]
    simp only [Nat.lt_irrefl, if_false, Nat.succ_pos, if_true, Nat.add_sub_cancel, Int.one_mul]
    rw [dt_turn n (fun i k => (x (i + 1) - x 0) * (x (i + 1)) ^ k)]
    rw [dt_rows n (fun i => x (i + 1) - x 0) (fun i k => (x (i + 1)) ^ k), dt_pow n (fun i => x (i + 1))]
    rfl

def vdI (x : List Int) (i : Nat) (p : Int) : Nat → Int
  | 0 => p
  | k + 1 => vdI x i p k * (x.getD i 0 - x.getD k 0)
def vdO (x : List Int) : Nat → Int
  | 0 => 1
  | i + 1 => vdI x i (vdO x i) i
theorem vdF_vdO (x : List Int) : ∀ n : Nat, n ≤ 6 → vdF (fun i => x.getD i 0) n = vdO x n := by
  intro n hn
  have h : n = 0 ∨ n = 1 ∨ n = 2 ∨ n = 3 ∨ n = 4 ∨ n = 5 ∨ n = 6 := by omega
  rcases h with rfl | rfl | rfl | rfl | rfl | rfl | rfl <;> simp only [vdF, pr, vdO, vdI, Int.one_mul, Int.mul_one, Nat.reduceAdd] <;> ac_rfl

theorem vdI_zero (x : List Int) (i : Nat) (p : Int) : ∀ k, vdI x i p k = 0 ↔ p = 0 ∨ ∃ t, t < k ∧ x.getD i 0 = x.getD t 0
  | 0 => by simp [vdI]
  | k + 1 => by
    rw [show vdI x i p (k + 1) = vdI x i p k * (x.getD i 0 - x.getD k 0) from rfl, Int.mul_eq_zero, vdI_zero x i p k]
    constructor
    · rintro ((h | ⟨t, h1, h2⟩) | h)
      · exact .inl h
      · exact .inr ⟨t, by omega, h2⟩
      · exact .inr ⟨k, by omega, by omega⟩
    · rintro (h | ⟨t, h1, h2⟩)
      · exact .inl (.inl h)
      · rcases Nat.lt_succ_iff_lt_or_eq.1 h1 with h | h
        · exact .inl (.inr ⟨t, h, h2⟩)
        · subst h; exact .inr (by omega)
theorem vdO_zero (x : List Int) : ∀ m, vdO x m = 0 ↔ ∃ i k, i < m ∧ k < i ∧ x.getD i 0 = x.getD k 0
  | 0 => by simp [vdO]
  | m + 1 => by
    rw [show vdO x (m + 1) = vdI x m (vdO x m) m from rfl, vdI_zero, vdO_zero x m]
    constructor
    · rintro (⟨i, k, h1, h2, h3⟩ | ⟨t, h1, h2⟩)
      · exact ⟨i, k, by omega, h2, h3⟩
      · exact ⟨m, t, by omega, h1, h2⟩
    · rintro ⟨i, k, h1, h2, h3⟩
      rcases Nat.lt_succ_iff_lt_or_eq.1 h1 with h | h
      · exact .inl ⟨i, k, h, h2, h3⟩
      · subst h; exact .inr ⟨k, h2, h3⟩

theorem vdI_swap {x y : List Int} (h0 : y.getD 0 0 = x.getD 1 0) (h1 : y.getD 1 0 = x.getD 0 0) (h : ∀ j, 2 ≤ j → y.getD j 0 = x.getD j 0) {i : Nat} (hi : 2 ≤ i) (p : Int) : ∀ k, vdI y i (-p) (k + 2) = -vdI x i p (k + 2)
  | 0 => by
    simp only [vdI]
    rw [h i hi, h0, h1]
    grind
  | k + 1 => by
    rw [show vdI y i (-p) (k + 1 + 2) = vdI y i (-p) (k + 2) * (y.getD i 0 - y.getD (k + 2) 0) from rfl, vdI_swap h0 h1 h hi p k, h i hi, h (k + 2) (by omega),
      show vdI x i p (k + 1 + 2) = vdI x i p (k + 2) * (x.getD i 0 - x.getD (k + 2) 0) from rfl, Int.neg_mul]
theorem vdO_swap {x y : List Int} (h0 : y.getD 0 0 = x.getD 1 0) (h1 : y.getD 1 0 = x.getD 0 0) (h : ∀ j, 2 ≤ j → y.getD j 0 = x.getD j 0) : ∀ m, vdO y (m + 2) = -vdO x (m + 2)
  | 0 => by
    simp only [vdO, vdI]
    rw [h0, h1]
    omega
  | m + 1 => by
    rw [show vdO y (m + 1 + 2) = vdI y (m + 2) (vdO y (m + 2)) (m + 2) from rfl, vdO_swap h0 h1 h m, vdI_swap h0 h1 h (by omega)]
    rfl

def p18 : Nat → Int
  | 0 => 1
  | n + 1 => 18 * p18 n
def tri : Nat → Nat
  | 0 => 0
  | n + 1 => tri n + n
theorem p18_pos : ∀ n, 1 ≤ p18 n
  | 0 => by simp [p18]
  | n + 1 => by have := p18_pos n; simp only [p18]; omega
theorem p18_mono {m : Nat} : ∀ n, m ≤ n → p18 m ≤ p18 n
  | 0, h => by rw [show m = 0 by omega]; exact Int.le_refl _
  | n + 1, h => by
    by_cases e : m = n + 1
    · rw [e]; exact Int.le_refl _
    · have h1 := p18_mono n (show m ≤ n by omega)
      have h2 := p18_pos n
      simp only [p18]; omega
theorem p18_le {n : Nat} (h : n ≤ 15) : p18 n ≤ 6746640616477458432 := by
  have h1 := p18_mono 15 h
  have h2 : p18 15 = 6746640616477458432 := by decide
  omega
theorem vdI_bd {x : List Int} (hx : ∀ j, -9 ≤ x.getD j 0 ∧ x.getD j 0 ≤ 9) (i : Nat) (p : Int) (t : Nat) (hp : -(p18 t) ≤ p ∧ p ≤ p18 t) : ∀ k, -(p18 (t + k)) ≤ vdI x i p k ∧ vdI x i p k ≤ p18 (t + k)
  | 0 => hp
  | k + 1 => by
    have h := vdI_bd hx i p t hp k
    have a := hx i
    have b := hx k
    simp only [vdI]
    rw [show p18 (t + (k + 1)) = 18 * p18 (t + k) from rfl]
    generalize vdI x i p k = q at *
    generalize p18 (t + k) = P at *
    obtain ⟨d, hd⟩ : ∃ d, x.getD i 0 - x.getD k 0 = d := ⟨_, rfl⟩
    rw [hd]
    have h1 : (P + q) * (18 - d) ≥ 0 := Int.mul_nonneg (by omega) (by omega)
    have h2 : (P + q) * (18 + d) ≥ 0 := Int.mul_nonneg (by omega) (by omega)
    have h3 : (P - q) * (18 + d) ≥ 0 := Int.mul_nonneg (by omega) (by omega)
    have h4 : (P - q) * (18 - d) ≥ 0 := Int.mul_nonneg (by omega) (by omega)
    simp only [Int.add_mul, Int.sub_mul, Int.mul_add, Int.mul_sub] at h1 h2 h3 h4
    omega
theorem vdO_bd {x : List Int} (hx : ∀ j, -9 ≤ x.getD j 0 ∧ x.getD j 0 ≤ 9) : ∀ i, -(p18 (tri i)) ≤ vdO x i ∧ vdO x i ≤ p18 (tri i)
  | 0 => by simp [vdO, tri, p18]
  | i + 1 => vdI_bd hx i (vdO x i) (tri i) (vdO_bd hx i) i
theorem tri_le : ∀ i : Fin 6, tri i.val + i.val ≤ 15 := by decide
theorem vdI_lt {x : List Int} (hx : ∀ j, -9 ≤ x.getD j 0 ∧ x.getD j 0 ≤ 9) {i k : Nat} (hi : i < 6) (hk : k ≤ i) : -6746640616477458432 ≤ vdI x i (vdO x i) k ∧ vdI x i (vdO x i) k ≤ 6746640616477458432 := by
  have h := vdI_bd hx i (vdO x i) (tri i) (vdO_bd hx i) k
  have h2 := tri_le ⟨i, hi⟩
  have h3 := p18_le (n := tri i + k) (by simp only at h2; omega)
  omega

def onF (a b : Int) (i k : Nat) : Int := if i = k then a else b
theorem on_step (n : Nat) (a b : Int) : ∀ t, t ≤ n → dt (n + 1) (fun i j => if i = 0 then b else if i ≤ t then (if i = j then a - b else 0) else onF a b i j) = dt (n + 1) (fun i j => if i = 0 then b else onF a b i j)
  | 0, _ => dt_congr _ fun i j _ _ => by
    by_cases e : i = 0
    · rw [if_pos e, if_pos e]
    · rw [if_neg e, if_neg e, if_neg (by omega)]
  | t + 1, ht => by
    rw [← on_step n a b t (by omega)]
    have h := dt_add (n := n + 1) (r := t + 1) (s := 0) (fun i j => if i = 0 then b else if i ≤ t then (if i = j then a - b else 0) else onF a b i j) 1 (-1) (by omega) (by omega) (by omega)
    rw [Int.one_mul] at h
    rw [← h]
    refine dt_congr _ fun i j _ _ => ?_
    unfold setR
    by_cases e : i = 0
    · rw [if_pos e, if_neg (by omega)]; dsimp only; rw [if_pos e]
    · by_cases e2 : i = t + 1
      · subst e2
        rw [if_neg (by omega), if_pos (Nat.le_refl _), if_pos rfl]
        simp only [Nat.succ_ne_zero, if_false, if_true, show ¬ (t + 1 ≤ t) by omega]
        unfold onF
        by_cases e3 : t + 1 = j
        · rw [if_pos e3, if_pos e3]; omega
        · rw [if_neg e3, if_neg e3]; omega
      · rw [if_neg e, if_neg e2]; dsimp only; rw [if_neg e]
        by_cases e4 : i ≤ t
        · rw [if_pos (by omega), if_pos e4]
        · rw [if_neg (by omega), if_neg e4]
theorem pr_same (c : Int) : ∀ n, pr (fun _ => c) n = pw c n
  | 0 => rfl
  | n + 1 => by rw [show pr (fun _ => c) (n + 1) = c * pr (fun _ => c) n from rfl, pr_same c n]; rfl
theorem on_low (n : Nat) (a b : Int) : dt (n + 1) (fun i j => if i = 0 then b else onF a b i j) = b * pw (a - b) n := by
  rw [← on_step n a b n (Nat.le_refl _), dt_congr (n + 1) (g := fun i j => if i = 0 then b else if i = j then a - b else 0) (fun i j hi _ => by
    by_cases e : i = 0
    · rw [if_pos e, if_pos e]
    · rw [if_neg e, if_neg e, if_pos (by omega)]),
    dt_corner _ (fun i _ => by rw [if_neg (by omega), if_neg (by omega)]), if_pos rfl]
  congr 1
  rw [dt_congr n (g := fun i j => (fun _ => a - b) i * oneF i j) (fun i j _ _ => by
    unfold oneF
    dsimp only
    rw [if_neg (by omega)]
    by_cases e : i = j
    · rw [if_pos (by omega), if_pos e]; omega
    · rw [if_neg (by omega), if_neg e]; omega), dt_rows, dt_oneF, Int.mul_one, pr_same]
theorem dt_on (a b : Int) : ∀ n : Nat, dt (n + 1) (onF a b) = pw (a - b) n * (a + n * b)
  | 0 => by rw [dt_one]; simp [onF, pw]
  | n + 1 => by
    have h := dt_add (n := n + 1 + 1) (r := 0) (s := 1) (onF a b) 1 (-1) (by omega) (by omega) (by omega)
    rw [Int.one_mul] at h
    rw [← h, dt_succ, sumN_first, sumN_first, sumN_none n (fun j _ => by
      show sn (j + 1 + 1) * (setR (onF a b) 0 _ 0 (j + 1 + 1) * _) = 0
      have e : (1 * onF a b 0 (j + 1 + 1) + -1 * onF a b 1 (j + 1 + 1)) = 0 := by unfold onF; rw [if_neg (by omega), if_neg (by omega)]; omega
      show sn (j + 1 + 1) * ((1 * onF a b 0 (j + 1 + 1) + -1 * onF a b 1 (j + 1 + 1)) * _) = 0
      rw [e]; simp)]
    have e0 : dt (n + 1) (dr 0 (setR (onF a b) 0 (fun j => 1 * onF a b 0 j + -1 * onF a b 1 j))) = dt (n + 1) (onF a b) := dt_congr _ fun i j _ _ => by
      unfold dr setR onF
      rw [if_neg (by omega), skip_zero]
      by_cases e : i = j
      · rw [if_pos (by omega), if_pos e]
      · rw [if_neg (by omega), if_neg e]
    have e1 : dt (n + 1) (dr 1 (setR (onF a b) 0 (fun j => 1 * onF a b 0 j + -1 * onF a b 1 j))) = dt (n + 1) (fun i j => if i = 0 then b else onF a b i j) := dt_congr _ fun i j _ _ => by
      unfold dr setR onF
      rw [if_neg (by omega)]
      by_cases e : i = 0
      · subst e
        rw [if_pos rfl]
        by_cases e2 : j = 0
        · subst e2; rw [skip_lt (by omega), if_neg (by omega)]
        · rw [skip_ge (by omega), if_neg (by omega)]
      · rw [if_neg e]
        by_cases e2 : j = 0
        · subst e2; rw [skip_lt (by omega), if_neg (by omega), if_neg (by omega)]
        · rw [skip_ge (by omega)]
          by_cases e3 : i = j
          · rw [if_pos (by omega), if_pos e3]
          · rw [if_neg (by omega), if_neg e3]
    show sn 0 * (_ * dt (n + 1) (dr 0 _)) + (sn 1 * (_ * dt (n + 1) (dr 1 _)) + 0) = _
    rw [e0, e1, dt_on a b n, on_low, show sn 0 = 1 from rfl, show sn 1 = -1 from rfl]
    show 1 * ((if (0 : Nat) = 0 then 1 * onF a b 0 0 + -1 * onF a b 1 0 else _) * _) + (-1 * ((if (0 : Nat) = 0 then 1 * onF a b 0 1 + -1 * onF a b 1 1 else _) * _) + 0) = (a - b) * pw (a - b) n * _
    rw [if_pos rfl, if_pos rfl, show onF a b 0 0 = a from rfl, show onF a b 1 0 = b from rfl, show onF a b 0 1 = b from rfl, show onF a b 1 1 = a from rfl]
    rw [show ((n + 1 : Nat) : Int) = (n : Int) + 1 by omega]
    generalize pw (a - b) n = P
    grind
theorem pw_zero_iff (p : Int) : ∀ n, pw p (n + 1) = 0 ↔ p = 0
  | 0 => by simp [pw]
  | n + 1 => by
    rw [show pw p (n + 1 + 1) = p * pw p (n + 1) from rfl, Int.mul_eq_zero, pw_zero_iff p n]
    simp

theorem dt_sums {n : Nat} (f : Nat → Nat → Int) (s : Int) (h : ∀ j, j < n + 1 → sumN (fun i => f i j) (n + 1) = s) : dt (n + 1) f = s * dt (n + 1) (setR f 0 (fun _ => 1)) := by
  have h1 := dt_addS (n := n + 1) (r := 0) f (fun _ => 1) (fun m => m + 1) (by omega) n (fun m hm => ⟨by omega, by omega⟩)
  rw [← h1, dt_congr (n + 1) (g := setR f 0 (fun j => s * (fun _ => 1) j + 0 * (fun _ => 1) j)) (fun i j _ hj => by
    unfold setR
    by_cases e : i = 0
    · rw [if_pos e, if_pos e]
      have h2 := h j hj
      rw [sumN_first] at h2
      show f 0 j + sumN (fun m => 1 * f (m + 1) j) n = s * 1 + 0 * 1
      rw [sumN_congr n (g := fun m => f (m + 1) j) (fun m _ => by simp), h2]
      omega
    · rw [if_neg e, if_neg e]), dt_lin (n + 1) 0 f s 0 (fun _ => 1) (fun _ => 1) (by omega)]
  omega

end Go.Proofs.Ytkahgpgnfodpgaa
end

section
namespace Go.Proofs.Ytkahgpgnfodpgaa
open Go.RowKit Go.Deep

def ListK (x : List Int) (most : Int) (k : Nat) : Prop := ∀ j, j < k → inB (x.getD j 0) (-most) most = true
open Classical in
noncomputable def l8B (x : List Int) (most : Int) : Bool := decide (ListK x most x.length) && inB x.length 1 6
theorem ListK.succ {x : List Int} {most : Int} {k : Nat} (h : ListK x most k) (hk : inB (x.getD k 0) (-most) most = true) : ListK x most (k + 1) := fun j hj => by
  rcases Nat.lt_succ_iff_lt_or_eq.1 hj with hlt | heq
  · exact h j hlt
  · rw [heq]; exact hk
theorem l8B_no {x : List Int} {most : Int} (h : ¬ ListK x most x.length) : l8B x most = false := by simp [l8B, h]
theorem l8B_all {x : List Int} {most : Int} (h : ListK x most x.length) : l8B x most = inB x.length 1 6 := by simp [l8B, h]
theorem l8B_of {x : List Int} {most : Int} (h : l8B x most = true) : ListK x most x.length ∧ 1 ≤ x.length ∧ x.length ≤ 6 := by
  simp only [l8B, Bool.and_eq_true, decide_eq_true_eq] at h
  refine ⟨h.1, ?_⟩
  have := h.2
  simp [inB] at this
  omega

set_option maxHeartbeats 1000000 in
theorem l8List_any (a : Option Addr) (cap m : Nat) (x : List Int) (most : Int) (w : World) (hmo : 0 ≤ most ∧ most ≤ 1000) (hn : x.length = m) (h63 : m ≤ 9223372036854775807) (hm : RowR w a x) :
    Calls Try.prog 67 #[.slice a m cap, .int .i64 most] w fun e w' => e = .returned (.bool (l8B x most)) ∧ w = w' := by
  have H := Lib.hid hn; clear hn
  go_enter Try.func67, Try.ntmps67
  go_wp2
  go_loopg [5] m (fun g i wr => ∃ k : Nat, k ≤ m ∧ g = m - k ∧ i = .int .i64 k ∧ w = wr ∧ ListK x most k)
  case atStart => exact ⟨0, Nat.zero_le _, rfl, rfl, rfl, fun r hr => absurd hr (Nat.not_lt_zero _)⟩
  case round =>
    obtain ⟨k, hk, rfl, rfl, rfl, hN⟩ := hrel
    by_cases hlt : k < m
    · obtain ⟨b, o, rfl, hc⟩ := hm (by rw [H.out]; omega)
      have cj := hc k (by rw [H.out]; exact hlt)
      obtain ⟨y, hy⟩ : ∃ y, y = x.getD k 0 := ⟨_, rfl⟩
      rw [← hy] at cj
      have HY := Lib.hid hy
      clear hc hy hm
      have E1 := l6In_any y (-most) most w
      cases hiy : inB y (-most) most with
      | true =>
        rw [hiy] at E1
        replace E1 := Lib.hid E1
        have HI := Lib.hid hiy
        clear hiy
        go_wp2_with fail
        refine (E1.out).mono ?_
        rintro e w' ⟨rfl, rfl⟩
        go_wp2
        go_roundg (m - (k + 1))
        case measure => omega
        case rel => exact ⟨k + 1, by omega, rfl, by go_num, rfl, hN.succ (by rw [← HY.out]; exact HI.out)⟩
      | false =>
        rw [hiy] at E1
        replace E1 := Lib.hid E1
        have HI := Lib.hid hiy
        clear hiy
        have hno := Lib.hid (l8B_no (x := x) (most := most) fun hT => by
          have := hT k (by rw [H.out]; exact hlt)
          rw [← HY.out, HI.out] at this
          exact Bool.noConfusion this)
        go_wp2_with fail
        refine (E1.out).mono ?_
        rintro e w' ⟨rfl, rfl⟩
        go_wp2
        go_ret
        exact ⟨by rw [hno.out]; rfl, rfl⟩
    · have hkm : k = m := by omega
      subst hkm
      have hal := Lib.hid (l8B_all (x := x) (most := most) (by rw [H.out]; exact hN))
      have E2 := Lib.hid (l6In_any (k : Int) 1 6 w)
      go_wp2_with fail
      refine (E2.out).mono ?_
      rintro e w' ⟨rfl, rfl⟩
      go_wp2
      go_ret
      exact ⟨by rw [hal.out, H.out]; rfl, rfl⟩

def pwRow (x : List Int) (i k : Nat) : List Int := (List.range k).map fun j => (x.getD i 0) ^ j
theorem pwRow_succ (x : List Int) (i k : Nat) : pwRow x i (k + 1) = pwRow x i k ++ [(x.getD i 0) ^ k] := by simp [pwRow, List.range_succ]
theorem pwRow_length (x : List Int) (i k : Nat) : (pwRow x i k).length = k := by simp [pwRow]
theorem pwRow_at (x : List Int) (i : Nat) {k j : Nat} (h : j < k) : (pwRow x i k).getD j 0 = (x.getD i 0) ^ j := by simp [pwRow, List.getD, h]
def pwTo (x : List Int) (m r : Nat) : List (List Int) := tabF r m fun i k => (x.getD i 0) ^ k
theorem pwTo_succ (x : List Int) (m r : Nat) : pwTo x m (r + 1) = pwTo x m r ++ [pwRow x r m] := by simp [pwTo, tabF, pwRow, List.range_succ]
theorem pwTo_length (x : List Int) (m r : Nat) : (pwTo x m r).length = r := tabF_length _ _ _
theorem pow_bd {y : Int} (h : -30 ≤ y ∧ y ≤ 30) : ∀ t : Nat, -((30 : Int) ^ t) ≤ y ^ t ∧ y ^ t ≤ (30 : Int) ^ t
  | 0 => by simp
  | t + 1 => by
    obtain ⟨i1, i2⟩ := pow_bd h t
    rw [Int.pow_succ, Int.pow_succ]
    generalize (30 : Int) ^ t = A at *
    generalize y ^ t = b at *
    have h1 : (A + b) * (30 - y) ≥ 0 := Int.mul_nonneg (by omega) (by omega)
    have h2 : (A + b) * (30 + y) ≥ 0 := Int.mul_nonneg (by omega) (by omega)
    have h3 : (A - b) * (30 + y) ≥ 0 := Int.mul_nonneg (by omega) (by omega)
    have h4 : (A - b) * (30 - y) ≥ 0 := Int.mul_nonneg (by omega) (by omega)
    simp only [Int.add_mul, Int.sub_mul, Int.mul_add, Int.mul_sub] at h1 h2 h3 h4
    omega
theorem pow30 : ∀ t : Fin 6, (30 : Int) ^ t.val ≤ 24300000 := by decide +kernel
theorem pow_bd5 {y : Int} (h : -30 ≤ y ∧ y ≤ 30) {t : Nat} (ht : t ≤ 5) : -24300000 ≤ y ^ t ∧ y ^ t ≤ 24300000 := by
  have h1 := pow_bd h t
  have h2 := pow30 ⟨t, by omega⟩
  simp only at h2
  omega
theorem rb_one (w : World) (v : Int) : RB w (w.alloc (.cells #[.int .i64 v] 3)) (.slice (some ⟨w.heap.size, 0, none⟩) 1 1) [v] :=
  ⟨(World.Since.refl _ _).alloc (Nat.le_refl _) _, by simp, .inr ⟨w.heap.size, 1, #[.int .i64 v], rfl, Nat.le_refl _, heap_alloc_new w _, Nat.le_refl _, by unfold maxLen; omega, by simp, by simp⟩⟩

set_option maxRecDepth 100000 in
set_option maxHeartbeats 4000000 in
theorem specKnownPowers_any (a : Option Addr) (cap m : Nat) (x : List Int) (w : World) (hn : x.length = m) (h63 : m ≤ 9223372036854775807) (hm : RowR w a x) :
    Calls Try.prog 17 #[.slice a m cap] w fun e w' => ∃ a' cap', e = .returned (.tuple #[.slice a' (resT (l8B x 30 && tabIn (pwTo x m m)) (pwTo x m m)).length cap', .bool (l8B x 30 && tabIn (pwTo x m m))]) ∧ w.Since w.heap.size w' ∧ InT w.heap.size w'.heap.size w' a' (resT (l8B x 30 && tabIn (pwTo x m m)) (pwTo x m m)) := by
  have E := l8List_any a cap m x 30 w ⟨by omega, by omega⟩ hn h63 hm
  cases hok : l8B x 30 with
  | false =>
    rw [hok] at E
    replace E := Lib.hid E
    simp only [Bool.false_and]
    clear hok hm hn
    go_enter Try.func17, Try.ntmps17
    go_wp2_with fail
    refine (E.out).mono ?_
    rintro e w' ⟨rfl, rfl⟩
    go_wp2_with fail
    refine (l1None_any w).mono ?_
    rintro e w2 ⟨rfl, hs2⟩
    go_wp2
    go_ret2
    exact ⟨_, _, rfl, hs2, InT.nil _ _ _ _⟩
  | true =>
    rw [hok] at E
    replace E := Lib.hid E
    simp only [Bool.true_and]
    obtain ⟨hk, h1, h6⟩ := l8B_of hok
    rw [hn] at hk h1 h6
    obtain ⟨i42, hi42⟩ := info42_parts
    obtain ⟨i3, hi3⟩ := info3_parts
    have HI := Lib.hid hi42
    have HJ := Lib.hid hi3
    obtain ⟨bx, ox, rfl, hcx⟩ := hm (by omega)
    have HX := Lib.hid (fun (W : World) (hd : w.Since w.heap.size W) (k : Nat) (hk : k < m) => by
      have c := hcx k (by omega)
      exact (hd.cell (a := ⟨bx, ox + k, none⟩) (World.block_lt_of_cell? _ _ c)).trans c)
    have hst := bt_start w (fun _ => none) (fun _ => 0) #[] rfl
    have HST := Lib.hid hst
    have HK := Lib.hid hk
    have hsz : szL (pwTo x m m) ≤ 1048576 := szL_tabF _ _ _ (by omega) (by omega)
    clear hi42 hi3 hm hcx hn hok hst hk
    go_enter Try.func17, Try.ntmps17
    go_wp2_with fail
    refine (E.out).mono ?_
    rintro e w' ⟨rfl, rfl⟩
    go_wp2
    go_loopg [4, 5, 6, 7] m (fun g v k _ _ wr => ∃ r : Nat, ∃ A C, r ≤ m ∧ g = m - r ∧ k = .int .i64 r ∧ BT w wr v (pwTo x m r) A C)
    case atStart => exact ⟨0, _, _, Nat.zero_le _, rfl, rfl, HST.out⟩
    case round =>
      obtain ⟨r, A, C, hr, rfl, rfl, hR⟩ := hrel
      clear HST
      by_cases hlt : r < m
      · have HR := Lib.hid hR
        have hrb := rb_one wr 1
        have HRB := Lib.hid (show RB wr (wr.alloc (.cells #[.int .i64 1] 3)) (.slice (some ⟨wr.heap.size, 0, none⟩) 1 1) (pwRow x r 1) by rw [show pwRow x r 1 = [1] by simp [pwRow]]; exact hrb)
        have hsz2 := hR.since.size
        have hlen := pwTo_length x m r
        obtain ⟨wo, rfl⟩ : ∃ wo : World, wo = wr := ⟨_, rfl⟩
        have hy30 := HK.out r hlt
        simp only [inB, decide_eq_true_eq] at hy30
        clear hR hrb
        go_wp2
        go_loopg [6, 7] m (fun g v i wi => ∃ t : Nat, t + 1 ≤ m ∧ g = m - t ∧ i = .int .i64 ((t : Int) + 1) ∧ RB wo wi v (pwRow x r (t + 1)))
        case atStart => exact ⟨0, by omega, rfl, rfl, HRB.out⟩
        case round =>
          obtain ⟨t, ht, rfl, rfl, hI⟩ := hrel
          clear HRB
          have hzi := hI.since.size
          have hle := pwRow_length x r (t + 1)
          by_cases htm : t + 1 < m
          · have hS := HR.out.since.trans (since_mono hI.since hsz2)
            have cx := HX.out wr hS r hlt
            obtain ⟨ra, rcp, hv, hrow⟩ := hI.slice
            rw [hle] at hv
            subst hv
            obtain ⟨G, rfl, hG, hB⟩ := hrow (by omega)
            have c1 := hB.cell (i := t) (by omega)
            rw [pwRow_at x r (by omega)] at c1
            have hp := pow_bd5 hy30 (t := t) (by omega)
            have hq := pow_bd5 hy30 (t := t + 1) (by omega)
            have HS1 := Lib.hid (pwRow_succ x r (t + 1))
            have hpq := Int.pow_succ (x.getD r 0) t
            obtain ⟨y, hy⟩ : ∃ y, x.getD r 0 = y := ⟨_, rfl⟩
            obtain ⟨p, hpp⟩ : ∃ p, (x.getD r 0) ^ t = p := ⟨_, rfl⟩
            obtain ⟨q, hqq⟩ : ∃ q, (x.getD r 0) ^ (t + 1) = q := ⟨_, rfl⟩
            rw [hqq] at hq hpq
            rw [hpp] at hp hpq c1
            rw [hy] at hpq cx
            replace HS1 := Lib.hid (hqq ▸ HS1.out)
            have hsub : IntKind.i64.wrap ((t : Int) + 1 - 1) = (t : Int) := (IntWalk.i64_in _ ⟨by omega, by omega⟩).trans (by omega)
            have hsub2 : IntKind.i64.wrap (t : Int) = (t : Int) := IntWalk.i64_in _ ⟨by omega, by omega⟩
            have htt : t < t + 1 := by omega
            have hti : (t : Int) < (t : Int) + 1 := by omega
            have htc : (t : Int) < ((t + 1 : Nat) : Int) := by omega
            have hmul : IntKind.i64.wrap (p * y) = q := by rw [← hpq]; exact IntWalk.i64_in _ ⟨by omega, by omega⟩
            have hxg : bx < wo.heap.size := by
              have h1 : bx < w.heap.size := World.block_lt_of_cell? _ _ (HX.out w (World.Since.refl _ _) r hlt)
              have := HR.out.since.size
              omega
            have HII := Lib.hid (show RB wo wr.drew (.slice (some ⟨G, 0, none⟩) (t + 1) rcp) (pwRow x r (t + 1)) from hI.drewN 1)
            have HOW := Lib.hid (show wr.drew.ownsRow wo.heap.size 3 1 (.slice (some ⟨G, 0, none⟩) (t + 1) rcp) (t + 1) ((pwRow x r (t + 1)).map (Value.int .i64)) by have := HII.out.own; rw [hle] at this; exact this)
            have HAT := Lib.hid (show ((pwRow x r (t + 1)).map (Value.int .i64))[t]? = some (.int .i64 p) by
              have h := pwRow_at x r (show t < t + 1 by omega)
              have hl : t < (pwRow x r (t + 1)).length := by omega
              rw [hpp] at h
              rw [List.getElem?_map, List.getElem?_eq_getElem hl]
              simp only [List.getD, List.getElem?_eq_getElem hl, Option.getD_some] at h
              rw [h]; rfl)
            have HLE := Lib.hid hle
            clear hI hB hrow hS hpq hy hpp hqq hle
            go_wp2
            go_region_held3 (fun w' => w'.cell? ⟨G, t, none⟩ = some (.int .i64 p) ∧ w'.cell? ⟨bx, ox + r, none⟩ = some (.int .i64 y))
              (first | exact ⟨c1, cx⟩ | exact ⟨cell_alloc_l _ c1, cell_alloc_l _ cx⟩ | exact ⟨q1, q2⟩)
              (first
                | (refine step_append_keeps _ rfl (.tmp 28) (.tmp 39) 23 rfl wo.heap.size 3 i3 (.int .i64 0) 1 8 Try.underlying23 HJ.out.1 HJ.out.2.1 HJ.out.2.2.1 HJ.out.2.2.2 rfl (by decide) G (t + 1) rcp ((pwRow x r (t + 1)).map (Value.int .i64)) rfl (HOW.out.alloc _) ⟨wr.heap.size, 0, none⟩ 1 1 [.int .i64 q] rfl rfl (cell_one_at _ _ _ rfl) (fun x hx => by simp at hx; subst hx; rfl) (by unfold maxLen; omega) (by omega) (by simp; omega) ?_; intro v' w1 hown' hgrow hcel;
                    have q1 := (show w1.cell? ⟨G, t, none⟩ = some (.int .i64 p) by have h := hcel t _ HAT.out; rw [Go.WideShapes.add_plain] at h; simpa using h); have q2 := hgrow.cell (cell_alloc_l _ cx) (fun e => by injection e with e; simp at e; omega);
                    have hP := HII.out.push (v' := v') (w1 := w1) (y := q) (by have := hown'; rw [HLE.out]; exact this) hgrow; rw [← HS1.out] at hP; have HP := Lib.hid hP; clear hP hown' hgrow hcel))
            go_wp2
            go_roundg (m - (t + 1))
            case measure => omega
            case rel => exact ⟨t + 1, by omega, rfl, by go_num, HP.out⟩
          · have htm' : t + 1 = m := by omega
            rw [htm'] at hI hle
            obtain ⟨ra, rcp, hv, hrow⟩ := hI.slice
            rw [hle] at hv
            subst hv
            have HII := Lib.hid hI
            have HROW := Lib.hid hrow
            clear hI hrow
            have hBT := HR.out.later HII.out.since
            have HBT := Lib.hid hBT
            clear hBT
            go_wp2_with (at_builtin; (refine wpList_append_own _ rfl _ _ 25 rfl w.heap.size 23 i42 (.slice none 0 0) 1 24 Try.underlying25 HI.out.1 HI.out.2.1 HI.out.2.2.1 HI.out.2.2.2 rfl (by decide) _ _ _ rfl (HBT.out.own.alloc _) ⟨wr.heap.size, 0, none⟩ 1 1 [.slice ra m rcp] rfl rfl (cell_one_at _ _ _ rfl) (fun x hx => by simp at hx; subst hx; rfl) (by unfold maxLen; omega) (by omega) (by simp; omega) ?_); intro v' w1 hown' hgrow _)
            have hP := HBT.out.push (rv := .slice ra m rcp) (x := pwRow x r m) (a := ra) (cp := rcp) (by rw [pwRow_length]) (fun h => by obtain ⟨G, e, h2, h3⟩ := HROW.out h; exact ⟨G, e, by omega, h3⟩) (fun h => by obtain ⟨G, e, h2, _⟩ := HROW.out h; exact HR.out.fresh e h2) hown' hgrow
            rw [← pwTo_succ] at hP
            have HP := Lib.hid hP
            clear hP hown' hgrow hle hlen
            go_roundg (m - (r + 1))
            case measure => omega
            case rel => exact ⟨r + 1, _, _, by omega, rfl, by go_num, HP.out⟩
      · have hrm : r = m := by omega
        subst hrm
        obtain ⟨ra, rcp, hv, hin⟩ := hR.slice
        rw [pwTo_length] at hv
        subst hv
        have HS := Lib.hid hR.since
        have hsw := hR.since.size
        have HD := Lib.hid (l1Done_any ra rcp r _ _ (pwTo x r r) wr (pwTo_length x r r) hsz hin)
        clear hR hin
        go_wp2_with fail
        refine (HD.out).mono ?_
        rintro e w2 ⟨a', c', rfl, hs2, hin2⟩
        go_wp2
        go_ret2
        exact ⟨a', c', rfl, HS.out.trans (since_mono hs2 hsw), hin2.mono (Nat.le_refl _) hs2.size⟩

end Go.Proofs.Ytkahgpgnfodpgaa
end

section
namespace Go.Proofs.Ytkahgpgnfodpgaa
open Go.RowKit Go.Deep

theorem pow_bd60 {y : Int} (h : -60 ≤ y ∧ y ≤ 60) : ∀ t : Nat, -((60 : Int) ^ t) ≤ y ^ t ∧ y ^ t ≤ (60 : Int) ^ t
  | 0 => by simp
  | t + 1 => by
    obtain ⟨i1, i2⟩ := pow_bd60 h t
    rw [Int.pow_succ, Int.pow_succ]
    generalize (60 : Int) ^ t = A at *
    generalize y ^ t = b at *
    have h1 : (A + b) * (60 - y) ≥ 0 := Int.mul_nonneg (by omega) (by omega)
    have h2 : (A + b) * (60 + y) ≥ 0 := Int.mul_nonneg (by omega) (by omega)
    have h3 : (A - b) * (60 + y) ≥ 0 := Int.mul_nonneg (by omega) (by omega)
    have h4 : (A - b) * (60 - y) ≥ 0 := Int.mul_nonneg (by omega) (by omega)
    simp only [Int.add_mul, Int.sub_mul, Int.mul_add, Int.mul_sub] at h1 h2 h3 h4
    omega
theorem pow60 : ∀ t : Fin 6, (60 : Int) ^ t.val ≤ 777600000 := by decide +kernel
theorem pow_bd65 {y : Int} (h : -60 ≤ y ∧ y ≤ 60) {t : Nat} (ht : t ≤ 5) : -777600000 ≤ y ^ t ∧ y ^ t ≤ 777600000 := by
  have h1 := pow_bd60 h t
  have h2 := pow60 ⟨t, by omega⟩
  simp only at h2
  omega

set_option maxHeartbeats 1000000 in
theorem power_any (x : Int) (n : Nat) (w : World) (hx : -60 ≤ x ∧ x ≤ 60) (hn : n ≤ 5) :
    Calls Try.prog 65 #[.int .i64 x, .int .i64 n] w fun e w' => e = .returned (.int .i64 (x ^ n)) ∧ w = w' := by
  go_enter Try.func65, Try.ntmps65
  go_wp2
  go_loopg [5, 7] n (fun g p i wr => ∃ k : Nat, k ≤ n ∧ g = n - k ∧ i = .int .i64 k ∧ p = .int .i64 (x ^ k) ∧ w = wr)
  case atStart => exact ⟨0, Nat.zero_le _, rfl, rfl, by rw [Int.pow_zero], rfl⟩
  case round =>
    obtain ⟨k, hk, rfl, rfl, rfl, rfl⟩ := hrel
    by_cases hlt : k < n
    · have h2 := pow_bd65 hx (t := k + 1) (by omega)
      have h3 := Int.pow_succ x k
      obtain ⟨p, hp⟩ : ∃ p, x ^ k = p := ⟨_, rfl⟩
      obtain ⟨q, hq⟩ : ∃ q, x ^ (k + 1) = q := ⟨_, rfl⟩
      rw [hq, hp] at h3
      rw [hq] at h2
      rw [hp]
      have hw : wrap64 (p * x) = q := by rw [← h3]; unfold wrap64; omega
      have hw2 : IntKind.i64.wrap (p * x) = q := by rw [← h3]; exact IntWalk.i64_in _ ⟨by omega, by omega⟩
      have HQ := Lib.hid hq
      clear h3 hp hq
      go_wp2
      go_roundg (n - (k + 1))
      case measure => omega
      case rel => exact ⟨k + 1, by omega, rfl, by go_num, by first | rw [HQ.out] | rw [HQ.out, hw], rfl⟩
    · have : k = n := by omega
      subst this
      go_wp2
      go_ret
      exact ⟨rfl, rfl⟩

def smK (x : List Int) : Nat → Int
  | 0 => 0
  | k + 1 => smK x k + x.getD k 0
theorem smK_bd {x : List Int} {m : Nat} (hx : RngK x (-30) 30 m) : ∀ k, k ≤ m → -(30 * (k : Int)) ≤ smK x k ∧ smK x k ≤ 30 * (k : Int)
  | 0, _ => by simp [smK]
  | k + 1, h => by
    have i := smK_bd hx k (by omega)
    have c := hx k (by omega)
    simp only [inB, decide_eq_true_eq] at c
    simp only [smK]
    omega

set_option maxHeartbeats 1000000 in
theorem sumOf_any (a : Option Addr) (cap m : Nat) (x : List Int) (w : World) (hn : x.length = m) (h6 : m ≤ 1048576) (hx : RngK x (-30) 30 m) (hm : RowR w a x) :
    Calls Try.prog 99 #[.slice a m cap] w fun e w' => e = .returned (.int .i64 (smK x m)) ∧ w = w' := by
  have H := Lib.hid hn; clear hn
  have HX := Lib.hid hx; clear hx
  go_enter Try.func99, Try.ntmps99
  go_wp2
  go_loopg [3, 5, 8] m (fun g s _ i wr => ∃ k : Nat, k ≤ m ∧ g = m - k ∧ i = .int .i64 k ∧ s = .int .i64 (smK x k) ∧ w = wr)
  case atStart => exact ⟨0, Nat.zero_le _, rfl, rfl, rfl, rfl⟩
  case round =>
    obtain ⟨k, hk, rfl, rfl, rfl, rfl⟩ := hrel
    by_cases hlt : k < m
    · obtain ⟨b, o, rfl, hc⟩ := hm (by rw [H.out]; omega)
      have cj := hc k (by rw [H.out]; exact hlt)
      have b1 := smK_bd HX.out k (by omega)
      have b2 := smK_bd HX.out (k + 1) (by omega)
      have hs : smK x (k + 1) = smK x k + x.getD k 0 := rfl
      obtain ⟨y, hy⟩ : ∃ y, x.getD k 0 = y := ⟨_, rfl⟩
      obtain ⟨p, hp⟩ : ∃ p, smK x k = p := ⟨_, rfl⟩
      rw [hs] at b2
      rw [hy] at cj hs b2
      rw [hp] at b1 b2 hs ⊢
      have HS := Lib.hid hs
      clear hc hm hs hy hp
      go_wp2
      go_roundg (m - (k + 1))
      case measure => omega
      case rel => exact ⟨k + 1, by omega, rfl, by go_num, by rw [HS.out], rfl⟩
    · have : k = m := by omega
      subst this
      go_wp2
      go_ret
      exact ⟨rfl, rfl⟩

set_option maxHeartbeats 1000000 in
theorem specTurnsSum_loop (a : Option Addr) (cap m : Nat) (x : List Int) (w : World) (hn : x.length = m) (h63 : m ≤ 9223372036854775807) (hm : RowR w a x) :
    Calls Try.prog 51 #[.slice a m cap] w fun e w' => e = .returned (.tuple #[.int .i64 (if l8B x 30 = true then smK x m else 0), .bool (l8B x 30)]) ∧ w = w' := by
  have E := l8List_any a cap m x 30 w ⟨by omega, by omega⟩ hn h63 hm
  have H := Lib.hid hn
  cases hok : l8B x 30 with
  | false =>
    rw [hok] at E
    replace E := Lib.hid E
    clear hok hm hn
    go_enter Try.func51, Try.ntmps51
    go_wp2_with fail
    refine (E.out).mono ?_
    rintro e w' ⟨rfl, rfl⟩
    go_wp2
    go_ret2
    exact ⟨rfl, rfl⟩
  | true =>
    rw [hok] at E
    replace E := Lib.hid E
    obtain ⟨hx, h1, h6⟩ := l8B_of hok
    rw [hn] at hx h1 h6
    have HX := Lib.hid (show RngK x (-30) 30 m from hx)
    clear hok hn hx
    go_enter Try.func51, Try.ntmps51
    go_wp2_with fail
    refine (E.out).mono ?_
    rintro e w' ⟨rfl, rfl⟩
    go_wp2
    go_loopg [4, 5] m (fun g s i wr => ∃ k : Nat, k ≤ m ∧ g = m - k ∧ i = .int .i64 k ∧ s = .int .i64 (smK x k) ∧ w = wr)
    case atStart => exact ⟨0, Nat.zero_le _, rfl, rfl, rfl, rfl⟩
    case round =>
      obtain ⟨k, hk, rfl, rfl, rfl, rfl⟩ := hrel
      by_cases hlt : k < m
      · obtain ⟨b, o, rfl, hc⟩ := hm (by rw [H.out]; omega)
        have cj := hc k (by rw [H.out]; exact hlt)
        have b1 := smK_bd HX.out k (by omega)
        have b2 := smK_bd HX.out (k + 1) (by omega)
        have hs : smK x (k + 1) = smK x k + x.getD k 0 := rfl
        obtain ⟨y, hy⟩ : ∃ y, x.getD k 0 = y := ⟨_, rfl⟩
        obtain ⟨p, hp⟩ : ∃ p, smK x k = p := ⟨_, rfl⟩
        rw [hs] at b2
        rw [hy] at cj hs b2
        rw [hp] at b1 b2 hs ⊢
        have HS := Lib.hid hs
        clear hc hm hs hy hp
        go_wp2
        go_roundg (m - (k + 1))
        case measure => omega
        case rel => exact ⟨k + 1, by omega, rfl, by go_num, by rw [HS.out], rfl⟩
      · have : k = m := by omega
        subst this
        go_wp2
        go_ret2
        exact ⟨rfl, rfl⟩

theorem l8B_split (x : List Int) (most : Int) : l8B x most = (rngB x (-most) most && inB x.length 1 6) := rfl

set_option maxHeartbeats 1000000 in
theorem implKnownTurnsSum_any (a : Option Addr) (cap m : Nat) (x : List Int) (w : World) (hn : x.length = m) (h6 : m ≤ 1048576) (hm : RowR w a x) :
    Calls Try.prog 49 #[.slice a m cap] w fun e w' => e = .returned (.tuple #[.int .i64 (if l8B x 30 = true then smK x m else 0), .bool (l8B x 30)]) ∧ w = w' := by
  have E1 := isSide_any m w
  have E2 := entriesIn_any a cap m x w hn h6 hm
  rw [← numsIn_rng] at E2
  have hsp := l8B_split x 30
  rw [hn] at hsp
  cases h1 : inB (m : Int) 1 6 with
  | false =>
    rw [h1, Bool.and_false] at hsp
    rw [hsp]
    rw [h1] at E1
    replace E1 := Lib.hid E1
    clear E2 hm hn h1 hsp
    go_enter Try.func49, Try.ntmps49
    go_wp2_with fail
    refine (E1.out).mono ?_
    rintro e w' ⟨rfl, rfl⟩
    go_wp2
    go_ret2
    exact ⟨rfl, rfl⟩
  | true =>
    rw [h1] at E1
    replace E1 := Lib.hid E1
    cases h2 : rngB x (-30) 30 with
    | false =>
      rw [h1, h2] at hsp
      rw [hsp]
      rw [h2] at E2
      replace E2 := Lib.hid E2
      clear hm hn h1 h2 hsp
      go_enter Try.func49, Try.ntmps49
      go_wp2_with fail
      refine (E1.out).mono ?_
      rintro e w' ⟨rfl, rfl⟩
      go_wp2_with fail
      refine (E2.out).mono ?_
      rintro e w' ⟨rfl, rfl⟩
      go_wp2
      go_ret2
      exact ⟨rfl, rfl⟩
    | true =>
      rw [h1, h2] at hsp
      rw [hsp]
      rw [h2] at E2
      replace E2 := Lib.hid E2
      have hx := rngB_of h2
      rw [hn] at hx
      have E3 := Lib.hid (sumOf_any a cap m x w hn h6 hx hm)
      clear hm hn h1 h2 hsp hx
      go_enter Try.func49, Try.ntmps49
      go_wp2_with fail
      refine (E1.out).mono ?_
      rintro e w' ⟨rfl, rfl⟩
      go_wp2_with fail
      refine (E2.out).mono ?_
      rintro e w' ⟨rfl, rfl⟩
      go_wp2_with fail
      refine (E3.out).mono ?_
      rintro e w' ⟨rfl, rfl⟩
      go_wp2
      go_ret2
      exact ⟨rfl, rfl⟩

end Go.Proofs.Ytkahgpgnfodpgaa
end

section
namespace Go.Proofs.Ytkahgpgnfodpgaa
open Go.RowKit Go.Deep

theorem RngK.all9 {x : List Int} {m : Nat} (hn : x.length = m) (h : RngK x (-9) 9 m) (j : Nat) : -9 ≤ x.getD j 0 ∧ x.getD j 0 ≤ 9 := by
  by_cases hj : j < m
  · have := h j hj
    simp only [inB, decide_eq_true_eq] at this
    exact this
  · have : x.getD j 0 = 0 := by simp [List.getD, List.getElem?_eq_none (show x.length ≤ j by omega)]
    omega

set_option maxRecDepth 100000 in
set_option maxHeartbeats 2000000 in
theorem productOfDifferences_any (a : Option Addr) (cap m : Nat) (x : List Int) (w : World) (hn : x.length = m) (h6 : m ≤ 6) (hc0 : m ≤ cap) (hx : ∀ j, -9 ≤ x.getD j 0 ∧ x.getD j 0 ≤ 9) (hm : RowR w a x) :
    Calls Try.prog 72 #[.slice a m cap] w fun e w' => e = .returned (.int .i64 (vdO x m)) ∧ w = w' := by
  have H := Lib.hid hn; clear hn
  have HX := Lib.hid hx; clear hx
  go_enter Try.func72, Try.ntmps72
  go_wp2
  go_loopg [3, 4, 5, 7, 10] m (fun g s _ _ _ i wr => ∃ k : Nat, k ≤ m ∧ g = m - k ∧ i = .int .i64 k ∧ s = .int .i64 (vdO x k) ∧ w = wr)
  case atStart => exact ⟨0, Nat.zero_le _, rfl, rfl, rfl, rfl⟩
  case round =>
    obtain ⟨k, hk, rfl, rfl, rfl, rfl⟩ := hrel
    by_cases hlt : k < m
    · obtain ⟨b, o, rfl, hc⟩ := hm (by rw [H.out]; omega)
      have cj := hc k (by rw [H.out]; exact hlt)
      obtain ⟨y, hy⟩ : ∃ y, x.getD k 0 = y := ⟨_, rfl⟩
      have hy9 := HX.out k
      rw [hy] at cj hy9
      have HY := Lib.hid hy
      have HC := Lib.hid hc
      clear hc hm hy
      go_wp2
      go_loopg [3, 7, 19] k (fun g s _ i wi => ∃ t : Nat, t ≤ k ∧ g = k - t ∧ i = .int .i64 t ∧ s = .int .i64 (vdI x k (vdO x k) t) ∧ w = wi)
      case atStart => exact ⟨0, Nat.zero_le _, rfl, rfl, rfl, rfl⟩
      case round =>
        obtain ⟨t, ht, rfl, rfl, rfl, rfl⟩ := hrel
        by_cases htl : t < k
        · have ct := HC.out t (by rw [H.out]; omega)
          have hz9 := HX.out t
          have b1 := vdI_lt HX.out (i := k) (k := t) (by omega) (by omega)
          have b2 := vdI_lt HX.out (i := k) (k := t + 1) (by omega) (by omega)
          have hs : vdI x k (vdO x k) (t + 1) = vdI x k (vdO x k) t * (x.getD k 0 - x.getD t 0) := rfl
          obtain ⟨z, hz⟩ : ∃ z, x.getD t 0 = z := ⟨_, rfl⟩
          obtain ⟨p, hp⟩ : ∃ p, vdI x k (vdO x k) t = p := ⟨_, rfl⟩
          obtain ⟨q, hq⟩ : ∃ q, vdI x k (vdO x k) (t + 1) = q := ⟨_, rfl⟩
          rw [hz] at ct hz9 hs
          rw [hp, hq, HY.out] at hs
          rw [hp] at b1 ⊢
          rw [hq] at b2
          have HQ := Lib.hid hq
          have hw : wrap64 (p * (y - z)) = q := by rw [← hs]; unfold wrap64; omega
          clear hz hp hq hs
          go_wp2
          go_roundg (k - (t + 1))
          case measure => omega
          case rel => exact ⟨t + 1, by omega, rfl, by go_num, by rw [HQ.out, hw], rfl⟩
        · have htk : t = k := by omega
          subst htk
          go_wp2
          go_roundg (m - (t + 1))
          case measure => omega
          case rel => exact ⟨t + 1, by omega, rfl, by go_num, rfl, rfl⟩
    · have : k = m := by omega
      subst this
      go_wp2
      go_ret
      exact ⟨rfl, rfl⟩

set_option maxRecDepth 100000 in
set_option maxHeartbeats 2000000 in
theorem specKnownPowersValue_any (a : Option Addr) (cap m : Nat) (x : List Int) (w : World) (hn : x.length = m) (h63 : m ≤ 9223372036854775807) (hm : RowR w a x) :
    Calls Try.prog 22 #[.slice a m cap] w fun e w' => e = .returned (.tuple #[.int .i64 (if l8B x 9 = true then vdO x m else 0), .bool (l8B x 9)]) ∧ w.Since w.heap.size w' := by
  have E := l8List_any a cap m x 9 w ⟨by omega, by omega⟩ hn h63 hm
  have H := Lib.hid hn
  cases hok : l8B x 9 with
  | false =>
    rw [hok] at E
    replace E := Lib.hid E
    clear hok hm hn
    go_enter Try.func22, Try.ntmps22
    go_wp2_with fail
    refine (E.out).mono ?_
    rintro e w' ⟨rfl, rfl⟩
    go_wp2
    go_ret2
    exact ⟨rfl, World.Since.refl _ _⟩
  | true =>
    rw [hok] at E
    replace E := Lib.hid E
    obtain ⟨hx, h1, h6⟩ := l8B_of hok
    rw [hn] at hx h1 h6
    have HX := Lib.hid (RngK.all9 hn hx)
    obtain ⟨b, o, rfl, hc⟩ := hm (by omega)
    have HC := Lib.hid (fun (W : World) (hd : w.Since w.heap.size W) (k : Nat) (hk : k < m) => by
      have c := hc k (by omega)
      exact (hd.cell (a := ⟨b, o + k, none⟩) (World.block_lt_of_cell? _ _ c)).trans c)
    clear hok hn hx hc hm
    go_enter Try.func22, Try.ntmps22
    go_wp2_with fail
    refine (E.out).mono ?_
    rintro e w' ⟨rfl, rfl⟩
    go_wp2
    go_loopg [4, 5, 6] m (fun g s i _ wr => ∃ k : Nat, k ≤ m ∧ g = m - k ∧ i = .int .i64 k ∧ s = .int .i64 (vdO x k) ∧ Drawn w wr)
    case atStart => exact ⟨0, Nat.zero_le _, rfl, rfl, rfl, Drawn.refl w⟩
    case round =>
      obtain ⟨k, hk, rfl, rfl, rfl, hD⟩ := hrel
      by_cases hlt : k < m
      · have HD := Lib.hid hD
        clear hD
        obtain ⟨wo, hwo⟩ : ∃ wo : World, wo = wr := ⟨_, rfl⟩
        rw [← hwo] at HD ⊢
        clear hwo wr
        go_wp2
        go_loopg [4, 6] k (fun g s i wi => ∃ t : Nat, t ≤ k ∧ g = k - t ∧ i = .int .i64 t ∧ s = .int .i64 (vdI x k (vdO x k) t) ∧ Drawn w wi)
        case atStart => exact ⟨0, Nat.zero_le _, rfl, rfl, rfl, HD.out⟩
        case round =>
          obtain ⟨t, ht, rfl, rfl, rfl, hI⟩ := hrel
          clear HD
          by_cases htl : t < k
          · have ck := HC.out wr (hI.since _) k hlt
            have ct := HC.out wr (hI.since _) t (by omega)
            have hy9 := HX.out k
            have hz9 := HX.out t
            have b1 := vdI_lt HX.out (i := k) (k := t) (by omega) (by omega)
            have b2 := vdI_lt HX.out (i := k) (k := t + 1) (by omega) (by omega)
            have hs : vdI x k (vdO x k) (t + 1) = vdI x k (vdO x k) t * (x.getD k 0 - x.getD t 0) := rfl
            obtain ⟨y, hy⟩ : ∃ y, x.getD k 0 = y := ⟨_, rfl⟩
            obtain ⟨z, hz⟩ : ∃ z, x.getD t 0 = z := ⟨_, rfl⟩
            obtain ⟨p, hp⟩ : ∃ p, vdI x k (vdO x k) t = p := ⟨_, rfl⟩
            obtain ⟨q, hq⟩ : ∃ q, vdI x k (vdO x k) (t + 1) = q := ⟨_, rfl⟩
            rw [hy] at ck hy9
            rw [hz] at ct hz9
            rw [hp, hq, hy, hz] at hs
            rw [hp] at b1 ⊢
            rw [hq] at b2
            have HQ := Lib.hid hq
            have hsub : IntKind.i64.wrap (y - z) = y - z := IntWalk.i64_in _ ⟨by omega, by omega⟩
            have hmul : IntKind.i64.wrap (p * (y - z)) = q := by rw [← hs]; exact IntWalk.i64_in _ ⟨by omega, by omega⟩
            have hw : wrap64 (p * (y - z)) = q := by rw [← hs]; unfold wrap64; omega
            have hkm : (k : Int) < (m : Int) := by omega
            have htm : (t : Int) < (m : Int) := by omega
            have hk0 : k < m := hlt
            have ht0 : t < m := by omega
            have HI := Lib.hid hI
            clear hz hp hq hs hy hI
            go_wp2
            go_quiet (fail)
            go_wp2
            go_roundg (k - (t + 1))
            case measure => omega
            case rel => exact ⟨t + 1, by omega, rfl, by go_num, by rw [HQ.out], HI.out.trans (Drawn.mk _ _)⟩
          · have htk : t = k := by omega
            subst htk
            go_wp2
            go_roundg (m - (t + 1))
            case measure => omega
            case rel => exact ⟨t + 1, by omega, rfl, by go_num, rfl, hI⟩
      · have : k = m := by omega
        subst this
        go_wp2
        go_ret2
        exact ⟨rfl, hD.since _⟩

set_option maxHeartbeats 1000000 in
theorem implKnownPowersValue_any (a : Option Addr) (cap m : Nat) (x : List Int) (w : World) (hn : x.length = m) (h63 : m ≤ 9223372036854775807) (hc0 : m ≤ cap) (hm : RowR w a x) :
    Calls Try.prog 19 #[.slice a m cap] w fun e w' => e = .returned (.tuple #[.int .i64 (if l8B x 9 = true then vdO x m else 0), .bool (l8B x 9)]) ∧ w = w' := by
  have E1 := isSide_any m w
  have E2 := allInRange_any a cap m x (-9) 9 w hn h63 hm
  have hsp := l8B_split x 9
  rw [hn] at hsp
  cases h1 : inB (m : Int) 1 6 with
  | false =>
    rw [h1, Bool.and_false] at hsp
    rw [hsp]
    rw [h1] at E1
    replace E1 := Lib.hid E1
    clear E2 hm hn h1 hsp
    go_enter Try.func19, Try.ntmps19
    go_wp2_with fail
    refine (E1.out).mono ?_
    rintro e w' ⟨rfl, rfl⟩
    go_wp2
    go_ret2
    exact ⟨rfl, rfl⟩
  | true =>
    rw [h1] at E1
    replace E1 := Lib.hid E1
    have h16 := of_decide_eq_true h1
    cases h2 : rngB x (-9) 9 with
    | false =>
      rw [h1, h2] at hsp
      rw [hsp]
      rw [h2] at E2
      replace E2 := Lib.hid E2
      clear hm hn h1 h2 hsp
      go_enter Try.func19, Try.ntmps19
      go_wp2_with fail
      refine (E1.out).mono ?_
      rintro e w' ⟨rfl, rfl⟩
      go_wp2_with fail
      refine (E2.out).mono ?_
      rintro e w' ⟨rfl, rfl⟩
      go_wp2
      go_ret2
      exact ⟨rfl, rfl⟩
    | true =>
      rw [h1, h2] at hsp
      rw [hsp]
      rw [h2] at E2
      replace E2 := Lib.hid E2
      have hx := rngB_of h2
      rw [hn] at hx
      have E3 := Lib.hid (productOfDifferences_any a cap m x w hn (by omega) hc0 (RngK.all9 hn hx) hm)
      clear hm hn h1 h2 hsp hx
      go_enter Try.func19, Try.ntmps19
      go_wp2_with fail
      refine (E1.out).mono ?_
      rintro e w' ⟨rfl, rfl⟩
      go_wp2_with fail
      refine (E2.out).mono ?_
      rintro e w' ⟨rfl, rfl⟩
      go_wp2_with fail
      refine (E3.out).mono ?_
      rintro e w' ⟨rfl, rfl⟩
      go_wp2
      go_ret2
      exact ⟨rfl, rfl⟩

set_option maxHeartbeats 1000000 in
theorem withoutSign_any (x : Nat) (w : World) (hx : x ≤ 1000) :
    Calls Try.prog 116 #[.int .i64 x] w fun e w' => e = .returned (.int .i64 x) ∧ w = w' := by
  go_enter Try.func116, Try.ntmps116
  go_wp2
  go_ret
  exact ⟨ret_int (by omega), rfl⟩

set_option maxHeartbeats 1000000 in
theorem commonDivisor_dr (a b : Nat) (w : World) (ha : a ≤ 1000) (hb : b ≤ 1000) :
    Calls Try.prog 86 #[.int .i64 a, .int .i64 b] w fun e w' => e = .returned (.int .i64 (Nat.gcd a b : Nat)) ∧ Drawn w w' := by
  go_enter Try.func86, Try.ntmps86
  go_wp2
  go_loopg [0, 1] b (fun g x y wr => ∃ p q : Nat, q = g ∧ x = .int .i64 p ∧ y = .int .i64 q ∧ p ≤ 1000 ∧ q ≤ 1000 ∧ Nat.gcd p q = Nat.gcd a b ∧ Drawn w wr)
  case atStart => exact ⟨a, b, rfl, rfl, rfl, ha, hb, rfl, Drawn.refl w⟩
  case round =>
    obtain ⟨p, q, rfl, rfl, rfl, hp, hq, hg, hD⟩ := hrel
    by_cases hz : q = 0
    · subst hz
      rw [Nat.gcd_zero_right] at hg
      subst hg
      have hne : (((0 : Nat) : Int) != 0) = false := by simp
      have E := Lib.hid (withoutSign_any (Nat.gcd a b) wr (by omega))
      go_wp2_with fail
      refine (E.out).mono ?_
      rintro e w' ⟨rfl, rfl⟩
      go_wp2
      go_ret
      exact ⟨rfl, hD⟩
    · have hne : ((q : Int) != 0) = true := by simp; omega
      have hne2 : ((q : Int) == 0) = false := by simp; omega
      have hm : Int.tmod (p : Int) (q : Int) = ((p % q : Nat) : Int) := rfl
      have hlt : p % q < q := Nat.mod_lt _ (by omega)
      have hgg : Nat.gcd q (p % q) = Nat.gcd a b := by rw [Nat.gcd_comm q, ← Nat.gcd_rec, Nat.gcd_comm q p]; exact hg
      have HG := Lib.hid hgg
      clear hg hgg
      go_wp2
      go_quiet (fail)
      go_wp2
      go_roundg (p % q)
      case measure => omega
      case rel => exact ⟨q, p % q, rfl, by go_num, by first | rfl | (rw [← hm]), by omega, by omega, HG.out, hD.trans (Drawn.mk _ _)⟩

theorem commonDivisor_any (a b : Nat) (w : World) (ha : a ≤ 1000) (hb : b ≤ 1000) :
    Calls Try.prog 86 #[.int .i64 a, .int .i64 b] w fun e w' => e = .returned (.int .i64 (Nat.gcd a b : Nat)) ∧ w.Since w.heap.size w' :=
  (commonDivisor_dr a b w ha hb).mono fun _ _ h => ⟨h.1, h.2.since _⟩

set_option maxHeartbeats 1000000 in
theorem l3Gcd_any (a b : Nat) (w : World) (ha : a ≤ 1000) (hb : b ≤ 1000) :
    Calls Try.prog 87 #[.int .i64 a, .int .i64 b] w fun e w' => e = .returned (.int .i64 (Nat.gcd a b : Nat)) ∧ w = w' := by
  have hma : max (a : Int) (-(a : Int)) = a := by omega
  have hmb : max (b : Int) (-(b : Int)) = b := by omega
  go_enter Try.func87, Try.ntmps87
  go_wp2
  go_loopg [0, 1, 5] b (fun g x y _ wr => ∃ p q : Nat, q = g ∧ x = .int .i64 p ∧ y = .int .i64 q ∧ p ≤ 1000 ∧ q ≤ 1000 ∧ Nat.gcd p q = Nat.gcd a b ∧ w = wr)
  case atStart => exact ⟨a, b, rfl, by go_num, by go_num, ha, hb, rfl, rfl⟩
  case round =>
    obtain ⟨p, q, rfl, rfl, rfl, hp, hq, hg, rfl⟩ := hrel
    by_cases hz : q = 0
    · subst hz
      rw [Nat.gcd_zero_right] at hg
      subst hg
      go_wp2
      go_ret
      exact ⟨rfl, rfl⟩
    · have hne : ((q : Int) != 0) = true := by simp; omega
      have hne2 : ((q : Int) == 0) = false := by simp; omega
      have hm : Int.tmod (p : Int) (q : Int) = ((p % q : Nat) : Int) := rfl
      have hlt : p % q < q := Nat.mod_lt _ (by omega)
      have hgg : Nat.gcd q (p % q) = Nat.gcd a b := by rw [Nat.gcd_comm q, ← Nat.gcd_rec, Nat.gcd_comm q p]; exact hg
      have HG := Lib.hid hgg
      clear hg hgg
      go_wp2
      go_roundg (p % q)
      case measure => omega
      case rel => exact ⟨q, p % q, rfl, by go_num, by first | rfl | (rw [← hm]), by omega, by omega, HG.out, rfl⟩

end Go.Proofs.Ytkahgpgnfodpgaa
end

section
namespace Go.Proofs.Ytkahgpgnfodpgaa
open Go.RowKit Go.Deep

def oneIf (d : Nat) : Nat := if d = 1 then 1 else 0
theorem oneIf_one : oneIf 1 = 1 := rfl
theorem oneIf_no {d : Nat} (h : d ≠ 1) : oneIf d = 0 := if_neg h
def phK (i : Nat) : Nat → Nat
  | 0 => 0
  | k + 1 => phK i k + oneIf (Nat.gcd i (k + 1))
def dvK : Nat → Nat
  | 0 => 1
  | i + 1 => dvK i * phK (i + 1) (i + 1)
theorem phK_le (i : Nat) : ∀ k, phK i k ≤ k
  | 0 => Nat.le_refl _
  | k + 1 => by have := phK_le i k; simp only [phK, oneIf]; split <;> omega
theorem dvK_le : ∀ i : Fin 7, 1 ≤ dvK i.val ∧ dvK i.val ≤ 32 := by decide +kernel

set_option maxHeartbeats 1000000 in
theorem countPrimeTo_any (n : Nat) (w : World) (hn : n ≤ 1000) :
    Calls Try.prog 88 #[.int .i64 n] w fun e w' => e = .returned (.int .i64 (phK n n : Nat)) ∧ w.Since w.heap.size w' := by
  go_enter Try.func88, Try.ntmps88
  go_wp2
  go_loopg [3, 4] n (fun g c i wr => ∃ k : Nat, k ≤ n ∧ g = n - k ∧ i = .int .i64 ((k : Int) + 1) ∧ c = .int .i64 (phK n k : Nat) ∧ w.Since w.heap.size wr)
  case atStart => exact ⟨0, Nat.zero_le _, rfl, by go_num, rfl, World.Since.refl _ _⟩
  case round =>
    obtain ⟨k, hk, rfl, rfl, rfl, hs⟩ := hrel
    have hp := phK_le n k
    by_cases hlt : k < n
    · have E := commonDivisor_any (k + 1) n wr (by omega) (by omega)
      have hst : phK n (k + 1) = phK n k + oneIf (Nat.gcd n (k + 1)) := rfl
      rw [Nat.gcd_comm, show ((k + 1 : Nat) : Int) = (k : Int) + 1 by omega] at E
      obtain ⟨d, hd⟩ : ∃ d, Nat.gcd n (k + 1) = d := ⟨_, rfl⟩
      rw [hd] at E hst
      replace E := Lib.hid E
      have HS := Lib.hid hs
      by_cases h1 : d = 1
      · subst h1
        rw [oneIf_one] at hst
        have HST := Lib.hid hst
        clear hd hs hst
        go_wp2_with fail
        refine (E.out).mono ?_
        rintro e w2 ⟨rfl, hs2⟩
        go_wp2
        go_roundg (n - (k + 1))
        case measure => omega
        case rel => exact ⟨k + 1, by omega, rfl, by go_num, by rw [HST.out]; go_num, HS.out.trans (since_mono hs2 HS.out.size)⟩
      · rw [oneIf_no h1] at hst
        have HST := Lib.hid hst
        have hne : ((d : Int) == 1) = false := by simp; omega
        clear hd hs hst
        go_wp2_with fail
        refine (E.out).mono ?_
        rintro e w2 ⟨rfl, hs2⟩
        go_wp2
        go_roundg (n - (k + 1))
        case measure => omega
        case rel => exact ⟨k + 1, by omega, rfl, by go_num, by rw [HST.out]; rfl, HS.out.trans (since_mono hs2 HS.out.size)⟩
    · have : k = n := by omega
      subst this
      go_wp2
      go_ret
      exact ⟨rfl, hs⟩

set_option maxHeartbeats 1000000 in
theorem implKnownDivisorsValue_any (n : Int) (w : World) :
    Calls Try.prog 34 #[.int .i64 n] w fun e w' => e = .returned (.tuple #[.int .i64 (if inB n 1 6 = true then (dvK n.toNat : Nat) else 0), .bool (inB n 1 6)]) ∧ w.Since w.heap.size w' := by
  have E := isSide_any n w
  cases hin : inB n 1 6 with
  | false =>
    rw [hin] at E
    replace E := Lib.hid E
    clear hin
    go_enter Try.func34, Try.ntmps34
    go_wp2_with fail
    refine (E.out).mono ?_
    rintro e w' ⟨rfl, rfl⟩
    go_wp2
    go_ret2
    exact ⟨rfl, World.Since.refl _ _⟩
  | true =>
    rw [hin] at E
    have h6 := of_decide_eq_true hin
    obtain ⟨m, rfl⟩ := Int.eq_ofNat_of_zero_le (show 0 ≤ n by omega)
    replace E := Lib.hid E
    clear hin
    rw [Int.toNat_natCast]
    go_enter Try.func34, Try.ntmps34
    go_wp2_with fail
    refine (E.out).mono ?_
    rintro e w' ⟨rfl, rfl⟩
    go_wp2
    go_loopg [4, 5] m (fun g c i wr => ∃ k : Nat, k ≤ m ∧ g = m - k ∧ i = .int .i64 ((k : Int) + 1) ∧ c = .int .i64 (dvK k : Nat) ∧ w.Since w.heap.size wr)
    case atStart => exact ⟨0, Nat.zero_le _, rfl, by go_num, rfl, World.Since.refl _ _⟩
    case round =>
      obtain ⟨k, hk, rfl, rfl, rfl, hs⟩ := hrel
      by_cases hlt : k < m
      · have E := countPrimeTo_any (k + 1) wr (by omega)
        have hst : dvK (k + 1) = dvK k * phK (k + 1) (k + 1) := rfl
        have b1 := dvK_le ⟨k, by omega⟩
        have b2 := dvK_le ⟨k + 1, by omega⟩
        simp only at b1 b2
        obtain ⟨p, hp⟩ : ∃ p, phK (k + 1) (k + 1) = p := ⟨_, rfl⟩
        obtain ⟨q, hq⟩ : ∃ q, dvK k = q := ⟨_, rfl⟩
        rw [hp, show ((k + 1 : Nat) : Int) = (k : Int) + 1 by omega] at E
        rw [hp, hq] at hst
        rw [hst] at b2
        rw [hq]
        have hmul : wrap64 ((q : Int) * (p : Int)) = ((dvK (k + 1) : Nat) : Int) := by rw [hst, Int.natCast_mul]; have : (q : Int) * (p : Int) = ((q * p : Nat) : Int) := by rw [Int.natCast_mul]
                                                                                       rw [this]; unfold wrap64; omega
        replace E := Lib.hid E
        have HS := Lib.hid hs
        have HMUL := Lib.hid hmul
        clear hp hq hst hs b1 b2 hmul
        go_wp2_with fail
        refine (E.out).mono ?_
        rintro e w2 ⟨rfl, hs2⟩
        go_wp2
        go_roundg (m - (k + 1))
        case measure => omega
        case rel => exact ⟨k + 1, by omega, rfl, by go_num, by rw [HMUL.out], HS.out.trans (since_mono hs2 HS.out.size)⟩
      · have : k = m := by omega
        subst this
        go_wp2
        go_ret2
        exact ⟨rfl, hs⟩

set_option maxHeartbeats 1000000 in
theorem specKnownDivisorsValue_any (n : Int) (w : World) :
    Calls Try.prog 36 #[.int .i64 n] w fun e w' => e = .returned (.tuple #[.int .i64 (if inB n 1 6 = true then (dvK n.toNat : Nat) else 0), .bool (inB n 1 6)]) ∧ w = w' := by
  have E := l6In_any n 1 6 w
  cases hin : inB n 1 6 with
  | false =>
    rw [hin] at E
    replace E := Lib.hid E
    clear hin
    go_enter Try.func36, Try.ntmps36
    go_wp2_with fail
    refine (E.out).mono ?_
    rintro e w' ⟨rfl, rfl⟩
    go_wp2
    go_ret2
    exact ⟨rfl, rfl⟩
  | true =>
    rw [hin] at E
    have h6 := of_decide_eq_true hin
    obtain ⟨m, rfl⟩ := Int.eq_ofNat_of_zero_le (show 0 ≤ n by omega)
    replace E := Lib.hid E
    clear hin
    rw [Int.toNat_natCast]
    go_enter Try.func36, Try.ntmps36
    go_wp2_with fail
    refine (E.out).mono ?_
    rintro e w' ⟨rfl, rfl⟩
    go_wp2
    go_loopg [4, 5, 6, 7] m (fun g c i _ _ wr => ∃ k : Nat, k ≤ m ∧ g = m - k ∧ i = .int .i64 ((k : Int) + 1) ∧ c = .int .i64 (dvK k : Nat) ∧ w = wr)
    case atStart => exact ⟨0, Nat.zero_le _, rfl, by go_num, rfl, rfl⟩
    case round =>
      obtain ⟨k, hk, rfl, rfl, rfl, rfl⟩ := hrel
      by_cases hlt : k < m
      · obtain ⟨q, hq⟩ : ∃ q, dvK k = q := ⟨_, rfl⟩
        have b2 := dvK_le ⟨k + 1, by omega⟩
        simp only at b2
        have hst : dvK (k + 1) = dvK k * phK (k + 1) (k + 1) := rfl
        rw [hq] at hst ⊢
        rw [hst] at b2
        have HST := Lib.hid hst
        have hkd : decide ((k : Int) + 1 ≤ (m : Int)) = true := by simp; omega
        clear hq hst
        go_wp2
        go_loopg [6, 7] (k + 1) (fun g c i wi => ∃ t : Nat, t ≤ k + 1 ∧ g = k + 1 - t ∧ i = .int .i64 ((t : Int) + 1) ∧ c = .int .i64 (phK (k + 1) t : Nat) ∧ w = wi)
        case atStart => exact ⟨0, Nat.zero_le _, rfl, by go_num, rfl, rfl⟩
        case round =>
          obtain ⟨t, ht, rfl, rfl, rfl, rfl⟩ := hrel
          have hp := phK_le (k + 1) t
          by_cases htl : t < k + 1
          · have E := l3Gcd_any (k + 1) (t + 1) w (by omega) (by omega)
            have hs2 : phK (k + 1) (t + 1) = phK (k + 1) t + oneIf (Nat.gcd (k + 1) (t + 1)) := rfl
            rw [show ((k + 1 : Nat) : Int) = (k : Int) + 1 by omega, show ((t + 1 : Nat) : Int) = (t : Int) + 1 by omega] at E
            obtain ⟨d, hd⟩ : ∃ d, Nat.gcd (k + 1) (t + 1) = d := ⟨_, rfl⟩
            rw [hd] at E hs2
            replace E := Lib.hid E
            by_cases h1 : d = 1
            · subst h1
              rw [oneIf_one] at hs2
              have HS2 := Lib.hid hs2
              clear hd hs2
              go_wp2_with fail
              refine (E.out).mono ?_
              rintro e w2 ⟨rfl, rfl⟩
              go_wp2
              go_roundg (k + 1 - (t + 1))
              case measure => omega
              case rel => exact ⟨t + 1, by omega, rfl, by go_num, by rw [HS2.out]; go_num, rfl⟩
            · rw [oneIf_no h1] at hs2
              have HS2 := Lib.hid hs2
              have hne : ((d : Int) == 1) = false := by simp; omega
              clear hd hs2
              go_wp2_with fail
              refine (E.out).mono ?_
              rintro e w2 ⟨rfl, rfl⟩
              go_wp2
              go_roundg (k + 1 - (t + 1))
              case measure => omega
              case rel => exact ⟨t + 1, by omega, rfl, by go_num, by rw [HS2.out]; rfl, rfl⟩
          · have htk : t = k + 1 := by omega
            subst htk
            obtain ⟨p, hpp⟩ : ∃ p, phK (k + 1) (k + 1) = p := ⟨_, rfl⟩
            rw [hpp] at hp b2 ⊢
            have hmul : wrap64 ((q : Int) * (p : Int)) = ((q * p : Nat) : Int) := by
              rw [show (q : Int) * (p : Int) = ((q * p : Nat) : Int) by rw [Int.natCast_mul]]
              unfold wrap64; omega
            have HM := Lib.hid (show wrap64 ((q : Int) * (p : Int)) = ((dvK (k + 1) : Nat) : Int) by rw [HST.out, hpp]; exact hmul)
            have HM2 := Lib.hid (show (q : Int) * (p : Int) = ((dvK (k + 1) : Nat) : Int) by rw [HST.out, hpp, Int.natCast_mul])
            clear hpp hmul
            go_wp2
            go_roundg (m - (k + 1))
            case measure => omega
            case rel => exact ⟨k + 1, by omega, rfl, by go_num, by first | rw [HM.out] | rw [HM2.out], rfl⟩
      · have : k = m := by omega
        subst this
        go_wp2
        go_ret2
        exact ⟨rfl, rfl⟩

end Go.Proofs.Ytkahgpgnfodpgaa
end

section
namespace Go.Proofs.Ytkahgpgnfodpgaa
open Go.RowKit Go.Deep

def onB (n a b : Int) : Bool := inB n 1 6 && (inB a (-30) 30 && inB b (-30) 30)
theorem onB_of {n a b : Int} (h : onB n a b = true) : (1 ≤ n ∧ n ≤ 6) ∧ (-30 ≤ a ∧ a ≤ 30) ∧ (-30 ≤ b ∧ b ≤ 30) := by
  simp only [onB, Bool.and_eq_true, inB, decide_eq_true_eq] at h
  exact ⟨h.1, h.2.1, h.2.2⟩
def onV (n a b : Int) : Int := (a - b) ^ (n.toNat - 1) * (a + (n - 1) * b)
theorem pw_pow (p : Int) : ∀ n, pw p n = p ^ n
  | 0 => by rw [Int.pow_zero]; rfl
  | n + 1 => by rw [show pw p (n + 1) = p * pw p n from rfl, pw_pow p n, Int.pow_succ, Int.mul_comm]

set_option maxHeartbeats 1000000 in
theorem isToldByOnes_any (n a b : Int) (w : World) :
    Calls Try.prog 78 #[.int .i64 n, .int .i64 a, .int .i64 b] w fun e w' => e = .returned (.bool (onB n a b)) ∧ w = w' := by
  have E1 := isSide_any n w
  unfold onB
  cases h1 : inB n 1 6 with
  | false =>
    rw [h1] at E1
    replace E1 := Lib.hid E1
    clear h1
    go_enter Try.func78, Try.ntmps78
    go_wp2_with fail
    refine (E1.out).mono ?_
    rintro e w' ⟨rfl, rfl⟩
    go_wp2
    go_ret
    exact ⟨rfl, rfl⟩
  | true =>
    rw [h1] at E1
    replace E1 := Lib.hid E1
    cases h2 : inB a (-30) 30 with
    | false =>
      have E2 := Lib.hid (isEntry_at a false w h2)
      clear h1 h2
      go_enter Try.func78, Try.ntmps78
      go_wp2_with fail
      refine (E1.out).mono ?_
      rintro e w' ⟨rfl, rfl⟩
      go_wp2_with fail
      refine (E2.out).mono ?_
      rintro e w' ⟨rfl, rfl⟩
      go_wp2
      go_ret
      exact ⟨rfl, rfl⟩
    | true =>
      have E2 := Lib.hid (isEntry_at a true w h2)
      obtain ⟨c, h3⟩ : ∃ c, inB b (-30) 30 = c := ⟨_, rfl⟩
      have E3 := Lib.hid (isEntry_at b c w h3)
      rw [h3]
      clear h1 h2 h3
      go_enter Try.func78, Try.ntmps78
      go_wp2_with fail
      refine (E1.out).mono ?_
      rintro e w' ⟨rfl, rfl⟩
      go_wp2_with fail
      refine (E2.out).mono ?_
      rintro e w' ⟨rfl, rfl⟩
      go_wp2_with fail
      refine (E3.out).mono ?_
      rintro e w' ⟨rfl, rfl⟩
      go_wp2
      go_ret
      exact ⟨by cases c <;> rfl, rfl⟩

theorem on_bd {a b : Int} (ha : -30 ≤ a ∧ a ≤ 30) (hb : -30 ≤ b ∧ b ≤ 30) (m : Nat) (h1 : 1 ≤ m) (h6 : m ≤ 6) : -180 ≤ a + ((m : Int) - 1) * b ∧ a + ((m : Int) - 1) * b ≤ 180 ∧ -150 ≤ ((m : Int) - 1) * b ∧ ((m : Int) - 1) * b ≤ 150 := by
  have h : m = 1 ∨ m = 2 ∨ m = 3 ∨ m = 4 ∨ m = 5 ∨ m = 6 := by omega
  rcases h with rfl | rfl | rfl | rfl | rfl | rfl <;> omega
theorem on_bd2 {p s : Int} (hp : -777600000 ≤ p ∧ p ≤ 777600000) (hs : -180 ≤ s ∧ s ≤ 180) : -139968000000 ≤ p * s ∧ p * s ≤ 139968000000 := by
  have h1 : (777600000 + p) * (180 - s) ≥ 0 := Int.mul_nonneg (by omega) (by omega)
  have h2 : (777600000 + p) * (180 + s) ≥ 0 := Int.mul_nonneg (by omega) (by omega)
  have h3 : (777600000 - p) * (180 + s) ≥ 0 := Int.mul_nonneg (by omega) (by omega)
  have h4 : (777600000 - p) * (180 - s) ≥ 0 := Int.mul_nonneg (by omega) (by omega)
  simp only [Int.add_mul, Int.sub_mul, Int.mul_add, Int.mul_sub] at h1 h2 h3 h4
  omega

set_option maxHeartbeats 1000000 in
theorem implKnownOnesValue_any (n a b : Int) (w : World) :
    Calls Try.prog 27 #[.int .i64 n, .int .i64 a, .int .i64 b] w fun e w' => e = .returned (.tuple #[.int .i64 (if onB n a b = true then onV n a b else 0), .bool (onB n a b)]) ∧ w = w' := by
  have E1 := isToldByOnes_any n a b w
  cases hok : onB n a b with
  | false =>
    rw [hok] at E1
    replace E1 := Lib.hid E1
    clear hok
    go_enter Try.func27, Try.ntmps27
    go_wp2_with fail
    refine (E1.out).mono ?_
    rintro e w' ⟨rfl, rfl⟩
    go_wp2
    go_ret2
    exact ⟨rfl, rfl⟩
  | true =>
    rw [hok] at E1
    replace E1 := Lib.hid E1
    obtain ⟨hn, ha, hb⟩ := onB_of hok
    clear hok
    obtain ⟨m, rfl⟩ := Int.eq_ofNat_of_zero_le (show 0 ≤ n by omega)
    unfold onV
    rw [Int.toNat_natCast]
    have hbd := on_bd ha hb m (by omega) (by omega)
    have hpb := pow_bd65 (y := a - b) (by omega) (t := m - 1) (by omega)
    have E2 := power_any (a - b) (m - 1) w (by omega) (by omega)
    rw [show ((m - 1 : Nat) : Int) = (m : Int) - 1 by omega] at E2
    have hq := on_bd2 hpb ⟨hbd.1, hbd.2.1⟩
    have h5 : 1 ≤ m ∧ m ≤ 6 := by omega
    obtain ⟨p, hp⟩ : ∃ p, (a - b) ^ (m - 1) = p := ⟨_, rfl⟩
    obtain ⟨u, hu⟩ : ∃ u, ((m : Int) - 1) * b = u := ⟨_, rfl⟩
    rw [hp] at E2 hpb hq ⊢
    rw [hu] at hbd hq ⊢
    have hw1 : wrap64 (((m : Int) - 1) * b) = u := by rw [hu]; unfold wrap64; omega
    obtain ⟨q, hqq⟩ : ∃ q, p * (a + u) = q := ⟨_, rfl⟩
    have hw2 : wrap64 (p * (a + u)) = q := by rw [hqq]; rw [hqq] at hq; unfold wrap64; omega
    rw [hqq] at hq ⊢
    replace E2 := Lib.hid E2
    clear hp hu hqq
    go_enter Try.func27, Try.ntmps27
    go_wp2_with fail
    refine (E1.out).mono ?_
    rintro e w' ⟨rfl, rfl⟩
    go_wp2_with fail
    refine (E2.out).mono ?_
    rintro e w' ⟨rfl, rfl⟩
    go_wp2
    go_ret2
    exact ⟨rfl, rfl⟩

set_option maxHeartbeats 2000000 in
theorem specKnownOnesValue_any (n a b : Int) (w : World) :
    Calls Try.prog 30 #[.int .i64 n, .int .i64 a, .int .i64 b] w fun e w' => e = .returned (.tuple #[.int .i64 (if onB n a b = true then onV n a b else 0), .bool (onB n a b)]) ∧ w = w' := by
  have E1 := l6In_any n 1 6 w
  have hsp : onB n a b = (inB n 1 6 && (inB a (-30) 30 && inB b (-30) 30)) := rfl
  cases h1 : inB n 1 6 with
  | false =>
    rw [h1, Bool.false_and] at hsp
    rw [hsp]
    rw [h1] at E1
    replace E1 := Lib.hid E1
    clear h1 hsp
    go_enter Try.func30, Try.ntmps30
    go_wp2_with fail
    refine (E1.out).mono ?_
    rintro e w' ⟨rfl, rfl⟩
    go_wp2
    go_ret2
    exact ⟨rfl, rfl⟩
  | true =>
    rw [h1] at E1
    replace E1 := Lib.hid E1
    have E2 := l6In_any a (-30) 30 w
    cases h2 : inB a (-30) 30 with
    | false =>
      rw [h1, h2, Bool.false_and, Bool.and_false] at hsp
      rw [hsp]
      rw [h2] at E2
      replace E2 := Lib.hid E2
      clear h1 h2 hsp
      go_enter Try.func30, Try.ntmps30
      go_wp2_with fail
      refine (E1.out).mono ?_
      rintro e w' ⟨rfl, rfl⟩
      go_wp2_with fail
      refine (E2.out).mono ?_
      rintro e w' ⟨rfl, rfl⟩
      go_wp2
      go_ret2
      exact ⟨rfl, rfl⟩
    | true =>
      rw [h2] at E2
      replace E2 := Lib.hid E2
      have E3 := l6In_any b (-30) 30 w
      cases h3 : inB b (-30) 30 with
      | false =>
        rw [h1, h2, h3, Bool.and_false, Bool.and_false] at hsp
        rw [hsp]
        rw [h3] at E3
        replace E3 := Lib.hid E3
        clear h1 h2 h3 hsp
        go_enter Try.func30, Try.ntmps30
        go_wp2_with fail
        refine (E1.out).mono ?_
        rintro e w' ⟨rfl, rfl⟩
        go_wp2_with fail
        refine (E2.out).mono ?_
        rintro e w' ⟨rfl, rfl⟩
        go_wp2_with fail
        refine (E3.out).mono ?_
        rintro e w' ⟨rfl, rfl⟩
        go_wp2
        go_ret2
        exact ⟨rfl, rfl⟩
      | true =>
        rw [h3] at E3
        replace E3 := Lib.hid E3
        rw [h1, h2, h3] at hsp
        obtain ⟨hn, ha, hb⟩ := onB_of (show onB n a b = true from hsp)
        rw [show onB n a b = true from hsp]
        clear h1 h2 h3 hsp
        obtain ⟨m, rfl⟩ := Int.eq_ofNat_of_zero_le (show 0 ≤ n by omega)
        unfold onV
        rw [Int.toNat_natCast]
        have hbd := on_bd ha hb m (by omega) (by omega)
        have HPB := Lib.hid (fun (t : Nat) (ht : t ≤ 5) => on_bd2 (pow_bd65 (y := a - b) (by omega) (t := t) ht) ⟨hbd.1, hbd.2.1⟩)
        have h5 : 1 ≤ m ∧ m ≤ 6 := by omega
        obtain ⟨u, hu⟩ : ∃ u, ((m : Int) - 1) * b = u := ⟨_, rfl⟩
        rw [hu] at hbd HPB ⊢
        have hw1 : wrap64 (((m : Int) - 1) * b) = u := by rw [hu]; unfold wrap64; omega
        obtain ⟨s, hss⟩ : ∃ s, a + u = s := ⟨_, rfl⟩
        rw [hss] at hbd HPB ⊢
        obtain ⟨d, hdd⟩ : ∃ d, a - b = d := ⟨_, rfl⟩
        rw [hdd] at HPB ⊢
        have HSS := Lib.hid hss
        have hd60 : -60 ≤ d ∧ d ≤ 60 := by omega
        clear hu hss
        go_enter Try.func30, Try.ntmps30
        go_wp2_with fail
        refine (E1.out).mono ?_
        rintro e w' ⟨rfl, rfl⟩
        go_wp2_with fail
        refine (E2.out).mono ?_
        rintro e w' ⟨rfl, rfl⟩
        go_wp2_with fail
        refine (E3.out).mono ?_
        rintro e w' ⟨rfl, rfl⟩
        go_wp2
        go_loopg [8, 9] m (fun g v i wr => ∃ t : Nat, t + 1 ≤ m ∧ g = m - t ∧ i = .int .i64 ((t : Int) + 1) ∧ v = .int .i64 (d ^ t * s) ∧ w = wr)
        case atStart => exact ⟨0, by omega, rfl, rfl, by rw [Int.pow_zero, Int.one_mul, HSS.out], rfl⟩
        case round =>
          obtain ⟨t, ht, rfl, rfl, rfl, rfl⟩ := hrel
          by_cases htm : t + 1 < m
          · have b1 := HPB.out t (by omega)
            have b2 := HPB.out (t + 1) (by omega)
            have hst : d ^ (t + 1) * s = d ^ t * s * d := by rw [Int.pow_succ, Int.mul_assoc, Int.mul_comm d s, Int.mul_assoc]
            obtain ⟨p, hp⟩ : ∃ p, d ^ t * s = p := ⟨_, rfl⟩
            obtain ⟨q, hq⟩ : ∃ q, d ^ (t + 1) * s = q := ⟨_, rfl⟩
            rw [hp] at b1 hst ⊢
            rw [hq] at b2 hst
            have hmul : wrap64 (p * d) = q := by rw [← hst]; unfold wrap64; omega
            have HQ := Lib.hid hq
            clear hp hq hst
            go_wp2
            go_roundg (m - (t + 1))
            case measure => omega
            case rel => exact ⟨t + 1, by omega, rfl, by go_num, by rw [HQ.out, hmul], rfl⟩
          · have : m = t + 1 := by omega
            subst this
            go_wp2
            go_ret2
            exact ⟨rfl, rfl⟩

end Go.Proofs.Ytkahgpgnfodpgaa
end

section
namespace Go.Proofs.Ytkahgpgnfodpgaa
open Go.RowKit Go.Deep

theorem told_cells {W : World} {b : Nat} {s g : Value} {t : TypeId} (h : W.heap[b]? = some (.cells #[s, g] t)) : W.cell? ⟨b, 0, none⟩ = some s ∧ W.cell? ⟨b, 1, none⟩ = some g := by
  simp [World.cell?, h]

set_option maxRecDepth 100000 in
set_option maxHeartbeats 2000000 in
theorem toldEntry_any (K : Nat) (caps : Array Value) (B b o n cap i k : Nat) (x v : Int) (W : World)
    (hb : W.heap[B]? = some (.cells #[.slice (some ⟨b, o, none⟩) n cap, .func (.func K) #[] caps] 57)) (hi : i < n) (hx : W.cell? ⟨b, o + i, none⟩ = some (.int .i64 x))
    (eg : ∀ args w, (callFunc K args).run Try.prog w = .ok (.enter K args) w)
    (hE : ∀ W', Drawn W W' → Calls Try.prog K (#[.int .i64 x, .int .i64 k] ++ caps) W' fun e w' => e = .returned (.int .i64 v) ∧ Drawn W' w') :
    Calls Try.prog 124 #[.int .i64 i, .int .i64 k, .pointer (some ⟨B, 0, none⟩)] W fun e w' => e = .returned (.int .i64 v) ∧ Drawn W w' := by
  obtain ⟨c0, c1⟩ := told_cells hb
  have hii : (i : Int) < (n : Int) := by omega
  have HE := Lib.hid hE
  clear hE hb
  go_enter Try.func124, Try.ntmps124
  go_wp2
  go_quiet ((refine Calls.quiet_of (HE.out _ ?_); exact Drawn.mk _ _))
  go_wp2
  go_ret
  exact ⟨rfl, Drawn.mk _ _⟩

set_option maxRecDepth 100000 in
set_option maxHeartbeats 2000000 in
theorem toldTable_any (K : Nat) (caps : Array Value) (b o n cap : Nat) (x : Nat → Int) (f : Nat → Nat → Int) (w : World) (hn : n ≤ 1000)
    (hx : ∀ i, i < n → w.cell? ⟨b, o + i, none⟩ = some (.int .i64 (x i)))
    (eg : ∀ args w, (callFunc K args).run Try.prog w = .ok (.enter K args) w)
    (hE : ∀ (W : World) (i k : Nat), w.Since w.heap.size W → i < n → k < n → Calls Try.prog K (#[.int .i64 (x i), .int .i64 k] ++ caps) W fun e w' => e = .returned (.int .i64 (f i k)) ∧ Drawn W w') :
    Calls Try.prog 108 #[.agg #[.slice (some ⟨b, o, none⟩) n cap, .func (.func K) #[] caps]] w fun e w' => ∃ G, e = .returned (.slice (some ⟨G, 0, none⟩) n n) ∧ w.Since w.heap.size w' ∧ OwnT w.heap.size w'.heap.size w' (some ⟨G, 0, none⟩) (tabF n n f) := by
  obtain ⟨w1, hw1⟩ : ∃ w1, w.alloc (.cells #[.slice (some ⟨b, o, none⟩) n cap, .func (.func K) #[] caps] 57) = w1 := ⟨_, rfl⟩
  have hb1 : w1.heap[w.heap.size]? = some (.cells #[.slice (some ⟨b, o, none⟩) n cap, .func (.func K) #[] caps] 57) := by rw [← hw1]; exact World.alloc_heap_new w _
  have hs1 : w.Since w.heap.size w1 := by rw [← hw1]; exact (World.Since.refl _ _).alloc (Nat.le_refl _) _
  have hz1 : w1.heap.size = w.heap.size + 1 := by rw [← hw1]; simp
  have E := newTable_any 124 #[.pointer (some ⟨w.heap.size, 0, none⟩)] n n f w1 hn hn (enters_of Try.func124 (by kernel_rfl) rfl)
    (fun W i k hs hi hk => (toldEntry_any K caps w.heap.size b o n cap i k (x i) (f i k) W ((hs.block _ (by omega)).trans hb1) hi (((hs1.trans (since_mono hs hs1.size)).cell (a := ⟨b, o + i, none⟩) (World.block_lt_of_cell? _ _ (hx i hi))).trans (hx i hi)) eg
      (fun W' hd => hE W' i k ((hs1.trans (since_mono hs hs1.size)).trans (hd.since _)) hi hk)).mono fun _ _ h => ⟨h.1, h.2.since _⟩)
  replace E := Lib.hid E
  have c0 := (told_cells hb1).1
  clear hE hx
  go_enter Try.func108, Try.ntmps108
  go_wp2_with fail
  refine (E.out).mono ?_
  rintro e w' ⟨rfl, hs, ho⟩
  go_wp2
  go_ret
  rw [hz1] at ho
  exact ⟨_, rfl, hs1.trans (since_mono hs hs1.size), ho.mono (by omega) (Nat.le_refl _)⟩

set_option maxRecDepth 100000 in
set_option maxHeartbeats 2000000 in
theorem toldResult_any (K : Nat) (caps : Array Value) (b o n cap : Nat) (x : Nat → Int) (f : Nat → Nat → Int) (w : World) (hn : n ≤ 1000)
    (hx : ∀ i, i < n → w.cell? ⟨b, o + i, none⟩ = some (.int .i64 (x i)))
    (eg : ∀ args w, (callFunc K args).run Try.prog w = .ok (.enter K args) w)
    (hE : ∀ (W : World) (i k : Nat), w.Since w.heap.size W → i < n → k < n → Calls Try.prog K (#[.int .i64 (x i), .int .i64 k] ++ caps) W fun e w' => e = .returned (.int .i64 (f i k)) ∧ Drawn W w') :
    Calls Try.prog 66 #[.agg #[.slice (some ⟨b, o, none⟩) n cap, .func (.func K) #[] caps]] w (ImplT w (tabIn (tabF n n f)) (tabF n n f)) := by
  obtain ⟨w1, hw1⟩ : ∃ w1, w.alloc (.cells #[.slice (some ⟨b, o, none⟩) n cap, .func (.func K) #[] caps] 57) = w1 := ⟨_, rfl⟩
  have hs1 : w.Since w.heap.size w1 := by rw [← hw1]; exact (World.Since.refl _ _).alloc (Nat.le_refl _) _
  have hz1 : w1.heap.size = w.heap.size + 1 := by rw [← hw1]; simp
  have hb1 : w1.heap[w.heap.size]? = some (.cells #[.slice (some ⟨b, o, none⟩) n cap, .func (.func K) #[] caps] 57) := by rw [← hw1]; exact World.alloc_heap_new w _
  obtain ⟨c0, c1⟩ := told_cells hb1
  have E := Lib.hid (toldTable_any K caps b o n cap x f w1 hn (fun i hi => (hs1.cell (a := ⟨b, o + i, none⟩) (World.block_lt_of_cell? _ _ (hx i hi))).trans (hx i hi)) eg
    (fun W i k hs hi hk => hE W i k (hs1.trans (since_mono hs hs1.size)) hi hk))
  have HT := Lib.hid (tabF_length n n f)
  have HSZ := Lib.hid (szL_tabF n n f hn hn)
  obtain ⟨T, hT⟩ : ∃ T, tabF n n f = T := ⟨_, rfl⟩
  rw [hT] at E HT HSZ ⊢
  clear hE hx hT hb1
  go_enter Try.func66, Try.ntmps66
  go_wp2_with fail
  refine (E.out).mono ?_
  rintro e w2 ⟨G, rfl, hs2, ho2⟩
  have hs12 := hs1.trans (since_mono hs2 hs1.size)
  have HS := Lib.hid hs12
  have HO := Lib.hid ho2
  clear hs2 ho2 hs12 E
  go_wp2_with fail
  refine (result_any _ _ _ _ _ T w2 HT.out HSZ.out HO.out).mono ?_
  rintro e w3 ⟨a, cap', rfl, hs3, ho3⟩
  go_wp2
  go_ret2
  exact ⟨a, cap', rfl, HS.out.trans (since_mono hs3 HS.out.size), ho3.mono (by omega) hs3.size⟩

end Go.Proofs.Ytkahgpgnfodpgaa
end

section
namespace Go.Proofs.Ytkahgpgnfodpgaa
open Go.RowKit Go.Deep

structure PL (w wr : World) (n c : Nat) : Prop where
  since : w.Since w.heap.size wr
  row : wr.rowIs (w.heap.size + 1) 3 n (fun k => if k < c then .int .i64 k else .int .i64 0)
  res : ∃ u v, wr.heap[w.heap.size]? = some (.cells #[u, v] 57)

set_option maxRecDepth 100000 in
set_option maxHeartbeats 2000000 in
theorem toldByPlaces_any (n K : Nat) (caps : Array Value) (w : World) (hn : n ≤ 1000) :
    Calls Try.prog 79 #[.int .i64 n, .func (.func K) #[] caps] w fun e w' => ∃ b, e = .returned (.agg #[.slice (some ⟨b, 0, none⟩) n n, .func (.func K) #[] caps]) ∧ w.Since w.heap.size w' ∧ ∀ i, i < n → w'.cell? ⟨b, 0 + i, none⟩ = some (.int .i64 i) := by
  have hmk := run_make_row' (P := Try.prog) 23 3 (.int .i64 0) 8 Try.underlying23 Try.info3 rfl .i64 .i64 n (by omega) (by omega)
  go_enter Try.func79, Try.ntmps79
  go_wp2
  have hst : PL w ((w.alloc (.cells #[.slice none 0 0, Value.nilFunc] 57)).alloc (.cells (madeCells #[.int .i64 0] n) 3)) n 0 := by
    have r := World.rowIs_made (w.alloc (.cells #[.slice none 0 0, Value.nilFunc] 57)) (.int .i64 0) n 3
    simp only [World.size_alloc] at r
    exact ⟨((World.Since.refl _ w).alloc (Nat.le_refl _) _).alloc (by simp) _, r.congr (fun k _ => by simp), ⟨_, _, (Below.heap_alloc _ _ _ (by simp)).trans (World.alloc_heap_new w _)⟩⟩
  have HST := Lib.hid hst
  clear hst hmk
  go_loopg [6, 11] n (fun g _ i wr => ∃ c : Nat, c ≤ n ∧ g = n - c ∧ i = .int .i64 c ∧ PL w wr n c)
  case atStart => exact ⟨0, Nat.zero_le _, rfl, rfl, HST.out⟩
  case round =>
    obtain ⟨c, hc, rfl, rfl, hR⟩ := hrel
    clear HST
    by_cases hlt : c < n
    · have hc1 := hR.row.cell (i := c) hlt
      have hf1 := hR.row.frozen c
      simp only [Nat.lt_irrefl, if_false] at hc1
      have hP : PL w (wr.setCell ⟨w.heap.size + 1, c, none⟩ (.int .i64 c)) n (c + 1) := by
        obtain ⟨u, v, hr⟩ := hR.res
        refine ⟨hR.since.setCell (by show w.heap.size ≤ w.heap.size + 1; omega) _, (hR.row.set c _).congr (fun k _ => ?_), ⟨u, v, ?_⟩⟩
        · by_cases e : k = c
          · subst e; simp
          · rw [if_neg e]
            by_cases h : k < c
            · rw [if_pos h, if_pos (by omega)]
            · rw [if_neg h, if_neg (by omega)]
        · rw [Below.heap_setCell _ _ _ _ (by show w.heap.size ≠ w.heap.size + 1; omega)]; exact hr
      have HP := Lib.hid hP
      clear hR hP
      go_wp2
      go_roundg (n - (c + 1))
      case measure => omega
      case rel => exact ⟨c + 1, by omega, rfl, by go_num, HP.out⟩
    · have hcc : c = n := by omega
      subst hcc
      obtain ⟨u, v, hr⟩ := hR.res
      obtain ⟨c0, c1⟩ := told_cells hr
      have f0 : wr.frozen? ⟨w.heap.size, 0, none⟩ = false := by simp [World.frozen?, hr]
      have f1 : wr.frozen? ⟨w.heap.size, 1, none⟩ = false := by simp [World.frozen?, hr]
      obtain ⟨S, hS⟩ : ∃ S : Value, S = .slice (some ⟨w.heap.size + 1, 0, none⟩) c c := ⟨_, rfl⟩
      obtain ⟨F, hF⟩ : ∃ F : Value, F = .func (.func K) #[] caps := ⟨_, rfl⟩
      have d0 : (wr.setCell ⟨w.heap.size, 0, none⟩ S).cell? ⟨w.heap.size, 0, none⟩ = some S := World.cell?_setCell_same' _ _ _ (by rw [c0]; rfl)
      have d1 : (wr.setCell ⟨w.heap.size, 0, none⟩ S).cell? ⟨w.heap.size, 1, none⟩ = some v := by rw [World.cell?_setCell_other _ _ _ _ (fun e => by injection e with _ e2; omega)]; exact c1
      have g1 : (wr.setCell ⟨w.heap.size, 0, none⟩ S).frozen? ⟨w.heap.size, 1, none⟩ = false := by rw [World.frozen?_setCell]; exact f1
      have e0 : ((wr.setCell ⟨w.heap.size, 0, none⟩ S).setCell ⟨w.heap.size, 1, none⟩ F).cell? ⟨w.heap.size, 0, none⟩ = some S := by rw [World.cell?_setCell_other _ _ _ _ (fun e => by injection e with _ e2; omega)]; exact d0
      have e1 : ((wr.setCell ⟨w.heap.size, 0, none⟩ S).setCell ⟨w.heap.size, 1, none⟩ F).cell? ⟨w.heap.size, 1, none⟩ = some F := World.cell?_setCell_same' _ _ _ (by rw [d1]; rfl)
      have hs2 : w.Since w.heap.size ((wr.setCell ⟨w.heap.size, 0, none⟩ S).setCell ⟨w.heap.size, 1, none⟩ F) := (hR.since.setCell (Nat.le_refl _) _).setCell (Nat.le_refl _) _
      have hrow2 : ((wr.setCell ⟨w.heap.size, 0, none⟩ S).setCell ⟨w.heap.size, 1, none⟩ F).rowIs (w.heap.size + 1) 3 c (fun k => if k < c then .int .i64 k else .int .i64 0) := (hR.row.setOther (by show w.heap.size + 1 ≠ w.heap.size; omega) _).setOther (by show w.heap.size + 1 ≠ w.heap.size; omega) _
      have HS2 := Lib.hid hs2
      have HROW := Lib.hid hrow2
      rw [hS] at d0 d1 g1 e0 e1 HS2 HROW
      rw [hF] at e0 e1 HS2 HROW
      clear hS hF hs2 hrow2 hR hr
      go_wp2
      refine bodyPost_ret (v := .agg #[.slice (some ⟨w.heap.size + 1, 0, none⟩) c c, .func (.func K) #[] caps]) ?_ rfl ⟨w.heap.size + 1, rfl, HS2.out, fun i hi => ?_⟩
      · simp [results, Try.f79, go_sem, e0, e1]
      · have := HROW.out.cell (i := i) hi
        rw [if_pos hi] at this
        rw [Nat.zero_add]
        exact this

end Go.Proofs.Ytkahgpgnfodpgaa
end

section
namespace Go.Proofs.Ytkahgpgnfodpgaa
open Go.RowKit Go.Deep

set_option maxRecDepth 100000 in
set_option maxHeartbeats 2000000 in
theorem implKnownPowers_any (a : Option Addr) (cap m : Nat) (x : List Int) (w : World) (hn : x.length = m) (h6 : m ≤ 1048576) (hm : RowR w a x) :
    Calls Try.prog 16 #[.slice a m cap] w (ImplT w (l8B x 30 && tabIn (pwTo x m m)) (pwTo x m m)) := by
  have E1 := isSide_any m w
  have E2 := entriesIn_any a cap m x w hn h6 hm
  rw [← numsIn_rng] at E2
  have hsp := l8B_split x 30
  rw [hn] at hsp
  cases h1 : inB (m : Int) 1 6 with
  | false =>
    rw [h1, Bool.and_false] at hsp
    rw [hsp, Bool.false_and]
    rw [h1] at E1
    replace E1 := Lib.hid E1
    clear E2 hm hn h1 hsp
    go_enter Try.func16, Try.ntmps16
    go_wp2_with fail
    refine (E1.out).mono ?_
    rintro e w' ⟨rfl, rfl⟩
    go_wp2
    go_ret2
    exact ⟨_, _, rfl, World.Since.refl _ _, OwnT.nil _ _ _ _⟩
  | true =>
    rw [h1] at E1
    replace E1 := Lib.hid E1
    have h16 := of_decide_eq_true h1
    cases h2 : rngB x (-30) 30 with
    | false =>
      rw [h1, h2] at hsp
      rw [hsp]
      rw [h2] at E2
      replace E2 := Lib.hid E2
      clear hm hn h1 h2 hsp
      go_enter Try.func16, Try.ntmps16
      go_wp2_with fail
      refine (E1.out).mono ?_
      rintro e w' ⟨rfl, rfl⟩
      go_wp2_with fail
      refine (E2.out).mono ?_
      rintro e w' ⟨rfl, rfl⟩
      go_wp2
      go_ret2
      exact ⟨_, _, rfl, World.Since.refl _ _, OwnT.nil _ _ _ _⟩
    | true =>
      rw [h1, h2] at hsp
      rw [hsp]
      rw [h2] at E2
      replace E2 := Lib.hid E2
      have hx := rngB_of h2
      rw [hn] at hx
      obtain ⟨b, o, rfl, hc⟩ := hm (by omega)
      have E3 := Lib.hid (toldResult_any 65 #[] b o m cap (fun i => x.getD i 0) (fun i k => (x.getD i 0) ^ k) w (by omega) (fun i hi => hc i (by omega)) (enters_of Try.func65 (by kernel_rfl) rfl)
        (fun W i k _ hi hk => by
          have hb := hx i hi
          simp only [inB, decide_eq_true_eq] at hb
          exact (power_any (x.getD i 0) k W (by omega) (by omega)).mono fun _ _ h => ⟨h.1, h.2 ▸ Drawn.refl _⟩))
      rw [show tabF m m (fun i k => (x.getD i 0) ^ k) = pwTo x m m from rfl] at E3
      rw [Bool.and_self, Bool.true_and]
      obtain ⟨T, hT⟩ : ∃ T, pwTo x m m = T := ⟨_, rfl⟩
      rw [hT] at E3 ⊢
      clear hc hn h1 h2 hsp hx hT
      go_enter Try.func16, Try.ntmps16
      go_wp2_with fail
      refine (E1.out).mono ?_
      rintro e w' ⟨rfl, rfl⟩
      go_wp2_with fail
      refine (E2.out).mono ?_
      rintro e w' ⟨rfl, rfl⟩
      go_wp2_with fail
      refine (E3.out).mono ?_
      rintro e w' ⟨a', c', rfl, hs, ho⟩
      go_wp2
      go_ret2
      exact ⟨a', c', rfl, hs, ho⟩

def gcL (n : Nat) : List (List Int) := tabF n n fun i k => (Nat.gcd (i + 1) (k + 1) : Nat)
def mnL (n : Nat) : List (List Int) := tabF n n fun i k => (min i k : Nat) + 1
theorem tabIn_sq {m : Nat} {f : Nat → Nat → Int} (h1 : 1 ≤ m) (h6 : m ≤ 6) (hf : ∀ i k, i < m → k < m → -30 ≤ f i k ∧ f i k ≤ 30) : tabIn (tabF m m f) = true := by
  refine tabIn_true ⟨by rw [tabF_length]; exact h1, by rw [tabF_length]; exact h6, fun r hr => ?_⟩
  rw [tabF_length] at hr
  refine ⟨by rw [tabF_len _ _ _ _ hr, tabF_len _ _ _ _ (by omega)], by rw [tabF_len _ _ _ _ hr]; exact h1, by rw [tabF_len _ _ _ _ hr]; exact h6, fun k hk => ?_⟩
  rw [tabF_len _ _ _ _ hr] at hk
  rw [tabF_at _ _ _ _ _ hr hk]
  exact hf r k hr hk
theorem gcL_in {m : Nat} (h1 : 1 ≤ m) (h6 : m ≤ 6) : tabIn (gcL m) = true := tabIn_sq h1 h6 fun i k hi _ => by
  have := Nat.gcd_le_left (k + 1) (show 0 < i + 1 by omega)
  omega
theorem mnL_in {m : Nat} (h1 : 1 ≤ m) (h6 : m ≤ 6) : tabIn (mnL m) = true := tabIn_sq h1 h6 fun i k hi _ => by omega

set_option maxHeartbeats 1000000 in
theorem divEntry_any (i k : Nat) (W : World) (hi : i ≤ 100) (hk : k ≤ 100) :
    Calls Try.prog 85 #[.int .i64 i, .int .i64 k] W fun e w' => e = .returned (.int .i64 (Nat.gcd (i + 1) (k + 1) : Nat)) ∧ Drawn W w' := by
  have E := commonDivisor_dr (i + 1) (k + 1) W (by omega) (by omega)
  rw [show ((i + 1 : Nat) : Int) = (i : Int) + 1 by omega, show ((k + 1 : Nat) : Int) = (k : Int) + 1 by omega] at E
  obtain ⟨d, hd⟩ : ∃ d, Nat.gcd (i + 1) (k + 1) = d := ⟨_, rfl⟩
  rw [hd] at E ⊢
  replace E := Lib.hid E
  clear hd
  go_enter Try.func85, Try.ntmps85
  go_wp2_with fail
  refine (E.out).mono ?_
  rintro e w' ⟨rfl, hd⟩
  go_wp2
  go_ret
  exact ⟨rfl, hd⟩

set_option maxHeartbeats 1000000 in
theorem leastEntry_any (i k : Nat) (W : World) (hi : i ≤ 100) (hk : k ≤ 100) :
    Calls Try.prog 89 #[.int .i64 i, .int .i64 k] W fun e w' => e = .returned (.int .i64 ((min i k : Nat) + 1)) ∧ Drawn W w' := by
  go_enter Try.func89, Try.ntmps89
  go_wp2
  all_goals
    go_ret
    exact ⟨ret_int (by omega), Drawn.refl _⟩

set_option maxRecDepth 100000 in
set_option maxHeartbeats 2000000 in
theorem implKnownDivisors_any (n : Int) (w : World) :
    Calls Try.prog 32 #[.int .i64 n] w (ImplT w (inB n 1 6) (gcL n.toNat)) := by
  have E := isSide_any n w
  cases hin : inB n 1 6 with
  | false =>
    rw [hin] at E
    replace E := Lib.hid E
    clear hin
    go_enter Try.func32, Try.ntmps32
    go_wp2_with fail
    refine (E.out).mono ?_
    rintro e w' ⟨rfl, rfl⟩
    go_wp2
    go_ret2
    exact ⟨_, _, rfl, World.Since.refl _ _, OwnT.nil _ _ _ _⟩
  | true =>
    rw [hin] at E
    replace E := Lib.hid E
    have h6 := of_decide_eq_true hin
    obtain ⟨m, rfl⟩ := Int.eq_ofNat_of_zero_le (show 0 ≤ n by omega)
    clear hin
    rw [Int.toNat_natCast]
    have E2 := Lib.hid (toldByPlaces_any m 85 #[] w (by omega))
    have HT := Lib.hid (gcL_in (m := m) (by omega) (by omega))
    have E3 := Lib.hid (fun (W : World) (b : Nat) (hc : ∀ i, i < m → W.cell? ⟨b, 0 + i, none⟩ = some (.int .i64 i)) => toldResult_any 85 #[] b 0 m m (fun i => (i : Int)) (fun i k => (Nat.gcd (i + 1) (k + 1) : Nat)) W (by omega) hc (enters_of Try.func85 (by kernel_rfl) rfl)
      (fun W i k _ hi hk => divEntry_any i k W (by omega) (by omega)))
    have hL : tabF m m (fun i k => (Nat.gcd (i + 1) (k + 1) : Nat)) = gcL m := rfl
    simp only [hL, HT.out] at E3
    clear hL
    obtain ⟨T, hT⟩ : ∃ T, gcL m = T := ⟨_, rfl⟩
    rw [hT] at E3 ⊢
    clear hT HT
    go_enter Try.func32, Try.ntmps32
    go_wp2_with fail
    refine (E.out).mono ?_
    rintro e w' ⟨rfl, rfl⟩
    go_wp2_with fail
    refine (E2.out).mono ?_
    rintro e w1 ⟨b, rfl, hs1, hc1⟩
    have HS1 := Lib.hid hs1
    have HC1 := Lib.hid hc1
    clear hs1 hc1
    have hs2 : w1.Since w1.heap.size (w1.alloc (.cells #[.slice (some ⟨b, 0, none⟩) m m, .func (.func 85) #[] #[]] 57)) := (World.Since.refl _ _).alloc (Nat.le_refl _) _
    have HS2 := Lib.hid (HS1.out.trans (since_mono hs2 HS1.out.size))
    have HC2 := Lib.hid (fun i hi => (hs2.cell (a := ⟨b, 0 + i, none⟩) (World.block_lt_of_cell? _ _ (HC1.out i hi))).trans (HC1.out i hi))
    clear hs2
    go_wp2_with fail
    refine (E3.out _ b HC2.out).mono ?_
    rintro e w3 ⟨a', c', rfl, hs3, ho3⟩
    go_wp2
    go_ret2
    exact ⟨a', c', rfl, HS2.out.trans (since_mono hs3 HS2.out.size), ho3.mono HS2.out.size (Nat.le_refl _)⟩

set_option maxRecDepth 100000 in
set_option maxHeartbeats 2000000 in
theorem implKnownLeast_any (n : Int) (w : World) :
    Calls Try.prog 38 #[.int .i64 n] w (ImplT w (inB n 1 6) (mnL n.toNat)) := by
  have E := isSide_any n w
  cases hin : inB n 1 6 with
  | false =>
    rw [hin] at E
    replace E := Lib.hid E
    clear hin
    go_enter Try.func38, Try.ntmps38
    go_wp2_with fail
    refine (E.out).mono ?_
    rintro e w' ⟨rfl, rfl⟩
    go_wp2
    go_ret2
    exact ⟨_, _, rfl, World.Since.refl _ _, OwnT.nil _ _ _ _⟩
  | true =>
    rw [hin] at E
    replace E := Lib.hid E
    have h6 := of_decide_eq_true hin
    obtain ⟨m, rfl⟩ := Int.eq_ofNat_of_zero_le (show 0 ≤ n by omega)
    clear hin
    rw [Int.toNat_natCast]
    have E2 := Lib.hid (toldByPlaces_any m 89 #[] w (by omega))
    have HT := Lib.hid (mnL_in (m := m) (by omega) (by omega))
    have E3 := Lib.hid (fun (W : World) (b : Nat) (hc : ∀ i, i < m → W.cell? ⟨b, 0 + i, none⟩ = some (.int .i64 i)) => toldResult_any 89 #[] b 0 m m (fun i => (i : Int)) (fun i k => ((min i k : Nat) : Int) + 1) W (by omega) hc (enters_of Try.func89 (by kernel_rfl) rfl)
      (fun W i k _ hi hk => leastEntry_any i k W (by omega) (by omega)))
    have hL : tabF m m (fun i k => ((min i k : Nat) : Int) + 1) = mnL m := rfl
    simp only [hL, HT.out] at E3
    clear hL
    obtain ⟨T, hT⟩ : ∃ T, mnL m = T := ⟨_, rfl⟩
    rw [hT] at E3 ⊢
    clear hT HT
    go_enter Try.func38, Try.ntmps38
    go_wp2_with fail
    refine (E.out).mono ?_
    rintro e w' ⟨rfl, rfl⟩
    go_wp2_with fail
    refine (E2.out).mono ?_
    rintro e w1 ⟨b, rfl, hs1, hc1⟩
    have HS1 := Lib.hid hs1
    have HC1 := Lib.hid hc1
    clear hs1 hc1
    have hs2 : w1.Since w1.heap.size (w1.alloc (.cells #[.slice (some ⟨b, 0, none⟩) m m, .func (.func 89) #[] #[]] 57)) := (World.Since.refl _ _).alloc (Nat.le_refl _) _
    have HS2 := Lib.hid (HS1.out.trans (since_mono hs2 HS1.out.size))
    have HC2 := Lib.hid (fun i hi => (hs2.cell (a := ⟨b, 0 + i, none⟩) (World.block_lt_of_cell? _ _ (HC1.out i hi))).trans (HC1.out i hi))
    clear hs2
    go_wp2_with fail
    refine (E3.out _ b HC2.out).mono ?_
    rintro e w3 ⟨a', c', rfl, hs3, ho3⟩
    go_wp2
    go_ret2
    exact ⟨a', c', rfl, HS2.out.trans (since_mono hs3 HS2.out.size), ho3.mono HS2.out.size (Nat.le_refl _)⟩

def onL (n : Nat) (a b : Int) : List (List Int) := tabF n n (onF a b)
theorem onL_in {m : Nat} {a b : Int} (h1 : 1 ≤ m) (h6 : m ≤ 6) (ha : -30 ≤ a ∧ a ≤ 30) (hb : -30 ≤ b ∧ b ≤ 30) : tabIn (onL m a b) = true := tabIn_sq h1 h6 fun i k _ _ => by unfold onF; split <;> omega

set_option maxHeartbeats 1000000 in
theorem onesEntry_any (i k A B : Nat) (a b : Int) (W : World) (hA : W.cell? ⟨A, 0, none⟩ = some (.int .i64 a)) (hB : W.cell? ⟨B, 0, none⟩ = some (.int .i64 b)) :
    Calls Try.prog 80 #[.int .i64 i, .int .i64 k, .pointer (some ⟨A, 0, none⟩), .pointer (some ⟨B, 0, none⟩)] W fun e w' => e = .returned (.int .i64 (onF a b i k)) ∧ Drawn W w' := by
  unfold onF
  by_cases h : i = k
  · subst h
    rw [if_pos rfl]
    go_enter Try.func80, Try.ntmps80
    go_wp2
    go_ret
    exact ⟨rfl, Drawn.refl _⟩
  · have hne : ((i : Int) == (k : Int)) = false := by simp; omega
    rw [if_neg h]
    go_enter Try.func80, Try.ntmps80
    go_wp2
    go_ret
    exact ⟨rfl, Drawn.refl _⟩

set_option maxRecDepth 100000 in
set_option maxHeartbeats 2000000 in
theorem implKnownOnes_any (n a b : Int) (w : World) :
    Calls Try.prog 25 #[.int .i64 n, .int .i64 a, .int .i64 b] w (ImplT w (onB n a b) (onL n.toNat a b)) := by
  obtain ⟨w0, hw0⟩ : ∃ w0, (w.alloc (.cells #[.int .i64 a] 3)).alloc (.cells #[.int .i64 b] 3) = w0 := ⟨_, rfl⟩
  have s0 : w.Since w.heap.size w0 := by rw [← hw0]; exact ((World.Since.refl _ w).alloc (Nat.le_refl _) _).alloc (by simp) _
  have b1 := Boxed.new (w.alloc (.cells #[.int .i64 a] 3)) 3 (.int .i64 b)
  have b0 := (Boxed.new w 3 (.int .i64 a)).alloc (.cells #[.int .i64 b] 3)
  simp only [World.size_alloc] at b1
  have z0 : w0.heap.size = w.heap.size + 2 := by rw [← hw0]; simp
  rw [hw0] at b0 b1
  have e0 := b0.cell
  have e1 := b1.cell
  have E := isToldByOnes_any n a b w0
  cases hok : onB n a b with
  | false =>
    rw [hok] at E
    replace E := Lib.hid E
    have S0 := Lib.hid s0
    clear hok s0
    go_enter Try.func25, Try.ntmps25
    go_wp2_with fail
    refine (E.out).mono ?_
    rintro e w' ⟨rfl, rfl⟩
    go_wp2
    go_ret2
    exact ⟨_, _, rfl, S0.out, OwnT.nil _ _ _ _⟩
  | true =>
    rw [hok] at E
    replace E := Lib.hid E
    obtain ⟨hn, ha, hb⟩ := onB_of hok
    clear hok
    obtain ⟨m, rfl⟩ := Int.eq_ofNat_of_zero_le (show 0 ≤ n by omega)
    rw [Int.toNat_natCast]
    have E2 := Lib.hid (toldByPlaces_any m 80 #[.pointer (some ⟨w.heap.size, 0, none⟩), .pointer (some ⟨w.heap.size + 1, 0, none⟩)] w0 (by omega))
    have HT := Lib.hid (onL_in (m := m) (by omega) (by omega) ha hb)
    have E3 := Lib.hid (fun (W : World) (hs : w0.Since w0.heap.size W) (c : Nat) (hc : ∀ i, i < m → W.cell? ⟨c, 0 + i, none⟩ = some (.int .i64 i)) => toldResult_any 80 #[.pointer (some ⟨w.heap.size, 0, none⟩), .pointer (some ⟨w.heap.size + 1, 0, none⟩)] c 0 m m (fun i => (i : Int)) (onF a b) W (by omega) hc (enters_of Try.func80 (by kernel_rfl) rfl)
      (fun V i k hv _ _ => onesEntry_any i k w.heap.size (w.heap.size + 1) a b V (((hs.trans (since_mono hv hs.size)).cell (a := ⟨w.heap.size, 0, none⟩) (by show w.heap.size < w0.heap.size; omega)).trans e0) (((hs.trans (since_mono hv hs.size)).cell (a := ⟨w.heap.size + 1, 0, none⟩) (by show w.heap.size + 1 < w0.heap.size; omega)).trans e1)))
    have hL : tabF m m (onF a b) = onL m a b := rfl
    simp only [hL, HT.out] at E3
    clear hL
    obtain ⟨T, hT⟩ : ∃ T, onL m a b = T := ⟨_, rfl⟩
    rw [hT] at E3 ⊢
    have S0 := Lib.hid s0
    clear hT HT s0 b0 b1
    go_enter Try.func25, Try.ntmps25
    go_wp2_with fail
    refine (E.out).mono ?_
    rintro e w' ⟨rfl, rfl⟩
    go_wp2_with fail
    refine (E2.out).mono ?_
    rintro e w1 ⟨c, rfl, hs1, hc1⟩
    have HS1 := Lib.hid hs1
    have HC1 := Lib.hid hc1
    have hz1 := hs1.size
    clear hs1 hc1
    have hs2 : w1.Since w1.heap.size (w1.alloc (.cells #[.slice (some ⟨c, 0, none⟩) m m, .func (.func 80) #[] #[.pointer (some ⟨w.heap.size, 0, none⟩), .pointer (some ⟨w.heap.size + 1, 0, none⟩)]] 57)) := (World.Since.refl _ _).alloc (Nat.le_refl _) _
    have HS2 := Lib.hid (HS1.out.trans (since_mono hs2 HS1.out.size))
    have HC2 := Lib.hid (fun i hi => (hs2.cell (a := ⟨c, 0 + i, none⟩) (World.block_lt_of_cell? _ _ (HC1.out i hi))).trans (HC1.out i hi))
    clear hs2
    go_wp2_with fail
    refine (E3.out _ HS2.out c HC2.out).mono ?_
    rintro e w3 ⟨a', c', rfl, hs3, ho3⟩
    go_wp2
    go_ret2
    exact ⟨a', c', rfl, S0.out.trans (since_mono (HS2.out.trans (since_mono hs3 HS2.out.size)) S0.out.size), ho3.mono (Nat.le_trans S0.out.size HS2.out.size) (Nat.le_refl _)⟩

end Go.Proofs.Ytkahgpgnfodpgaa
end

section
namespace Go.Proofs.Ytkahgpgnfodpgaa
open Go.RowKit Go.Deep

def rowTo (f : Nat → Nat → Int) (r k : Nat) : List Int := (List.range k).map fun j => f r j
theorem rowTo_succ (f : Nat → Nat → Int) (r k : Nat) : rowTo f r (k + 1) = rowTo f r k ++ [f r k] := by simp [rowTo, List.range_succ]
theorem rowTo_length (f : Nat → Nat → Int) (r k : Nat) : (rowTo f r k).length = k := by simp [rowTo]
theorem szL_res {ok : Bool} {n : Nat} {f : Nat → Nat → Int} (h : ok = true → n ≤ 6) : szL (resT ok (tabF n n f)) ≤ 1048576 := by
  cases ok with
  | false => simp [resT, szL, sumTo]
  | true => exact szL_tabF _ _ _ (by have := h rfl; omega) (by have := h rfl; omega)
theorem tabF_succ (r m : Nat) (f : Nat → Nat → Int) : tabF (r + 1) m f = tabF r m f ++ [rowTo f r m] := by simp [tabF, rowTo, List.range_succ]

set_option maxRecDepth 100000 in
set_option maxHeartbeats 4000000 in
theorem specKnownDivisors_any (n : Int) (w : World) :
    Calls Try.prog 33 #[.int .i64 n] w (SpecT w (inB n 1 6) (gcL n.toNat)) := by
  have E := l6In_any n 1 6 w
  cases hin : inB n 1 6 with
  | false =>
    rw [hin] at E
    replace E := Lib.hid E
    clear hin
    go_enter Try.func33, Try.ntmps33
    go_wp2_with fail
    refine (E.out).mono ?_
    rintro e w' ⟨rfl, rfl⟩
    go_wp2_with fail
    refine (l1None_any w).mono ?_
    rintro e w2 ⟨rfl, hs2⟩
    go_wp2
    go_ret2
    exact ⟨_, _, rfl, hs2, InT.nil _ _ _ _⟩
  | true =>
    rw [hin] at E
    replace E := Lib.hid E
    have h6 := of_decide_eq_true hin
    obtain ⟨m, rfl⟩ := Int.eq_ofNat_of_zero_le (show 0 ≤ n by omega)
    clear hin
    rw [Int.toNat_natCast]
    unfold gcL
    have hm6 : 1 ≤ m ∧ m ≤ 6 := by omega
    obtain ⟨i42, hi42⟩ := info42_parts
    obtain ⟨i3, hi3⟩ := info3_parts
    have HI := Lib.hid hi42
    have HJ := Lib.hid hi3
    have HST := Lib.hid (bt_start w (fun _ => none) (fun _ => 0) #[] rfl)
    clear hi42 hi3
    go_enter Try.func33, Try.ntmps33
    go_wp2_with fail
    refine (E.out).mono ?_
    rintro e w' ⟨rfl, rfl⟩
    go_wp2
    go_loopg [4, 5, 6, 7] m (fun g v k _ _ wr => ∃ r : Nat, ∃ A C, r ≤ m ∧ g = m - r ∧ k = .int .i64 ((r : Int) + 1) ∧ BT w wr v (tabF r m (fun i k => ((Nat.gcd (i + 1) (k + 1) : Nat) : Int))) A C)
    case atStart => exact ⟨0, _, _, Nat.zero_le _, rfl, by go_num, HST.out⟩
    case round =>
      obtain ⟨r, A, C, hr, rfl, rfl, hR⟩ := hrel
      clear HST
      by_cases hlt : r < m
      · have HR := Lib.hid hR
        have hrb := rb_start wr #[] rfl
        have HRB := Lib.hid hrb
        have hsz2 := hR.since.size
        have hlen := tabF_length r m (fun i k => ((Nat.gcd (i + 1) (k + 1) : Nat) : Int))
        have hkd : decide ((r : Int) + 1 ≤ (m : Int)) = true := by simp; omega
        obtain ⟨wo, rfl⟩ : ∃ wo : World, wo = wr := ⟨_, rfl⟩
        clear hR hrb
        go_wp2
        go_loopg [6, 7] m (fun g v i wi => ∃ t : Nat, t ≤ m ∧ g = m - t ∧ i = .int .i64 ((t : Int) + 1) ∧ RB wo wi v (rowTo (fun i k => ((Nat.gcd (i + 1) (k + 1) : Nat) : Int)) r t))
        case atStart => exact ⟨0, Nat.zero_le _, rfl, by go_num, HRB.out⟩
        case round =>
          obtain ⟨t, ht, rfl, rfl, hI⟩ := hrel
          clear HRB
          by_cases htm : t < m
          · have hle := rowTo_length (fun i k => ((Nat.gcd (i + 1) (k + 1) : Nat) : Int)) r t
            have hzi := hI.since.size
            have hS := HR.out.since.trans (since_mono hI.since hsz2)
            have HII := Lib.hid hI
            obtain ⟨y, hy⟩ : ∃ y, y = (fun i k => ((Nat.gcd (i + 1) (k + 1) : Nat) : Int)) r t := ⟨_, rfl⟩
            have HY := Lib.hid hy
            clear hI
            have E := l3Gcd_any (r + 1) (t + 1) wr (by omega) (by omega)
            rw [show ((r + 1 : Nat) : Int) = (r : Int) + 1 by omega, show ((t + 1 : Nat) : Int) = (t : Int) + 1 by omega] at E
            have hy2 : y = ((Nat.gcd (r + 1) (t + 1) : Nat) : Int) := hy
            rw [← hy2] at E
            replace E := Lib.hid E
            clear hy hy2
            go_wp2_with fail
            refine (E.out).mono ?_
            rintro e w' ⟨rfl, rfl⟩
            go_wp2_with (at_builtin; (refine wpList_append_own _ rfl _ _ 23 rfl wo.heap.size 3 i3 (.int .i64 0) 1 8 Try.underlying23 HJ.out.1 HJ.out.2.1 HJ.out.2.2.1 HJ.out.2.2.2 rfl (by decide) _ _ _ rfl (HII.out.own.alloc _) ⟨wr.heap.size, 0, none⟩ 1 1 [.int .i64 y] rfl rfl (cell_one_at _ _ _ rfl) (fun x hx => by simp at hx; subst hx; rfl) (by unfold maxLen; omega) (by omega) (by simp; omega) ?_); intro v' w1 hown' hgrow _)
            have hP := HII.out.push hown' hgrow
            rw [HY.out, ← rowTo_succ] at hP
            have HP := Lib.hid hP
            clear hP hown' hgrow hle
            go_roundg (m - (t + 1))
            case measure => omega
            case rel => exact ⟨t + 1, by omega, rfl, by go_num, HP.out⟩
          · have hjj : t = m := by omega
            subst hjj
            obtain ⟨ra, rcp, hv, hrow⟩ := hI.slice
            rw [rowTo_length] at hv
            subst hv
            have HII := Lib.hid hI
            have hle := rowTo_length (fun i k => ((Nat.gcd (i + 1) (k + 1) : Nat) : Int)) r t
            have hzi := hI.since.size
            have HROW := Lib.hid hrow
            clear hI hrow
            have hBT := HR.out.later HII.out.since
            have HBT := Lib.hid hBT
            clear hBT
            go_wp2_with (at_builtin; (refine wpList_append_own _ rfl _ _ 25 rfl w.heap.size 23 i42 (.slice none 0 0) 1 24 Try.underlying25 HI.out.1 HI.out.2.1 HI.out.2.2.1 HI.out.2.2.2 rfl (by decide) _ _ _ rfl (HBT.out.own.alloc _) ⟨wr.heap.size, 0, none⟩ 1 1 [.slice ra t rcp] rfl rfl (cell_one_at _ _ _ rfl) (fun x hx => by simp at hx; subst hx; rfl) (by unfold maxLen; omega) (by omega) (by simp; omega) ?_); intro v' w1 hown' hgrow _)
            have hP := HBT.out.push (rv := .slice ra t rcp) (x := rowTo (fun i k => ((Nat.gcd (i + 1) (k + 1) : Nat) : Int)) r t) (a := ra) (cp := rcp) (by rw [rowTo_length]) (fun h => by obtain ⟨G, e, h2, h3⟩ := HROW.out h; exact ⟨G, e, by omega, h3⟩) (fun h => by obtain ⟨G, e, h2, _⟩ := HROW.out h; exact HR.out.fresh e h2) hown' hgrow
            rw [← tabF_succ] at hP
            have HP := Lib.hid hP
            clear hP hown' hgrow hle hlen
            go_roundg (t - (r + 1))
            case measure => omega
            case rel => exact ⟨r + 1, _, _, by omega, rfl, by go_num, HP.out⟩
      · have hrm : r = m := by omega
        subst hrm
        obtain ⟨ra, rcp, hv, hin⟩ := hR.slice
        rw [tabF_length] at hv
        subst hv
        have HS := Lib.hid hR.since
        have hsw := hR.since.size
        have HIN := Lib.hid hin
        have HTT := Lib.hid (show resT true (tabF r r (fun i k => ((Nat.gcd (i + 1) (k + 1) : Nat) : Int))) = tabF r r (fun i k => ((Nat.gcd (i + 1) (k + 1) : Nat) : Int)) from rfl)
        clear hR hin
        go_wp2
        go_ret2
        exact ⟨ra, rcp, by rw [HTT.out]; show _ = Ending.returned (.tuple #[.slice ra (tabF r r (fun i k => ((Nat.gcd (i + 1) (k + 1) : Nat) : Int))).length rcp, .bool true]); rw [tabF_length]; rfl, HS.out, HIN.out⟩

set_option maxRecDepth 100000 in
set_option maxHeartbeats 4000000 in
theorem specKnownLeast_any (n : Int) (w : World) :
    Calls Try.prog 39 #[.int .i64 n] w (SpecT w (inB n 1 6) (mnL n.toNat)) := by
  have E := l6In_any n 1 6 w
  cases hin : inB n 1 6 with
  | false =>
    rw [hin] at E
    replace E := Lib.hid E
    clear hin
    go_enter Try.func39, Try.ntmps39
    go_wp2_with fail
    refine (E.out).mono ?_
    rintro e w' ⟨rfl, rfl⟩
    go_wp2_with fail
    refine (l1None_any w).mono ?_
    rintro e w2 ⟨rfl, hs2⟩
    go_wp2
    go_ret2
    exact ⟨_, _, rfl, hs2, InT.nil _ _ _ _⟩
  | true =>
    rw [hin] at E
    replace E := Lib.hid E
    have h6 := of_decide_eq_true hin
    obtain ⟨m, rfl⟩ := Int.eq_ofNat_of_zero_le (show 0 ≤ n by omega)
    clear hin
    rw [Int.toNat_natCast]
    unfold mnL
    have hm6 : 1 ≤ m ∧ m ≤ 6 := by omega
    obtain ⟨i42, hi42⟩ := info42_parts
    obtain ⟨i3, hi3⟩ := info3_parts
    have HI := Lib.hid hi42
    have HJ := Lib.hid hi3
    have HST := Lib.hid (bt_start w (fun _ => none) (fun _ => 0) #[] rfl)
    clear hi42 hi3
    go_enter Try.func39, Try.ntmps39
    go_wp2_with fail
    refine (E.out).mono ?_
    rintro e w' ⟨rfl, rfl⟩
    go_wp2
    go_loopg [4, 5, 6, 7] m (fun g v k _ _ wr => ∃ r : Nat, ∃ A C, r ≤ m ∧ g = m - r ∧ k = .int .i64 r ∧ BT w wr v (tabF r m (fun i k => ((min i k : Nat) : Int) + 1)) A C)
    case atStart => exact ⟨0, _, _, Nat.zero_le _, rfl, by go_num, HST.out⟩
    case round =>
      obtain ⟨r, A, C, hr, rfl, rfl, hR⟩ := hrel
      clear HST
      by_cases hlt : r < m
      · have HR := Lib.hid hR
        have hrb := rb_start wr #[] rfl
        have HRB := Lib.hid hrb
        have hsz2 := hR.since.size
        have hlen := tabF_length r m (fun i k => ((min i k : Nat) : Int) + 1)
        obtain ⟨wo, rfl⟩ : ∃ wo : World, wo = wr := ⟨_, rfl⟩
        clear hR hrb
        go_wp2
        go_loopg [6, 7] m (fun g v i wi => ∃ t : Nat, t ≤ m ∧ g = m - t ∧ i = .int .i64 t ∧ RB wo wi v (rowTo (fun i k => ((min i k : Nat) : Int) + 1) r t))
        case atStart => exact ⟨0, Nat.zero_le _, rfl, by go_num, HRB.out⟩
        case round =>
          obtain ⟨t, ht, rfl, rfl, hI⟩ := hrel
          clear HRB
          by_cases htm : t < m
          · have hle := rowTo_length (fun i k => ((min i k : Nat) : Int) + 1) r t
            have hzi := hI.since.size
            have hS := HR.out.since.trans (since_mono hI.since hsz2)
            have HII := Lib.hid hI
            obtain ⟨y, hy⟩ : ∃ y, y = (fun i k => ((min i k : Nat) : Int) + 1) r t := ⟨_, rfl⟩
            have HY := Lib.hid hy
            clear hI
            have hy2 : y = ((min r t : Nat) : Int) + 1 := hy
            by_cases hrt : t < r
            · have hyt : (t : Int) + 1 = y := by omega
              clear hy hy2
              go_wp2_with (at_builtin; (refine wpList_append_own _ rfl _ _ 23 rfl wo.heap.size 3 i3 (.int .i64 0) 1 8 Try.underlying23 HJ.out.1 HJ.out.2.1 HJ.out.2.2.1 HJ.out.2.2.2 rfl (by decide) _ _ _ rfl (HII.out.own.alloc _) ⟨wr.heap.size, 0, none⟩ 1 1 [.int .i64 y] rfl rfl (cell_one_at _ _ _ rfl) (fun x hx => by simp at hx; subst hx; rfl) (by unfold maxLen; omega) (by omega) (by simp; omega) ?_); intro v' w1 hown' hgrow _)
              have hP := HII.out.push hown' hgrow
              rw [HY.out, ← rowTo_succ] at hP
              have HP := Lib.hid hP
              clear hP hown' hgrow hle
              go_roundg (m - (t + 1))
              case measure => omega
              case rel => exact ⟨t + 1, by omega, rfl, by go_num, HP.out⟩
            · have hyt : (r : Int) + 1 = y := by omega
              clear hy hy2
              go_wp2_with (at_builtin; (refine wpList_append_own _ rfl _ _ 23 rfl wo.heap.size 3 i3 (.int .i64 0) 1 8 Try.underlying23 HJ.out.1 HJ.out.2.1 HJ.out.2.2.1 HJ.out.2.2.2 rfl (by decide) _ _ _ rfl (HII.out.own.alloc _) ⟨wr.heap.size, 0, none⟩ 1 1 [.int .i64 y] rfl rfl (cell_one_at _ _ _ rfl) (fun x hx => by simp at hx; subst hx; rfl) (by unfold maxLen; omega) (by omega) (by simp; omega) ?_); intro v' w1 hown' hgrow _)
              have hP := HII.out.push hown' hgrow
              rw [HY.out, ← rowTo_succ] at hP
              have HP := Lib.hid hP
              clear hP hown' hgrow hle
              go_roundg (m - (t + 1))
              case measure => omega
              case rel => exact ⟨t + 1, by omega, rfl, by go_num, HP.out⟩
          · have hjj : t = m := by omega
            subst hjj
            obtain ⟨ra, rcp, hv, hrow⟩ := hI.slice
            rw [rowTo_length] at hv
            subst hv
            have HII := Lib.hid hI
            have hle := rowTo_length (fun i k => ((min i k : Nat) : Int) + 1) r t
            have hzi := hI.since.size
            have HROW := Lib.hid hrow
            clear hI hrow
            have hBT := HR.out.later HII.out.since
            have HBT := Lib.hid hBT
            clear hBT
            go_wp2_with (at_builtin; (refine wpList_append_own _ rfl _ _ 25 rfl w.heap.size 23 i42 (.slice none 0 0) 1 24 Try.underlying25 HI.out.1 HI.out.2.1 HI.out.2.2.1 HI.out.2.2.2 rfl (by decide) _ _ _ rfl (HBT.out.own.alloc _) ⟨wr.heap.size, 0, none⟩ 1 1 [.slice ra t rcp] rfl rfl (cell_one_at _ _ _ rfl) (fun x hx => by simp at hx; subst hx; rfl) (by unfold maxLen; omega) (by omega) (by simp; omega) ?_); intro v' w1 hown' hgrow _)
            have hP := HBT.out.push (rv := .slice ra t rcp) (x := rowTo (fun i k => ((min i k : Nat) : Int) + 1) r t) (a := ra) (cp := rcp) (by rw [rowTo_length]) (fun h => by obtain ⟨G, e, h2, h3⟩ := HROW.out h; exact ⟨G, e, by omega, h3⟩) (fun h => by obtain ⟨G, e, h2, _⟩ := HROW.out h; exact HR.out.fresh e h2) hown' hgrow
            rw [← tabF_succ] at hP
            have HP := Lib.hid hP
            clear hP hown' hgrow hle hlen
            go_roundg (t - (r + 1))
            case measure => omega
            case rel => exact ⟨r + 1, _, _, by omega, rfl, by go_num, HP.out⟩
      · have hrm : r = m := by omega
        subst hrm
        obtain ⟨ra, rcp, hv, hin⟩ := hR.slice
        rw [tabF_length] at hv
        subst hv
        have HS := Lib.hid hR.since
        have hsw := hR.since.size
        have HIN := Lib.hid hin
        have HTT := Lib.hid (show resT true (tabF r r (fun i k => ((min i k : Nat) : Int) + 1)) = tabF r r (fun i k => ((min i k : Nat) : Int) + 1) from rfl)
        clear hR hin
        go_wp2
        go_ret2
        exact ⟨ra, rcp, by rw [HTT.out]; show _ = Ending.returned (.tuple #[.slice ra (tabF r r (fun i k => ((min i k : Nat) : Int) + 1)).length rcp, .bool true]); rw [tabF_length]; rfl, HS.out, HIN.out⟩

set_option maxRecDepth 100000 in
set_option maxHeartbeats 4000000 in
theorem specKnownOnes_any (n a b : Int) (w : World) :
    Calls Try.prog 26 #[.int .i64 n, .int .i64 a, .int .i64 b] w (SpecT w (onB n a b) (onL n.toNat a b)) := by
  have hsp : onB n a b = (inB n 1 6 && (inB a (-30) 30 && inB b (-30) 30)) := rfl
  have E0 := l6In_any n 1 6 w
  cases h0 : inB n 1 6 with
  | false =>
    rw [h0] at hsp
    replace hsp : onB n a b = false := hsp.trans rfl
    rw [hsp]
    rw [h0] at E0
    replace E0 := Lib.hid E0
    clear hsp h0
    go_enter Try.func26, Try.ntmps26
    go_wp2_with fail
    refine (E0.out).mono ?_
    rintro e w' ⟨rfl, rfl⟩
    go_wp2_with fail
    refine (l1None_any w).mono ?_
    rintro e w2 ⟨rfl, hs2⟩
    go_wp2
    go_ret2
    exact ⟨_, _, rfl, hs2, InT.nil _ _ _ _⟩
  | true =>
    rw [h0] at E0
    replace E0 := Lib.hid E0
    have E1 := l6In_any a (-30) 30 w
    cases h1 : inB a (-30) 30 with
    | false =>
      rw [h0, h1] at hsp
      replace hsp : onB n a b = false := hsp.trans rfl
      rw [hsp]
      rw [h1] at E1
      replace E1 := Lib.hid E1
      clear hsp h0 h1
      go_enter Try.func26, Try.ntmps26
      go_wp2_with fail
      refine (E0.out).mono ?_
      rintro e w' ⟨rfl, rfl⟩
      go_wp2_with fail
      refine (E1.out).mono ?_
      rintro e w' ⟨rfl, rfl⟩
      go_wp2_with fail
      refine (l1None_any w).mono ?_
      rintro e w2 ⟨rfl, hs2⟩
      go_wp2
      go_ret2
      exact ⟨_, _, rfl, hs2, InT.nil _ _ _ _⟩
    | true =>
      rw [h1] at E1
      replace E1 := Lib.hid E1
      have E2 := l6In_any b (-30) 30 w
      cases h2 : inB b (-30) 30 with
      | false =>
        rw [h0, h1, h2] at hsp
        replace hsp : onB n a b = false := hsp.trans rfl
        rw [hsp]
        rw [h2] at E2
        replace E2 := Lib.hid E2
        clear hsp h0 h1 h2
        go_enter Try.func26, Try.ntmps26
        go_wp2_with fail
        refine (E0.out).mono ?_
        rintro e w' ⟨rfl, rfl⟩
        go_wp2_with fail
        refine (E1.out).mono ?_
        rintro e w' ⟨rfl, rfl⟩
        go_wp2_with fail
        refine (E2.out).mono ?_
        rintro e w' ⟨rfl, rfl⟩
        go_wp2_with fail
        refine (l1None_any w).mono ?_
        rintro e w2 ⟨rfl, hs2⟩
        go_wp2
        go_ret2
        exact ⟨_, _, rfl, hs2, InT.nil _ _ _ _⟩
      | true =>
        rw [h2] at E2
        replace E2 := Lib.hid E2
        rw [h0, h1, h2] at hsp
        obtain ⟨hn, ha, hb⟩ := onB_of (show onB n a b = true from hsp)
        rw [show onB n a b = true from hsp]
        clear h0 h1 h2 hsp
        obtain ⟨m, rfl⟩ := Int.eq_ofNat_of_zero_le (show 0 ≤ n by omega)
        rw [Int.toNat_natCast]
        unfold onL
        have hm6 : 1 ≤ m ∧ m ≤ 6 := by omega
        obtain ⟨i42, hi42⟩ := info42_parts
        obtain ⟨i3, hi3⟩ := info3_parts
        have HI := Lib.hid hi42
        have HJ := Lib.hid hi3
        have HST := Lib.hid (bt_start w (fun _ => none) (fun _ => 0) #[] rfl)
        clear hi42 hi3
        go_enter Try.func26, Try.ntmps26
        go_wp2_with fail
        refine (E0.out).mono ?_
        rintro e w' ⟨rfl, rfl⟩
        go_wp2_with fail
        refine (E1.out).mono ?_
        rintro e w' ⟨rfl, rfl⟩
        go_wp2_with fail
        refine (E2.out).mono ?_
        rintro e w' ⟨rfl, rfl⟩
        go_wp2
        go_loopg [8, 9, 10, 11] m (fun g v k _ _ wr => ∃ r : Nat, ∃ A C, r ≤ m ∧ g = m - r ∧ k = .int .i64 r ∧ BT w wr v (tabF r m (onF a b)) A C)
        case atStart => exact ⟨0, _, _, Nat.zero_le _, rfl, by go_num, HST.out⟩
        case round =>
          obtain ⟨r, A, C, hr, rfl, rfl, hR⟩ := hrel
          clear HST
          by_cases hlt : r < m
          · have HR := Lib.hid hR
            have hrb := rb_start wr #[] rfl
            have HRB := Lib.hid hrb
            have hsz2 := hR.since.size
            have hlen := tabF_length r m (onF a b)
            obtain ⟨wo, rfl⟩ : ∃ wo : World, wo = wr := ⟨_, rfl⟩
            clear hR hrb
            go_wp2
            go_loopg [10, 11] m (fun g v i wi => ∃ t : Nat, t ≤ m ∧ g = m - t ∧ i = .int .i64 t ∧ RB wo wi v (rowTo (onF a b) r t))
            case atStart => exact ⟨0, Nat.zero_le _, rfl, by go_num, HRB.out⟩
            case round =>
              obtain ⟨t, ht, rfl, rfl, hI⟩ := hrel
              clear HRB
              by_cases htm : t < m
              · have hle := rowTo_length (onF a b) r t
                have hzi := hI.since.size
                have hS := HR.out.since.trans (since_mono hI.since hsz2)
                have HII := Lib.hid hI
                obtain ⟨y, hy⟩ : ∃ y, y = (onF a b) r t := ⟨_, rfl⟩
                have HY := Lib.hid hy
                clear hI
                clear hy HY
                by_cases hrt : r = t
                · subst hrt
                  have HA := Lib.hid (show onF a b r r = a from if_pos rfl)
                  go_wp2_with (at_builtin; (refine wpList_append_own _ rfl _ _ 23 rfl wo.heap.size 3 i3 (.int .i64 0) 1 8 Try.underlying23 HJ.out.1 HJ.out.2.1 HJ.out.2.2.1 HJ.out.2.2.2 rfl (by decide) _ _ _ rfl (HII.out.own.alloc _) ⟨wr.heap.size, 0, none⟩ 1 1 [.int .i64 a] rfl rfl (cell_one_at _ _ _ rfl) (fun x hx => by simp at hx; subst hx; rfl) (by unfold maxLen; omega) (by omega) (by simp; omega) ?_); intro v' w1 hown' hgrow _)
                  have hP0 := HII.out.push hown' hgrow
                  have hP : RB wo w1 v' (rowTo (onF a b) r r ++ [onF a b r r]) := by rw [HA.out]; exact hP0
                  rw [← rowTo_succ] at hP
                  have HP := Lib.hid hP
                  clear hP hP0 hown' hgrow hle
                  go_roundg (m - (r + 1))
                  case measure => omega
                  case rel => exact ⟨r + 1, by omega, rfl, by go_num, HP.out⟩
                · have HA := Lib.hid (show onF a b r t = b from if_neg hrt)
                  have hne : ((r : Int) == (t : Int)) = false := by simp; omega
                  go_wp2_with (at_builtin; (refine wpList_append_own _ rfl _ _ 23 rfl wo.heap.size 3 i3 (.int .i64 0) 1 8 Try.underlying23 HJ.out.1 HJ.out.2.1 HJ.out.2.2.1 HJ.out.2.2.2 rfl (by decide) _ _ _ rfl (HII.out.own.alloc _) ⟨wr.heap.size, 0, none⟩ 1 1 [.int .i64 b] rfl rfl (cell_one_at _ _ _ rfl) (fun x hx => by simp at hx; subst hx; rfl) (by unfold maxLen; omega) (by omega) (by simp; omega) ?_); intro v' w1 hown' hgrow _)
                  have hP0 := HII.out.push hown' hgrow
                  have hP : RB wo w1 v' (rowTo (onF a b) r t ++ [onF a b r t]) := by rw [HA.out]; exact hP0
                  rw [← rowTo_succ] at hP
                  have HP := Lib.hid hP
                  clear hP hP0 hown' hgrow hle
                  go_roundg (m - (t + 1))
                  case measure => omega
                  case rel => exact ⟨t + 1, by omega, rfl, by go_num, HP.out⟩
              · have hjj : t = m := by omega
                subst hjj
                obtain ⟨ra, rcp, hv, hrow⟩ := hI.slice
                rw [rowTo_length] at hv
                subst hv
                have HII := Lib.hid hI
                have hle := rowTo_length (onF a b) r t
                have hzi := hI.since.size
                have HROW := Lib.hid hrow
                clear hI hrow
                have hBT := HR.out.later HII.out.since
                have HBT := Lib.hid hBT
                clear hBT
                go_wp2_with (at_builtin; (refine wpList_append_own _ rfl _ _ 25 rfl w.heap.size 23 i42 (.slice none 0 0) 1 24 Try.underlying25 HI.out.1 HI.out.2.1 HI.out.2.2.1 HI.out.2.2.2 rfl (by decide) _ _ _ rfl (HBT.out.own.alloc _) ⟨wr.heap.size, 0, none⟩ 1 1 [.slice ra t rcp] rfl rfl (cell_one_at _ _ _ rfl) (fun x hx => by simp at hx; subst hx; rfl) (by unfold maxLen; omega) (by omega) (by simp; omega) ?_); intro v' w1 hown' hgrow _)
                have hP := HBT.out.push (rv := .slice ra t rcp) (x := rowTo (onF a b) r t) (a := ra) (cp := rcp) (by rw [rowTo_length]) (fun h => by obtain ⟨G, e, h2, h3⟩ := HROW.out h; exact ⟨G, e, by omega, h3⟩) (fun h => by obtain ⟨G, e, h2, _⟩ := HROW.out h; exact HR.out.fresh e h2) hown' hgrow
                rw [← tabF_succ] at hP
                have HP := Lib.hid hP
                clear hP hown' hgrow hle hlen
                go_roundg (t - (r + 1))
                case measure => omega
                case rel => exact ⟨r + 1, _, _, by omega, rfl, by go_num, HP.out⟩
          · have hrm : r = m := by omega
            subst hrm
            obtain ⟨ra, rcp, hv, hin⟩ := hR.slice
            rw [tabF_length] at hv
            subst hv
            have HS := Lib.hid hR.since
            have hsw := hR.since.size
            have HD := Lib.hid (l1Done_any ra rcp r _ _ (tabF r r (onF a b)) wr (tabF_length r r (onF a b)) (szL_tabF _ _ _ (by omega) (by omega)) hin)
            have HTI := Lib.hid (show tabIn (tabF r r (onF a b)) = true from onL_in (m := r) (by omega) (by omega) ha hb)
            clear hR hin
            go_wp2_with fail
            refine (HD.out).mono ?_
            rintro e w2 ⟨a', c', rfl, hs2, hin2⟩
            rw [HTI.out] at hin2 ⊢
            go_wp2
            go_ret2
            exact ⟨a', c', rfl, HS.out.trans (since_mono hs2 hsw), hin2.mono (Nat.le_refl _) hs2.size⟩

end Go.Proofs.Ytkahgpgnfodpgaa
end

section
namespace Go.Proofs.Ytkahgpgnfodpgaa

theorem sq_tabF {m : Nat} {f : Nat → Nat → Int} (hT : tabIn (tabF m m f) = true) : sqB (tabF m m f) = true := by
  have h := (tabIn_of hT).1
  rw [tabF_length] at h
  unfold sqB
  rw [hT, tabF_length, tabF_len _ _ _ _ (by omega)]
  simp
theorem rows_le8 {l : List (List Int)} (h : szL l ≤ 1048576) : ∀ r, r < l.length → (l.getD r []).length ≤ 9223372036854775807 := fun r hr => by
  have := row_le l hr
  unfold szL at h
  omega
theorem ord_tabF {m : Nat} (f : Nat → Nat → Int) (hm : m ≤ 6) : ordF (tabF m m f) m m 0 = dt m f := by
  rw [ordF_all _ hm]
  exact dt_congr m fun i j hi hj => tabF_at _ _ _ _ _ hi hj

end Go.Proofs.Ytkahgpgnfodpgaa
end

section
namespace Go.Proofs.Ytkahgpgnfodpgaa
open Go.RowKit Go.Deep

set_option maxHeartbeats 1000000 in
theorem numberAt_any (b o n cap k : Nat) (v : Int) (W : World) (hk : k < n) (hx : W.cell? ⟨b, o + k, none⟩ = some (.int .i64 v)) :
    Calls Try.prog 117 #[.slice (some ⟨b, o, none⟩) n cap, .int .i64 k] W fun e w' => e = .returned (.int .i64 v) ∧ Drawn W w' := by
  have hkk : (k : Int) < (n : Int) := by omega
  go_enter Try.func117, Try.ntmps117
  go_wp2
  go_ret
  exact ⟨rfl, Drawn.refl _⟩

set_option maxRecDepth 100000 in
set_option maxHeartbeats 2000000 in
theorem toldEntryS_any (K : Nat) (caps : Array Value) (B b o n cap i k : Nat) (x : Value) (v : Int) (W : World)
    (hb : W.heap[B]? = some (.cells #[.slice (some ⟨b, o, none⟩) n cap, .func (.func K) #[] caps] 78)) (hi : i < n) (hx : W.cell? ⟨b, o + i, none⟩ = some x)
    (eg : ∀ args w, (callFunc K args).run Try.prog w = .ok (.enter K args) w)
    (hE : ∀ W', Drawn W W' → Calls Try.prog K (#[x, .int .i64 k] ++ caps) W' fun e w' => e = .returned (.int .i64 v) ∧ Drawn W' w') (hx1 : ∃ a n c, x = .slice a n c) :
    Calls Try.prog 136 #[.int .i64 i, .int .i64 k, .pointer (some ⟨B, 0, none⟩)] W fun e w' => e = .returned (.int .i64 v) ∧ Drawn W w' := by
  obtain ⟨xa, xn, xc, rfl⟩ := hx1
  obtain ⟨c0, c1⟩ := told_cells hb
  have hii : (i : Int) < (n : Int) := by omega
  have HE := Lib.hid hE
  clear hE hb
  go_enter Try.func136, Try.ntmps136
  go_wp2
  go_quiet ((refine Calls.quiet_of (HE.out _ ?_); exact Drawn.mk _ _))
  go_wp2
  go_ret
  exact ⟨rfl, Drawn.mk _ _⟩

set_option maxRecDepth 100000 in
set_option maxHeartbeats 2000000 in
theorem toldTableS_any (K : Nat) (caps : Array Value) (b o n cap : Nat) (x : Nat → Value) (f : Nat → Nat → Int) (w : World) (hn : n ≤ 1000)
    (hx : ∀ i, i < n → w.cell? ⟨b, o + i, none⟩ = some (x i)) (hx1 : ∀ i, i < n → ∃ a n c, x i = .slice a n c)
    (eg : ∀ args w, (callFunc K args).run Try.prog w = .ok (.enter K args) w)
    (hE : ∀ (W : World) (i k : Nat), w.Since w.heap.size W → i < n → k < n → Calls Try.prog K (#[x i, .int .i64 k] ++ caps) W fun e w' => e = .returned (.int .i64 (f i k)) ∧ Drawn W w') :
    Calls Try.prog 118 #[.agg #[.slice (some ⟨b, o, none⟩) n cap, .func (.func K) #[] caps]] w fun e w' => ∃ G, e = .returned (.slice (some ⟨G, 0, none⟩) n n) ∧ w.Since w.heap.size w' ∧ OwnT w.heap.size w'.heap.size w' (some ⟨G, 0, none⟩) (tabF n n f) := by
  obtain ⟨w1, hw1⟩ : ∃ w1, w.alloc (.cells #[.slice (some ⟨b, o, none⟩) n cap, .func (.func K) #[] caps] 78) = w1 := ⟨_, rfl⟩
  have hb1 : w1.heap[w.heap.size]? = some (.cells #[.slice (some ⟨b, o, none⟩) n cap, .func (.func K) #[] caps] 78) := by rw [← hw1]; exact World.alloc_heap_new w _
  have hs1 : w.Since w.heap.size w1 := by rw [← hw1]; exact (World.Since.refl _ _).alloc (Nat.le_refl _) _
  have hz1 : w1.heap.size = w.heap.size + 1 := by rw [← hw1]; simp
  have E := newTable_any 136 #[.pointer (some ⟨w.heap.size, 0, none⟩)] n n f w1 hn hn (enters_of Try.func136 (by kernel_rfl) rfl)
    (fun W i k hs hi hk => (toldEntryS_any K caps w.heap.size b o n cap i k (x i) (f i k) W ((hs.block _ (by omega)).trans hb1) hi (((hs1.trans (since_mono hs hs1.size)).cell (a := ⟨b, o + i, none⟩) (World.block_lt_of_cell? _ _ (hx i hi))).trans (hx i hi)) eg
      (fun W' hd => hE W' i k ((hs1.trans (since_mono hs hs1.size)).trans (hd.since _)) hi hk) (hx1 i hi)).mono fun _ _ h => ⟨h.1, h.2.since _⟩)
  replace E := Lib.hid E
  have c0 := (told_cells hb1).1
  clear hE hx hx1
  go_enter Try.func118, Try.ntmps118
  go_wp2_with fail
  refine (E.out).mono ?_
  rintro e w' ⟨rfl, hs, ho⟩
  go_wp2
  go_ret
  rw [hz1] at ho
  exact ⟨_, rfl, hs1.trans (since_mono hs hs1.size), ho.mono (by omega) (Nat.le_refl _)⟩

set_option maxRecDepth 100000 in
set_option maxHeartbeats 2000000 in
theorem toldResultS_any (K : Nat) (caps : Array Value) (b o n cap : Nat) (x : Nat → Value) (f : Nat → Nat → Int) (w : World) (hn : n ≤ 1000)
    (hx : ∀ i, i < n → w.cell? ⟨b, o + i, none⟩ = some (x i)) (hx1 : ∀ i, i < n → ∃ a n c, x i = .slice a n c)
    (eg : ∀ args w, (callFunc K args).run Try.prog w = .ok (.enter K args) w)
    (hE : ∀ (W : World) (i k : Nat), w.Since w.heap.size W → i < n → k < n → Calls Try.prog K (#[x i, .int .i64 k] ++ caps) W fun e w' => e = .returned (.int .i64 (f i k)) ∧ Drawn W w') :
    Calls Try.prog 92 #[.agg #[.slice (some ⟨b, o, none⟩) n cap, .func (.func K) #[] caps]] w (ImplT w (tabIn (tabF n n f)) (tabF n n f)) := by
  obtain ⟨w1, hw1⟩ : ∃ w1, w.alloc (.cells #[.slice (some ⟨b, o, none⟩) n cap, .func (.func K) #[] caps] 78) = w1 := ⟨_, rfl⟩
  have hs1 : w.Since w.heap.size w1 := by rw [← hw1]; exact (World.Since.refl _ _).alloc (Nat.le_refl _) _
  have hz1 : w1.heap.size = w.heap.size + 1 := by rw [← hw1]; simp
  have hb1 : w1.heap[w.heap.size]? = some (.cells #[.slice (some ⟨b, o, none⟩) n cap, .func (.func K) #[] caps] 78) := by rw [← hw1]; exact World.alloc_heap_new w _
  obtain ⟨c0, c1⟩ := told_cells hb1
  have E := Lib.hid (toldTableS_any K caps b o n cap x f w1 hn (fun i hi => (hs1.cell (a := ⟨b, o + i, none⟩) (World.block_lt_of_cell? _ _ (hx i hi))).trans (hx i hi)) hx1 eg
    (fun W i k hs hi hk => hE W i k (hs1.trans (since_mono hs hs1.size)) hi hk))
  have HT := Lib.hid (tabF_length n n f)
  have HSZ := Lib.hid (szL_tabF n n f hn hn)
  obtain ⟨T, hT⟩ : ∃ T, tabF n n f = T := ⟨_, rfl⟩
  rw [hT] at E HT HSZ ⊢
  clear hE hx hT hb1 hx1
  go_enter Try.func92, Try.ntmps92
  go_wp2_with fail
  refine (E.out).mono ?_
  rintro e w2 ⟨G, rfl, hs2, ho2⟩
  have hs12 := hs1.trans (since_mono hs2 hs1.size)
  have HS := Lib.hid hs12
  have HO := Lib.hid ho2
  clear hs2 ho2 hs12 E
  go_wp2_with fail
  refine (result_any _ _ _ _ _ T w2 HT.out HSZ.out HO.out).mono ?_
  rintro e w3 ⟨a, cap', rfl, hs3, ho3⟩
  go_wp2
  go_ret2
  exact ⟨a, cap', rfl, HS.out.trans (since_mono hs3 HS.out.size), ho3.mono (by omega) hs3.size⟩

structure SL (w wr : World) (n c : Nat) (x : Nat → Value) : Prop where
  since : w.Since w.heap.size wr
  row : wr.rowIs (w.heap.size + 1) 23 n (fun k => if k < c then x k else .slice none 0 0)
  res : ∃ u v, wr.heap[w.heap.size]? = some (.cells #[u, v] 78)

set_option maxRecDepth 100000 in
set_option maxHeartbeats 4000000 in
theorem toldByStretches_any (b o L cap n first : Nat) (step : Int) (low : Nat → Nat) (w : World) (hn : n ≤ 6) (hL : L ≤ 20) (hcap : L ≤ cap ∧ cap ≤ 9223372036854775807) (hf : first ≤ 6)
    (hlow : ∀ i, i < n → (first : Int) + (i : Int) * step = (low i : Int) ∧ low i + n ≤ L) :
    Calls Try.prog 91 #[.slice (some ⟨b, o, none⟩) L cap, .int .i64 n, .int .i64 first, .int .i64 step] w fun e w' => ∃ B, e = .returned (.agg #[.slice (some ⟨B, 0, none⟩) n n, .func (.func 117) #[] #[]]) ∧ w.Since w.heap.size w' ∧ ∀ i, i < n → w'.cell? ⟨B, 0 + i, none⟩ = some (.slice (some ⟨b, o + low i, none⟩) n (cap - low i)) := by
  have hmk := run_make_row' (P := Try.prog) 25 23 (.slice none 0 0) 24 Try.underlying25 Try.info23 rfl .i64 .i64 n (by omega) (by omega)
  have HLOW := Lib.hid hlow
  clear hlow
  go_enter Try.func91, Try.ntmps91
  go_wp2
  obtain ⟨x, hx⟩ : ∃ x : Nat → Value, x = fun i => .slice (some ⟨b, o + low i, none⟩) n (cap - low i) := ⟨_, rfl⟩
  have HX := Lib.hid (fun i => congrFun hx i)
  clear hx
  have hst : SL w ((w.alloc (.cells #[.slice none 0 0, Value.nilFunc] 78)).alloc (.cells (madeCells #[.slice none 0 0] n) 23)) n 0 x := by
    have r := World.rowIs_made (w.alloc (.cells #[.slice none 0 0, Value.nilFunc] 78)) (.slice none 0 0) n 23
    simp only [World.size_alloc] at r
    exact ⟨((World.Since.refl _ w).alloc (Nat.le_refl _) _).alloc (by simp) _, r.congr (fun k _ => by simp), ⟨_, _, (Below.heap_alloc _ _ _ (by simp)).trans (World.alloc_heap_new w _)⟩⟩
  have HST := Lib.hid hst
  clear hst hmk
  go_loopg [10, 15] n (fun g _ i wr => ∃ c : Nat, c ≤ n ∧ g = n - c ∧ i = .int .i64 c ∧ SL w wr n c x)
  case atStart => exact ⟨0, Nat.zero_le _, rfl, rfl, HST.out⟩
  case round =>
    obtain ⟨c, hc, rfl, rfl, hR⟩ := hrel
    clear HST
    by_cases hlt : c < n
    · have hc1 := hR.row.cell (i := c) hlt
      have hf1 := hR.row.frozen c
      simp only [Nat.lt_irrefl, if_false] at hc1
      have hP : SL w (wr.setCell ⟨w.heap.size + 1, c, none⟩ (x c)) n (c + 1) x := by
        obtain ⟨u, v, hr⟩ := hR.res
        refine ⟨hR.since.setCell (by show w.heap.size ≤ w.heap.size + 1; omega) _, (hR.row.set c _).congr (fun k _ => ?_), ⟨u, v, ?_⟩⟩
        · by_cases e : k = c
          · subst e; simp
          · rw [if_neg e]
            by_cases h : k < c
            · rw [if_pos h, if_pos (by omega)]
            · rw [if_neg h, if_neg (by omega)]
        · rw [Below.heap_setCell _ _ _ _ (by show w.heap.size ≠ w.heap.size + 1; omega)]; exact hr
      rw [HX.out c] at hP
      have HP := Lib.hid hP
      obtain ⟨hl1, hl2⟩ := HLOW.out c hlt
      obtain ⟨d, hd⟩ : ∃ d, (c : Int) * step = d := ⟨_, rfl⟩
      rw [hd] at hl1
      have hdd : -6 ≤ d ∧ d ≤ 20 := by omega
      have hmul : wrap64 ((c : Int) * step) = d := by rw [hd]; unfold wrap64; omega
      obtain ⟨lo, hlo⟩ : ∃ lo, low c = lo := ⟨_, rfl⟩
      rw [hlo] at hl1 hl2 HP
      have hcc1 : (n : Int) ≤ (cap : Int) - (lo : Int) := by omega
      clear hR hP hd hlo
      go_wp2
      go_roundg (n - (c + 1))
      case measure => omega
      case rel => exact ⟨c + 1, by omega, rfl, by go_num, HP.out⟩
    · have hcc : c = n := by omega
      subst hcc
      obtain ⟨u, v, hr⟩ := hR.res
      obtain ⟨c0, c1⟩ := told_cells hr
      have f0 : wr.frozen? ⟨w.heap.size, 0, none⟩ = false := by simp [World.frozen?, hr]
      have f1 : wr.frozen? ⟨w.heap.size, 1, none⟩ = false := by simp [World.frozen?, hr]
      obtain ⟨S, hS⟩ : ∃ S : Value, S = .slice (some ⟨w.heap.size + 1, 0, none⟩) c c := ⟨_, rfl⟩
      obtain ⟨F, hF⟩ : ∃ F : Value, F = .func (.func 117) #[] #[] := ⟨_, rfl⟩
      have d0 : (wr.setCell ⟨w.heap.size, 0, none⟩ S).cell? ⟨w.heap.size, 0, none⟩ = some S := World.cell?_setCell_same' _ _ _ (by rw [c0]; rfl)
      have d1 : (wr.setCell ⟨w.heap.size, 0, none⟩ S).cell? ⟨w.heap.size, 1, none⟩ = some v := by rw [World.cell?_setCell_other _ _ _ _ (fun e => by injection e with _ e2; omega)]; exact c1
      have g1 : (wr.setCell ⟨w.heap.size, 0, none⟩ S).frozen? ⟨w.heap.size, 1, none⟩ = false := by rw [World.frozen?_setCell]; exact f1
      have e0 : ((wr.setCell ⟨w.heap.size, 0, none⟩ S).setCell ⟨w.heap.size, 1, none⟩ F).cell? ⟨w.heap.size, 0, none⟩ = some S := by rw [World.cell?_setCell_other _ _ _ _ (fun e => by injection e with _ e2; omega)]; exact d0
      have e1 : ((wr.setCell ⟨w.heap.size, 0, none⟩ S).setCell ⟨w.heap.size, 1, none⟩ F).cell? ⟨w.heap.size, 1, none⟩ = some F := World.cell?_setCell_same' _ _ _ (by rw [d1]; rfl)
      have hs2 : w.Since w.heap.size ((wr.setCell ⟨w.heap.size, 0, none⟩ S).setCell ⟨w.heap.size, 1, none⟩ F) := (hR.since.setCell (Nat.le_refl _) _).setCell (Nat.le_refl _) _
      have hrow2 : ((wr.setCell ⟨w.heap.size, 0, none⟩ S).setCell ⟨w.heap.size, 1, none⟩ F).rowIs (w.heap.size + 1) 23 c (fun k => if k < c then x k else .slice none 0 0) := (hR.row.setOther (by show w.heap.size + 1 ≠ w.heap.size; omega) _).setOther (by show w.heap.size + 1 ≠ w.heap.size; omega) _
      have HS2 := Lib.hid hs2
      have HROW := Lib.hid hrow2
      rw [hS] at d0 d1 g1 e0 e1 HS2 HROW
      rw [hF] at e0 e1 HS2 HROW
      clear hS hF hs2 hrow2 hR hr
      go_wp2
      refine bodyPost_ret (v := .agg #[.slice (some ⟨w.heap.size + 1, 0, none⟩) c c, .func (.func 117) #[] #[]]) ?_ rfl ⟨w.heap.size + 1, rfl, HS2.out, fun i hi => ?_⟩
      · simp [results, Try.f91, go_sem, e0, e1]
      · have := HROW.out.cell (i := i) hi
        rw [if_pos hi, HX.out i] at this
        rw [Nat.zero_add]
        exact this

def suL (n : Nat) (x : List Int) : List (List Int) := tabF n n fun i k => x.getD (i + k) 0
def suB (n : Int) (L : Nat) : Bool := inB n 1 6 && decide ((L : Int) = 2 * n - 1)
theorem suB_of {n : Int} {L : Nat} (h : suB n L = true) : 1 ≤ n ∧ n ≤ 6 ∧ (L : Int) = 2 * n - 1 := by
  simp only [suB, Bool.and_eq_true, inB, decide_eq_true_eq] at h
  exact ⟨h.1.1, h.1.2, h.2⟩

set_option maxRecDepth 100000 in
set_option maxHeartbeats 2000000 in
theorem implKnownSums_any (n : Int) (a : Option Addr) (L cap : Nat) (x : List Int) (w : World) (hn : x.length = L) (h63 : cap ≤ 9223372036854775807) (hc : L ≤ cap) (hm : RowR w a x) :
    Calls Try.prog 42 #[.int .i64 n, .slice a L cap] w (ImplT w (suB n L && tabIn (suL n.toNat x)) (suL n.toNat x)) := by
  have E1 := isSide_any n w
  have hsp : suB n L = (inB n 1 6 && decide ((L : Int) = 2 * n - 1)) := rfl
  cases h1 : inB n 1 6 with
  | false =>
    rw [h1, Bool.false_and] at hsp
    rw [hsp, Bool.false_and]
    rw [h1] at E1
    replace E1 := Lib.hid E1
    clear hm hn h1 hsp
    go_enter Try.func42, Try.ntmps42
    go_wp2_with fail
    refine (E1.out).mono ?_
    rintro e w' ⟨rfl, rfl⟩
    go_wp2
    go_ret2
    exact ⟨_, _, rfl, World.Since.refl _ _, OwnT.nil _ _ _ _⟩
  | true =>
    rw [h1] at E1
    replace E1 := Lib.hid E1
    have h16 := of_decide_eq_true h1
    obtain ⟨m, rfl⟩ := Int.eq_ofNat_of_zero_le (show 0 ≤ n by omega)
    rw [Int.toNat_natCast]
    by_cases h2 : (L : Int) = 2 * (m : Int) - 1
    · rw [h1, decide_eq_true h2] at hsp
      rw [hsp, Bool.and_self, Bool.true_and]
      have hne : ((L : Int) != 2 * (m : Int) - 1) = false := by simp [h2]
      obtain ⟨b, o, rfl, hcx⟩ := hm (by omega)
      have E2 := Lib.hid (toldByStretches_any b o L cap m 0 1 (fun i => i) w (by omega) (by omega) ⟨hc, h63⟩ (by omega) (fun i hi => ⟨by simp, by omega⟩))
      have E3 := Lib.hid (fun (W : World) (hs : w.Since w.heap.size W) (B : Nat) (hc : ∀ i, i < m → W.cell? ⟨B, 0 + i, none⟩ = some (.slice (some ⟨b, o + i, none⟩) m (cap - i))) => toldResultS_any 117 #[] B 0 m m (fun i => .slice (some ⟨b, o + i, none⟩) m (cap - i)) (fun i k => x.getD (i + k) 0) W (by omega) hc (fun i _ => ⟨_, _, _, rfl⟩) (enters_of Try.func117 (by kernel_rfl) rfl)
        (fun V i k hv hi hk => numberAt_any b (o + i) m (cap - i) k (x.getD (i + k) 0) V hk (by
          have c := hcx (i + k) (by omega)
          rw [show o + i + k = o + (i + k) by omega]
          exact ((hs.trans (since_mono hv hs.size)).cell (a := ⟨b, o + (i + k), none⟩) (World.block_lt_of_cell? _ _ c)).trans c)))
      have hLL : tabF m m (fun i k => x.getD (i + k) 0) = suL m x := rfl
      simp only [hLL] at E3
      obtain ⟨T, hT⟩ : ∃ T, suL m x = T := ⟨_, rfl⟩
      simp only [hT] at E3
      rw [hT]
      have hL0 : (L : Int) = 2 * (m : Int) - 1 := h2
      clear hLL hT hcx hn h1 hsp h2
      go_enter Try.func42, Try.ntmps42
      go_wp2_with fail
      refine (E1.out).mono ?_
      rintro e w' ⟨rfl, rfl⟩
      go_wp2_with fail
      refine (E2.out).mono ?_
      rintro e w1 ⟨B, rfl, hs1, hc1⟩
      have HS1 := Lib.hid hs1
      have HC1 := Lib.hid hc1
      clear hs1 hc1
      go_wp2_with fail
      refine (E3.out _ HS1.out B HC1.out).mono ?_
      rintro e w3 ⟨a', c', rfl, hs3, ho3⟩
      go_wp2
      go_ret2
      exact ⟨a', c', rfl, HS1.out.trans (since_mono hs3 HS1.out.size), ho3.mono HS1.out.size (Nat.le_refl _)⟩
    · rw [h1, decide_eq_false h2] at hsp
      rw [hsp]
      have hne : ((L : Int) != 2 * (m : Int) - 1) = true := by simp [h2]
      clear hm hn h1 hsp
      go_enter Try.func42, Try.ntmps42
      go_wp2_with fail
      refine (E1.out).mono ?_
      rintro e w' ⟨rfl, rfl⟩
      go_wp2
      go_ret2
      exact ⟨_, _, rfl, World.Since.refl _ _, OwnT.nil _ _ _ _⟩

end Go.Proofs.Ytkahgpgnfodpgaa
end

section
namespace Go.Proofs.Ytkahgpgnfodpgaa
open Go.RowKit Go.Deep

set_option maxRecDepth 100000 in
set_option maxHeartbeats 4000000 in
theorem specKnownSums_any (n : Int) (a : Option Addr) (L cap : Nat) (x : List Int) (w : World) (hn : x.length = L) (h63 : cap ≤ 9223372036854775807) (hc : L ≤ cap) (hm : RowR w a x) :
    Calls Try.prog 43 #[.int .i64 n, .slice a L cap] w (SpecT w (suB n L && tabIn (suL n.toNat x)) (suL n.toNat x)) := by
  have E1 := l6In_any n 1 6 w
  have hsp : suB n L = (inB n 1 6 && decide ((L : Int) = 2 * n - 1)) := rfl
  cases h1 : inB n 1 6 with
  | false =>
    rw [h1, Bool.false_and] at hsp
    rw [hsp, Bool.false_and]
    rw [h1] at E1
    replace E1 := Lib.hid E1
    clear hm hn h1 hsp
    go_enter Try.func43, Try.ntmps43
    go_wp2_with fail
    refine (E1.out).mono ?_
    rintro e w' ⟨rfl, rfl⟩
    go_wp2_with fail
    refine (l1None_any w).mono ?_
    rintro e w2 ⟨rfl, hs2⟩
    go_wp2
    go_ret2
    exact ⟨_, _, rfl, hs2, InT.nil _ _ _ _⟩
  | true =>
    rw [h1] at E1
    replace E1 := Lib.hid E1
    have h16 := of_decide_eq_true h1
    obtain ⟨m, rfl⟩ := Int.eq_ofNat_of_zero_le (show 0 ≤ n by omega)
    rw [Int.toNat_natCast]
    by_cases h2 : (L : Int) = 2 * (m : Int) - 1
    · rw [h1, decide_eq_true h2] at hsp
      rw [hsp, Bool.and_self, Bool.true_and]
      have hne : ((L : Int) != 2 * (m : Int) - 1) = false := by simp [h2]
      obtain ⟨b, o, rfl, hcx⟩ := hm (by omega)
      have HCX := Lib.hid (fun (W : World) (hd : w.Since w.heap.size W) (k : Nat) (hk : k < L) => by
        have c := hcx k (by omega)
        exact (hd.cell (a := ⟨b, o + k, none⟩) (World.block_lt_of_cell? _ _ c)).trans c)
      have hL0 : (L : Int) = 2 * (m : Int) - 1 := h2
      have hm6 : 1 ≤ m ∧ m ≤ 6 := by omega
      unfold suL
      obtain ⟨f, hf⟩ : ∃ f : Nat → Nat → Int, f = fun i k => x.getD (i + k) 0 := ⟨_, rfl⟩
      have HF := Lib.hid (fun i k => congrFun (congrFun hf i) k)
      rw [← hf]
      obtain ⟨i42, hi42⟩ := info42_parts
      obtain ⟨i3, hi3⟩ := info3_parts
      have HI := Lib.hid hi42
      have HJ := Lib.hid hi3
      have HST := Lib.hid (bt_start w (fun _ => none) (fun _ => 0) #[] rfl)
      clear hcx hn h1 hsp h2 hi42 hi3 hf
      go_enter Try.func43, Try.ntmps43
      go_wp2_with fail
      refine (E1.out).mono ?_
      rintro e w' ⟨rfl, rfl⟩
      go_wp2
      go_loopg [6, 7] m (fun g v k wr => ∃ r : Nat, ∃ A C, r ≤ m ∧ g = m - r ∧ k = .int .i64 r ∧ BT w wr v (tabF r m f) A C)
      case atStart => exact ⟨0, _, _, Nat.zero_le _, rfl, rfl, HST.out⟩
      case round =>
        obtain ⟨r, A, C, hr, rfl, rfl, hR⟩ := hrel
        clear HST
        by_cases hlt : r < m
        · obtain ⟨y, hy⟩ : ∃ y, y = rowTo f r m := ⟨_, rfl⟩
          have HMM := Lib.hid (show y.length = m by rw [hy, rowTo_length])
          have HY := Lib.hid hy
          have hcells : ∀ (j : Nat) (u : Value), (y.map (Value.int .i64))[j]? = some u → (wr.alloc (.cells #[] 3)).cell? ((⟨b, o + r, none⟩ : Addr).add j) = some u := fun j u hj => by
            rw [Go.WideShapes.add_plain]
            obtain ⟨hjl, he⟩ := List.getElem?_eq_some_iff.1 hj
            have hjx : j < m := by rw [← HMM.out]; simpa using hjl
            refine cell_alloc_l _ ?_
            have c := HCX.out wr hR.since (r + j) (by omega)
            show wr.cell? ⟨b, o + r + j, none⟩ = some u
            rw [show o + r + j = o + (r + j) by omega, c, ← he]
            simp [hy, rowTo, HF.out]
          have HCE := Lib.hid hcells
          have HR := Lib.hid hR
          have hsz := hR.since.size
          have hlen := tabF_length r m f
          have HRB := Lib.hid (show (wr.alloc (.cells #[] 3)).ownsRow wr.heap.size 3 1 (.slice (some ⟨wr.heap.size, 0, none⟩) 0 0) 0 [] from World.ownsRow_made wr #[] 0 (Nat.le_refl _) (Nat.zero_le _) rfl)
          have hrm1 : (r : Int) + (m : Int) ≤ (cap : Int) := by omega
          have hrm2 : (r : Int) ≤ (r : Int) + (m : Int) := by omega
          clear hcells hR hy
          go_wp2_with (first
            | (at_builtin; (refine wpList_append_own _ rfl (.tmp 29) (.tmp 35) 23 rfl wr.heap.size 3 i3 (.int .i64 0) 1 8 Try.underlying23 HJ.out.1 HJ.out.2.1 HJ.out.2.2.1 HJ.out.2.2.2 rfl (by decide) _ 0 [] rfl HRB.out ⟨b, o + r, none⟩ (r + m - r) _ (y.map (Value.int .i64)) rfl (by rw [List.length_map, HMM.out]; omega) HCE.out (fun u hu => by obtain ⟨z, _, rfl⟩ := List.mem_map.1 hu; rfl) (by unfold maxLen; omega) (by omega) (by simp) ?_);
                intro v1 w1 hown1 hgrow1 _; have hrb := RB.of_append #[] (show y.length = r + m - r by rw [HMM.out]; omega) hown1 hgrow1; obtain ⟨ra, rcp, hv1, hrow1⟩ := hrb.slice; rw [HMM.out] at hv1; subst hv1; have HBT := Lib.hid (HR.out.later hrb.since); have HRW := Lib.hid hrow1; have hz1 := hrb.since.size; clear hown1 hgrow1 hrb hrow1)
            | (at_builtin; (refine wpList_append_own _ rfl (.tmp 28) (.tmp 37) 25 rfl w.heap.size 23 i42 (.slice none 0 0) 1 24 Try.underlying25 HI.out.1 HI.out.2.1 HI.out.2.2.1 HI.out.2.2.2 rfl (by decide) _ _ _ rfl (HBT.out.own.alloc _) ⟨w1.heap.size, 0, none⟩ 1 1 [.slice ra m rcp] rfl rfl (cell_one_at _ _ _ rfl) (fun x hx => by simp at hx; subst hx; rfl) (by unfold maxLen; omega) (by omega) (by simp; omega) ?_); intro v' w2 hown' hgrow _))
          have hP := HBT.out.push (rv := .slice ra m rcp) (x := y) (a := ra) (cp := rcp) (by rw [HMM.out]) (fun h => by obtain ⟨G, e, h2, h3⟩ := HRW.out h; exact ⟨G, e, by omega, h3⟩) (fun h => by obtain ⟨G, e, h2, _⟩ := HRW.out h; exact HR.out.fresh e h2) hown' hgrow
          rw [HY.out, ← tabF_succ] at hP
          have HP := Lib.hid hP
          clear hP hown' hgrow hlen
          go_roundg (m - (r + 1))
          case measure => omega
          case rel => exact ⟨r + 1, _, _, by omega, rfl, by go_num, HP.out⟩
        · have hrm : r = m := by omega
          subst hrm
          obtain ⟨ra, rcp, hv, hin⟩ := hR.slice
          rw [tabF_length] at hv
          subst hv
          have HS := Lib.hid hR.since
          have hsw := hR.since.size
          have HD := Lib.hid (l1Done_any ra rcp r _ _ (tabF r r f) wr (tabF_length r r f) (szL_tabF _ _ _ (by omega) (by omega)) hin)
          clear hR hin
          go_wp2_with fail
          refine (HD.out).mono ?_
          rintro e w2 ⟨a', c', rfl, hs2, hin2⟩
          go_wp2
          go_ret2
          exact ⟨a', c', rfl, HS.out.trans (since_mono hs2 hsw), hin2.mono (Nat.le_refl _) hs2.size⟩
    · rw [h1, decide_eq_false h2] at hsp
      rw [hsp]
      have hne : ((L : Int) != 2 * (m : Int) - 1) = true := by simp [h2]
      clear hm hn h1 hsp
      go_enter Try.func43, Try.ntmps43
      go_wp2_with fail
      refine (E1.out).mono ?_
      rintro e w' ⟨rfl, rfl⟩
      go_wp2_with fail
      refine (l1None_any w).mono ?_
      rintro e w2 ⟨rfl, hs2⟩
      go_wp2
      go_ret2
      exact ⟨_, _, rfl, hs2, InT.nil _ _ _ _⟩

end Go.Proofs.Ytkahgpgnfodpgaa
end

section
namespace Go.Proofs.Ytkahgpgnfodpgaa
open Go.RowKit Go.Deep

def tuF (x : List Int) (m i k : Nat) : Int := x.getD ((k + m - i) % m) 0
def tuL (x : List Int) (m : Nat) : List (List Int) := tabF m m (tuF x m)
theorem tuL_in {x : List Int} {m : Nat} (h1 : 1 ≤ m) (h6 : m ≤ 6) (hx : RngK x (-30) 30 m) : tabIn (tuL x m) = true := tabIn_sq h1 h6 fun i k _ _ => by
  have := hx ((k + m - i) % m) (Nat.mod_lt _ (by omega))
  simp only [inB, decide_eq_true_eq] at this
  exact this

set_option maxRecDepth 100000 in
set_option maxHeartbeats 4000000 in
theorem specKnownTurns_any (a : Option Addr) (cap m : Nat) (x : List Int) (w : World) (hn : x.length = m) (h63 : m ≤ 9223372036854775807) (hm : RowR w a x) :
    Calls Try.prog 48 #[.slice a m cap] w (SpecT w (l8B x 30) (tuL x m)) := by
  have E := l8List_any a cap m x 30 w ⟨by omega, by omega⟩ hn h63 hm
  cases hok : l8B x 30 with
  | false =>
    rw [hok] at E
    replace E := Lib.hid E
    clear hok hm hn
    go_enter Try.func48, Try.ntmps48
    go_wp2_with fail
    refine (E.out).mono ?_
    rintro e w' ⟨rfl, rfl⟩
    go_wp2_with fail
    refine (l1None_any w).mono ?_
    rintro e w2 ⟨rfl, hs2⟩
    go_wp2
    go_ret2
    exact ⟨_, _, rfl, hs2, InT.nil _ _ _ _⟩
  | true =>
    rw [hok] at E
    replace E := Lib.hid E
    obtain ⟨hk, h1, h6⟩ := l8B_of hok
    rw [hn] at hk h1 h6
    obtain ⟨bx, ox, rfl, hcx⟩ := hm (by omega)
    have HX := Lib.hid (fun (W : World) (hd : w.Since w.heap.size W) (k : Nat) (hk : k < m) => by
      have c := hcx k (by omega)
      exact (hd.cell (a := ⟨bx, ox + k, none⟩) (World.block_lt_of_cell? _ _ c)).trans c)
    unfold tuL
    obtain ⟨F, hF⟩ : ∃ F, tuF x m = F := ⟨_, rfl⟩
    have HF := Lib.hid (fun i k => (congrFun (congrFun hF i) k).symm)
    rw [hF]
    obtain ⟨i42, hi42⟩ := info42_parts
    obtain ⟨i3, hi3⟩ := info3_parts
    have HI := Lib.hid hi42
    have HJ := Lib.hid hi3
    have HST := Lib.hid (bt_start w (fun _ => none) (fun _ => 0) #[] rfl)
    clear hi42 hi3 hok hcx hn hk hF
    go_enter Try.func48, Try.ntmps48
    go_wp2_with fail
    refine (E.out).mono ?_
    rintro e w' ⟨rfl, rfl⟩
    go_wp2
    go_loopg [5, 6, 7, 8] m (fun g v k _ _ wr => ∃ r : Nat, ∃ A C, r ≤ m ∧ g = m - r ∧ k = .int .i64 r ∧ BT w wr v (tabF r m (F)) A C)
    case atStart => exact ⟨0, _, _, Nat.zero_le _, rfl, by go_num, HST.out⟩
    case round =>
      obtain ⟨r, A, C, hr, rfl, rfl, hR⟩ := hrel
      clear HST
      by_cases hlt : r < m
      · have HR := Lib.hid hR
        have hrb := rb_start wr #[] rfl
        have HRB := Lib.hid hrb
        have hsz2 := hR.since.size
        have hlen := tabF_length r m (F)
        obtain ⟨wo, rfl⟩ : ∃ wo : World, wo = wr := ⟨_, rfl⟩
        clear hR hrb
        go_wp2
        go_loopg [7, 8] m (fun g v i wi => ∃ t : Nat, t ≤ m ∧ g = m - t ∧ i = .int .i64 t ∧ RB wo wi v (rowTo (F) r t))
        case atStart => exact ⟨0, Nat.zero_le _, rfl, by go_num, HRB.out⟩
        case round =>
          obtain ⟨t, ht, rfl, rfl, hI⟩ := hrel
          clear HRB
          by_cases htm : t < m
          · have hle := rowTo_length (F) r t
            have hzi := hI.since.size
            have hS := HR.out.since.trans (since_mono hI.since hsz2)
            have HII := Lib.hid hI
            obtain ⟨y, hy⟩ : ∃ y, y = (F) r t := ⟨_, rfl⟩
            have HY := Lib.hid hy
            clear hI
            have hlow : (t + m - r) % m < m := Nat.mod_lt _ (by omega)
            have cx := HX.out wr hS ((t + m - r) % m) hlow
            have hy2 : y = x.getD ((t + m - r) % m) 0 := hy.trans (HF.out r t)
            rw [← hy2] at cx
            obtain ⟨p, hp⟩ : ∃ p, (t + m - r) % m = p := ⟨_, rfl⟩
            have hmod : Int.tmod ((t : Int) - (r : Int) + (m : Int)) (m : Int) = (p : Int) := by
              rw [show (t : Int) - (r : Int) + (m : Int) = ((t + m - r : Nat) : Int) by omega, ← hp]
              rfl
            have hm0 : ((m : Int) == 0) = false := by simp; omega
            rw [hp] at cx hlow
            have hpm : (p : Int) < (m : Int) := by omega
            clear hy hy2 hp
            go_wp2_with (at_builtin; (refine wpList_append_own _ rfl _ _ 23 rfl wo.heap.size 3 i3 (.int .i64 0) 1 8 Try.underlying23 HJ.out.1 HJ.out.2.1 HJ.out.2.2.1 HJ.out.2.2.2 rfl (by decide) _ _ _ rfl (HII.out.own.alloc _) ⟨wr.heap.size, 0, none⟩ 1 1 [.int .i64 y] rfl rfl (cell_one_at _ _ _ rfl) (fun x hx => by simp at hx; subst hx; rfl) (by unfold maxLen; omega) (by omega) (by simp; omega) ?_); intro v' w1 hown' hgrow _)
            have hP := HII.out.push hown' hgrow
            rw [HY.out, ← rowTo_succ] at hP
            have HP := Lib.hid hP
            clear hP hown' hgrow hle
            go_roundg (m - (t + 1))
            case measure => omega
            case rel => exact ⟨t + 1, by omega, rfl, by go_num, HP.out⟩
          · have hjj : t = m := by omega
            subst hjj
            obtain ⟨ra, rcp, hv, hrow⟩ := hI.slice
            rw [rowTo_length] at hv
            subst hv
            have HII := Lib.hid hI
            have hle := rowTo_length (F) r t
            have hzi := hI.since.size
            have HROW := Lib.hid hrow
            clear hI hrow
            have hBT := HR.out.later HII.out.since
            have HBT := Lib.hid hBT
            clear hBT
            go_wp2_with (at_builtin; (refine wpList_append_own _ rfl _ _ 25 rfl w.heap.size 23 i42 (.slice none 0 0) 1 24 Try.underlying25 HI.out.1 HI.out.2.1 HI.out.2.2.1 HI.out.2.2.2 rfl (by decide) _ _ _ rfl (HBT.out.own.alloc _) ⟨wr.heap.size, 0, none⟩ 1 1 [.slice ra t rcp] rfl rfl (cell_one_at _ _ _ rfl) (fun x hx => by simp at hx; subst hx; rfl) (by unfold maxLen; omega) (by omega) (by simp; omega) ?_); intro v' w1 hown' hgrow _)
            have hP := HBT.out.push (rv := .slice ra t rcp) (x := rowTo (F) r t) (a := ra) (cp := rcp) (by rw [rowTo_length]) (fun h => by obtain ⟨G, e, h2, h3⟩ := HROW.out h; exact ⟨G, e, by omega, h3⟩) (fun h => by obtain ⟨G, e, h2, _⟩ := HROW.out h; exact HR.out.fresh e h2) hown' hgrow
            rw [← tabF_succ] at hP
            have HP := Lib.hid hP
            clear hP hown' hgrow hle hlen
            go_roundg (t - (r + 1))
            case measure => omega
            case rel => exact ⟨r + 1, _, _, by omega, rfl, by go_num, HP.out⟩
      · have hrm : r = m := by omega
        subst hrm
        obtain ⟨ra, rcp, hv, hin⟩ := hR.slice
        rw [tabF_length] at hv
        subst hv
        have HS := Lib.hid hR.since
        have hsw := hR.since.size
        have HIN := Lib.hid hin
        have HTT := Lib.hid (show resT true (tabF r r F) = tabF r r F from rfl)
        clear hR hin
        go_wp2
        go_ret2
        exact ⟨ra, rcp, by rw [HTT.out]; show _ = Ending.returned (.tuple #[.slice ra (tabF r r (F)).length rcp, .bool true]); rw [tabF_length]; rfl, HS.out, HIN.out⟩

theorem rb_none (w : World) : RB w w (.slice none 0 0) [] := ⟨World.Since.refl _ _, World.ownsRow_nil _ _ _ _⟩
theorem RB.pushes {wo wr w1 : World} {v v' : Value} {x y : List Int} {n : Nat} (h : RB wo wr v x) (hn : n = x.length + y.length) (hown : w1.ownsRow wo.heap.size 3 1 v' n (x.map (Value.int .i64) ++ y.map (Value.int .i64))) (hg : wr.grownBy w1 v.ownBlock) : RB wo w1 v' (x ++ y) := by
  refine ⟨h.since.grown hg h.since.size (fun i e => (World.ownsRow.lt h.own i e).1), ?_⟩
  rw [List.length_append, List.map_append, ← hn]
  exact hown

set_option maxRecDepth 100000 in
set_option maxHeartbeats 1000000 in
theorem growInts_any (n : Nat) (w : World) (h0 : 1 ≤ n) (hn : n ≤ 20) :
    Calls Try.prog 123 #[.slice none 0 0, .int .i64 n] w fun e w' => ∃ v, e = .returned v ∧ RB w w' v [] := by
  obtain ⟨i3, hi3⟩ := info3_parts
  have hold : (Builtin.firstCells i3.size 0 (.slice none 0 0)).run Try.prog w.drew = .ok (#[] : Array Value) w.drew := run_firstCells_none w.drew i3.size 0 0 0
  have hnx : Builtin.nextslicecap (0 + n) 0 = n := by
    unfold Builtin.nextslicecap
    rw [if_pos (by omega)]
    omega
  have hrz : ∀ ty, (Builtin.append_ #[23, 3] ty #[.slice none 0 0, .int .i64 n]).run Try.prog w = _ := fun ty =>
    Lib.run_append_grow_zeros w 23 3 ty 3 i3 (.int .i64 0) .i64 .i64 Try.underlying23 Try.underlying3 hi3.1 hi3.2.1 none 0 0 [] hold n (by omega) (by rw [hi3.2.2.1]; omega) (by omega) (by omega) (by rw [hi3.2.2.2]; omega) (by rw [hnx, hi3.2.2.2]; omega)
  have hge : 0 + n ≤ grownCap w (0 + n) 0 3 := grownCap_ge w _ _ _
  have hle := grownCap_le_maxLen w (0 + n) 0 3 (by unfold maxLen; omega)
  obtain ⟨G, hG⟩ : ∃ G, grownCap w (0 + n) 0 3 = G := ⟨_, rfl⟩
  rw [hG] at hge hle
  simp only [hG] at hrz
  obtain ⟨cur, hcur⟩ : ∃ cur, (([] : List Value).toArray ++ Builtin.zeroCells (Value.cells (.int .i64 0)) n ++ Builtin.zeroCells (Value.cells (.int .i64 0)) (G - (0 + n))) = cur := ⟨_, rfl⟩
  simp only [hcur] at hrz
  have hsz : cur.size = G * 1 := by
    rw [← hcur, Array.size_append, Array.size_append, size_zeroCells, size_zeroCells]
    have e : (Value.cells (.int .i64 0)).size = 1 := by kernel_rfl
    rw [e]
    simp
    omega
  have HCB : Hid (RB w (w.drew.alloc (.cells cur 3)) (.slice (some ⟨w.heap.size, 0, none⟩) 0 G) []) := Lib.hid ⟨(World.Since.refl _ _).drew.alloc (Nat.le_refl _) _, World.ownsRow_made w.drew cur G (Nat.le_refl _) hle hsz⟩
  have hG63 : G ≤ 9223372036854775807 := by unfold maxLen at hle; omega
  clear hold hnx hG hcur hsz hle hi3
  go_enter Try.func123, Try.ntmps123
  go_wp2_with (at_builtin; refine Lib.wpList_append_run _ rfl _ _ _ _ rfl _ _ rfl rfl _ _ (hrz _) ?_)
  go_ret
  exact ⟨_, rfl, HCB.out⟩

set_option maxRecDepth 100000 in
set_option maxHeartbeats 1000000 in
theorem concatInts_any (p N cap b o c0 : Nat) (x : List Int) (w : World) (hN : x.length = N) (hle : 1 ≤ N ∧ N ≤ 6) (hp1 : w.cell? ⟨p, 0, none⟩ = some (.slice (some ⟨b, o, none⟩) N cap)) (hp2 : w.cell? ⟨p, 1, none⟩ = some (.slice (some ⟨b, o, none⟩) N cap))
    (hm : ∀ i, i < N → w.cell? ⟨b, o + i, none⟩ = some (.int .i64 (x.getD i 0))) :
    Calls Try.prog 98 #[.slice (some ⟨p, 0, none⟩) 2 c0] w fun e w' => ∃ v, e = .returned v ∧ RB w w' v (x ++ x) := by
  obtain ⟨i3, hi3⟩ := info3_parts
  have HI := Lib.hid hi3
  have HN := Lib.hid hN
  have HA := Lib.hid (fun (W : World) (hs : w.Since w.heap.size W) (j : Nat) (u : Value) (hj : (x.map (Value.int .i64))[j]? = some u) => (by
    rw [Go.WideShapes.add_plain]
    obtain ⟨hjl, he⟩ := List.getElem?_eq_some_iff.1 hj
    have hjx : j < N := by rw [← hN]; simpa using hjl
    have c := hm j hjx
    show W.cell? ⟨b, o + j, none⟩ = some u
    rw [hs.cell (a := ⟨b, o + j, none⟩) (World.block_lt_of_cell? _ _ c), c, ← he]
    simp [List.getD, show j < x.length by omega] : W.cell? ((⟨b, o, none⟩ : Addr).add j) = some u))
  have HG := Lib.hid (growInts_any (N + N) w (by omega) (by omega))
  clear hi3 hN hm
  go_enter Try.func98, Try.ntmps98
  go_wp2_with fail
  go_loopg [3, 5, 11] 2 (fun g s _ i wr => w = wr ∧ ((g = 2 ∧ i = .int .i64 0 ∧ s = .int .i64 0) ∨ (g = 1 ∧ i = .int .i64 1 ∧ s = .int .i64 N) ∨ (g = 0 ∧ i = .int .i64 2 ∧ s = .int .i64 (N + N : Nat))))
  case atStart => exact ⟨rfl, .inl ⟨rfl, rfl, rfl⟩⟩
  case round =>
    obtain ⟨rfl, hrel⟩ := hrel
    rcases hrel with ⟨rfl, rfl, rfl⟩ | ⟨rfl, rfl, rfl⟩ | ⟨rfl, rfl, rfl⟩
    · go_wp2_with fail
      go_roundg 1
      case measure => omega
      case rel => exact ⟨rfl, .inr (.inl ⟨rfl, rfl, by go_num⟩)⟩
    · go_wp2_with fail
      go_roundg 0
      case measure => omega
      case rel => exact ⟨rfl, .inr (.inr ⟨rfl, rfl, by go_num⟩)⟩
    · go_wp2_with (go_at_call 123; refine (HG.out).mono ?_; rintro e w1 ⟨v1, rfl, hC1⟩; have HC1 := Lib.hid hC1; clear hC1)
      go_loopg [6, 8, 27] 2 (fun g v _ i wr => (g = 2 ∧ i = .int .i64 0 ∧ RB w wr v []) ∨ (g = 1 ∧ i = .int .i64 1 ∧ RB w wr v x) ∨ (g = 0 ∧ i = .int .i64 2 ∧ RB w wr v (x ++ x)))
      case atStart => exact .inl ⟨rfl, rfl, HC1.out⟩
      case round =>
        rcases hrel with ⟨rfl, rfl, hC⟩ | ⟨rfl, rfl, hC⟩ | ⟨rfl, rfl, hC⟩
        · have hq1 := (hC.since.cell (World.block_lt_of_cell? _ _ hp1)).trans hp1
          have HC := Lib.hid hC
          clear hp1 hp2 hC HC1
          go_wp2_with (at_builtin; (refine wpList_append_own _ rfl _ _ 23 rfl w.heap.size 3 i3 (.int .i64 0) 1 8 Try.underlying23 HI.out.1 HI.out.2.1 HI.out.2.2.1 HI.out.2.2.2 rfl (by decide) _ _ _ rfl HC.out.own ⟨b, o, none⟩ N cap (x.map (Value.int .i64)) rfl (by rw [List.length_map, HN.out]; omega) (HA.out _ HC.out.since) (fun u hu => by obtain ⟨z, _, rfl⟩ := List.mem_map.1 hu; rfl) (by simp; unfold maxLen; omega) (by simp; omega) HC.out.since.size ?_); intro v' w3 hown' hgrow _; have HC3 := Lib.hid (RB.pushes HC.out (y := x) (n := ([] : List Int).length + N) (by rw [HN.out]) hown' hgrow); clear hown' hgrow)
          go_roundg 1
          case measure => omega
          case rel => exact .inr (.inl ⟨rfl, rfl, HC3.out⟩)
        · have hq2 := (hC.since.cell (World.block_lt_of_cell? _ _ hp2)).trans hp2
          have HC := Lib.hid hC
          clear hp1 hp2 hC HC1
          go_wp2_with (at_builtin; (refine wpList_append_own _ rfl _ _ 23 rfl w.heap.size 3 i3 (.int .i64 0) 1 8 Try.underlying23 HI.out.1 HI.out.2.1 HI.out.2.2.1 HI.out.2.2.2 rfl (by decide) _ _ _ rfl HC.out.own ⟨b, o, none⟩ N cap (x.map (Value.int .i64)) rfl (by rw [List.length_map, HN.out]; omega) (HA.out _ HC.out.since) (fun u hu => by obtain ⟨z, _, rfl⟩ := List.mem_map.1 hu; rfl) (by rw [HN.out]; unfold maxLen; omega) (by rw [HN.out]; omega) HC.out.since.size ?_); intro v' w3 hown' hgrow _; have HC3 := Lib.hid (RB.pushes HC.out (y := x) (n := x.length + N) (by rw [HN.out]) hown' hgrow); clear hown' hgrow)
          go_roundg 0
          case measure => omega
          case rel => exact .inr (.inr ⟨rfl, rfl, HC3.out⟩)
        · have HC := Lib.hid hC
          clear hC hp1 hp2 HC1
          go_wp2_with fail
          go_ret
          exact ⟨_, rfl, HC.out⟩

theorem getD_twice {x : List Int} {m j : Nat} (hx : x.length = m) (hj : j < m + m) : (x ++ x).getD j 0 = x.getD (j % m) 0 := by
  by_cases h : j < m
  · rw [Nat.mod_eq_of_lt h]
    simp [List.getD, List.getElem?_append_left (show j < x.length by omega)]
  · have e : j % m = j - m := by
      rw [Nat.mod_eq_sub_mod (by omega), Nat.mod_eq_of_lt (by omega)]
    rw [e]
    simp [List.getD, List.getElem?_append_right (show x.length ≤ j by omega), hx]

set_option maxRecDepth 100000 in
set_option maxHeartbeats 2000000 in
theorem implKnownTurns_any (a : Option Addr) (cap m : Nat) (x : List Int) (w : World) (hn : x.length = m) (h6 : m ≤ 1048576) (hm : RowR w a x) :
    Calls Try.prog 47 #[.slice a m cap] w (ImplT w (l8B x 30) (tuL x m)) := by
  have E1 := isSide_any m w
  have hsp := l8B_split x 30
  rw [hn] at hsp
  cases h1 : inB (m : Int) 1 6 with
  | false =>
    rw [h1, Bool.and_false] at hsp
    rw [hsp]
    rw [h1] at E1
    replace E1 := Lib.hid E1
    clear hm hn h1 hsp
    go_enter Try.func47, Try.ntmps47
    go_wp2_with fail
    refine (E1.out).mono ?_
    rintro e w' ⟨rfl, rfl⟩
    go_wp2
    go_ret2
    exact ⟨_, _, rfl, World.Since.refl _ _, OwnT.nil _ _ _ _⟩
  | true =>
    rw [h1, Bool.and_true] at hsp
    rw [h1] at E1
    replace E1 := Lib.hid E1
    have h16 := of_decide_eq_true h1
    obtain ⟨b, o, rfl, hcx⟩ := hm (by omega)
    have hti : tabIn (tuL x m) = l8B x 30 := by
      rw [hsp]
      cases h2 : rngB x (-30) 30 with
      | true => exact tuL_in (by omega) (by omega) (by have := rngB_of h2; rw [hn] at this; exact this)
      | false =>
        refine tabIn_false fun hT => ?_
        have hr : RngK x (-30) 30 x.length := fun j hj => by
          have h0 := hT.2.2 0 (by show 0 < (tabF m m (tuF x m)).length; rw [tabF_length]; omega)
          have h3 := h0.2.2.2 j (by show j < ((tabF m m (tuF x m)).getD 0 []).length; rw [tabF_len _ _ _ _ (by omega)]; omega)
          have e : ((tabF m m (tuF x m)).getD 0 []).getD j 0 = x.getD j 0 := by
            rw [tabF_at _ _ _ _ _ (by omega) (by omega)]
            unfold tuF
            rw [show j + m - 0 = j + m by omega, Nat.add_mod_right, Nat.mod_eq_of_lt (by omega)]
          change -30 ≤ ((tabF m m (tuF x m)).getD 0 []).getD j 0 ∧ ((tabF m m (tuF x m)).getD 0 []).getD j 0 ≤ 30 at h3
          rw [e] at h3
          simp only [inB, decide_eq_true_eq]
          exact h3
        rw [rngB_true hr] at h2
        exact Bool.noConfusion h2
    obtain ⟨wp, hwp⟩ : ∃ wp, w.alloc (.cells #[.slice (some ⟨b, o, none⟩) m cap, .slice (some ⟨b, o, none⟩) m cap] 23) = wp := ⟨_, rfl⟩
    have hbp : wp.heap[w.heap.size]? = some (.cells #[.slice (some ⟨b, o, none⟩) m cap, .slice (some ⟨b, o, none⟩) m cap] 23) := by rw [← hwp]; exact World.alloc_heap_new w _
    have hsp1 : w.Since w.heap.size wp := by rw [← hwp]; exact (World.Since.refl _ _).alloc (Nat.le_refl _) _
    obtain ⟨p0, p1⟩ := told_cells hbp
    have E2 := Lib.hid (concatInts_any w.heap.size m cap b o 2 x wp hn (by omega) p0 p1 (fun i hi => ((hsp1.cell (a := ⟨b, o + i, none⟩) (World.block_lt_of_cell? _ _ (hcx i (by omega)))).trans (hcx i (by omega)))))
    have E3 := Lib.hid (fun (W : World) (G cp : Nat) (hcp : m + m ≤ cp ∧ cp ≤ 9223372036854775807) => toldByStretches_any G 0 (m + m) cp m m (-1) (fun i => m - i) W (by omega) (by omega) hcp (by omega) (fun i hi => ⟨by omega, by omega⟩))
    have E4 := Lib.hid (fun (W V : World) (G cp B : Nat) (hV : V.Since V.heap.size W) (hG : ∀ j, j < m + m → V.cell? ⟨G, j, none⟩ = some (.int .i64 ((x ++ x).getD j 0))) (hcc : ∀ i, i < m → W.cell? ⟨B, 0 + i, none⟩ = some (.slice (some ⟨G, 0 + (m - i), none⟩) m (cp - (m - i)))) => toldResultS_any 117 #[] B 0 m m (fun i => .slice (some ⟨G, 0 + (m - i), none⟩) m (cp - (m - i))) (tuF x m) W (by omega) hcc (fun i _ => ⟨_, _, _, rfl⟩) (enters_of Try.func117 (by kernel_rfl) rfl)
      (fun U i k hv hi hk => numberAt_any G (0 + (m - i)) m (cp - (m - i)) k (tuF x m i k) U hk (by
        have c := hG (k + m - i) (by omega)
        rw [getD_twice hn (by omega)] at c
        rw [show 0 + (m - i) + k = k + m - i by omega]
        exact ((hV.trans (since_mono hv hV.size)).cell (a := ⟨G, k + m - i, none⟩) (World.block_lt_of_cell? _ _ c)).trans c)))
    have hLL : tabF m m (tuF x m) = tuL x m := rfl
    simp only [hLL, hti] at E4
    have HN2 := Lib.hid (show (x ++ x).length = m + m by rw [List.length_append, hn])
    obtain ⟨T, hT⟩ : ∃ T, tuL x m = T := ⟨_, rfl⟩
    simp only [hT] at E4
    rw [hT]
    obtain ⟨ok, hok⟩ : ∃ ok, l8B x 30 = ok := ⟨_, rfl⟩
    simp only [hok] at E4
    rw [hok]
    have HSP := Lib.hid hsp1
    clear hLL hT hok hti hsp hn h1 hcx hbp hsp1
    go_enter Try.func47, Try.ntmps47
    go_wp2_with fail
    refine (E1.out).mono ?_
    rintro e w' ⟨rfl, rfl⟩
    go_wp2_with fail
    refine (E2.out).mono ?_
    rintro e w2 ⟨v, rfl, hRB⟩
    rcases hRB.own.2 with ⟨hv, hl0⟩ | ⟨G, cp, cur, hv, hBG, hheap, hle, hmax, _, _⟩
    · exact absurd hl0 (by rw [HN2.out]; omega)
    · obtain ⟨a2, cp2, hv2, hrow⟩ := hRB.slice
      rw [HN2.out] at hv hle hrow
      obtain ⟨G2, e2, _, hB2⟩ := hrow (by omega)
      rw [hv] at hv2
      have eG : (some ⟨G, 0, none⟩ : Option Addr) = a2 := by injection hv2
      rw [e2] at eG
      have eG2 : G = G2 := by injection eG with eG; injection eG
      subst eG2
      subst hv
      have HG := Lib.hid (fun j (hj : j < m + m) => hB2.cell (i := j) (by rw [HN2.out]; exact hj))
      have HS2 := Lib.hid (HSP.out.trans (since_mono hRB.since HSP.out.size))
      have hcp : m + m ≤ cp ∧ cp ≤ 9223372036854775807 := ⟨hle, by unfold maxLen at hmax; omega⟩
      clear hRB hv2 eG hB2 hrow hheap hmax
      go_wp2_with fail
      refine (E3.out w2 G cp hcp).mono ?_
      rintro e w3 ⟨B, rfl, hs3, hc3⟩
      have HS3 := Lib.hid hs3
      have HC3 := Lib.hid hc3
      clear hs3 hc3
      go_wp2_with fail
      refine (E4.out w3 w2 G cp B HS3.out HG.out HC3.out).mono ?_
      rintro e w4 ⟨a', c', rfl, hs4, ho4⟩
      have HS4 := Lib.hid (HS2.out.trans (since_mono HS3.out HS2.out.size))
      go_wp2
      go_ret2
      exact ⟨a', c', rfl, HS4.out.trans (since_mono hs4 HS4.out.size), ho4.mono HS4.out.size (Nat.le_refl _)⟩

end Go.Proofs.Ytkahgpgnfodpgaa
end

section
namespace Go.Proofs.Ytkahgpgnfodpgaa
open Go.RowKit Go.Deep

theorem since_of_map {W w' : World} {o : Obj} (hg : (W.alloc o).grownBy w' (some W.heap.size)) : W.Since W.heap.size w' := by
  have h0 := (World.Since.refl W.heap.size W).alloc (Nat.le_refl _) o
  have h1 := hg.size
  simp only [World.size_alloc] at h1
  exact ⟨hg.os.trans h0.os, hg.tape.trans h0.tape, hg.output.trans h0.output, by omega, fun k hk => (hg.block k (by simp; omega) (by intro e; injection e with e; omega)).trans (h0.block k hk)⟩

set_option maxHeartbeats 400000 in
theorem anyValue_of (rb : Nat) (a : Option Addr) (n cap : Nat) (x : Int) (W : World) (hr : RoadsAt W rb) (ht : ∀ W', W.grownBy W' (some rb) → Calls Try.prog 128 #[.slice a n cap] W' (fun e w' => e = .returned (.int .i64 x) ∧ W'.Since W'.heap.size w')) :
    Calls Try.prog 133 #[.map (some rb), .slice a n cap] W (fun e w' => e = .returned (.int .i64 x) ∧ W.grownBy w' (some rb) ∧ RoadsAt w' rb) := by
  have E := Lib.hid (roads_2 rb a n cap x W hr ht)
  clear hr ht
  go_enter Try.func133, Try.ntmps133
  go_wp2_with fail
  refine (E.out).mono ?_
  rintro e w' ⟨rfl, hg, hr⟩
  go_wp2
  go_ret
  exact ⟨rfl, hg, hr⟩

set_option maxHeartbeats 800000 in
theorem square_0 (a : Option Addr) (cap n : Nat) (l : List (List Int)) (x : Int) (w : World) (hn : l.length = n) (hsz : szL l ≤ 1048576) (hm : MatR w a l) (ht : sqB l = true → ∀ W', MatR W' a l → Calls Try.prog 126 #[.slice a n cap] W' (fun e w' => e = .returned (.int .i64 x) ∧ W'.Since W'.heap.size w')) :
    Calls Try.prog 73 #[.slice a n cap, .int .i64 0] w (SpecW w (sqB l) x) := by
  have E := isSquare_any a cap n l w hn hsz hm
  cases hs : sqB l with
  | false =>
    rw [hs] at E
    replace E := Lib.hid E
    clear hs hm hn hsz ht
    go_enter Try.func73, Try.ntmps73
    go_wp2_with fail
    refine (E.out).mono ?_
    rintro e w1 ⟨rfl, hd⟩
    have HD := Lib.hid hd
    clear hd
    go_wp2
    go_ret2
    exact ⟨rfl, HD.out⟩
  | true =>
    rw [hs] at E
    replace E := Lib.hid E
    have E2 := Lib.hid (fun (W : World) (hd : w.Since w.heap.size W) => roads_0 W.heap.size a n cap x (W.alloc (.map #[] 0)) (roads_made W) (fun W' hg => ht hs W' (hm.since (hd.trans (since_mono (since_of_map hg) hd.size)))))
    clear hs hm hn hsz ht
    have hmm := @run_makeMap Try.prog
    go_enter Try.func73, Try.ntmps73
    go_wp2_with fail
    refine (E.out).mono ?_
    rintro e w1 ⟨rfl, hd⟩
    have HD := Lib.hid hd
    clear hd
    go_wp2_with fail
    refine (E2.out w1 HD.out).mono ?_
    rintro e w2 ⟨rfl, hg, hr⟩
    have HS2 := Lib.hid (HD.out.trans (since_mono (since_of_map hg) HD.out.size))
    clear hg hr
    go_wp2
    go_ret2
    exact ⟨rfl, HS2.out⟩

set_option maxHeartbeats 400000 in
theorem implValueOrders_of (a : Option Addr) (cap n : Nat) (l : List (List Int)) (x : Int) (w : World) (hn : l.length = n) (hsz : szL l ≤ 1048576) (hm : MatR w a l) (ht : sqB l = true → ∀ W', MatR W' a l → Calls Try.prog 126 #[.slice a n cap] W' (fun e w' => e = .returned (.int .i64 x) ∧ W'.Since W'.heap.size w')) :
    Calls Try.prog 20 #[.slice a n cap] w (SpecW w (sqB l) x) := by
  have E := square_0 a cap n l x w hn hsz hm ht
  unfold SpecW at E ⊢
  generalize (if (sqB l) = true then x else 0) = y at E ⊢
  generalize (sqB l) = b at E ⊢
  replace E := Lib.hid E
  clear hn hsz hm ht
  go_enter Try.func20, Try.ntmps20
  go_wp2_with fail
  refine (E.out).mono ?_
  rintro e w1 ⟨rfl, hd⟩
  go_wp2
  go_ret2
  exact ⟨rfl, hd⟩

set_option maxHeartbeats 800000 in
theorem square_1 (a : Option Addr) (cap n : Nat) (l : List (List Int)) (x : Int) (w : World) (hn : l.length = n) (hsz : szL l ≤ 1048576) (hm : MatR w a l) (ht : sqB l = true → ∀ W', MatR W' a l → Calls Try.prog 127 #[.slice a n cap] W' (fun e w' => e = .returned (.int .i64 x) ∧ W'.Since W'.heap.size w')) :
    Calls Try.prog 73 #[.slice a n cap, .int .i64 1] w (SpecW w (sqB l) x) := by
  have E := isSquare_any a cap n l w hn hsz hm
  cases hs : sqB l with
  | false =>
    rw [hs] at E
    replace E := Lib.hid E
    clear hs hm hn hsz ht
    go_enter Try.func73, Try.ntmps73
    go_wp2_with fail
    refine (E.out).mono ?_
    rintro e w1 ⟨rfl, hd⟩
    have HD := Lib.hid hd
    clear hd
    go_wp2
    go_ret2
    exact ⟨rfl, HD.out⟩
  | true =>
    rw [hs] at E
    replace E := Lib.hid E
    have E2 := Lib.hid (fun (W : World) (hd : w.Since w.heap.size W) => roads_1 W.heap.size a n cap x (W.alloc (.map #[] 0)) (roads_made W) (fun W' hg => ht hs W' (hm.since (hd.trans (since_mono (since_of_map hg) hd.size)))))
    clear hs hm hn hsz ht
    have hmm := @run_makeMap Try.prog
    go_enter Try.func73, Try.ntmps73
    go_wp2_with fail
    refine (E.out).mono ?_
    rintro e w1 ⟨rfl, hd⟩
    have HD := Lib.hid hd
    clear hd
    go_wp2_with fail
    refine (E2.out w1 HD.out).mono ?_
    rintro e w2 ⟨rfl, hg, hr⟩
    have HS2 := Lib.hid (HD.out.trans (since_mono (since_of_map hg) HD.out.size))
    clear hg hr
    go_wp2
    go_ret2
    exact ⟨rfl, HS2.out⟩

set_option maxHeartbeats 800000 in
theorem square_2 (a : Option Addr) (cap n : Nat) (l : List (List Int)) (x : Int) (w : World) (hn : l.length = n) (hsz : szL l ≤ 1048576) (hm : MatR w a l) (ht : sqB l = true → ∀ W', MatR W' a l → Calls Try.prog 128 #[.slice a n cap] W' (fun e w' => e = .returned (.int .i64 x) ∧ W'.Since W'.heap.size w')) :
    Calls Try.prog 73 #[.slice a n cap, .int .i64 2] w (SpecW w (sqB l) x) := by
  have E := isSquare_any a cap n l w hn hsz hm
  cases hs : sqB l with
  | false =>
    rw [hs] at E
    replace E := Lib.hid E
    clear hs hm hn hsz ht
    go_enter Try.func73, Try.ntmps73
    go_wp2_with fail
    refine (E.out).mono ?_
    rintro e w1 ⟨rfl, hd⟩
    have HD := Lib.hid hd
    clear hd
    go_wp2
    go_ret2
    exact ⟨rfl, HD.out⟩
  | true =>
    rw [hs] at E
    replace E := Lib.hid E
    have E2 := Lib.hid (fun (W : World) (hd : w.Since w.heap.size W) => roads_2 W.heap.size a n cap x (W.alloc (.map #[] 0)) (roads_made W) (fun W' hg => ht hs W' (hm.since (hd.trans (since_mono (since_of_map hg) hd.size)))))
    clear hs hm hn hsz ht
    have hmm := @run_makeMap Try.prog
    go_enter Try.func73, Try.ntmps73
    go_wp2_with fail
    refine (E.out).mono ?_
    rintro e w1 ⟨rfl, hd⟩
    have HD := Lib.hid hd
    clear hd
    go_wp2_with fail
    refine (E2.out w1 HD.out).mono ?_
    rintro e w2 ⟨rfl, hg, hr⟩
    have HS2 := Lib.hid (HD.out.trans (since_mono (since_of_map hg) HD.out.size))
    clear hg hr
    go_wp2
    go_ret2
    exact ⟨rfl, HS2.out⟩

set_option maxHeartbeats 800000 in
theorem square_3 (a : Option Addr) (cap n : Nat) (l : List (List Int)) (x : Int) (ok : Bool) (w : World) (hn : l.length = n) (hsz : szL l ≤ 1048576) (hm : MatR w a l) (ht : sqB l = true → ∀ W', MatR W' a l → Calls Try.prog 129 #[.slice a n cap] W' (fun e w' => e = .returned (.tuple #[.int .i64 (if ok then x else 0), .bool ok]) ∧ W'.Since W'.heap.size w')) :
    Calls Try.prog 73 #[.slice a n cap, .int .i64 3] w (SpecW w (sqB l && ok) x) := by
  have E := isSquare_any a cap n l w hn hsz hm
  cases hs : sqB l with
  | false =>
    rw [hs] at E
    replace E := Lib.hid E
    clear hs hm hn hsz ht
    go_enter Try.func73, Try.ntmps73
    go_wp2_with fail
    refine (E.out).mono ?_
    rintro e w1 ⟨rfl, hd⟩
    have HD := Lib.hid hd
    clear hd
    go_wp2
    go_ret2
    exact ⟨rfl, HD.out⟩
  | true =>
    rw [hs] at E
    replace E := Lib.hid E
    have E2 := Lib.hid (fun (W : World) (hd : w.Since w.heap.size W) => roads_3 W.heap.size a n cap (if ok then x else 0) ok (W.alloc (.map #[] 0)) (roads_made W) (fun W' hg => ht hs W' (hm.since (hd.trans (since_mono (since_of_map hg) hd.size)))))
    clear hs hm hn hsz ht
    generalize hy : (if ok = true then x else 0) = y at E2
    have hmm := @run_makeMap Try.prog
    go_enter Try.func73, Try.ntmps73
    go_wp2_with fail
    refine (E.out).mono ?_
    rintro e w1 ⟨rfl, hd⟩
    have HD := Lib.hid hd
    clear hd
    go_wp2_with fail
    refine (E2.out w1 HD.out).mono ?_
    rintro e w2 ⟨rfl, hg, hr⟩
    have HS2 := Lib.hid (HD.out.trans (since_mono (since_of_map hg) HD.out.size))
    clear hg hr
    go_wp2
    go_ret2
    exact ⟨by rw [← hy]; cases ok <;> rfl, HS2.out⟩

end Go.Proofs.Ytkahgpgnfodpgaa
end

section
namespace Go.Proofs.Ytkahgpgnfodpgaa
open Go.RowKit Go.Deep

def ColsAt (w : World) (g n : Nat) (cs : List Nat) : Prop := w.ownsRow 0 3 1 (.slice (some ⟨g, 0, none⟩) cs.length n) cs.length ((ints cs).map (Value.int .i64))
theorem ColsAt.init {w : World} {g n : Nat} {cs : List Nat} {k : Nat} (h : ColsAt w g n (cs ++ [k])) : ColsAt w g n cs := by
  unfold ColsAt at h ⊢
  rw [show (cs ++ [k]).length = cs.length + 1 by simp] at h
  refine ⟨by simp [ints], ?_⟩
  rcases h.2 with ⟨h', _⟩ | ⟨g', cap', cur, h', hb, hg, hle, hm, hs, ht⟩
  · simp at h'
  · simp only [Value.slice.injEq, Option.some.injEq, Addr.mk.injEq, and_true, true_and] at h'
    obtain ⟨rfl, rfl⟩ := h'
    refine .inr ⟨g, n, cur, rfl, hb, hg, by omega, hm, hs, ?_⟩
    have e := congrArg (List.take cs.length) ht
    rw [List.take_take, Nat.min_eq_left (by omega)] at e
    rw [Nat.mul_one, e]
    simp [ints]
theorem ColsAt.row {w : World} {g n : Nat} {cs : List Nat} (h : ColsAt w g n cs) : RowR w (some ⟨g, 0, none⟩) (ints cs) := fun _ =>
  ⟨g, 0, rfl, fun i hi => by
    have e := World.ownsRow.cellAt h i (by rw [ints_length] at hi; omega)
    rw [Nat.zero_add, e, List.getElem?_map]
    simp [List.getD, hi]⟩
theorem ColsAt.kept {w w' : World} {g n : Nat} {cs : List Nat} (h : ColsAt w g n cs) (hs : w.Since w.heap.size w') : ColsAt w' g n cs := World.ownsRow.kept h (grown_of_since (row := none) hs) (by simp [Value.ownBlock])
theorem ints_snoc (cs : List Nat) (k : Nat) : (ints (cs ++ [k])).map (Value.int .i64) = (ints cs).map (Value.int .i64) ++ [.int .i64 (k : Int)] := by simp [ints]

set_option maxRecDepth 100000 in
set_option maxHeartbeats 4000000 in
theorem sumOfOrders_any (a : Option Addr) (cap n : Nat) (l : List (List Int)) (g : Nat) (hn : l.length = n) (hT : TabIn l) (hw : (l.getD 0 []).length = n) : ∀ (m : Nat) (cs : List Nat) (W : World), cs.length + m = n → (∀ c ∈ cs, c < n) → ColsAt W g n cs → (∀ W', W.grownBy W' (some g) → MatR W' a l) →
    Calls Try.prog 138 #[.slice a n cap, .slice (some ⟨g, 0, none⟩) cs.length n] W fun e w' => e = .returned (.int .i64 (ordS l n m cs)) ∧ W.grownBy w' (some g) ∧ ColsAt w' g n cs := by
  have h6 := hT.2.1
  rw [hn] at h6
  intro m
  induction m with
  | zero =>
    intro cs W hl hc hcols hmat
    have hx : cs.length = n := by omega
    have E := orderedProduct_any a cap n l g n cs W hn hT hw (hmat W (World.grownBy.refl _ _)) hx hc (Nat.le_refl _) (by omega) hcols.row
    rw [hx]
    replace E := Lib.hid E
    have HC := Lib.hid hcols
    clear hmat hcols hl hc hx
    go_enter Try.func138, Try.ntmps138
    go_wp2_with fail
    refine (E.out).mono ?_
    rintro e w1 ⟨rfl, hs⟩
    have HK := HC.out.kept hs
    go_wp2
    go_ret
    exact ⟨rfl, grown_of_since hs, HK⟩
  | succ m ih =>
    intro cs W hl hc hcols hmat
    obtain ⟨i3, hi3⟩ := info3_parts
    have HJ := Lib.hid hi3
    have hbd := fun q (hq : q ≤ n) => ordP_bd (l := l) (n := n) (m := m) (cs := cs) h6 (fun i j hi hj => hT.at (by omega) (by omega)) hl hc hq
    have hb6 := b6_le (m + 1) (by omega)
    have hb6' : b6 (m + 1) = 6 * b6 m := rfl
    rw [ordS_succ]
    obtain ⟨F, hF⟩ : ∃ F : Nat → Int, F = fun k => if k ∈ cs then 0 else ordS l n m (cs ++ [k]) := ⟨_, rfl⟩
    simp only [← hF] at hbd ⊢
    have hd : cs.length < n := by omega
    have hne : ((cs.length : Int) == (n : Int)) = false := by simp; omega
    have HIH := Lib.hid (fun (k : Nat) (hk : k < n) (V : World) (h1 : ColsAt V g n (cs ++ [k])) (h2 : ∀ W', V.grownBy W' (some g) → MatR W' a l) => ih (cs ++ [k]) V (by simp; omega) (fun c h => by
      rcases List.mem_append.1 h with h | h
      · exact hc c h
      · simp at h; omega) h1 h2)
    have HIN := Lib.hid (fun (k : Nat) (V : World) (h1 : ColsAt V g n cs) => contains_any (some ⟨g, 0, none⟩) n cs.length (ints cs) k V (ints_length cs) (by omega) h1.row)
    have HM := Lib.hid hmat
    have HC := Lib.hid hcols
    have HF := Lib.hid hF
    have HB := Lib.hid hbd
    have HMEM : ∀ k : Nat, ((k : Int) ∈ ints cs) ↔ k ∈ cs := fun k => by
      simp only [ints, List.mem_map]
      constructor
      · rintro ⟨c, h1, h2⟩
        have : c = k := by omega
        exact this ▸ h1
      · exact fun h => ⟨k, h, rfl⟩
    have HME := Lib.hid HMEM
    obtain ⟨d, hdd⟩ : ∃ d, d = cs.length := ⟨_, rfl⟩
    have HD := Lib.hid hdd
    rw [← hdd] at hd hne ⊢
    simp only [← hdd] at HIN
    clear ih hmat hcols hF hbd hc hi3 HMEM hdd hT hw hn
    go_enter Try.func138, Try.ntmps138
    go_wp2
    go_loopg [5, 6, 17] n (fun q s _ i wr => ∃ k : Nat, k ≤ n ∧ q = n - k ∧ i = .int .i64 k ∧ s = .int .i64 (sumN F k) ∧ W.grownBy wr (some g) ∧ ColsAt wr g n cs)
    case atStart => exact ⟨0, Nat.zero_le _, rfl, rfl, rfl, World.grownBy.refl _ _, HC.out⟩
    case round =>
      obtain ⟨k, hk, rfl, rfl, rfl, hG, hCo⟩ := hrel
      obtain ⟨s0, hs0⟩ : ∃ s, s = sumN F k := ⟨_, rfl⟩
      have e : sumN F (k + 1) = s0 + F k := by rw [hs0]; rfl
      rw [← hs0]
      by_cases hlt : k < n
      · have hsb := HB.out (k + 1) (by omega)
        rw [e] at hsb
        have E1 := HIN.out k wr hCo
        have HE := Lib.hid e
        have HG := Lib.hid hG
        have HCo := Lib.hid hCo
        clear e hs0 hG
        by_cases hmem : k ∈ cs
        · rw [decide_eq_true ((HME.out k).2 hmem)] at E1
          replace E1 := Lib.hid E1
          have hF0 : F k = 0 := by rw [HF.out]; exact if_pos hmem
          clear hCo
          go_wp2_with fail
          refine (E1.out).mono ?_
          rintro e w' ⟨rfl, rfl⟩
          go_wp2
          go_roundg (n - (k + 1))
          case measure => omega
          case rel => exact ⟨k + 1, by omega, rfl, by go_num, by rw [HE.out, hF0]; simp, HG.out, HCo.out⟩
        · rw [decide_eq_false (fun h => hmem ((HME.out k).1 h))] at E1
          replace E1 := Lib.hid E1
          obtain ⟨f2, hf2⟩ : ∃ f, f = F k := ⟨_, rfl⟩
          rw [← hf2] at hsb
          have hF0 : f2 = ordS l n m (cs ++ [k]) := by rw [hf2, HF.out]; exact if_neg hmem
          have hws : IntKind.i64.wrap (s0 + f2) = s0 + f2 := IntWalk.i64_in _ ⟨by omega, by omega⟩
          have HH := Lib.hid hf2
          have EI := fun (V : World) (h1 : ColsAt V g n (cs ++ [k])) (h2 : V.heap.size ≥ 0 ∧ W.grownBy V (some g)) => HIH.out k hlt V h1 (fun W' hW' => HM.out W' (h2.2.trans hW'))
          rw [show (cs ++ [k]).length = d + 1 by rw [HD.out]; simp, ← hF0] at EI
          replace EI := Lib.hid EI
          have hown : wr.ownsRow 0 3 1 (.slice (some ⟨g, 0, none⟩) d n) d ((ints cs).map (Value.int .i64)) := by rw [HD.out]; exact hCo
          have HOWN := Lib.hid hown
          clear hf2 hsb hF0 hCo hown
          go_wp2_with (first
            | (go_at_call 151; refine (E1.out).mono ?_; rintro e w' ⟨rfl, rfl⟩)
            | (at_builtin; (refine wpList_append_fits _ rfl _ _ 23 rfl 0 3 i3 1 Try.underlying23 HJ.out.1 HJ.out.2.2.1 g d n ((ints cs).map (Value.int .i64)) rfl (HOWN.out.alloc _) ⟨wr.heap.size, 0, none⟩ 1 1 [.int .i64 k] rfl rfl (cell_one_at _ _ _ rfl) (fun x hx => by simp at hx; subst hx; rfl) (by omega) ?_); intro w1 hown' hgrow; have hc1 : ColsAt w1 g n (cs ++ [k]) := (by unfold ColsAt; rw [ints_snoc, show (cs ++ [k]).length = d + 1 by rw [HD.out]; simp]; exact hown'); have hg1 : W.grownBy w1 (some g) := HG.out.trans ((World.grownBy_alloc wr _ _).trans hgrow); clear hown' hgrow; have HC1 := Lib.hid hc1; have HG1 := Lib.hid hg1; clear hc1 hg1)
            | (go_at_call 138; refine (EI.out w1 HC1.out ⟨Nat.zero_le _, HG1.out⟩).mono ?_; rintro e w2 ⟨rfl, hg2, hc2⟩; have HG2 := Lib.hid (HG1.out.trans hg2); have HC2 := Lib.hid hc2.init; clear hg2 hc2))
          go_roundg (n - (k + 1))
          case measure => omega
          case rel => exact ⟨k + 1, by omega, rfl, by go_num, by rw [HE.out, ← HH.out], HG2.out, HC2.out⟩
      · have hqn : n = k := by omega
        subst hqn
        go_wp2
        go_ret
        exact ⟨by rw [hs0]; rfl, hG, hCo⟩

theorem since_fresh {W w1 w2 : World} (h : W.grownBy w1 none) (h2 : w1.grownBy w2 (some W.heap.size)) : W.Since W.heap.size w2 :=
  ⟨h2.os.trans h.os, h2.tape.trans h.tape, h2.output.trans h.output, Nat.le_trans h.size h2.size, fun k hk => (h2.block k (by have := h.size; omega) (by intro e; injection e with e; omega)).trans (h.block k hk (by simp))⟩

set_option maxRecDepth 100000 in
set_option maxHeartbeats 1000000 in
theorem byOrders_any (a : Option Addr) (cap n : Nat) (l : List (List Int)) (w : World) (hn : l.length = n) (hT : TabIn l) (hw : (l.getD 0 []).length = n) (hm : MatR w a l) :
    Calls Try.prog 126 #[.slice a n cap] w fun e w' => e = .returned (.int .i64 (ordF l n n 0)) ∧ w.Since w.heap.size w' := by
  have h6 := hT.2.1
  rw [hn] at h6
  obtain ⟨i3, hi3⟩ := info3_parts
  have HJ := Lib.hid hi3
  have E := fun (V : World) (hc : ColsAt V w.heap.size n []) (hg : w.grownBy V none) => sumOfOrders_any a cap n l w.heap.size hn hT hw n [] V (by simp) (by simp) hc (fun W' hW' => hm.since (since_fresh hg hW'))
  rw [ordS_all l n h6] at E
  replace E := Lib.hid E
  clear hi3 hn hT hw hm
  go_enter Try.func126, Try.ntmps126
  go_wp2_with (first
    | (at_make; (refine wpList_make_own _ rfl _ _ 23 rfl 0 3 i3 (.int .i64 0) 1 Try.underlying23 HJ.out.1 HJ.out.2.1 HJ.out.2.2.1 .i64 .i64 n n rfl rfl rfl (by rw [HJ.out.2.2.2]; omega) (by unfold maxLen; omega) (Nat.zero_le _) ?_); intro w1 hown hgrow; have HO := Lib.hid (show ColsAt w1 w.heap.size n [] from hown); have HG := Lib.hid hgrow; clear hown hgrow)
    | (go_at_call 138; refine (E.out w1 HO.out HG.out).mono ?_; rintro e w2 ⟨rfl, hg2, hc2⟩; have HS := Lib.hid (since_fresh HG.out hg2); clear hg2 hc2))
  go_ret
  exact ⟨rfl, HS.out⟩

theorem implValueOrders_any (a : Option Addr) (cap n : Nat) (l : List (List Int)) (w : World) (hn : l.length = n) (hsz : szL l ≤ 1048576) (hm : MatR w a l) :
    Calls Try.prog 20 #[.slice a n cap] w (SpecW w (sqB l) (ordF l n n 0)) :=
  implValueOrders_of a cap n l (ordF l n n 0) w hn hsz hm fun hs W' hm' => by
    obtain ⟨hT, hw⟩ := sqB_of hs
    exact byOrders_any a cap n l W' hn hT (by rw [← hw, hn]) hm'

end Go.Proofs.Ytkahgpgnfodpgaa
end

section
namespace Go.Proofs.Ytkahgpgnfodpgaa
open Go.RowKit Go.Deep

set_option maxHeartbeats 1000000 in
theorem sameInts_same (a b : Option Addr) (ca cb n : Nat) (l : List Int) (w : World) (hn : l.length = n) (h63 : n ≤ 9223372036854775807) (ha : RowR w a l) (hb : RowR w b l) :
    Calls Try.prog 70 #[.slice a n ca, .slice b n cb] w fun e w' => e = .returned (.bool true) ∧ Drawn w w' := by
  have H := Lib.hid hn; clear hn
  go_enter Try.func70, Try.ntmps70
  go_wp2
  go_loopg [5] n (fun g i wr => ∃ k : Nat, k ≤ n ∧ g = n - k ∧ i = .int .i64 k ∧ Drawn w wr)
  case atStart => exact ⟨0, Nat.zero_le _, rfl, rfl, Drawn.refl w⟩
  case round =>
    obtain ⟨k, hk, rfl, rfl, hD⟩ := hrel
    by_cases hlt : k < n
    · obtain ⟨b1, o1, rfl, hc1⟩ := ha (by rw [H.out]; omega)
      obtain ⟨b2, o2, rfl, hc2⟩ := hb (by rw [H.out]; omega)
      have c1 := hc1 k (by rw [H.out]; exact hlt)
      have c2 := hc2 k (by rw [H.out]; exact hlt)
      obtain ⟨x, hx⟩ : ∃ x, x = l.getD k 0 := ⟨_, rfl⟩
      rw [← hx] at c1 c2
      rw [← hD.cell] at c1 c2
      clear hx hc1 hc2 ha hb
      go_wp2
      go_quiet (fail)
      go_wp2
      go_roundg (n - (k + 1))
      case measure => omega
      case rel => exact ⟨k + 1, by omega, rfl, by go_num, hD.trans (Drawn.mk _ _)⟩
    · go_wp2
      go_ret
      exact ⟨rfl, hD⟩

set_option maxHeartbeats 1000000 in
theorem sameRows_same (a b : Option Addr) (ca cb n : Nat) (l : List (List Int)) (w : World) (hn : l.length = n) (h63 : n ≤ 9223372036854775807) (hl : ∀ r, r < l.length → (l.getD r []).length ≤ 9223372036854775807)
    (ha : MatR w a l) (hb : MatR w b l) :
    Calls Try.prog 18 #[.slice a n ca, .slice b n cb] w fun e w' => e = .returned (.bool true) ∧ Drawn w w' := by
  have H := Lib.hid hn; clear hn
  go_enter Try.func18, Try.ntmps18
  go_wp2
  go_loopg [5] n (fun g i wr => ∃ k : Nat, k ≤ n ∧ g = n - k ∧ i = .int .i64 k ∧ Drawn w wr)
  case atStart => exact ⟨0, Nat.zero_le _, rfl, rfl, Drawn.refl w⟩
  case round =>
    obtain ⟨k, hk, rfl, rfl, hD⟩ := hrel
    by_cases hlt : k < n
    · obtain ⟨b1, o1, A1, C1, rfl, hc1⟩ := ha (by rw [H.out]; omega)
      obtain ⟨b2, o2, A2, C2, rfl, hc2⟩ := hb (by rw [H.out]; omega)
      obtain ⟨c1, r1⟩ := hc1 k (by rw [H.out]; exact hlt)
      obtain ⟨c2, r2⟩ := hc2 k (by rw [H.out]; exact hlt)
      have hlk := hl k (by rw [H.out]; exact hlt)
      obtain ⟨x, hx⟩ : ∃ x, x = l.getD k [] := ⟨_, rfl⟩
      rw [← hx] at c1 c2 r1 r2 hlk
      obtain ⟨m, hm⟩ : ∃ m, x.length = m := ⟨_, rfl⟩
      rw [hm] at c1 c2 hlk
      have HM := Lib.hid hm
      clear hx hc1 hc2 ha hb hl hm
      have r1 := r1.drawn hD
      have r2 := r2.drawn hD
      rw [← hD.cell] at c1 c2
      have e1 := fun (p : Nat) => sameInts_same (A1 k) (A2 k) (C1 k) (C2 k) m x (wr.drewN p) HM.out hlk r1 r2
      have E1 := Lib.hid e1; clear e1 r1 r2
      go_wp2
      go_quiet ((go_at_call 70; exact Calls.quiet_of (E1.out _)))
      go_wp2
      go_roundg (n - (k + 1))
      case measure => omega
      case rel => exact ⟨k + 1, by omega, rfl, by go_num, hD.trans (Drawn.mk _ _)⟩
    · go_wp2
      go_ret
      exact ⟨rfl, hD⟩

end Go.Proofs.Ytkahgpgnfodpgaa
end

section
namespace Go.Proofs.Ytkahgpgnfodpgaa
open Go.RowKit Go.Deep

theorem tu_col (x : List Int) {m j : Nat} (h5 : m ≤ 5) (hj : j < m) : sumN (fun i => tuF x m i j) m = smK x m := by
  have hm : m = 1 ∨ m = 2 ∨ m = 3 ∨ m = 4 ∨ m = 5 := by omega
  rcases hm with rfl | rfl | rfl | rfl | rfl
  · have : j = 0 := by omega
    subst this; simp [sumN, tuF, smK]
  · have : j = 0 ∨ j = 1 := by omega
    rcases this with rfl | rfl <;> simp [sumN, tuF, smK] <;> omega
  · have : j = 0 ∨ j = 1 ∨ j = 2 := by omega
    rcases this with rfl | rfl | rfl <;> simp [sumN, tuF, smK] <;> omega
  · have : j = 0 ∨ j = 1 ∨ j = 2 ∨ j = 3 := by omega
    rcases this with rfl | rfl | rfl | rfl <;> simp [sumN, tuF, smK] <;> omega
  · have : j = 0 ∨ j = 1 ∨ j = 2 ∨ j = 3 ∨ j = 4 := by omega
    rcases this with rfl | rfl | rfl | rfl | rfl <;> simp [sumN, tuF, smK] <;> omega
theorem tu_val (x : List Int) {m : Nat} (h1 : 1 ≤ m) (h5 : m ≤ 5) : ∃ d, ordF (tuL x m) m m 0 = smK x m * d := by
  unfold tuL
  rw [ord_tabF _ (by omega)]
  obtain ⟨n, rfl⟩ : ∃ n, m = n + 1 := ⟨m - 1, by omega⟩
  exact ⟨_, dt_sums (tuF x (n + 1)) (smK x (n + 1)) (fun j hj => tu_col x h5 hj)⟩
theorem list5 {x : List Int} {m : Nat} (hm : x.length = m) (hx : ListE x 5 3) (hk : l8B x 30 = true) : 1 ≤ m ∧ m ≤ 5 := by
  obtain ⟨hr, h1, h6⟩ := l8B_of hk
  refine ⟨by omega, ?_⟩
  rcases hx with ⟨_, _, h | ⟨j, hj, e⟩⟩
  · omega
  · have := hr j hj
    rw [e] at this
    exact absurd this (by decide)

set_option maxRecDepth 100000 in
set_option maxHeartbeats 4000000 in
theorem fnTurns (a : Option Addr) (cap n : Nat) (w : World) (hc : n ≤ cap) (h63 : cap ≤ 9223372036854775807) (hb : BytR w a n) :
    Calls Try.prog 12 #[.slice a n cap] w fun e w' => e = .returned (.bool true) ∧ w.Since w.heap.size w' := by
  by_cases hlen : 1048576 < n
  · have hl' : decide ((1048576 : Int) < (n : Int)) = true := by simp; omega
    clear hb
    go_enter Try.func12, Try.ntmps12
    go_wp2
    go_ret
    exact ⟨rfl, World.Since.refl _ _⟩
  · have hl' : decide ((1048576 : Int) < (n : Int)) = false := by simp; omega
    have ED := Lib.hid (drawKnownTurns_any a n cap w hc h63 hb)
    clear hb
    go_enter Try.func12, Try.ntmps12
    go_wp2_with fail
    refine (ED.out).mono ?_
    rintro e w1 ⟨ax, cx, x, rfl, hs1, hx, hr, hcap⟩
    have HS1 := Lib.hid hs1
    obtain ⟨m, hm⟩ : ∃ m, x.length = m := ⟨_, rfl⟩
    have hx6 : m ≤ 7 := by have := hx.2.1; omega
    rw [hm] at hcap ⊢
    have E1 := implKnownTurns_any ax cx m x w1 hm (by omega) hr
    have E2 := fun (W : World) (h : w1.Since w1.heap.size W) => specKnownTurns_any ax cx m x W hm (by omega) (hr.since h)
    obtain ⟨ok, hok⟩ : ∃ ok, (l8B x 30) = ok := ⟨_, rfl⟩
    obtain ⟨M, hM⟩ : ∃ M, resT ok (tuL x m) = M := ⟨_, rfl⟩
    have hMsz : szL M ≤ 1048576 := by
      rw [← hM, ← hok]
      exact szL_res fun h => by have := l8B_of h; omega
    unfold ImplT at E1
    unfold SpecT at E2
    rw [hok, hM] at E1
    simp only [hok, hM] at E2
    obtain ⟨q, hq⟩ : ∃ q, M.length = q := ⟨_, rfl⟩
    rw [hq] at E1
    simp only [hq] at E2
    have hq63 : q ≤ 9223372036854775807 := by unfold szL at hMsz; omega
    replace E1 := Lib.hid E1
    replace E2 := Lib.hid E2
    have HQ := Lib.hid hq
    have HMS := Lib.hid hMsz
    have HOK := Lib.hid hok
    have HMM := Lib.hid hM
    clear hs1 hq hMsz hok hM
    go_wp2_with fail
    refine (E1.out).mono ?_
    rintro e w2 ⟨a2, c2, rfl, hs2, ho2⟩
    have HO := Lib.hid (fun (W : World) (h : w2.Since w2.heap.size W) => ho2.matR.since h)
    have HS2 := Lib.hid hs2
    clear ho2 hs2
    go_wp2_with fail
    refine (E2.out w2 HS2.out).mono ?_
    rintro e w3 ⟨a3, c3, rfl, hs3, hi3⟩
    have ES := Lib.hid (fun (W : World) (h : w3.Since w3.heap.size W) => sameRows_same a2 a3 c2 c3 q M W HQ.out hq63 (rows_le8 HMS.out) (HO.out W (hs3.trans (since_mono h hs3.size))) (hi3.matR.since h))
    have HS3 := Lib.hid hs3
    clear hi3 hs3
    go_wp2_with fail
    refine (ES.out w3 (World.Since.refl _ _)).mono ?_
    rintro e w4 ⟨rfl, hd4⟩
    have hs4 := hd4.since w3.heap.size
    have HS4 := Lib.hid ((HS2.out.trans (since_mono HS3.out HS2.out.size)).trans (since_mono hs4 (by have := HS2.out.size; have := HS3.out.size; omega)))
    have HS24 := Lib.hid (HS3.out.trans (since_mono hs4 HS3.out.size))
    cases ok with
    | false =>
      clear hd4
      go_wp2_with fail
      refine (ES.out w4 hs4).mono ?_
      rintro e w5 ⟨rfl, hd5⟩
      have HS5 := Lib.hid (hd5.since w4.heap.size)
      clear hd5
      go_wp2
      go_ret
      exact ⟨rfl, HS1.out.trans (since_mono (HS4.out.trans (since_mono HS5.out HS4.out.size)) HS1.out.size)⟩
    | true =>
      have hML : (tuL x m) = M := HMM.out
      have hMO := HO.out
      clear hs4 hd4
      have hok2 := HOK.out
      obtain ⟨h1, h5⟩ := list5 hm hx hok2
      obtain ⟨hr30, _, _⟩ := l8B_of hok2
      rw [hm] at hr30
      obtain ⟨d, hv⟩ := tu_val x h1 h5
      have hq : M.length = m := by rw [← hML]; exact tabF_length _ _ _
      have hqm : q = m := by rw [← HQ.out]; exact hq
      subst hqm
      have hT : tabIn M = true := by rw [← hML]; exact tuL_in (by omega) (by omega) hr30
      have hsq : sqB M = true := by rw [← hML] at hT ⊢; exact sq_tabF hT
      have E3 := fun (W : World) (h : w1.Since w1.heap.size W) => implKnownTurnsSum_any ax cx q x W hm (by omega) (hr.since h)
      have E4 := fun (W : World) (h : w2.Since w2.heap.size W) => implValueOrders_any a2 c2 q M W hq HMS.out (hMO W h)
      unfold SpecW at E4
      rw [hML] at hv
      obtain ⟨t, htt⟩ : ∃ t, smK x q = t := ⟨_, rfl⟩
      obtain ⟨v, hvv⟩ : ∃ v, ordF M q q 0 = v := ⟨_, rfl⟩
      simp only [hok2, htt] at E3
      simp only [hsq, hvv] at E4
      rw [hvv, htt] at hv
      have EE3 := Lib.hid E3
      have EE4 := Lib.hid E4
      have HV := Lib.hid hv
      clear hv hML hMO hsq hT hvv htt hq E3 E4 hok2 hr hx hr30
      by_cases ht : t = 0
      · have hv0 : v = 0 := by rw [HV.out, ht]; simp
        subst hv0
        subst ht
        go_wp2_with fail
        refine (EE3.out w4 HS4.out).mono ?_
        rintro e w' ⟨rfl, rfl⟩
        go_wp2_with fail
        refine (EE4.out w4 HS24.out).mono ?_
        rintro e w5 ⟨rfl, hs5⟩
        have HS5 := Lib.hid (HS4.out.trans (since_mono hs5 HS4.out.size))
        clear hs5
        go_wp2
        go_ret
        exact ⟨rfl, HS1.out.trans (since_mono HS5.out HS1.out.size)⟩
      · have ht0 : (t == 0) = false := by simpa using ht
        have htn : (t != 0) = true := by simpa using ht
        have hmod : (Int.tmod v t == 0) = true := by rw [HV.out, Int.mul_tmod_right]; rfl
        go_wp2_with fail
        refine (EE3.out w4 HS4.out).mono ?_
        rintro e w' ⟨rfl, rfl⟩
        go_wp2_with fail
        refine (EE4.out w4 HS24.out).mono ?_
        rintro e w5 ⟨rfl, hs5⟩
        have HS5 := Lib.hid (HS4.out.trans (since_mono hs5 HS4.out.size))
        clear hs5
        go_wp2
        go_ret
        exact ⟨rfl, HS1.out.trans (since_mono HS5.out HS1.out.size)⟩

end Go.Proofs.Ytkahgpgnfodpgaa
end

section
namespace Go.Proofs.Ytkahgpgnfodpgaa
open Go.RowKit Go.Deep

def timesL (l : List (List Int)) (f : Int) : List (List Int) := tabF l.length (l.getD 0 []).length fun i k => at2 l i k * f
theorem timesL_length (l : List (List Int)) (f : Int) : (timesL l f).length = l.length := tabF_length _ _ _
theorem mul_bd {a b : Int} (h1 : -30 ≤ a) (h2 : a ≤ 30) (h3 : -30 ≤ b) (h4 : b ≤ 30) : -900 ≤ a * b ∧ a * b ≤ 900 := by
  have h : ∀ x : Nat, ∀ y : Nat, x ≤ 30 → y ≤ 30 → x * y ≤ 900 := fun x y hx hy => Nat.le_trans (Nat.mul_le_mul hx hy) (by decide)
  have h5 := h a.natAbs b.natAbs (by omega) (by omega)
  rw [← Int.natAbs_mul] at h5
  omega

noncomputable def timesOk (l : List (List Int)) (f : Int) : Bool := tabIn l && (inB f (-30) 30 && tabIn (timesL l f))
theorem szL_times {l : List (List Int)} (f : Int) (h : TabIn l) : szL (timesL l f) ≤ 1048576 := szL_tabF _ _ _ (by have := h.2.1; omega) (by have := h.width; omega)

end Go.Proofs.Ytkahgpgnfodpgaa
end

section
namespace Go.Proofs.Ytkahgpgnfodpgaa
open Go.RowKit Go.Deep

theorem szL_timesOk (l : List (List Int)) (f : Int) (h : timesOk l f = true) : szL (timesL l f) ≤ 1048576 := by
  unfold timesOk at h
  rw [Bool.and_eq_true] at h
  exact szL_times f (tabIn_of h.1)

end Go.Proofs.Ytkahgpgnfodpgaa
end

section
namespace Go.Proofs.Ytkahgpgnfodpgaa
open Go.RowKit Go.Deep

def sumL (l u : List (List Int)) : List (List Int) := tabF l.length (l.getD 0 []).length fun i k => at2 l i k + at2 u i k
theorem sumL_length (l u : List (List Int)) : (sumL l u).length = l.length := tabF_length _ _ _

def alikeB (l u : List (List Int)) : Bool := (l.length == u.length) && ((l.getD 0 []).length == (u.getD 0 []).length)
noncomputable def sumOk (l u : List (List Int)) : Bool := tabIn l && (tabIn u && (alikeB l u && tabIn (sumL l u)))
theorem szL_sum {l : List (List Int)} (u : List (List Int)) (h : TabIn l) : szL (sumL l u) ≤ 1048576 := szL_tabF _ _ _ (by have := h.2.1; omega) (by have := h.width; omega)

end Go.Proofs.Ytkahgpgnfodpgaa
end

section
namespace Go.Proofs.Ytkahgpgnfodpgaa
open Go.RowKit Go.Deep

end Go.Proofs.Ytkahgpgnfodpgaa
end

section
namespace Go.Proofs.Ytkahgpgnfodpgaa
open Go.RowKit Go.Deep

theorem szL_sumOk (l u : List (List Int)) (h : sumOk l u = true) : szL (sumL l u) ≤ 1048576 := by
  unfold sumOk at h
  rw [Bool.and_eq_true] at h
  exact szL_sum u (tabIn_of h.1)

end Go.Proofs.Ytkahgpgnfodpgaa
end

section
namespace Go.Proofs.Ytkahgpgnfodpgaa
open Go.RowKit Go.Deep

def makeL (l u : List (List Int)) : List (List Int) := tabF l.length (u.getD 0 []).length fun i k => sumN (dotF l u i k) u.length
theorem makeL_length (l u : List (List Int)) : (makeL l u).length = l.length := tabF_length _ _ _

noncomputable def makeOk (l u : List (List Int)) : Bool := tabIn l && (tabIn u && (((l.getD 0 []).length == u.length) && tabIn (makeL l u)))
theorem szL_make {l u : List (List Int)} (h : TabIn l) (hu : TabIn u) : szL (makeL l u) ≤ 1048576 := szL_tabF _ _ _ (by have := h.2.1; omega) (by have := hu.width; omega)

end Go.Proofs.Ytkahgpgnfodpgaa
end

section
namespace Go.Proofs.Ytkahgpgnfodpgaa
open Go.RowKit Go.Deep

def partF (f : Nat → Nat → Int) (n2 k j c : Nat) : Int := if c < k then sumN (f c) n2 else if c = k then sumN (f k) j else 0

structure MR (wo wr : World) (m2 : Nat) (f : Nat → Nat → Int) (n2 k j : Nat) : Prop where
  since : wo.Since wo.heap.size wr
  row : wr.rowIs wo.heap.size 3 m2 (fun c => .int .i64 (partF f n2 k j c))
theorem mr_start (wo : World) (m2 : Nat) (f : Nat → Nat → Int) (n2 : Nat) : MR wo (wo.alloc (.cells (madeCells #[.int .i64 0] m2) 3)) m2 f n2 0 0 :=
  ⟨(World.Since.refl _ _).alloc (Nat.le_refl _) _, (World.rowIs_made wo (.int .i64 0) m2 3).congr fun c _ => by
    unfold partF
    rw [if_neg (by omega)]
    by_cases e : c = 0
    · rw [if_pos e]; rfl
    · rw [if_neg e]⟩
theorem MR.facts {wo wr : World} {m2 n2 k j : Nat} {f : Nat → Nat → Int} (h : MR wo wr m2 f n2 k j) (hk : k < m2) : wr.cell? ⟨wo.heap.size, k, none⟩ = some (.int .i64 (sumN (f k) j)) ∧ wr.frozen? ⟨wo.heap.size, k, none⟩ = false := by
  refine ⟨?_, h.row.frozen k⟩
  have := h.row.cell hk
  unfold partF at this
  rw [if_neg (by omega), if_pos rfl] at this
  exact this
theorem MR.store {wo wr : World} {m2 n2 k j : Nat} {f : Nat → Nat → Int} (h : MR wo wr m2 f n2 k j) (q : Nat) (hk : k < m2) : MR wo ((wr.drewN q).setCell ⟨wo.heap.size, k, none⟩ (.int .i64 (sumN (f k) (j + 1)))) m2 f n2 k (j + 1) := by
  have hr : (wr.drewN q).rowIs wo.heap.size 3 m2 (fun c => .int .i64 (partF f n2 k j c)) := h.row
  refine ⟨(since_drewN h.since q).setCell (Nat.le_refl _) _, (hr.set k _).congr fun c _ => ?_⟩
  unfold partF
  by_cases e : c = k
  · subst e; simp
  · rw [if_neg e]
    by_cases e2 : c < k
    · rw [if_pos e2, if_pos e2]
    · rw [if_neg e2, if_neg e, if_neg e2, if_neg e]
theorem MR.next {wo wr : World} {m2 n2 k : Nat} {f : Nat → Nat → Int} (h : MR wo wr m2 f n2 k n2) : MR wo wr m2 f n2 (k + 1) 0 := by
  refine ⟨h.since, h.row.congr fun c _ => ?_⟩
  unfold partF
  by_cases e2 : c < k
  · rw [if_pos e2, if_pos (by omega)]
  · rw [if_neg e2]
    by_cases e : c = k
    · subst e; simp
    · rw [if_neg e, if_neg (by omega)]
      by_cases e3 : c = k + 1
      · rw [if_pos e3]; rfl
      · rw [if_neg e3]
theorem MR.rowB {wo wr : World} {m2 n2 : Nat} {f : Nat → Nat → Int} (h : MR wo wr m2 f n2 m2 0) : RowB wr wo.heap.size ((List.range m2).map fun c => sumN (f c) n2) :=
  RowB.of_rowIs h.row (by simp) fun i hi => by
    simp at hi
    unfold partF
    rw [if_pos hi]
    simp [List.getD, hi]

def makeTo (l u : List (List Int)) (m2 n2 i : Nat) : List (List Int) := tabF i m2 fun i k => sumN (dotF l u i k) n2
theorem makeTo_succ (l u : List (List Int)) (m2 n2 i : Nat) : makeTo l u m2 n2 (i + 1) = makeTo l u m2 n2 i ++ [(List.range m2).map fun k => sumN (dotF l u i k) n2] := by simp [makeTo, tabF, List.range_succ]
theorem makeTo_length (l u : List (List Int)) (m2 n2 i : Nat) : (makeTo l u m2 n2 i).length = i := tabF_length _ _ _
theorem sumN_bd (f : Nat → Int) : ∀ (n : Nat), (∀ j, j < n → -900 ≤ f j ∧ f j ≤ 900) → -(900 * (n : Int)) ≤ sumN f n ∧ sumN f n ≤ 900 * (n : Int)
  | 0, _ => by simp [sumN]
  | n + 1, h => by
    have h1 := sumN_bd f n (fun j hj => h j (by omega))
    have h2 := h n (by omega)
    unfold sumN
    omega

theorem szL_makeOk (l u : List (List Int)) (h : makeOk l u = true) : szL (makeL l u) ≤ 1048576 := by
  unfold makeOk at h
  rw [Bool.and_eq_true, Bool.and_eq_true] at h
  exact szL_make (tabIn_of h.1) (tabIn_of h.2.1)

end Go.Proofs.Ytkahgpgnfodpgaa
end

section
namespace Go.Proofs.Ytkahgpgnfodpgaa
open Go.RowKit Go.Deep

theorem MatR.gridR {w : World} {a : Option Addr} {l : List (List Int)} {n m : Nat} (h : MatR w a l) (hn : l.length = n) (hT : Rec l) (hm : (l.getD 0 []).length = m) :
    ∃ (b o : Nat) (A : Nat → Option Addr) (C : Nat → Nat), a = some ⟨b, o, none⟩ ∧ (∀ i, i < n → w.cell? ⟨b, o + i, none⟩ = some (.slice (A i) m (C i))) ∧
      ∀ i j, i < n → j < m → ∃ b' o', w.cell? ⟨b, o + i, none⟩ = some (.slice (some ⟨b', o', none⟩) m (C i)) ∧ w.cell? ⟨b', o' + j, none⟩ = some (.int .i64 (at2 l i j)) := by
  subst hn
  have hrow : ∀ r, r < l.length → (l.getD r []).length = m := fun r hr => by rw [hT.row hr, hm]
  obtain ⟨b, o, A, C, e, hc⟩ := h hT.low
  refine ⟨b, o, A, C, e, fun i hi => by rw [(hc i hi).1, hrow i hi], fun i j hi hj => ?_⟩
  obtain ⟨hc1, hc2⟩ := hc i hi
  have hrl := hrow i hi
  obtain ⟨b', o', e', h3⟩ := hc2 (by omega)
  rw [e', hrl] at hc1
  exact ⟨b', o', hc1, h3 j (by omega)⟩

set_option maxRecDepth 100000 in
set_option maxHeartbeats 4000000 in
theorem productR_any (a a2 : Option Addr) (cap cap2 n n2 : Nat) (l u : List (List Int)) (w : World) (hn : l.length = n) (hu : u.length = n2) (hm : MatR w a l) (hmu : MatR w a2 u) (hT : Rec l) (hTu : Rec u) (hmm : (l.getD 0 []).length = n2) (hB : ∀ i j k, i < n → j < n2 → k < (u.getD 0 []).length → -1000000000000 ≤ at2 l i j * at2 u j k ∧ at2 l i j * at2 u j k ≤ 1000000000000) :
    Calls Try.prog 52 #[.slice a n cap, .slice a2 n2 cap2] w fun e w' => ∃ a' cap', e = .returned (.slice a' n cap') ∧ w.Since w.heap.size w' ∧ OwnT w.heap.size w'.heap.size w' a' (makeL l u) := by
  obtain ⟨i42, hi42⟩ := info42_parts
  have HI := Lib.hid hi42
  clear hi42
  have hst := bt_start w (fun _ => none) (fun _ => 0) #[] rfl
  have h6 := hT.high
  have h1 := hT.low
  have g6 := hTu.high
  have g1 := hTu.low
  have gw := hTu.width
  rw [hn] at h6 h1
  rw [hu] at g6 g1
  obtain ⟨m2, hmm2⟩ : ∃ m, (u.getD 0 []).length = m := ⟨_, rfl⟩
  have htl : makeL l u = makeTo l u m2 n2 n := by unfold makeL makeTo; rw [hmm2, hn, hu]
  rw [hmm2] at gw hB
  have HB := Lib.hid hB
  clear hB
  rw [htl]
  have hmk := run_make_row' (P := Try.prog) 23 3 (.int .i64 0) 8 Try.underlying23 Try.info3 rfl .i64 .i64 m2 (by omega) (by omega)
  obtain ⟨bt, ot, At, Ct, rfl, hlen, hcell⟩ := hm.gridR hn hT hmm
  obtain ⟨bu, ou, Au, Cu, rfl, hlenu, hcellu⟩ := hmu.gridR hu hTu hmm2
  have hcu0 := hlenu 0 (by omega)
  rw [Nat.add_zero] at hcu0
  have hbul : bu < w.heap.size := World.block_lt_of_cell? _ _ hcu0
  have HC := Lib.hid hcell
  have HCU := Lib.hid hcellu
  have HCU0 := Lib.hid hcu0
  have HMK := Lib.hid hmk
  have hmix : Try.prog.follows .mixedOrders = true := by kernel_rfl
  clear hm hn hmm hlen hcell hT hmu hTu hlenu hcellu hu hmm2 htl hcu0 hmk
  go_enter Try.func52, Try.ntmps52
  go_wp2
  go_loopg [5, 6, 7, 8, 9] n (fun g v i _ _ _ wr => ∃ r : Nat, ∃ A C, r ≤ n ∧ g = n - r ∧ i = .int .i64 r ∧ BT w wr v (makeTo l u m2 n2 r) A C)
  case atStart => exact ⟨0, _, _, Nat.zero_le _, rfl, rfl, hst⟩
  case round =>
    obtain ⟨r, A, C, hr, rfl, rfl, hR⟩ := hrel
    clear hst
    by_cases hlt : r < n
    · have HR := Lib.hid hR
      have hsz := hR.since.size
      have hlen := makeTo_length l u m2 n2 r
      have hc0 := HCU0.out
      rw [← hR.since.cell (a := ⟨bu, ou, none⟩) hbul] at hc0
      have hmr := mr_start wr m2 (dotF l u r) n2
      have HMR := Lib.hid hmr
      have hmk := HMK.out
      obtain ⟨wo, hwo⟩ : ∃ wo : World, wo = wr := ⟨_, rfl⟩
      clear hR hmr
      go_wp2
      clear hmk hc0
      subst hwo
      obtain ⟨g, hg⟩ : ∃ g, wo.heap.size = g := ⟨_, rfl⟩
      rw [hg]
      have HG := Lib.hid hg
      have hwg : w.heap.size ≤ g := by omega
      clear hg
      go_loopg [8, 9] m2 (fun g k _ wi => ∃ c : Nat, c ≤ m2 ∧ g = m2 - c ∧ k = .int .i64 c ∧ MR wo wi m2 (dotF l u r) n2 c 0)
      case atStart => exact ⟨0, Nat.zero_le _, rfl, rfl, HMR.out⟩
      case round =>
        obtain ⟨c, hc, rfl, rfl, hI⟩ := hrel
        clear HMR
        have hS := HR.out.since.trans (since_mono hI.since hsz)
        have hc0 := HCU0.out
        rw [← hS.cell (a := ⟨bu, ou, none⟩) hbul] at hc0
        by_cases hcm : c < m2
        · have HII := Lib.hid hI
          clear hI hS
          go_wp2
          clear hc0
          go_loopg [9] n2 (fun g j wj => ∃ j' : Nat, j' ≤ n2 ∧ g = n2 - j' ∧ j = .int .i64 j' ∧ MR wo wj m2 (dotF l u r) n2 c j')
          case atStart => exact ⟨0, Nat.zero_le _, rfl, rfl, HII.out⟩
          case round =>
            obtain ⟨j, hj, rfl, rfl, hJ⟩ := hrel
            clear HII
            by_cases hjn : j < n2
            · obtain ⟨b1, o1, e1, e2⟩ := HC.out r j hlt hjn
              obtain ⟨d1, q1, f1, f2⟩ := HCU.out j c hjn hcm
              have hS := HR.out.since.trans (since_mono hJ.since hsz)
              obtain ⟨k1, k2⟩ := hJ.facts hcm
              have hzz := HR.out.since.size
              have hb1 : bt < w.heap.size := World.block_lt_of_cell? _ _ e1
              have hb2 : b1 < w.heap.size := World.block_lt_of_cell? _ _ e2
              have hb4 : d1 < w.heap.size := World.block_lt_of_cell? _ _ f2
              rw [← hS.cell (a := ⟨bt, ot + r, none⟩) hb1] at e1
              rw [← hS.cell (a := ⟨b1, o1 + j, none⟩) hb2] at e2
              rw [← hS.cell (a := ⟨bu, ou + j, none⟩) hbul] at f1
              rw [← hS.cell (a := ⟨d1, q1 + c, none⟩) hb4] at f2
              have hbd := sumN_bdB (f := dotF l u r c) (B := 1000000000000) j (fun j' hj' => HB.out r j' c hlt (by omega) hcm)
              have hpq := HB.out r j c hlt hjn hcm
              have hsu : sumN (dotF l u r c) (j + 1) = sumN (dotF l u r c) j + at2 l r j * at2 u j c := rfl
              have hN := fun q => hJ.store q hcm
              rw [hsu] at hN
              obtain ⟨p, hp⟩ : ∃ p, at2 l r j = p := ⟨_, rfl⟩
              obtain ⟨q, hq⟩ : ∃ q, at2 u j c = q := ⟨_, rfl⟩
              obtain ⟨s, hs⟩ : ∃ s, sumN (dotF l u r c) j = s := ⟨_, rfl⟩
              rw [hp] at e2 hpq hN
              rw [hq] at f2 hpq hN
              rw [hs] at k1 hbd hN
              have hw1 : IntKind.i64.wrap (p * q) = p * q := IntWalk.i64_in _ ⟨by omega, by omega⟩
              have hw2 : IntKind.i64.wrap (s + p * q) = s + p * q := IntWalk.i64_in _ ⟨by omega, by omega⟩
              rw [HG.out] at k1 k2 hN
              have m1 := cell_set_ne (g := g) (j := c) (v := .int .i64 (s + p * q)) e1 (show bt ≠ g by omega)
              have m2' := cell_set_ne (g := g) (j := c) (v := .int .i64 (s + p * q)) e2 (show b1 ≠ g by omega)
              have m3 := cell_set_ne (g := g) (j := c) (v := .int .i64 (s + p * q)) f1 (show bu ≠ g by omega)
              have m4 := cell_set_ne (g := g) (j := c) (v := .int .i64 (s + p * q)) f2 (show d1 ≠ g by omega)
              have HN := Lib.hid (hN 1)
              clear hN hJ hp hq hs hsu hS hbd
              go_wp2
              go_still_tail 22, hmix
              go_wp2
              go_roundg (n2 - (j + 1))
              case measure => omega
              case rel => exact ⟨j + 1, by omega, rfl, by go_num, HN.out⟩
            · have hjj : j = n2 := by omega
              subst hjj
              have HNN := Lib.hid hJ.next
              clear hJ
              go_wp2
              go_roundg (m2 - (c + 1))
              case measure => omega
              case rel => exact ⟨c + 1, by omega, rfl, by go_num, HNN.out⟩
        · have hcc : c = m2 := by omega
          subst hcc
          have HII := Lib.hid hI
          have hzi := hI.since.size
          clear hI hS
          go_wp2_with (at_builtin; (refine wpList_append_own _ rfl _ _ 25 rfl w.heap.size 23 i42 (.slice none 0 0) 1 24 Try.underlying25 HI.out.1 HI.out.2.1 HI.out.2.2.1 HI.out.2.2.2 rfl (by decide) _ _ _ rfl ((HR.out.later HII.out.since).own.alloc _) ⟨wr.heap.size, 0, none⟩ 1 1 [.slice (some ⟨g, 0, none⟩) c c] rfl rfl (cell_one_at _ _ _ rfl) (fun x hx => by simp at hx; subst hx; rfl) (by unfold maxLen; omega) (by omega) (by simp; omega) ?_); intro v' w1 hown' hgrow _)
          have hP := (HR.out.later HII.out.since).push (rv := .slice (some ⟨g, 0, none⟩) c c) (x := (List.range c).map fun k => sumN (dotF l u r k) n2) (a := some ⟨g, 0, none⟩) (cp := c) (by simp)
            (fun _ => ⟨g, rfl, hwg, by rw [← HG.out]; exact HII.out.rowB⟩) (fun _ => HR.out.fresh rfl (by rw [HG.out]; exact Nat.le_refl _)) hown' hgrow
          rw [← makeTo_succ] at hP
          have HP := Lib.hid hP
          clear hP hown' hgrow hlen
          go_roundg (n - (r + 1))
          case measure => omega
          case rel => exact ⟨r + 1, _, _, by omega, rfl, by go_num, HP.out⟩
    · have : r = n := by omega
      subst this
      obtain ⟨a, cap, rfl, hin⟩ := hR.ownT
      have HS := Lib.hid hR.since
      clear hR
      go_wp2
      go_ret
      exact ⟨a, cap, by show Ending.returned (.slice a (makeTo l u m2 n2 r).length cap) = _; rw [makeTo_length], HS.out, hin⟩

end Go.Proofs.Ytkahgpgnfodpgaa
end

section
namespace Go.Proofs.Ytkahgpgnfodpgaa
open Go.RowKit Go.Deep

set_option maxRecDepth 100000 in
set_option maxHeartbeats 4000000 in
theorem across_any (a : Option Addr) (cap n : Nat) (l : List (List Int)) (w : World) (hn : l.length = n) (hT : TabIn l) (hm : MatR w a l) :
    Calls Try.prog 53 #[.slice a n cap] w fun e w' => ∃ a' cap', e = .returned (.slice a' (l.getD 0 []).length cap') ∧ w.Since w.heap.size w' ∧ InT w.heap.size w'.heap.size w' a' (turnL l) := by
  obtain ⟨i42, hi42⟩ := info42_parts
  obtain ⟨i3, hi3⟩ := info3_parts
  have HI := Lib.hid hi42
  have HJ := Lib.hid hi3
  clear hi42 hi3
  have hst := bt_start w (fun _ => none) (fun _ => 0) #[] rfl
  have hw := hT.width
  have h6 := hT.2.1
  have h1 := hT.1
  rw [hn] at h6 h1
  obtain ⟨b, o, A0, C0, rfl, hc⟩ := hm (by omega)
  obtain ⟨m, hmm⟩ : ∃ m, (l.getD 0 []).length = m := ⟨_, rfl⟩
  have hcell : ∀ r, r < n → w.cell? ⟨b, o + r, none⟩ = some (.slice (A0 r) m (C0 r)) := fun r hr => by rw [(hc r (by omega)).1, hT.row (by omega), hmm]
  have hent : ∀ i k, i < n → k < m → ∃ b' o', A0 i = some ⟨b', o', none⟩ ∧ w.cell? ⟨b', o' + k, none⟩ = some (.int .i64 (at2 l i k)) := fun i k hi hk => by
    have hrl : (l.getD i []).length = m := by rw [hT.row (by omega), hmm]
    obtain ⟨b', o', e, h3⟩ := (hc i (by omega)).2 (by omega)
    exact ⟨b', o', e, h3 k (by omega)⟩
  have htl : turnL l = turnTo l m := by rw [← hmm]; exact (turnTo_all l).symm
  rw [hmm] at hw ⊢
  rw [htl]
  have HC := Lib.hid hcell
  have HE := Lib.hid hent
  have HN := Lib.hid hn
  clear hc hm hT hcell hent hn hmm htl
  go_enter Try.func53, Try.ntmps53
  go_wp2
  go_loopg [3, 4, 5, 6] m (fun g v k _ _ wr => ∃ r : Nat, ∃ A C, r ≤ m ∧ g = m - r ∧ k = .int .i64 r ∧ BT w wr v (turnTo l r) A C)
  case atStart => exact ⟨0, _, _, Nat.zero_le _, rfl, rfl, hst⟩
  case round =>
    obtain ⟨r, A, C, hr, rfl, rfl, hR⟩ := hrel
    clear hst
    have hc0 : wr.cell? ⟨b, o, none⟩ = some (.slice (A0 0) m (C0 0)) := by
      have h0 := HC.out 0 (by omega)
      rw [Nat.add_zero] at h0
      rw [hR.since.cell (a := ⟨b, o, none⟩) (World.block_lt_of_cell? _ _ h0), h0]
    by_cases hlt : r < m
    · have HR := Lib.hid hR
      have hrb := rb_start wr #[] rfl
      have HRB := Lib.hid hrb
      have hsz := hR.since.size
      have hlen := turnTo_length l r
      obtain ⟨wo, rfl⟩ : ∃ wo : World, wo = wr := ⟨_, rfl⟩
      clear hR hrb
      go_wp2
      go_loopg [5, 6] n (fun g v i wi => ∃ j : Nat, j ≤ n ∧ g = n - j ∧ i = .int .i64 j ∧ RB wo wi v (turnRow l r j))
      case atStart => exact ⟨0, Nat.zero_le _, rfl, rfl, HRB.out⟩
      case round =>
        obtain ⟨j, hj, rfl, rfl, hI⟩ := hrel
        clear HRB hc0
        by_cases hjn : j < n
        · obtain ⟨b', o', hA, hce⟩ := HE.out j r hjn hlt
          have hcj := HC.out j hjn
          rw [hA] at hcj
          have hS := HR.out.since.trans (since_mono hI.since hsz)
          rw [← hS.cell (a := ⟨b, o + j, none⟩) (World.block_lt_of_cell? _ _ hcj)] at hcj
          rw [← hS.cell (a := ⟨b', o' + r, none⟩) (World.block_lt_of_cell? _ _ hce)] at hce
          obtain ⟨y, hy⟩ : ∃ y, y = at2 l j r := ⟨_, rfl⟩
          rw [← hy] at hce
          have HY := Lib.hid hy
          have HII := Lib.hid hI
          have hle := turnRow_length l r j
          have hzi := hI.since.size
          clear hy hI hA hS
          go_wp2_with (at_builtin; (refine wpList_append_own _ rfl _ _ 23 rfl wo.heap.size 3 i3 (.int .i64 0) 1 8 Try.underlying23 HJ.out.1 HJ.out.2.1 HJ.out.2.2.1 HJ.out.2.2.2 rfl (by decide) _ _ _ rfl (HII.out.own.alloc _) ⟨wr.heap.size, 0, none⟩ 1 1 [.int .i64 y] rfl rfl (cell_one_at _ _ _ rfl) (fun x hx => by simp at hx; subst hx; rfl) (by unfold maxLen; omega) (by omega) (by simp; omega) ?_); intro v' w1 hown' hgrow _)
          have hP := HII.out.push hown' hgrow
          rw [HY.out, ← turnRow_succ] at hP
          have HP := Lib.hid hP
          clear hP hown' hgrow hle hcj hce
          go_roundg (n - (j + 1))
          case measure => omega
          case rel => exact ⟨j + 1, by omega, rfl, by go_num, HP.out⟩
        · have hjj : j = n := by omega
          subst hjj
          obtain ⟨ra, rcp, hv, hrow⟩ := hI.slice
          rw [turnRow_length] at hv
          subst hv
          have HII := Lib.hid hI
          have hle := turnRow_length l r j
          have hzi := hI.since.size
          have HROW := Lib.hid hrow
          clear hI hrow
          have hBT := HR.out.later HII.out.since
          have HBT := Lib.hid hBT
          clear hBT
          go_wp2_with (at_builtin; (refine wpList_append_own _ rfl _ _ 25 rfl w.heap.size 23 i42 (.slice none 0 0) 1 24 Try.underlying25 HI.out.1 HI.out.2.1 HI.out.2.2.1 HI.out.2.2.2 rfl (by decide) _ _ _ rfl (HBT.out.own.alloc _) ⟨wr.heap.size, 0, none⟩ 1 1 [.slice ra j rcp] rfl rfl (cell_one_at _ _ _ rfl) (fun x hx => by simp at hx; subst hx; rfl) (by unfold maxLen; omega) (by omega) (by simp; omega) ?_); intro v' w1 hown' hgrow _)
          have hP := HBT.out.push (rv := .slice ra j rcp) (x := turnRow l r j) (a := ra) (cp := rcp) (by rw [turnRow_length]) (fun h => by obtain ⟨G, e, h2, h3⟩ := HROW.out h; exact ⟨G, e, by omega, h3⟩) (fun h => by obtain ⟨G, e, h2, _⟩ := HROW.out h; exact HR.out.fresh e h2) hown' hgrow
          have hjl : l.length = j := HN.out
          have hts := turnTo_succ l r
          rw [hjl] at hts
          rw [← hts] at hP
          have HP := Lib.hid hP
          clear hP hown' hgrow hle hts hjl hlen
          go_roundg (m - (r + 1))
          case measure => omega
          case rel => exact ⟨r + 1, _, _, by omega, rfl, by go_num, HP.out⟩
    · have : r = m := by omega
      subst this
      obtain ⟨ra, rcp, hv, hin⟩ := hR.slice
      rw [turnTo_length] at hv
      subst hv
      have HS := Lib.hid hR.since
      clear hR
      go_wp2
      go_ret
      exact ⟨ra, rcp, rfl, HS.out, hin⟩

end Go.Proofs.Ytkahgpgnfodpgaa
end

section
namespace Go.Proofs.Ytkahgpgnfodpgaa
open Go.RowKit Go.Deep

theorem tu_row (x : List Int) {m i : Nat} (h5 : m ≤ 5) (hi : i < m) : sumN (fun k => tuF x m i k) m = smK x m := by
  have hm : m = 1 ∨ m = 2 ∨ m = 3 ∨ m = 4 ∨ m = 5 := by omega
  rcases hm with rfl | rfl | rfl | rfl | rfl
  · have : i = 0 := by omega
    subst this; simp [sumN, tuF, smK]
  · have : i = 0 ∨ i = 1 := by omega
    rcases this with rfl | rfl <;> simp [sumN, tuF, smK] <;> omega
  · have : i = 0 ∨ i = 1 ∨ i = 2 := by omega
    rcases this with rfl | rfl | rfl <;> simp [sumN, tuF, smK] <;> omega
  · have : i = 0 ∨ i = 1 ∨ i = 2 ∨ i = 3 := by omega
    rcases this with rfl | rfl | rfl | rfl <;> simp [sumN, tuF, smK] <;> omega
  · have : i = 0 ∨ i = 1 ∨ i = 2 ∨ i = 3 ∨ i = 4 := by omega
    rcases this with rfl | rfl | rfl | rfl | rfl <;> simp [sumN, tuF, smK] <;> omega
theorem tu_both (x : List Int) {m i k : Nat} (h5 : m ≤ 5) (hi : i < m) (hk : k < m) : sumN (fun j => tuF x m i j * tuF x m k j) m = sumN (fun j => tuF x m j i * tuF x m j k) m := by
  have hm : m = 1 ∨ m = 2 ∨ m = 3 ∨ m = 4 ∨ m = 5 := by omega
  rcases hm with rfl | rfl | rfl | rfl | rfl
  · have : i = 0 := by omega
    have : k = 0 := by omega
    subst i k; simp [sumN, tuF]
  · have h : i = 0 ∨ i = 1 := by omega
    have h2 : k = 0 ∨ k = 1 := by omega
    rcases h with rfl | rfl <;> rcases h2 with rfl | rfl <;> simp [sumN, tuF] <;> grind
  · have h : i = 0 ∨ i = 1 ∨ i = 2 := by omega
    have h2 : k = 0 ∨ k = 1 ∨ k = 2 := by omega
    rcases h with rfl | rfl | rfl <;> rcases h2 with rfl | rfl | rfl <;> simp [sumN, tuF] <;> grind
  · have h : i = 0 ∨ i = 1 ∨ i = 2 ∨ i = 3 := by omega
    have h2 : k = 0 ∨ k = 1 ∨ k = 2 ∨ k = 3 := by omega
    rcases h with rfl | rfl | rfl | rfl <;> rcases h2 with rfl | rfl | rfl | rfl <;> simp [sumN, tuF] <;> grind
  · have h : i = 0 ∨ i = 1 ∨ i = 2 ∨ i = 3 ∨ i = 4 := by omega
    have h2 : k = 0 ∨ k = 1 ∨ k = 2 ∨ k = 3 ∨ k = 4 := by omega
    rcases h with rfl | rfl | rfl | rfl | rfl <;> rcases h2 with rfl | rfl | rfl | rfl | rfl <;> simp [sumN, tuF] <;> grind

theorem tabF_congr8 {n m : Nat} {f g : Nat → Nat → Int} (h : ∀ i k, i < n → k < m → f i k = g i k) : tabF n m f = tabF n m g := by
  unfold tabF
  refine List.map_congr_left fun i hi => List.map_congr_left fun k hk => ?_
  exact h i k (List.mem_range.1 hi) (List.mem_range.1 hk)
theorem prod_bd {a b : Int} (ha : -30 ≤ a ∧ a ≤ 30) (hb : -30 ≤ b ∧ b ≤ 30) : -1000000000000 ≤ a * b ∧ a * b ≤ 1000000000000 := by
  have h1 : (30 + a) * (30 - b) ≥ 0 := Int.mul_nonneg (by omega) (by omega)
  have h2 : (30 + a) * (30 + b) ≥ 0 := Int.mul_nonneg (by omega) (by omega)
  have h3 : (30 - a) * (30 + b) ≥ 0 := Int.mul_nonneg (by omega) (by omega)
  have h4 : (30 - a) * (30 - b) ≥ 0 := Int.mul_nonneg (by omega) (by omega)
  simp only [Int.add_mul, Int.sub_mul, Int.mul_add, Int.mul_sub] at h1 h2 h3 h4
  omega
theorem tu_facts {x : List Int} {m : Nat} (h1 : 1 ≤ m) (h5 : m ≤ 5) (hx : RngK x (-30) 30 m) :
    TabIn (tuL x m) ∧ TabIn (turnL (tuL x m)) ∧ (tuL x m).length = m ∧ ((tuL x m).getD 0 []).length = m ∧ (turnL (tuL x m)).length = m ∧ ((turnL (tuL x m)).getD 0 []).length = m ∧
      makeL (turnL (tuL x m)) (tuL x m) = makeL (tuL x m) (turnL (tuL x m)) ∧ (∀ i j, i < m → j < m → at2 (tuL x m) i j = tuF x m i j) ∧ (∀ i j, i < m → j < m → -30 ≤ tuF x m i j ∧ tuF x m i j ≤ 30) := by
  have hT := tabIn_of (tuL_in h1 (by omega) hx)
  have hl : (tuL x m).length = m := tabF_length _ _ _
  have hw : ((tuL x m).getD 0 []).length = m := tabF_len _ _ _ _ (by omega)
  have htl : (turnL (tuL x m)).length = m := by unfold turnL; rw [tabF_length, hw]
  have htw : ((turnL (tuL x m)).getD 0 []).length = m := by unfold turnL; rw [tabF_len _ _ _ _ (by omega), hl]
  have hat : ∀ i j, i < m → j < m → at2 (tuL x m) i j = tuF x m i j := fun i j hi hj => tabF_at _ _ _ _ _ hi hj
  have hta : ∀ i j, i < m → j < m → at2 (turnL (tuL x m)) i j = tuF x m j i := fun i j hi hj => by
    unfold turnL
    show ((tabF _ _ _).getD i []).getD j 0 = _
    rw [hw, hl, tabF_at _ _ _ _ _ hi hj]
    exact hat j i hj hi
  refine ⟨hT, tabIn_of (tabIn_turn hT), hl, hw, htl, htw, ?_, hat, fun i j _ _ => ?_⟩
  · unfold makeL
    rw [htl, hw, hl, htw]
    refine tabF_congr8 fun i k hi hk => ?_
    rw [sumN_congr m (g := fun j => tuF x m j i * tuF x m j k) (fun j hj => by unfold dotF; rw [hta i j hi hj, hat j k hj hk]), sumN_congr (f := dotF (tuL x m) (turnL (tuL x m)) i k) m (g := fun j => tuF x m i j * tuF x m k j) (fun j hj => by unfold dotF; rw [hat i j hi hj, hta j k hj hk])]
    exact (tu_both x h5 hi hk).symm
  · have := hx ((j + m - i) % m) (Nat.mod_lt _ (by omega))
    simp only [inB, decide_eq_true_eq] at this
    exact this

set_option maxRecDepth 100000 in
set_option maxHeartbeats 4000000 in
theorem fnTurnsMake (a : Option Addr) (cap n : Nat) (w : World) (hc : n ≤ cap) (h63 : cap ≤ 9223372036854775807) (hb : BytR w a n) :
    Calls Try.prog 13 #[.slice a n cap] w fun e w' => e = .returned (.bool true) ∧ w.Since w.heap.size w' := by
  by_cases hlen : 1048576 < n
  · have hl' : decide ((1048576 : Int) < (n : Int)) = true := by simp; omega
    clear hb
    go_enter Try.func13, Try.ntmps13
    go_wp2
    go_ret
    exact ⟨rfl, World.Since.refl _ _⟩
  · have hl' : decide ((1048576 : Int) < (n : Int)) = false := by simp; omega
    have ED := Lib.hid (drawKnownTurnsSum_any a n cap w hc h63 hb)
    clear hb
    go_enter Try.func13, Try.ntmps13
    go_wp2_with fail
    refine (ED.out).mono ?_
    rintro e w1 ⟨ax, cx, x, rfl, hs1, hx, hr, hcap⟩
    obtain ⟨m, hm⟩ : ∃ m, x.length = m := ⟨_, rfl⟩
    have hx6 : m ≤ 6 := by have := hx.2.1; omega
    rw [hm] at hcap ⊢
    have HS1 := Lib.hid hs1
    have E1 := implKnownTurnsSum_any ax cx m x w1 hm (by omega) hr
    have E2 := specTurnsSum_loop ax cx m x w1 hm (by omega) hr
    cases hok : l8B x 30 with
    | false =>
      rw [hok] at E1 E2
      replace E1 := Lib.hid E1
      replace E2 := Lib.hid E2
      clear hok hr hm hx hs1
      go_wp2_with fail
      refine (E1.out).mono ?_
      rintro e w' ⟨rfl, rfl⟩
      go_wp2_with fail
      refine (E2.out).mono ?_
      rintro e w' ⟨rfl, rfl⟩
      go_wp2
      go_ret
      exact ⟨rfl, HS1.out⟩
    | true =>
      rw [hok] at E1 E2
      obtain ⟨h1, h5⟩ := list5 hm hx hok
      obtain ⟨hr30, _, _⟩ := l8B_of hok
      rw [hm] at hr30
      obtain ⟨f1, f2, f3, f4, f5, f6, f7, f8, f9⟩ := tu_facts h1 h5 hr30
      have E3 := implKnownTurns_any ax cx m x w1 hm (by omega) hr
      unfold ImplT at E3
      rw [hok] at E3
      obtain ⟨T, hT⟩ : ∃ T, tuL x m = T := ⟨_, rfl⟩
      have hres : resT true (tuL x m) = T := hT
      rw [hres] at E3
      rw [hT] at f1 f2 f3 f4 f5 f6 f7 f8
      rw [f3] at E3
      have HROW := Lib.hid (fun i hi => tu_row x (i := i) h5 hi)
      have hbs := smK_bd hr30 m (Nat.le_refl _)
      obtain ⟨v, hv⟩ : ∃ v, smK x m = v := ⟨_, rfl⟩
      rw [hv] at E1 E2 hbs
      replace HROW := Lib.hid (hv ▸ HROW.out)
      have HB9 := Lib.hid f9
      have HA8 := Lib.hid f8
      have HT1 := Lib.hid f1
      have EAC := Lib.hid (fun (W : World) (a : Option Addr) (c : Nat) (h : MatR W a T) => across_any a c m T W f3 f1 h)
      have EP1 := Lib.hid (fun (W : World) (a b : Option Addr) (c d : Nat) (h : MatR W a T) (h2 : MatR W b (turnL T)) => productR_any a b c d m m T (turnL T) W f3 f5 h h2 f1.rec f2.rec f4 (fun i j k hi hj hk => by
        rw [f6] at hk
        have g1 := f1.2.2 i (by omega)
        have g2 := f2.2.2 j (by omega)
        exact prod_bd (g1.2.2.2 j (by have := g1.1; omega)) (g2.2.2.2 k (by have := g2.1; omega))))
      have EP2 := Lib.hid (fun (W : World) (a b : Option Addr) (c d : Nat) (h : MatR W a (turnL T)) (h2 : MatR W b T) => productR_any a b c d m m (turnL T) T W f5 f3 h h2 f2.rec f1.rec f6 (fun i j k hi hj hk => by
        rw [f4] at hk
        have g1 := f2.2.2 i (by omega)
        have g2 := f1.2.2 j (by omega)
        exact prod_bd (g1.2.2.2 j (by have := g1.1; omega)) (g2.2.2.2 k (by have := g2.1; omega))))
      have hpl : (makeL T (turnL T)).length = m := by rw [makeL_length, f3]
      have hprl : ∀ r, r < (makeL T (turnL T)).length → ((makeL T (turnL T)).getD r []).length ≤ 9223372036854775807 := fun r hr => by
        unfold makeL at hr ⊢
        rw [tabF_length] at hr
        rw [tabF_len _ _ _ _ hr, f6]
        omega
      have EQ := Lib.hid (fun (W : World) (a b : Option Addr) (c d : Nat) (h : MatR W a (makeL T (turnL T))) (h2 : MatR W b (makeL T (turnL T))) => sameRows_same a b c d m (makeL T (turnL T)) W hpl (by omega) hprl h h2)
      have HF7 := Lib.hid f7
      have HW4 := Lib.hid f4
      have HF3 := Lib.hid f3
      replace E1 := Lib.hid E1
      replace E2 := Lib.hid E2
      replace E3 := Lib.hid E3
      rw [f4] at EAC
      clear hok hr hm hx hs1 hr30 f1 f2 f3 f4 f5 f6 f7 f8 f9 hT hres hv hpl hprl
      go_wp2_with fail
      refine (E1.out).mono ?_
      rintro e w' ⟨rfl, rfl⟩
      go_wp2_with fail
      refine (E2.out).mono ?_
      rintro e w' ⟨rfl, rfl⟩
      go_wp2_with fail
      refine (E3.out).mono ?_
      rintro e w2 ⟨a2, c2, rfl, hs2, ho2⟩
      have HO2 := Lib.hid ho2.matR
      have HS2 := Lib.hid hs2
      clear ho2 hs2
      go_wp2_with fail
      refine (EAC.out w2 a2 c2 HO2.out).mono ?_
      rintro e w3 ⟨a3, c3, rfl, hs3, hi3⟩
      have HI3 := Lib.hid hi3.matR
      have HS3 := Lib.hid (HS2.out.trans (since_mono hs3 HS2.out.size))
      have HO3 := Lib.hid (HO2.out.since hs3)
      clear hs3 hi3
      go_wp2_with fail
      refine (EP1.out w3 a2 a3 c2 c3 HO3.out HI3.out).mono ?_
      rintro e w4 ⟨a4, c4, rfl, hs4, ho4⟩
      have HP4 := Lib.hid ho4.matR
      have HS4 := Lib.hid (HS3.out.trans (since_mono hs4 HS3.out.size))
      have HO4 := Lib.hid (HO3.out.since hs4)
      clear hs4 ho4
      go_wp2_with fail
      refine (EAC.out w4 a2 c2 HO4.out).mono ?_
      rintro e w5 ⟨a5, c5, rfl, hs5, hi5⟩
      have HI5 := Lib.hid hi5.matR
      have HS5 := Lib.hid (HS4.out.trans (since_mono hs5 HS4.out.size))
      have HO5 := Lib.hid (HO4.out.since hs5)
      have HP5 := Lib.hid (HP4.out.since hs5)
      clear hs5 hi5
      go_wp2_with fail
      refine (EP2.out w5 a5 a2 c5 c2 HI5.out HO5.out).mono ?_
      rintro e w6 ⟨a6, c6, rfl, hs6, ho6⟩
      have hp6 := ho6.matR
      rw [HF7.out] at hp6
      have HQ6 := Lib.hid hp6
      have HS6 := Lib.hid (HS5.out.trans (since_mono hs6 HS5.out.size))
      have HO6 := Lib.hid (HO5.out.since hs6)
      have HP6 := Lib.hid (HP5.out.since hs6)
      clear hs6 ho6 hp6
      have ES := Lib.hid (EQ.out w6 a4 a6 c4 c6 HP6.out HQ6.out)
      obtain ⟨bt, ot, AT, CT, rfl, hcT, heT⟩ := HO6.out.gridR HF3.out HT1.out.rec HW4.out
      have HE := Lib.hid heT
      clear hcT heT
      go_wp2
      go_loopg [12, 13, 14] m (fun g i _ _ wr => ∃ r : Nat, r ≤ m ∧ g = m - r ∧ i = .int .i64 r ∧ w6 = wr)
      case atStart => exact ⟨0, Nat.zero_le _, rfl, rfl, rfl⟩
      case round =>
        obtain ⟨r, hr, rfl, rfl, rfl⟩ := hrel
        by_cases hlt : r < m
        · go_wp2
          go_loopg [13, 14] m (fun g s k wi => ∃ t : Nat, t ≤ m ∧ g = m - t ∧ k = .int .i64 t ∧ s = .int .i64 (sumN (fun k => tuF x m r k) t) ∧ w6 = wi)
          case atStart => exact ⟨0, Nat.zero_le _, rfl, rfl, rfl, rfl⟩
          case round =>
            obtain ⟨t, ht, rfl, rfl, rfl, rfl⟩ := hrel
            by_cases htm : t < m
            · obtain ⟨b', o', ca, cb⟩ := HE.out r t hlt htm
              rw [HA8.out r t hlt htm] at cb
              have hy9 := HB9.out r t hlt htm
              have hbd := sumN_bdB (f := fun k => tuF x m r k) (B := 30) t (fun j hj => HB9.out r j hlt (by omega))
              have hst : sumN (fun k => tuF x m r k) (t + 1) = sumN (fun k => tuF x m r k) t + tuF x m r t := rfl
              obtain ⟨y, hy⟩ : ∃ y, tuF x m r t = y := ⟨_, rfl⟩
              obtain ⟨p, hp⟩ : ∃ p, sumN (fun k => tuF x m r k) t = p := ⟨_, rfl⟩
              rw [hy] at cb hy9 hst
              rw [hp] at hbd hst ⊢
              have hpb : -180 ≤ p ∧ p ≤ 180 := by omega
              have HST := Lib.hid hst
              clear hst hy hp hbd
              go_wp2
              go_roundg (m - (t + 1))
              case measure => omega
              case rel => exact ⟨t + 1, by omega, rfl, by go_num, by rw [HST.out], rfl⟩
            · have htt : t = m := by omega
              subst htt
              rw [HROW.out r hlt]
              go_wp2
              go_roundg (t - (r + 1))
              case measure => omega
              case rel => exact ⟨r + 1, by omega, rfl, by go_num, rfl⟩
        · have hrm : r = m := by omega
          subst hrm
          go_wp2_with fail
          refine (ES.out).mono ?_
          rintro e w7 ⟨rfl, hd7⟩
          go_wp2
          go_ret
          exact ⟨rfl, HS1.out.trans (since_mono (HS6.out.trans (since_mono (hd7.since w6.heap.size) HS6.out.size)) HS1.out.size)⟩

end Go.Proofs.Ytkahgpgnfodpgaa
end

section
namespace Go.Proofs.Ytkahgpgnfodpgaa
open Go.ChangeShapes Go.WideShapes Go.ChangeAt Go.RowKit Go.Deep

theorem below_since' {B : Nat} {w w' : World} (h : Below B w w') : w.Since B w' := ⟨h.os, h.tape, h.output, h.size, h.block⟩
theorem since_below' {B : Nat} {w w' : World} (h : w.Since B w') : Below B w w' := ⟨h.os, h.tape, h.output, h.size, h.block⟩

section
variable {H : Type} {enc : TypeId × Value → H} {P : Program}
theorem post_of_below {f : Func} {s : ChangeSpec} {apart fresh handsOn again : Bool} {W W' : World} {args : Array Value} {v : Value} {ds gs : List (DataW H)} {before pa pv : List MemPlace}
    (hW : DataW.Whole enc P f.params.toList s.vars apart W args.toList ds gs before)
    (hres : ∀ (b : Nat) (sp : Nat → Bool) (hd : Bool), DataW.TrodAll enc P W' b sp hd f.resultTypes.toList (v.resultList f.resultTypes.size) (s.fn H (ds ++ gs)).results [])
    (hargs : ∀ sp : Nat → Bool, (∀ p ∈ before, sp p.block = true) → DataW.TrodAll enc P W' 0 sp true f.params.toList args.toList (s.fn H (ds ++ gs)).args pa)
    (hvars : ∀ sp : Nat → Bool, (∀ p ∈ before, sp p.block = true) → DataW.TrodVars enc P W' sp s.vars (s.fn H (ds ++ gs)).vars pv)
    (hps : before = pa ++ pv) (hb : Below W.heap.size W W') (hag : again = false) :
    s.post enc P f apart fresh handsOn again W args v W' := by
  have hlt : ∀ p ∈ before, p.block < W.heap.size := fun p hp => hW.lt p hp
  have hold : ∀ p ∈ before, (fun b => decide (b < W.heap.size)) p.block = true := fun p hp => by simpa using hlt p hp
  refine ⟨ds, gs, before, [], pa, pv, hW, hres _ _ _, hargs _ hold, hvars _ hold, World.keptBut_mono (fun p hp => ⟨hp, ?_⟩) (hb.frame (· ∈ before)), fun h => ?_⟩
  · rw [hps, List.mem_append] at hp
    exact Or.inr hp
  · rw [hag] at h; cases h

theorem open_mat {W : World} {t e q : TypeId} {a : Option Addr} {n cap : Nat} {d : DataW H} {p : List MemPlace} (ht : P.underlying t = some (.slice e)) (he : P.underlying e = some (.slice q)) (hq : P.underlying q = some (.int .i64))
    (ce : P.cellsOf e = 1) (cq : P.cellsOf q = 1) (h : DataW.Trod enc P W 0 (fun _ => true) true t (.slice a n cap) d p) :
    ∃ l : List (List Int), l.length = n ∧ MatR W a l ∧ n ≤ 9223372036854775807 ∧ ∀ r, r < l.length → (l.getD r []).length ≤ 9223372036854775807 := by
  obtain ⟨fuel, hf⟩ := h
  rcases open_int_rows ht he hq ce cq hf with ⟨hcs, _⟩ | ⟨a', len', cap', A, L, C, Z, hcs, _, hl, hm, _, hrows⟩
  · simp [Value.cells] at hcs
    obtain ⟨rfl, rfl, rfl⟩ := hcs
    exact ⟨[], rfl, (fun h => by simp at h), by omega, fun r hr => by simp at hr⟩
  · simp [Value.cells] at hcs
    obtain ⟨rfl, rfl, rfl⟩ := hcs
    have hmx : maxLen = 9223372036854775807 := rfl
    have hlen : ∀ r, r < n → ((Z r).take (L r)).length = L r := fun r hr => by
      obtain ⟨_, h1, _, h2, _⟩ := hrows r (by omega)
      rw [List.length_take]; omega
    have hget : ∀ r, r < n → ((List.range n).map fun r => (Z r).take (L r)).getD r [] = (Z r).take (L r) := fun r hr => by simp [List.getD, hr]
    refine ⟨(List.range n).map fun r => (Z r).take (L r), by simp, fun h => ?_, by omega, fun r hr => ?_⟩
    · obtain ⟨b, o, spot⟩ := a'
      simp at h
      have hspot : spot = none := by simpa [Addr.add] using World.cell?_spot (hrows 0 (by omega)).1
      subst hspot
      refine ⟨b, o, A, C, rfl, fun r hr => ?_⟩
      simp at hr
      rw [hget r hr, hlen r hr]
      obtain ⟨g1, g2, g3, g4, g5, g6, g7⟩ := hrows r (by omega)
      refine ⟨by rw [← add_plain]; exact g1, fun h0 => ?_⟩
      rw [hlen r hr] at h0
      cases hA : A r with
      | none => have := g6 hA; omega
      | some a'' =>
        obtain ⟨_, hcell⟩ := g7 a'' hA
        obtain ⟨b', o', sp⟩ := a''
        have hs : sp = none := by simpa [Addr.add] using World.cell?_spot (hcell 0 (by omega))
        subst hs
        refine ⟨b', o', rfl, fun i hi => ?_⟩
        rw [hlen r hr] at hi
        rw [← add_plain, hcell i (by omega)]
        congr 2
        simp [List.getD, hi]
    · simp at hr
      rw [hget r hr, hlen r hr]
      obtain ⟨_, h1, h2, _⟩ := hrows r (by omega)
      omega
end

theorem Try.own : ownKnob Try.prog.godebug = none := by kernel_rfl
theorem Try.laidOut : laidOutB Try.prog = true := by kernel_rfl
theorem Try.cellsR : Try.prog.cellsOf 23 = 1 := by kernel_rfl
theorem Try.cellsI : Try.prog.cellsOf 3 = 1 := by kernel_rfl

end Go.Proofs.Ytkahgpgnfodpgaa
end

section
namespace Go.Proofs.Ytkahgpgnfodpgaa
open Go.ChangeShapes Go.WideShapes Go.ChangeAt Go.RowKit Go.Deep

theorem wf_u8_of {n : Int} (h : (Lit.int .u8 n).wf = true) : 0 ≤ n ∧ n ≤ 255 := by
  have h2 : (0 : Int) ≤ n ∧ n ≤ 255 := by simpa [Lit.wf, IntKind.min, IntKind.max, IntKind.signed, IntKind.bits] using h
  exact h2

theorem open_bytes {H : Type} {enc : TypeId × Value → H} {P : Program} {W : World} {t e : TypeId} {a : Option Addr} {n cap : Nat} {d : DataW H} {p : List MemPlace} (ht : P.underlying t = some (.slice e)) (he : P.underlying e = some (.int .u8)) (ce : P.cellsOf e = 1)
    (h : DataW.Trod enc P W 0 (fun _ => true) true t (.slice a n cap) d p) : BytR W a n ∧ n ≤ cap ∧ cap ≤ 9223372036854775807 := by
  obtain ⟨fuel, hf⟩ := h
  rcases open_ints ht he ce hf with ⟨hcs, _⟩ | ⟨a', len, cap', zs, hcs, _, hl, hm, hlen, _, hcell, hwf⟩
  · simp [Value.cells] at hcs
    obtain ⟨rfl, rfl, rfl⟩ := hcs
    exact ⟨fun h => absurd h (by omega), by omega, by omega⟩
  · simp [Value.cells] at hcs
    obtain ⟨rfl, rfl, rfl⟩ := hcs
    have hmx : maxLen = 9223372036854775807 := rfl
    have hzl : zs.length = cap := by simpa using hlen
    refine ⟨fun h0 => ?_, by omega, by omega⟩
    obtain ⟨b, o, spot⟩ := a'
    have hspot : spot = none := by simpa [Addr.add] using World.cell?_spot (hcell 0 (by omega))
    subst hspot
    refine ⟨b, o, rfl, fun i hi => ?_⟩
    have hi' : i < zs.length := by omega
    have hw := wf_u8_of (hwf (zs.getD i 0) (by simp [List.getD, hi']))
    obtain ⟨z, hz⟩ := Int.eq_ofNat_of_zero_le hw.1
    refine ⟨z, by omega, ?_⟩
    rw [← add_plain, hcell i hi', hz]

theorem Try.cellsB : Try.prog.cellsOf 5 = 1 := by kernel_rfl

end Go.Proofs.Ytkahgpgnfodpgaa
end
