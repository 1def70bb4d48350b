/- Minors around a block (Sylvester), and squares by those beside each other (Desnanot and Jacobi): the pure side. -/
import Derived.Test.YtikjeaoapeaabaaSolveP
namespace Go.Proofs.Ytikjeaoapeaabaa
open Go.RowKit Go.Deep

theorem dt_scal (a : Int) : ∀ p, dt p (fun i j => if i = j then a else 0) = pw a p
  | 0 => rfl
  | p + 1 => by
    rw [dt_corner _ (fun i _ => by rw [if_neg (by omega)]), if_pos rfl]
    show a * _ = a * pw a p
    rw [← dt_scal a p]
    congr 1
    exact dt_congr p fun i j _ _ => by
      by_cases e : i = j
      · rw [if_pos e, if_pos (by omega)]
      · rw [if_neg e, if_neg (by omega)]

/-- The value of the block and one row and one column more, over the block's. -/
def bord (n : Nat) (M : Nat → Nat → Int) (r s : Nat) : Int := M (n + r) (n + s) * dt n M - sumN (fun k => M (n + r) k * dt n (setC M k (fun i => M i (n + s)))) n
/-- What makes noughts at the right of the block. -/
def sylN (n : Nat) (M : Nat → Nat → Int) (i j : Nat) : Int := if j < n then (if i = j then 1 else 0) else if i < n then -(dt n (setC M i (fun q => M q j))) else if i = j then dt n M else 0

theorem sumN_split (f : Nat → Int) (n : Nat) : ∀ m, sumN f (n + m) = sumN f n + sumN (fun j => f (n + j)) m
  | 0 => by simp [sumN]
  | m + 1 => by
    show sumN f (n + m) + f (n + m) = sumN f n + (sumN (fun j => f (n + j)) m + f (n + m))
    rw [sumN_split f n m]; omega

theorem mul_sylN {n p : Nat} (M : Nat → Nat → Int) {i j : Nat} (hj : j < n + p) : mulF (n + p) M (sylN n M) i j = if j < n then M i j else (M i j * dt n M - sumN (fun k => M i k * dt n (setC M k (fun q => M q j))) n) := by
  unfold mulF
  by_cases hn : j < n
  · rw [if_pos hn, sumN_one _ j (n + p) hj (fun k _ hk => by unfold sylN; rw [if_pos hn, if_neg hk, Int.mul_zero])]
    unfold sylN; rw [if_pos hn, if_pos rfl, Int.mul_one]
  · rw [if_neg hn, sumN_split, sumN_one (fun q => M i (n + q) * sylN n M (n + q) j) (j - n) p (by omega) (fun k _ hk => by unfold sylN; rw [if_neg hn, if_neg (by omega), if_neg (by omega), Int.mul_zero])]
    rw [sumN_congr n (g := fun k => -(M i k * dt n (setC M k (fun q => M q j)))) (fun k hk => by unfold sylN; rw [if_neg hn, if_pos hk, Int.mul_neg]), sumN_neg]
    rw [show n + (j - n) = j by omega]
    unfold sylN
    rw [if_neg hn, if_neg hn, if_pos rfl]
    omega

theorem dt_sylN (n p : Nat) (M : Nat → Nat → Int) : dt (n + p) (sylN n M) = pw (dt n M) p := by
  rw [← dt_turn, dt_block p n _ (fun i j hi hj _ => by unfold sylN; rw [if_pos hi, if_neg (by omega)])]
  rw [dt_congr n (g := oneF) (fun i j hi hj => by
    unfold sylN oneF
    rw [if_pos hi]
    by_cases e : i = j
    · rw [if_pos e, if_pos e.symm]
    · rw [if_neg e, if_neg (fun h => e h.symm)]), dt_oneF, Int.one_mul, ← dt_scal]
  exact dt_congr p fun i j _ _ => by
    unfold sylN
    rw [if_neg (by omega), if_neg (by omega)]
    by_cases e : i = j
    · rw [if_pos e, if_pos (by omega)]
    · rw [if_neg e, if_neg (by omega)]

theorem dt_sylv (n p : Nat) (M : Nat → Nat → Int) : dt (n + p) M * pw (dt n M) p = dt n M * dt p (bord n M) := by
  rw [← dt_sylN n p M, ← dt_mul, dt_block p n _ (fun i j hi hj hp => by
    rw [mul_sylN M hp, if_neg (by omega), dt_solve M (fun q => M q j) hi, Int.mul_comm]; omega)]
  congr 1
  · exact dt_congr n fun i j _ hj => by rw [mul_sylN M (by omega), if_pos hj]
  · exact dt_congr p fun i j _ hj => by rw [mul_sylN M (by omega), if_neg (by omega)]; rfl

/-- One row and one column more. -/
theorem dt_bord {n : Nat} (M : Nat → Nat → Int) (r s : Nat) (h : dt n M ≠ 0) : bord n M r s = dt (n + 1) (fun i j => M (if i < n then i else n + r) (if j < n then j else n + s)) := by
  obtain ⟨F, hF⟩ : ∃ F : Nat → Nat → Int, F = fun i j => M (if i < n then i else n + r) (if j < n then j else n + s) := ⟨_, rfl⟩
  have e := dt_sylv n 1 F
  have e0 : dt n F = dt n M := dt_congr n fun i j hi hj => by rw [hF]; show M _ _ = _; rw [if_pos hi, if_pos hj]
  have e1 : dt 1 (bord n F) = bord n M r s := by
    rw [dt_one]
    unfold bord
    rw [e0]
    have a1 : F (n + 0) (n + 0) = M (n + r) (n + s) := by rw [hF]; show M _ _ = _; rw [if_neg (by omega), if_neg (by omega)]
    rw [a1]
    congr 1
    refine sumN_congr n fun k hk => ?_
    have a2 : F (n + 0) k = M (n + r) k := by rw [hF]; show M _ _ = _; rw [if_neg (by omega), if_pos hk]
    rw [a2]
    congr 1
    refine dt_congr n fun i j hi hj => ?_
    unfold setC
    have a3 : F i (n + 0) = M i (n + s) := by rw [hF]; show M _ _ = _; rw [if_pos hi, if_neg (by omega)]
    have a4 : F i j = M i j := by rw [hF]; show M _ _ = _; rw [if_pos hi, if_pos hj]
    rw [a4]
    by_cases e : j = k
    · rw [if_pos e, if_pos e]; exact a3
    · rw [if_neg e, if_neg e]
  rw [e0, e1] at e
  rw [← hF]
  have e2 : pw (dt n M) 1 = dt n M := by simp [pw]
  rw [e2, Int.mul_comm] at e
  exact (Int.eq_of_mul_eq_mul_left h e).symm

/-- The row ahead put behind n others. -/
def cyc (n i : Nat) : Nat := if i < n then i + 1 else if i = n then 0 else i
theorem cyc_succ (n i : Nat) : cyc (n + 1) i = cyc n (ex1 n i) := by unfold cyc ex1; repeat (first | split | omega)
theorem dt_cycC (N : Nat) : ∀ (n : Nat) (f : Nat → Nat → Int), n < N → dt N (fun i j => f i (cyc n j)) = sn n * dt N f
  | 0, f, _ => by
    rw [dt_congr N (g := f) (fun i j _ _ => by congr 1; unfold cyc; repeat (first | split | omega)), sn_zero, Int.one_mul]
  | n + 1, f, h => by
    have e := dt_ex1 n N (fun i j => f i (cyc n j)) h
    rw [dt_cycC N n f (by omega)] at e
    rw [dt_congr N (g := fun i j => f i (cyc n (ex1 n j))) (fun i j _ _ => by rw [cyc_succ]), e, sn_succ, Int.neg_mul]
theorem dt_cycR (N n : Nat) (f : Nat → Nat → Int) (h : n < N) : dt N (fun i j => f (cyc n i) j) = sn n * dt N f := by
  rw [← dt_turn, dt_cycC N n (fun i j => f j i) h, dt_turn]

/-- Squares by those beside each other, and the one in the middle. -/
theorem dt_dj (n : Nat) (f : Nat → Nat → Int) (h : dt n (fun i j => f (i + 1) (j + 1)) ≠ 0) :
    dt (n + 1) f * dt (n + 1) (fun i j => f (i + 1) (j + 1)) - dt (n + 1) (fun i j => f i (j + 1)) * dt (n + 1) (fun i j => f (i + 1) j) = dt n (fun i j => f (i + 1) (j + 1)) * dt (n + 2) f := by
  obtain ⟨M, hM⟩ : ∃ M : Nat → Nat → Int, M = fun i j => f (cyc n i) (cyc n j) := ⟨_, rfl⟩
  have e0 : dt n M = dt n (fun i j => f (i + 1) (j + 1)) := dt_congr n fun i j hi hj => by rw [hM]; show f _ _ = _; unfold cyc; rw [if_pos hi, if_pos hj]
  have e1 : dt (n + 2) M = dt (n + 2) f := by
    rw [hM, dt_cycR (n + 2) n (fun i j => f i (cyc n j)) (by omega), dt_cycC (n + 2) n f (by omega), ← Int.mul_assoc, sn_sq, Int.one_mul]
  have hne : dt n M ≠ 0 := by rw [e0]; exact h
  have ca : ∀ i, i < n + 1 → cyc n (if i < n then i else n + 0) = cyc n i := fun i hi => by
    split
    · rfl
    · congr 1; omega
  have cb : ∀ i, i < n + 1 → cyc n (if i < n then i else n + 1) = i + 1 := fun i hi => by unfold cyc; repeat (first | split | omega)
  have b00 : bord n M 0 0 = dt (n + 1) f := by
    rw [dt_bord M 0 0 hne, dt_congr (n + 1) (g := fun i j => f (cyc n i) (cyc n j)) (fun i j hi hj => by rw [hM]; show f _ _ = _; rw [ca i hi, ca j hj]), dt_cycR (n + 1) n (fun i j => f i (cyc n j)) (by omega), dt_cycC (n + 1) n f (by omega), ← Int.mul_assoc, sn_sq, Int.one_mul]
  have b11 : bord n M 1 1 = dt (n + 1) (fun i j => f (i + 1) (j + 1)) := by
    rw [dt_bord M 1 1 hne]
    exact dt_congr (n + 1) fun i j hi hj => by rw [hM]; show f _ _ = _; rw [cb i hi, cb j hj]
  have b01 : bord n M 0 1 = sn n * dt (n + 1) (fun i j => f i (j + 1)) := by
    rw [dt_bord M 0 1 hne, ← dt_cycR (n + 1) n (fun i j => f i (j + 1)) (by omega)]
    exact dt_congr (n + 1) fun i j hi hj => by rw [hM]; show f _ _ = _; rw [ca i hi, cb j hj]
  have b10 : bord n M 1 0 = sn n * dt (n + 1) (fun i j => f (i + 1) j) := by
    rw [dt_bord M 1 0 hne, ← dt_cycC (n + 1) n (fun i j => f (i + 1) j) (by omega)]
    exact dt_congr (n + 1) fun i j hi hj => by rw [hM]; show f _ _ = _; rw [cb i hi, ca j hj]
  have e := dt_sylv n 2 M
  rw [dt_two, b00, b11, b01, b10, e1, e0] at e
  have e2 : pw (dt n (fun i j => f (i + 1) (j + 1))) 2 = dt n (fun i j => f (i + 1) (j + 1)) * dt n (fun i j => f (i + 1) (j + 1)) := by simp [pw]
  have e3 : sn n * dt (n + 1) (fun i j => f i (j + 1)) * (sn n * dt (n + 1) (fun i j => f (i + 1) j)) = dt (n + 1) (fun i j => f i (j + 1)) * dt (n + 1) (fun i j => f (i + 1) j) := by
    have := sn_sq n
    grind
  rw [e2, e3] at e
  have e4 : dt n (fun i j => f (i + 1) (j + 1)) * (dt n (fun i j => f (i + 1) (j + 1)) * dt (n + 2) f) = dt n (fun i j => f (i + 1) (j + 1)) * (dt (n + 1) f * dt (n + 1) (fun i j => f (i + 1) (j + 1)) - dt (n + 1) (fun i j => f i (j + 1)) * dt (n + 1) (fun i j => f (i + 1) j)) := by
    rw [← e]; grind
  exact (Int.eq_of_mul_eq_mul_left h e4).symm

end Go.Proofs.Ytikjeaoapeaabaa
