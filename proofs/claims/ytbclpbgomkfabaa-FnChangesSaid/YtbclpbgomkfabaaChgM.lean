/- Changes of signs are the same backwards and with all signs turned. -/
import Derived.Test.YtbclpbgomkfabaaChg
namespace Go.Proofs.Ytbclpbgomkfabaa
open Go.RowKit Go.Deep

/-- How often neighbours have different signs. -/
def cnt : List Int → Int
  | a :: b :: r => (if a * b < 0 then 1 else 0) + cnt (b :: r)
  | _ => 0
theorem cnt_two (a b : Int) (r : List Int) : cnt (a :: b :: r) = (if a * b < 0 then 1 else 0) + cnt (b :: r) := rfl
theorem cnt_nil : cnt [] = 0 := rfl
theorem cnt_one (a : Int) : cnt [a] = 0 := rfl
theorem cnt_snoc (a b : Int) : ∀ z : List Int, cnt (z ++ [a, b]) = cnt (z ++ [a]) + (if a * b < 0 then 1 else 0)
  | [] => by simp [cnt_two, cnt_one]
  | [c] => by simp only [List.cons_append, List.nil_append, cnt_two, cnt_one]; omega
  | c :: d :: r => by
    have h := cnt_snoc a b (d :: r)
    simp only [List.cons_append, cnt_two] at h ⊢
    rw [h]
    omega
theorem cnt_neg : ∀ z : List Int, cnt (z.map (fun y => -y)) = cnt z
  | [] => rfl
  | [c] => rfl
  | c :: d :: r => by
    have h := cnt_neg (d :: r)
    simp only [List.map_cons, cnt_two, Int.neg_mul_neg] at h ⊢
    rw [h]
theorem cnt_rev : ∀ z : List Int, cnt z.reverse = cnt z
  | [] => rfl
  | [c] => rfl
  | c :: d :: r => by
    have h := cnt_rev (d :: r)
    have e : (c :: d :: r).reverse = r.reverse ++ [d, c] := by simp
    have e2 : (d :: r).reverse = r.reverse ++ [d] := by simp
    rw [e, cnt_snoc, ← e2, h, cnt_two, Int.mul_comm]
    omega
theorem cnt_lt : ∀ z : List Int, 0 < z.length → cnt z + 1 ≤ z.length
  | [], h => absurd h (by simp)
  | [c], _ => by simp [cnt_one]
  | c :: d :: r, _ => by
    have h := cnt_lt (d :: r) (by simp)
    rw [cnt_two, List.length_cons]
    split <;> omega

def nzL (x : List Int) : List Int := x.filter (fun y => y != 0)
theorem nzL_zero (r : List Int) : nzL (0 :: r) = nzL r := rfl
theorem nzL_cons {y : Int} (h : y ≠ 0) (r : List Int) : nzL (y :: r) = y :: nzL r := by simp [nzL, h]
theorem fold_some : ∀ (l : List Int) (c p : Int), p ≠ 0 → (l.foldl chgStep (c, p)).1 = c + cnt (p :: nzL l)
  | [], c, p, _ => by simp [nzL, cnt_one]
  | y :: r, c, p, hp => by
    rw [List.foldl_cons]
    by_cases hy : y = 0
    · subst hy
      have e : chgStep (c, p) 0 = (c, p) := by simp [chgStep]
      rw [e, nzL_zero, fold_some r c p hp]
    · have e : chgStep (c, p) y = (if p * y < 0 then c + 1 else c, y) := by simp [chgStep, hy]
      rw [e, nzL_cons hy, cnt_two, fold_some r _ y hy]
      split <;> omega
theorem fold_none : ∀ (l : List Int) (c : Int), (l.foldl chgStep (c, 0)).1 = c + cnt (nzL l)
  | [], c => by simp [nzL, cnt_nil]
  | y :: r, c => by
    rw [List.foldl_cons]
    by_cases hy : y = 0
    · subst hy
      have e : chgStep (c, 0) 0 = (c, 0) := by simp [chgStep]
      rw [e, nzL_zero, fold_none r c]
    · have e : chgStep (c, 0) y = (c, y) := by simp [chgStep, hy]
      rw [e, nzL_cons hy, fold_some r c y hy]
theorem chgS_fold (x : List Int) : ∀ k, k ≤ x.length → chgS x k = (x.take k).foldl chgStep (0, 0)
  | 0, _ => by simp [chgS]
  | k + 1, h => by
    have hk : k < x.length := by omega
    have e : x.getD k 0 = x[k] := by simp [List.getD, hk]
    rw [chgS, chgS_fold x k (by omega), List.take_succ_eq_append_getElem hk, List.foldl_append, e]
    rfl
theorem chgS_cnt (x : List Int) : (chgS x x.length).1 = cnt (nzL x) := by
  rw [chgS_fold x _ (Nat.le_refl _), List.take_length, fold_none, Int.zero_add]
theorem nzL_rev (x : List Int) : nzL (x.map (fun y => -y)).reverse = ((nzL x).map (fun y => -y)).reverse := by
  unfold nzL
  rw [List.filter_reverse, List.filter_map]
  congr 2
  apply List.filter_congr
  intro y _
  show (-y != 0) = (y != 0)
  by_cases h : y = 0
  · subst h; rfl
  · have h1 : (y != 0) = true := by simpa using h
    have h2 : (-y != 0) = true := by simpa using h
    rw [h1, h2]

/-- The list backwards, with all signs turned. -/
def backN (x : List Int) (m k : Nat) : List Int := (List.range k).map fun j => -(x.getD (m - 1 - j) 0)
theorem backN_length (x : List Int) (m k : Nat) : (backN x m k).length = k := by simp [backN]
theorem backN_succ (x : List Int) (m k : Nat) : backN x m (k + 1) = backN x m k ++ [-(x.getD (m - 1 - k) 0)] := by simp [backN, List.range_succ]
theorem backN_at (x : List Int) {m k j : Nat} (h : j < k) : (backN x m k).getD j 0 = -(x.getD (m - 1 - j) 0) := by simp [backN, List.getD, h]
theorem backN_rev (x : List Int) : backN x x.length x.length = (x.map (fun y => -y)).reverse := by
  apply List.ext_getElem
  · simp [backN]
  · intro i h1 h2
    rw [backN_length] at h1
    have h3 : x.length - 1 - i < x.length := by omega
    simp [backN, List.getD, h3]
theorem chg_back (x : List Int) : (chgS (backN x x.length x.length) x.length).1 = (chgS x x.length).1 := by
  have h := chgS_cnt (backN x x.length x.length)
  rw [backN_length] at h
  rw [h, chgS_cnt, backN_rev, nzL_rev, cnt_rev, cnt_neg]
theorem chg_lt (x : List Int) (h : 0 < x.length) : (chgS x x.length).1 < x.length := by
  rw [chgS_cnt]
  have h2 : (nzL x).length ≤ x.length := List.length_filter_le _ _
  by_cases h0 : 0 < (nzL x).length
  · have := cnt_lt _ h0
    omega
  · have e : nzL x = [] := List.length_eq_zero_iff.1 (by omega)
    rw [e, cnt_nil]
    omega
theorem chgOk_of {x : List Int} (h : chgOk x = true) : x.length ≤ 12 ∧ NumK x x.length := by
  unfold chgOk at h
  simp only [Bool.and_eq_true, decide_eq_true_eq] at h
  exact ⟨h.1, numK_of h.2⟩
theorem backN_ok {x : List Int} (h : chgOk x = true) : chgOk (backN x x.length x.length) = true := by
  obtain ⟨h1, h2⟩ := chgOk_of h
  refine chgOk_true (by rw [backN_length]; exact h1) (numK_true ?_)
  rw [backN_length]
  intro j hj
  rw [backN_at x hj]
  have := h2 (x.length - 1 - j) (by omega)
  simp only [inB, decide_eq_true_eq] at this ⊢
  omega
theorem backN_v {x : List Int} (h : chgOk x = true) : chgV (backN x x.length x.length) = chgV x := by
  unfold chgV
  rw [backN_ok h, h, if_pos rfl, if_pos rfl, backN_length, chg_back]
theorem chgV_lt {x : List Int} (h : chgOk x = true) : 0 ≤ chgV x ∧ chgV x ≤ 12 ∧ (0 < x.length → chgV x < x.length) := by
  obtain ⟨h1, h2⟩ := chgOk_of h
  have h3 := chgS_ok x _ h2
  unfold chgV
  rw [h, if_pos rfl]
  exact ⟨h3.1, by omega, chg_lt x⟩

end Go.Proofs.Ytbclpbgomkfabaa
