/- A square times its other: the pure side. -/
import Derived.Test.YtikjeaoapeaabaaDetMul
import Derived.Test.YtikjeaoapeaabaaOtherV
import Derived.Test.YtikjeaoapeaabaaL2Square
import Derived.Test.YtikjeaoapeaabaaBar
import Derived.Test.YtikjeaoapeaabaaMakeImpl
import Derived.Test.YtikjeaoapeaabaaOrdF
import Derived.Test.YtikjeaoapeaabaaPartImpl
namespace Go.Proofs.Ytikjeaoapeaabaa
open Go.RowKit Go.Deep

/-- Row r first. -/
def mv (r i : Nat) : Nat := if i = 0 then r else if i ≤ r then i - 1 else i
theorem mv_zero (i : Nat) : mv 0 i = i := by unfold mv; repeat (first | split | omega)
theorem mv_succ (r i : Nat) : ex r (r + 1) (mv r i) = mv (r + 1) i := by unfold mv ex; repeat (first | split | omega)
theorem mv_skip (r i : Nat) : mv r (i + 1) = skip r i := by unfold mv skip; repeat (first | split | omega)
theorem dt_mv {n : Nat} : ∀ (r : Nat) (f : Nat → Nat → Int), r < n → dt n (fun i j => f (mv r i) j) = sn r * dt n f
  | 0, f, _ => by
    rw [sn_zero, Int.one_mul]
    exact dt_congr n fun i j _ _ => by rw [mv_zero]
  | r + 1, f, h => by
    have e : (fun i j => f (mv (r + 1) i) j) = fun i j => (fun i j => f (ex r (r + 1) i) j) (mv r i) j := by
      funext i j
      show _ = f (ex r (r + 1) (mv r i)) j
      rw [mv_succ]
    rw [e, dt_mv r (fun i j => f (ex r (r + 1) i) j) (by omega), dt_exR f (by omega) (by omega) h, sn_succ]
    rw [Int.mul_neg, Int.neg_mul]
/-- By row r. -/
theorem dt_row {n r : Nat} (f : Nat → Nat → Int) (h : r < n + 1) : dt (n + 1) f = sumN (fun k => f r k * (sn (r + k) * dt n (fun i j => f (skip r i) (skip k j)))) (n + 1) := by
  have e := dt_mv r f h
  have e2 : sn r * (sn r * dt (n + 1) f) = dt (n + 1) f := by rw [← Int.mul_assoc, sn_sq, Int.one_mul]
  rw [← e2, ← e, dt_succ, ← sumN_mul]
  refine sumN_congr _ fun k _ => ?_
  have e3 : dr k (fun i j => f (mv r i) j) = fun i j => f (skip r i) (skip k j) := by
    funext i j
    show f (mv r (i + 1)) (skip k j) = _
    rw [mv_skip]
  rw [e3, sn_add]
  show sn r * (sn k * (f (mv r 0) k * _)) = _
  have e4 : mv r 0 = r := rfl
  rw [e4]
  grind
/-- The numbers of row s with the signed minors of row r. -/
theorem dt_alien {n r s : Nat} (f : Nat → Nat → Int) (hr : r < n + 1) (hs : s < n + 1) : sumN (fun k => f s k * (sn (r + k) * dt n (fun i j => f (skip r i) (skip k j)))) (n + 1) = if s = r then dt (n + 1) f else 0 := by
  by_cases e : s = r
  · subst e
    rw [if_pos rfl, ← dt_row f hs]
  · rw [if_neg e, ← dt_sameR (n := n + 1) (setR f r (f s)) (p := s) (q := r) e hs hr (fun j _ => by unfold setR; rw [if_neg e, if_pos rfl]), dt_row _ hr]
    refine sumN_congr _ fun k _ => ?_
    have e3 : (fun i j => setR f r (f s) (skip r i) (skip k j)) = fun i j => f (skip r i) (skip k j) := by
      funext i j
      unfold setR
      rw [if_neg (by unfold skip; split <;> omega)]
    rw [e3]
    unfold setR
    rw [if_pos rfl]
theorem othF_dt {l : List (List Int)} {n i k : Nat} (hT : TabIn l) (hn : l.length = n) (hw : (l.getD 0 []).length = n) (hi : i < n) (hk : k < n) : othF l n i k = sn (k + i) * dt (n - 1) (fun a b => at2 l (skip k a) (skip i b)) := by
  have h6 := hT.2.1
  unfold othF
  rw [sg_sn, ordF_all _ (by omega), Nat.add_comm i k]
  congr 1
  exact dt_congr _ fun a b ha hb => partL_but hn hw (by omega) hk hi (by omega) (by omega)
theorem other_left {l : List (List Int)} {n i k : Nat} (hT : TabIn l) (hn : l.length = n) (hw : (l.getD 0 []).length = n) (hi : i < n) (hk : k < n) :
    sumN (fun j => at2 l i j * othF l n j k) n = if i = k then dt n (at2 l) else 0 := by
  obtain ⟨m, rfl⟩ : ∃ m, n = m + 1 := ⟨n - 1, by omega⟩
  rw [← dt_alien (at2 l) hk hi]
  exact sumN_congr _ fun j hj => by rw [othF_dt hT hn hw hj hk]; rfl
theorem other_right {l : List (List Int)} {n i k : Nat} (hT : TabIn l) (hn : l.length = n) (hw : (l.getD 0 []).length = n) (hi : i < n) (hk : k < n) :
    sumN (fun j => othF l n i j * at2 l j k) n = if i = k then dt n (at2 l) else 0 := by
  obtain ⟨m, rfl⟩ : ∃ m, n = m + 1 := ⟨n - 1, by omega⟩
  have h := dt_alien (fun a b => at2 l b a) (r := i) (s := k) hi hk
  rw [dt_turn] at h
  have e : (if i = k then dt (m + 1) (at2 l) else 0) = if k = i then dt (m + 1) (at2 l) else 0 := by
    by_cases e : i = k
    · rw [if_pos e, if_pos e.symm]
    · rw [if_neg e, if_neg (fun h => e h.symm)]
  rw [e, ← h]
  refine sumN_congr _ fun j hj => ?_
  rw [othF_dt hT hn hw hi hj, Nat.add_comm j i, Int.mul_comm]
  show at2 l j k * _ = at2 l j k * (sn (i + j) * dt m (fun a b => at2 l (skip j b) (skip i a)))
  rw [← dt_turn m (fun a b => at2 l (skip j b) (skip i a))]
  rfl
theorem othF_bd {l : List (List Int)} {n i k : Nat} (hT : TabIn l) (hn : l.length = n) (hw : (l.getD 0 []).length = n) (hi : i < n) (hk : k < n) : -10000000000 ≤ othF l n i k ∧ othF l n i k ≤ 10000000000 := by
  have h6 := hT.2.1
  rw [othF_dt hT hn hw hi hk, ← sg_sn]
  refine sg_bd ?_
  have hb := dt_bd (n - 1) (fun a b => at2 l (skip k a) (skip i b)) (by omega) (fun a b ha hb => hT.at (by have := skip_bd (k := k) ha; omega) (by have := skip_bd (k := i) hb; omega))
  have hB : bdN (n - 1) ≤ 10000000000 := by
    have : n - 1 ≤ 5 := by omega
    match n - 1, this with
    | 0, _ => decide
    | 1, _ => decide
    | 2, _ => decide
    | 3, _ => decide
    | 4, _ => decide
    | 5, _ => decide
  omega
theorem rec_tabF {n m : Nat} (f : Nat → Nat → Int) (hn : 1 ≤ n ∧ n ≤ 6) (hm : 1 ≤ m ∧ m ≤ 6) : Rec (tabF n m f) := by
  have h0 : ((tabF n m f).getD 0 []).length = m := tabF_len _ _ _ _ (by omega)
  exact ⟨by rw [tabF_length]; omega, by rw [tabF_length]; omega, by rw [h0]; exact hm, fun hr => by rw [h0]; rw [tabF_length] at hr; exact tabF_len _ _ _ _ hr⟩
structure OtherM (l M : List (List Int)) (n : Nat) (v : Int) : Prop where
  len : M.length = n
  wid : (M.getD 0 []).length = n
  rec1 : Rec M
  b1 : ∀ i j k, i < n → j < n → k < (M.getD 0 []).length → -1000000000000 ≤ at2 l i j * at2 M j k ∧ at2 l i j * at2 M j k ≤ 1000000000000
  b2 : ∀ i j k, i < n → j < n → k < (l.getD 0 []).length → -1000000000000 ≤ at2 M i j * at2 l j k ∧ at2 M i j * at2 l j k ≤ 1000000000000
  l1 : (makeL l M).length = n
  l2 : (makeL M l).length = n
  w1 : ((makeL l M).getD 0 []).length = n
  w2 : ((makeL M l).getD 0 []).length = n
  r1 : Rec (makeL l M)
  r2 : Rec (makeL M l)
  e1 : ∀ i k, i < n → k < n → at2 (makeL l M) i k = if i = k then v else 0
  e2 : ∀ i k, i < n → k < n → at2 (makeL M l) i k = if i = k then v else 0
theorem otherM_of {l : List (List Int)} {n : Nat} (h : sqB l = true) (hn : l.length = n) : OtherM l (tabF n n (othF l n)) n (ordF l n n 0) := by
  obtain ⟨hT, hw⟩ := sqB_of h
  have h1 := hT.1
  have h6 := hT.2.1
  have hwn : (l.getD 0 []).length = n := by omega
  have hl : (tabF n n (othF l n)).length = n := tabF_length _ _ _
  have hmw : ((tabF n n (othF l n)).getD 0 []).length = n := tabF_len _ _ _ _ (by omega)
  have hat : ∀ i j, i < n → j < n → at2 (tabF n n (othF l n)) i j = othF l n i j := fun i j hi hj => tabF_at _ _ _ i j hi hj
  have hp : ∀ i j k, i < n → j < n → k < n → -1000000000000 ≤ at2 l i j * othF l n j k ∧ at2 l i j * othF l n j k ≤ 1000000000000 := fun i j k hi hj hk => by
    have b := hT.at (i := i) (k := j) (by omega) (by omega)
    have c := othF_bd hT hn hwn hj hk
    have := mul_bdB b.1 b.2 c.1 c.2
    omega
  have hp2 : ∀ i j k, i < n → j < n → k < n → -1000000000000 ≤ othF l n i j * at2 l j k ∧ othF l n i j * at2 l j k ≤ 1000000000000 := fun i j k hi hj hk => by
    have b := hT.at (i := j) (k := k) (by omega) (by omega)
    have c := othF_bd hT hn hwn hi hj
    have := mul_bdB b.1 b.2 c.1 c.2
    rw [Int.mul_comm]
    omega
  have g1 : 1 ≤ n ∧ n ≤ 6 := by omega
  have q1 : makeL l (tabF n n (othF l n)) = tabF n n fun i k => sumN (dotF l (tabF n n (othF l n)) i k) n := by unfold makeL; rw [hn, hl, hmw]
  have q2 : makeL (tabF n n (othF l n)) l = tabF n n fun i k => sumN (dotF (tabF n n (othF l n)) l i k) n := by unfold makeL; rw [hn, hl, hwn]
  refine ⟨hl, hmw, rec_tabF _ g1 g1, fun i j k hi hj hk => ?_, fun i j k hi hj hk => ?_, by rw [q1, tabF_length], by rw [q2, tabF_length], by rw [q1]; exact tabF_len _ _ _ _ (by omega), by rw [q2]; exact tabF_len _ _ _ _ (by omega), by rw [q1]; exact rec_tabF _ g1 g1, by rw [q2]; exact rec_tabF _ g1 g1, fun i k hi hk => ?_, fun i k hi hk => ?_⟩
  · rw [hmw] at hk
    rw [hat j k hj hk]
    exact hp i j k hi hj hk
  · rw [hwn] at hk
    rw [hat i j hi hj]
    exact hp2 i j k hi hj hk
  · rw [q1, show at2 (tabF n n fun i k => sumN (dotF l (tabF n n (othF l n)) i k) n) i k = sumN (dotF l (tabF n n (othF l n)) i k) n from tabF_at _ _ _ i k hi hk, ordF_all _ (by omega), ← other_left hT hn hwn hi hk]
    exact sumN_congr _ fun j hj => by show at2 l i j * at2 _ j k = _; rw [hat j k hj hk]
  · rw [q2, show at2 (tabF n n fun i k => sumN (dotF (tabF n n (othF l n)) l i k) n) i k = sumN (dotF (tabF n n (othF l n)) l i k) n from tabF_at _ _ _ i k hi hk, ordF_all _ (by omega), ← other_right hT hn hwn hi hk]
    exact sumN_congr _ fun j hj => by show at2 _ i j * at2 l j k = _; rw [hat i j hi hj]

end Go.Proofs.Ytikjeaoapeaabaa
