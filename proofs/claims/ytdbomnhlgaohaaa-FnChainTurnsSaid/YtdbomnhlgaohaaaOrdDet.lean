/- The value by lists, by rows and by pivots is one: the pure side. -/
import Derived.Test.YtdbomnhlgaohaaaDet
import Derived.Test.YtdbomnhlgaohaaaRowsF
namespace Go.Proofs.Ytdbomnhlgaohaaa
open Go.RowKit Go.Deep

/-- The numbers below n that a set lacks. -/
def lacks (n U : Nat) : List Nat := (List.range n).filter fun k => !U.testBit k
/-- The one at j. -/
def gam (U j : Nat) : Nat := (lacks 6 U).getD j 0
/-- The sign that a set of used columns bears. -/
def sgU (U : Nat) : Int := sn (((List.range 6).filter fun k => U.testBit k).foldl (· + ·) 0 + popcS U * (popcS U - 1) / 2)

theorem lacks_len : ∀ n : Fin 7, ∀ U : Fin 64, U.val < 2 ^ n.val → (lacks n.val U.val).length + popcS U.val = n.val := by decide +kernel
theorem lacks_get : ∀ n : Fin 7, ∀ U : Fin 64, ∀ j : Fin 6, U.val < 2 ^ n.val → j.val + popcS U.val < n.val → (lacks n.val U.val).getD j.val 0 = gam U.val j.val ∧ gam U.val j.val < n.val ∧ U.val.testBit (gam U.val j.val) = false := by decide +kernel
theorem gam_or : ∀ U : Fin 64, ∀ j j' : Fin 6, j.val + popcS U.val < 6 → j'.val + popcS U.val + 1 < 6 → gam (U.val ||| 2 ^ gam U.val j.val) j'.val = gam U.val (skip j.val j'.val) := by decide +kernel
theorem sgU_or : ∀ U : Fin 64, ∀ j : Fin 6, j.val + popcS U.val < 6 → sn (popcS (U.val / 2 ^ gam U.val j.val)) * sgU (U.val ||| 2 ^ gam U.val j.val) = sgU U.val * sn j.val := by decide +kernel
theorem popcS_add : ∀ U : Fin 64, ∀ k : Fin 6, U.val.testBit k.val = false → popcS (U.val ||| 2 ^ k.val) = popcS U.val + 1 := by decide +kernel

theorem sumL_get (F : Nat → Int) : ∀ l : List Nat, (l.map F).foldr (· + ·) 0 = sumN (fun j => F (l.getD j 0)) l.length
  | [] => rfl
  | x :: xs => by
    rw [List.length_cons, sumN_first, List.map_cons, List.foldr_cons, sumL_get F xs]
    rfl
theorem sumL_snoc (l : List Int) (x : Int) : (l ++ [x]).foldr (· + ·) 0 = l.foldr (· + ·) 0 + x := by
  induction l with
  | nil => simp
  | cons y ys ih => simp only [List.cons_append, List.foldr_cons, ih]; omega
theorem sumN_lacks (F : Nat → Int) (U : Nat) : ∀ n, sumN (fun k => if U.testBit k then 0 else F k) n = ((lacks n U).map F).foldr (· + ·) 0
  | 0 => rfl
  | n + 1 => by
    have e : lacks (n + 1) U = lacks n U ++ (if U.testBit n then [] else [n]) := by
      unfold lacks
      rw [List.range_succ, List.filter_append]
      cases h : U.testBit n <;> simp [h]
    unfold sumN
    rw [sumN_lacks F U n, e]
    cases h : U.testBit n
    · simp only [Bool.false_eq_true, if_false, List.map_append, List.map_cons, List.map_nil, sumL_snoc]
    · simp

theorem ordF_dt (l : List (List Int)) {n : Nat} (hn : n ≤ 6) : ∀ (d U : Nat), U < 2 ^ n → popcS U + d = n → ordF l n d U = sgU U * dt d (fun i j => at2 l (n - d + i) (gam U j))
  | 0, U, hU, hp => by
    rw [ordF_zero, dt_zero]
    have h : ∀ n : Fin 7, ∀ U : Fin 64, U.val < 2 ^ n.val → popcS U.val = n.val → sgU U.val = 1 := by decide +kernel
    have p : 2 ^ n ≤ 2 ^ 6 := Nat.pow_le_pow_right (by omega) hn
    have := h ⟨n, by omega⟩ ⟨U, by omega⟩ hU (by simpa using hp)
    simp only at this
    rw [this]; rfl
  | d + 1, U, hU, hp => by
    have p : 2 ^ n ≤ 2 ^ 6 := Nat.pow_le_pow_right (by omega) hn
    have hlen := lacks_len ⟨n, by omega⟩ ⟨U, by omega⟩ hU
    simp only at hlen
    rw [ordF_succ, dt_succ, ← sumN_mul]
    have e0 : ∀ k, ordT l (n - (d + 1)) U (ordF l n d) k = if U.testBit k then 0 else sn (popcS (U / 2 ^ k)) * (at2 l (n - (d + 1)) k * ordF l n d (U ||| 2 ^ k)) := fun k => by
      unfold ordT
      split
      · rfl
      · rw [sg_sn]
    rw [sumN_congr n (fun k _ => e0 k), sumN_lacks (fun k => sn (popcS (U / 2 ^ k)) * (at2 l (n - (d + 1)) k * ordF l n d (U ||| 2 ^ k))), sumL_get, show (lacks n U).length = d + 1 by omega]
    refine sumN_congr _ fun j hj => ?_
    obtain ⟨g1, g2, g3⟩ := lacks_get ⟨n, by omega⟩ ⟨U, by omega⟩ ⟨j, by omega⟩ hU (by simp only; omega)
    simp only at g1 g2 g3
    have hs := sgU_or ⟨U, by omega⟩ ⟨j, by omega⟩ (by simp only; omega)
    have ha := popcS_add ⟨U, by omega⟩ ⟨gam U j, by omega⟩ g3
    simp only at hs ha
    rw [g1, ordF_dt l hn d (U ||| 2 ^ gam U j) (Nat.or_lt_two_pow hU (Nat.pow_lt_pow_right (by omega) g2)) (by omega)]
    have ed : dt d (fun i j' => at2 l (n - d + i) (gam (U ||| 2 ^ gam U j) j')) = dt d (dr j (fun i j => at2 l (n - (d + 1) + i) (gam U j))) := dt_congr d fun i j' _ hj' => by
      have := gam_or ⟨U, by omega⟩ ⟨j, by omega⟩ ⟨j', by omega⟩ (by simp only; omega) (by simp only; omega)
      simp only at this
      rw [this]
      show _ = at2 l (n - (d + 1) + (i + 1)) (gam U (skip j j'))
      rw [show n - (d + 1) + (i + 1) = n - d + i by omega]
    rw [ed, Nat.add_zero]
    generalize dt d (dr j (fun i j => at2 l (n - (d + 1) + i) (gam U j))) = D
    generalize at2 l (n - (d + 1)) (gam U j) = y
    rw [show sn (popcS (U / 2 ^ gam U j)) * (y * (sgU (U ||| 2 ^ gam U j) * D)) = (sn (popcS (U / 2 ^ gam U j)) * sgU (U ||| 2 ^ gam U j)) * (y * D) by grind, hs, Int.mul_assoc]
theorem gam_zero : ∀ j : Fin 6, gam 0 j.val = j.val := by decide +kernel
/-- The sum over lists is the value by first rows. -/
theorem ordF_all (l : List (List Int)) {n : Nat} (hn : n ≤ 6) : ordF l n n 0 = dt n (at2 l) := by
  rw [ordF_dt l hn n 0 (Nat.pow_pos (by omega)) (by have : popcS 0 = 0 := by decide
                                                    omega)]
  have h1 : sgU 0 = 1 := by decide +kernel
  rw [h1, Int.one_mul]
  refine dt_congr n fun i j hi hj => ?_
  have := gam_zero ⟨j, by omega⟩
  simp only at this
  rw [this, Nat.sub_self, Nat.zero_add]

end Go.Proofs.Ytdbomnhlgaohaaa
