/- All lists of columns one by one, and what their plain products add up to. -/
import Derived.Test.YtpimdgijjljejaaDoorOrdP
import Derived.Test.YtpimdgijjljejaaDoorPlainF
namespace Go.Proofs.YtpimdgijjljejaaDoor
open Go.RowKit Go.Deep

/-- The product of a list without a sign. -/
def prodC (l : List (List Int)) (cs : List Nat) : Int := prodN 1 (fun i => at2 l i (cs.getD i 0)) cs.length
/-- What the lists add up to that begin with cs and have m columns to go. -/
def plS (l : List (List Int)) (n : Nat) : Nat → List Nat → Int
  | 0, cs => prodC l cs
  | m + 1, cs => sumN (fun k => if k ∈ cs then 0 else plS l n m (cs ++ [k])) n
theorem plS_succ (l : List (List Int)) (n m : Nat) (cs : List Nat) : plS l n (m + 1) cs = sumN (fun k => if k ∈ cs then 0 else plS l n m (cs ++ [k])) n := rfl
theorem plS_eq (l : List (List Int)) (n : Nat) (hn : n ≤ 6) : ∀ (m : Nat) (cs : List Nat), cs.length + m = n → (∀ c ∈ cs, c < n) → plS l n m cs = prodC l cs * plF l n m (setOf cs)
  | 0, cs, _, _ => by rw [plF_zero, Int.mul_one]; rfl
  | m + 1, cs, hl, hc => by
    rw [plS_succ, plF_succ, ← sumN_mul]
    refine sumN_congr _ fun k hk => ?_
    by_cases hm : k ∈ cs
    · rw [if_pos hm, plT_yes _ (by rw [setOf_bit]; simpa using hm), Int.mul_zero]
    · rw [if_neg hm, plT_no _ (by rw [setOf_bit]; simpa using hm),
        plS_eq l n hn m (cs ++ [k]) (by simp; omega) (fun c h => by
          rcases List.mem_append.1 h with h | h
          · exact hc c h
          · simp at h; omega), setOf_snoc]
      have e : prodC l (cs ++ [k]) = prodC l cs * at2 l cs.length k := by
        unfold prodC
        rw [List.length_append, List.length_singleton]
        show prodN _ _ cs.length * at2 l cs.length ((cs ++ [k]).getD cs.length 0) = _
        rw [show (cs ++ [k]).getD cs.length 0 = k by simp [List.getD], prodN_congr (g := fun i => at2 l i (cs.getD i 0)) cs.length (fun j hj => by simp [List.getD, List.getElem?_append, hj])]
      rw [e, show n - (m + 1) = cs.length by omega, Int.mul_assoc]
theorem plS_all (l : List (List Int)) (n : Nat) (hn : n ≤ 6) : plS l n n [] = plF l n n 0 := by
  rw [plS_eq l n hn n [] (by simp) (by simp)]
  show 1 * plF l n n 0 = _
  omega

/-- The lists that begin with cs and have m columns to go, in their order. -/
def ordL (n : Nat) : Nat → List Nat → List (List Nat)
  | 0, cs => [cs]
  | m + 1, cs => (List.range n).flatMap fun k => if k ∈ cs then [] else ordL n m (cs ++ [k])
/-- Those that go on with one of the first k columns. -/
def ordLT (n m : Nat) (cs : List Nat) (k : Nat) : List (List Nat) := (List.range k).flatMap fun k => if k ∈ cs then [] else ordL n m (cs ++ [k])
theorem ordLT_zero (n m : Nat) (cs : List Nat) : ordLT n m cs 0 = [] := rfl
theorem ordLT_step (n m : Nat) (cs : List Nat) (k : Nat) : ordLT n m cs (k + 1) = ordLT n m cs k ++ (if k ∈ cs then [] else ordL n m (cs ++ [k])) := by
  unfold ordLT
  rw [List.range_succ, List.flatMap_append]
  simp
theorem ordLT_le (n m : Nat) (cs : List Nat) (k : Nat) : ∀ q, k ≤ q → (ordLT n m cs k).length ≤ (ordLT n m cs q).length := by
  intro q
  induction q with
  | zero => intro h; obtain rfl : k = 0 := by omega
            exact Nat.le_refl _
  | succ q ih =>
    intro h
    by_cases e : k = q + 1
    · rw [e]; exact Nat.le_refl _
    · have := ih (by omega)
      rw [ordLT_step, List.length_append]
      omega
theorem ordL_succ (n m : Nat) (cs : List Nat) : ordL n (m + 1) cs = ordLT n m cs n := rfl

/-- The sum of f over a list. -/
def lsumI {α : Type} (f : α → Int) (xs : List α) : Int := xs.foldl (fun s x => s + f x) 0
theorem lsumI_snoc {α : Type} (f : α → Int) (xs : List α) (x : α) : lsumI f (xs ++ [x]) = lsumI f xs + f x := by simp [lsumI]
theorem lsumI_from {α : Type} (f : α → Int) : ∀ (xs : List α) (s : Int), xs.foldl (fun s x => s + f x) s = s + lsumI f xs
  | [], s => by simp [lsumI]
  | x :: xs, s => by
    unfold lsumI
    rw [List.foldl_cons, List.foldl_cons, lsumI_from f xs, lsumI_from f xs (0 + f x)]
    omega
theorem lsumI_append {α : Type} (f : α → Int) (xs ys : List α) : lsumI f (xs ++ ys) = lsumI f xs + lsumI f ys := by
  unfold lsumI
  rw [List.foldl_append, lsumI_from]
  rfl
theorem lsumI_map {α β : Type} (g : β → α) (f : α → Int) (xs : List β) : lsumI f (xs.map g) = lsumI (fun x => f (g x)) xs := by simp [lsumI, List.foldl_map]
theorem lsumI_congr {α : Type} {f g : α → Int} : ∀ (xs : List α), (∀ x ∈ xs, f x = g x) → lsumI f xs = lsumI g xs
  | [], _ => rfl
  | x :: xs, h => by
    rw [show x :: xs = [x] ++ xs from rfl, lsumI_append, lsumI_append, lsumI_congr xs (fun y hy => h y (by simp [hy]))]
    simp [lsumI, h x (by simp)]
theorem lsumI_bd {α : Type} {f : α → Int} {B : Int} (hB : 0 ≤ B) : ∀ (xs : List α), (∀ x ∈ xs, -B ≤ f x ∧ f x ≤ B) → -(xs.length * B) ≤ lsumI f xs ∧ lsumI f xs ≤ xs.length * B
  | [], _ => by simp [lsumI]
  | x :: xs, h => by
    have ih := lsumI_bd hB xs (fun y hy => h y (by simp [hy]))
    have h1 := h x (by simp)
    rw [show x :: xs = [x] ++ xs from rfl, lsumI_append]
    have e : lsumI f [x] = f x := by simp [lsumI]
    rw [e, List.length_append, List.length_singleton, Int.natCast_add, Int.add_mul]
    omega
theorem ordL_sum (l : List (List Int)) (n : Nat) : ∀ (m : Nat) (cs : List Nat), lsumI (prodC l) (ordL n m cs) = plS l n m cs
  | 0, cs => by simp [ordL, lsumI, plS]
  | m + 1, cs => by
    rw [ordL_succ, plS_succ]
    have H : ∀ k, lsumI (prodC l) (ordLT n m cs k) = sumN (fun k => if k ∈ cs then 0 else plS l n m (cs ++ [k])) k := by
      intro k
      induction k with
      | zero => rfl
      | succ k ih =>
        rw [ordLT_step, lsumI_append, ih]
        show _ = _ + (if k ∈ cs then (0 : Int) else plS l n m (cs ++ [k]))
        split
        · simp [lsumI]
        · rw [ordL_sum l n m]
    exact H n
theorem ordL_mem {n : Nat} : ∀ (m : Nat) (cs : List Nat), (∀ c ∈ cs, c < n) → ∀ x ∈ ordL n m cs, x.length = cs.length + m ∧ ∀ c ∈ x, c < n
  | 0, cs, h, x, hx => by
    simp only [ordL, List.mem_singleton] at hx
    subst hx
    exact ⟨rfl, h⟩
  | m + 1, cs, h, x, hx => by
    simp only [ordL, List.mem_flatMap, List.mem_range] at hx
    obtain ⟨k, hk, hx⟩ := hx
    by_cases hm : k ∈ cs
    · rw [if_pos hm] at hx; simp at hx
    · rw [if_neg hm] at hx
      obtain ⟨h1, h2⟩ := ordL_mem m (cs ++ [k]) (fun c h' => by
        rcases List.mem_append.1 h' with h' | h'
        · exact h c h'
        · simp at h'; omega) x hx
      exact ⟨by rw [h1, List.length_append, List.length_singleton]; omega, h2⟩
theorem ordL_len {n : Nat} (hn : n ≤ 6) : ∀ (m : Nat) (cs : List Nat), (ordL n m cs).length ≤ 6 ^ m
  | 0, cs => by simp [ordL]
  | m + 1, cs => by
    rw [ordL_succ]
    have H : ∀ k, (ordLT n m cs k).length ≤ k * 6 ^ m := by
      intro k
      induction k with
      | zero => simp [ordLT]
      | succ k ih =>
        rw [ordLT_step, List.length_append, Nat.add_mul, Nat.one_mul]
        have hp : 0 < 6 ^ m := Nat.pow_pos (by omega)
        obtain ⟨X, hX⟩ : ∃ X, X = 6 ^ m := ⟨_, rfl⟩
        have h3 := ordL_len hn m (cs ++ [k])
        rw [← hX] at hp h3 ih ⊢
        split
        · rw [List.length_nil]; omega
        · omega
    have h1 := H n
    have h2 : n * 6 ^ m ≤ 6 * 6 ^ m := Nat.mul_le_mul_right _ hn
    rw [Nat.pow_succ]
    omega
theorem ordLT_len {n : Nat} (hn : n ≤ 6) {m : Nat} (hm : m + 1 ≤ 6) (cs : List Nat) : (ordLT n m cs n).length ≤ 46656 := by
  have := ordL_len hn (m + 1) cs
  have h2 : 6 ^ (m + 1) ≤ 6 ^ 6 := Nat.pow_le_pow_right (by omega) hm
  rw [ordL_succ] at this
  omega

end Go.Proofs.YtpimdgijjljejaaDoor
