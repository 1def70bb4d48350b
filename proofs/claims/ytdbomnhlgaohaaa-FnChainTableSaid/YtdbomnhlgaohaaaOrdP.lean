/- Sums over lists of columns: the pure side of sumOfOrders. -/
import Derived.Test.YtdbomnhlgaohaaaDet
namespace Go.Proofs.Ytdbomnhlgaohaaa
open Go.RowKit Go.Deep

/-- How many numbers of a list are greater than y. -/
def cnt (y : Nat) : List Nat → Nat
  | [] => 0
  | x :: xs => (if y < x then 1 else 0) + cnt y xs
theorem cnt_snoc (y : Nat) : ∀ (xs : List Nat) (z : Nat), cnt y (xs ++ [z]) = cnt y xs + (if y < z then 1 else 0)
  | [], z => by simp [cnt]
  | x :: xs, z => by simp only [List.cons_append, cnt, cnt_snoc y xs z]; omega
theorem cnt_le (y : Nat) : ∀ xs : List Nat, cnt y xs ≤ xs.length
  | [] => by simp [cnt]
  | x :: xs => by have := cnt_le y xs; simp only [cnt, List.length_cons]; split <;> omega
/-- The pairs in the other order, of which the later one is among the first i. -/
def invTo (cs : List Nat) : Nat → Nat
  | 0 => 0
  | i + 1 => invTo cs i + cnt (cs.getD i 0) (cs.take i)
def inv (cs : List Nat) : Nat := invTo cs cs.length
theorem invTo_le (cs : List Nat) : ∀ i, i ≤ cs.length → invTo cs i ≤ i * cs.length
  | 0, _ => by simp [invTo]
  | i + 1, h => by
    have h1 := invTo_le cs i (by omega)
    have h2 := cnt_le (cs.getD i 0) (cs.take i)
    have h3 : (cs.take i).length ≤ cs.length := by simp; omega
    unfold invTo
    rw [Nat.add_mul]
    omega
theorem invTo_snoc (cs : List Nat) (k : Nat) : ∀ i, i ≤ cs.length → invTo (cs ++ [k]) i = invTo cs i
  | 0, _ => rfl
  | i + 1, h => by
    unfold invTo
    rw [invTo_snoc cs k i (by omega), List.take_append_of_le_length (by omega)]
    congr 2
    simp [List.getD, List.getElem?_append, show i < cs.length by omega]
theorem inv_snoc (cs : List Nat) (k : Nat) : inv (cs ++ [k]) = inv cs + cnt k cs := by
  unfold inv
  rw [List.length_append, List.length_singleton]
  show invTo (cs ++ [k]) cs.length + _ = _
  rw [invTo_snoc cs k _ (Nat.le_refl _)]
  congr 2
  · simp [List.getD]
  · simp
/-- A product begun with s. -/
def prodN (s : Int) (f : Nat → Int) : Nat → Int
  | 0 => s
  | n + 1 => prodN s f n * f n
theorem prodN_congr {s : Int} {f g : Nat → Int} : ∀ n, (∀ j, j < n → f j = g j) → prodN s f n = prodN s g n
  | 0, _ => rfl
  | n + 1, h => by unfold prodN; rw [prodN_congr n (fun j hj => h j (by omega)), h n (by omega)]
theorem prodN_neg (s c : Int) (f : Nat → Int) : ∀ n, prodN (c * s) f n = c * prodN s f n
  | 0 => rfl
  | n + 1 => by unfold prodN; rw [prodN_neg s c f n, Int.mul_assoc]
/-- The set of the numbers of a list. -/
def setOf (cs : List Nat) : Nat := cs.foldl (fun s c => s ||| 2 ^ c) 0
theorem setOf_snoc (cs : List Nat) (k : Nat) : setOf (cs ++ [k]) = setOf cs ||| 2 ^ k := by simp [setOf]

theorem popcS_or : ∀ s : Fin 64, ∀ c k : Fin 6, s.val.testBit c.val = false → popcS ((s.val ||| 2 ^ c.val) / 2 ^ k.val) = popcS (s.val / 2 ^ k.val) + (if k.val ≤ c.val then 1 else 0) := by decide +kernel
theorem setFrom_bit (k : Nat) : ∀ (cs : List Nat) (s : Nat), (cs.foldl (fun s c => s ||| 2 ^ c) s).testBit k = (s.testBit k || decide (k ∈ cs))
  | [], s => by simp
  | c :: cs, s => by
    rw [List.foldl_cons, setFrom_bit k cs, Nat.testBit_or, Nat.testBit_two_pow, Bool.or_assoc]
    congr 1
    by_cases h1 : c = k
    · subst h1; simp
    · have h2 : ¬ k = c := fun e => h1 e.symm
      simp [h1, h2]
theorem setOf_bit (cs : List Nat) (k : Nat) : (setOf cs).testBit k = decide (k ∈ cs) := by
  unfold setOf; rw [setFrom_bit]; simp
theorem setFrom_lt : ∀ (cs : List Nat) (s : Nat), s < 2 ^ 6 → (∀ c ∈ cs, c < 6) → cs.foldl (fun s c => s ||| 2 ^ c) s < 2 ^ 6
  | [], s, h, _ => h
  | c :: cs, s, h, hc => by
    rw [List.foldl_cons]
    exact setFrom_lt cs _ (Nat.or_lt_two_pow h (Nat.pow_lt_pow_right (by omega) (hc c (by simp)))) (fun x hx => hc x (by simp [hx]))
theorem setOf_lt {cs : List Nat} (h : ∀ c ∈ cs, c < 6) : setOf cs < 64 := setFrom_lt cs 0 (by decide) h
theorem setFrom_cnt (k : Nat) (hk : k < 6) : ∀ (cs : List Nat) (s : Nat), s < 2 ^ 6 → (∀ c ∈ cs, c < 6) → cs.Nodup → (∀ c ∈ cs, s.testBit c = false) → k ∉ cs → popcS (cs.foldl (fun s c => s ||| 2 ^ c) s / 2 ^ k) = popcS (s / 2 ^ k) + cnt k cs
  | [], s, _, _, _, _, _ => rfl
  | c :: cs, s, h, hc, hn, hb, hkn => by
    have hc6 := hc c (by simp)
    have hn' := List.nodup_cons.1 hn
    have e := popcS_or ⟨s, h⟩ ⟨c, hc6⟩ ⟨k, hk⟩ (hb c (by simp))
    simp only at e
    rw [List.foldl_cons, setFrom_cnt k hk cs _ (Nat.or_lt_two_pow h (Nat.pow_lt_pow_right (by omega) hc6)) (fun x hx => hc x (by simp [hx])) hn'.2 (fun x hx => by
      rw [Nat.testBit_or, hb x (by simp [hx]), Nat.testBit_two_pow]
      have : c ≠ x := fun e => hn'.1 (e ▸ hx)
      simp [this]) (fun hx => hkn (by simp [hx])), e]
    have hne : k ≠ c := fun e => hkn (by simp [e])
    simp only [cnt]
    by_cases h1 : k < c
    · rw [if_pos h1, if_pos (by omega)]; omega
    · rw [if_neg h1, if_neg (by omega)]; omega
theorem setOf_cnt {cs : List Nat} {k : Nat} (hk : k < 6) (hc : ∀ c ∈ cs, c < 6) (hn : cs.Nodup) (hkn : k ∉ cs) : popcS (setOf cs / 2 ^ k) = cnt k cs := by
  have e := setFrom_cnt k hk cs 0 (by decide) hc hn (by simp) hkn
  have e0 : popcS (0 / 2 ^ k) = 0 := by rw [Nat.zero_div]; decide
  unfold setOf
  rw [e, e0]; omega

/-- What the lists add up to that begin with cs and have m columns to go. -/
def ordS (l : List (List Int)) (n : Nat) : Nat → List Nat → Int
  | 0, cs => prodN (sn (inv cs)) (fun i => at2 l i (cs.getD i 0)) cs.length
  | m + 1, cs => sumN (fun k => if k ∈ cs then 0 else ordS l n m (cs ++ [k])) n
theorem ordS_succ (l : List (List Int)) (n m : Nat) (cs : List Nat) : ordS l n (m + 1) cs = sumN (fun k => if k ∈ cs then 0 else ordS l n m (cs ++ [k])) n := rfl
theorem ordS_eq (l : List (List Int)) (n : Nat) (hn : n ≤ 6) : ∀ (m : Nat) (cs : List Nat), cs.length + m = n → cs.Nodup → (∀ c ∈ cs, c < n) → ordS l n m cs = prodN (sn (inv cs)) (fun i => at2 l i (cs.getD i 0)) cs.length * ordF l n m (setOf cs)
  | 0, cs, _, _, _ => by rw [ordF_zero, Int.mul_one]; rfl
  | m + 1, cs, hl, hd, hc => by
    rw [ordS_succ, ordF_succ, ← sumN_mul]
    refine sumN_congr _ fun k hk => ?_
    by_cases hm : k ∈ cs
    · rw [if_pos hm, ordT_yes _ (by rw [setOf_bit]; simpa using hm), Int.mul_zero]
    · rw [if_neg hm, ordT_no _ (by rw [setOf_bit]; simpa using hm), setOf_cnt (by omega) (fun c h => by have := hc c h; omega) hd hm,
        ordS_eq l n hn m (cs ++ [k]) (by simp; omega) (by rw [List.nodup_append]; exact ⟨hd, by simp, fun a ha b hb => by simp at hb; subst hb; exact fun e => hm (e ▸ ha)⟩) (fun c h => by
          rcases List.mem_append.1 h with h | h
          · exact hc c h
          · simp at h; omega), setOf_snoc, inv_snoc, List.length_append, List.length_singleton]
      show prodN _ _ cs.length * at2 l cs.length ((cs ++ [k]).getD cs.length 0) * _ = _
      rw [show (cs ++ [k]).getD cs.length 0 = k by simp [List.getD], sn_add, Int.mul_comm (sn (inv cs)) (sn (cnt k cs)), prodN_neg,
        prodN_congr (g := fun i => at2 l i (cs.getD i 0)) cs.length (fun j hj => by simp [List.getD, List.getElem?_append, hj]), show n - (m + 1) = cs.length by omega, sg_sn]
      grind
theorem ordS_all (l : List (List Int)) (n : Nat) (hn : n ≤ 6) : ordS l n n [] = ordF l n n 0 := by
  rw [ordS_eq l n hn n [] (by simp) (by simp) (by simp)]
  show 1 * ordF l n n 0 = _
  omega

theorem prodN_bd {f : Nat → Int} {s : Int} (hs : -1 ≤ s ∧ s ≤ 1) : ∀ i : Nat, (∀ j, j < i → -30 ≤ f j ∧ f j ≤ 30) → -(p180 i) ≤ prodN s f i ∧ prodN s f i ≤ p180 i
  | 0, _ => by simp only [prodN, p180]; omega
  | i + 1, h => by
    have h1 := prodN_bd hs i (fun j hj => h j (by omega))
    have h2 := h i (by omega)
    have h3 := mul_bdB h2.1 h2.2 h1.1 h1.2
    have := p180_pos i
    unfold prodN p180
    rw [Int.mul_comm (prodN s f i)]
    omega
theorem sn_bd (p : Nat) : -1 ≤ sn p ∧ sn p ≤ 1 := by unfold sn; split <;> omega
/-- The greatest sums. -/
def b6 : Nat → Int
  | 0 => 34012224000000
  | m + 1 => 6 * b6 m
theorem b6_pos : ∀ m, 1 ≤ b6 m
  | 0 => by simp [b6]
  | m + 1 => by have := b6_pos m; unfold b6; omega
theorem b6_le (m : Nat) (h : m ≤ 6) : b6 m ≤ 1586874322944000000 := by
  have h : m = 0 ∨ m = 1 ∨ m = 2 ∨ m = 3 ∨ m = 4 ∨ m = 5 ∨ m = 6 := by omega
  rcases h with rfl | rfl | rfl | rfl | rfl | rfl | rfl <;> decide
theorem ordS_bd {l : List (List Int)} {n : Nat} (hn : n ≤ 6) (hA : ∀ i j, i < n → j < n → -30 ≤ at2 l i j ∧ at2 l i j ≤ 30) : ∀ (m : Nat) (cs : List Nat), cs.length + m = n → (∀ c ∈ cs, c < n) → -(b6 m) ≤ ordS l n m cs ∧ ordS l n m cs ≤ b6 m
  | 0, cs, hl, hc => by
    have h1 := prodN_bd (sn_bd (inv cs)) (f := fun i => at2 l i (cs.getD i 0)) cs.length (fun j hj => hA j _ (by omega) (by
      have : cs.getD j 0 = cs[j] := by simp [List.getD, hj]
      rw [this]; exact hc _ (List.getElem_mem _)))
    have h2 := p180_le cs.length (by omega)
    show -(34012224000000 : Int) ≤ prodN _ _ _ ∧ prodN _ _ _ ≤ 34012224000000
    omega
  | m + 1, cs, hl, hc => by
    have h1 := sumN_bdB (f := fun k => if k ∈ cs then 0 else ordS l n m (cs ++ [k])) (B := b6 m) n (fun k hk => by
      have := b6_pos m
      split
      · omega
      · exact ordS_bd hn hA m (cs ++ [k]) (by simp; omega) (fun c h => by
          rcases List.mem_append.1 h with h | h
          · exact hc c h
          · simp at h; omega))
    have hp := b6_pos m
    have h2 : (n : Int) * b6 m ≤ 6 * b6 m := Int.mul_le_mul_of_nonneg_right (by omega) (by omega)
    rw [ordS_succ]
    unfold b6
    omega
theorem ordP_bd {l : List (List Int)} {n m : Nat} {cs : List Nat} (hn : n ≤ 6) (hA : ∀ i j, i < n → j < n → -30 ≤ at2 l i j ∧ at2 l i j ≤ 30) (hl : cs.length + (m + 1) = n) (hc : ∀ c ∈ cs, c < n) {q : Nat} (hq : q ≤ n) :
    -(6 * b6 m) ≤ sumN (fun k => if k ∈ cs then 0 else ordS l n m (cs ++ [k])) q ∧ sumN (fun k => if k ∈ cs then 0 else ordS l n m (cs ++ [k])) q ≤ 6 * b6 m := by
  have h1 := sumN_bdB (f := fun k => if k ∈ cs then 0 else ordS l n m (cs ++ [k])) (B := b6 m) q (fun k hk => by
    have := b6_pos m
    split
    · omega
    · exact ordS_bd hn hA m (cs ++ [k]) (by simp; omega) (fun c h => by
        rcases List.mem_append.1 h with h | h
        · exact hc c h
        · simp at h; omega))
  have hp := b6_pos m
  have h2 : (q : Int) * b6 m ≤ 6 * b6 m := Int.mul_le_mul_of_nonneg_right (by omega) (by omega)
  omega

end Go.Proofs.Ytdbomnhlgaohaaa
