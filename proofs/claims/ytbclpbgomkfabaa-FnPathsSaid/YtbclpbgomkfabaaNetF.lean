/- Nets as products of tables of chips: the pure side. A chip: its kind (0 leads up, 1 down, 2 changes one line), its line, its weight. -/
import Derived.Test.YtbclpbgomkfabaaDetMul
namespace Go.Proofs.Ytbclpbgomkfabaa

abbrev CH := Nat × Nat × Int
def cFrom (c : CH) : Nat := if c.1 = 0 then c.2.1 else c.2.1 + 1
def cTo (c : CH) : Nat := if c.1 = 0 then c.2.1 + 1 else c.2.1
def chOk (n : Nat) (c : CH) : Prop := c.1 ≤ 2 ∧ (if c.1 = 2 then c.2.1 < n else c.2.1 + 1 < n)
/-- The sum over paths, along all chips. -/
def pathN : List CH → Nat → Nat → Int
  | [], a, t => if a = t then 1 else 0
  | c :: cs, a, t => if c.1 = 2 then (if a = c.2.1 then c.2.2 * pathN cs a t else pathN cs a t) else pathN cs a t + (if a = cFrom c then c.2.2 * pathN cs (cTo c) t else 0)
/-- A chip's table. -/
def chM (c : CH) (i j : Nat) : Int := if i = j then (if c.1 = 2 ∧ i = c.2.1 then c.2.2 else 1) else if c.1 ≠ 2 ∧ i = cFrom c ∧ j = cTo c then c.2.2 else 0
/-- The product of the tables of chips. -/
def netM (n : Nat) : List CH → Nat → Nat → Int
  | [], i, k => if i = k then 1 else 0
  | c :: cs, i, k => sumN (fun j => chM c i j * netM n cs j k) n

theorem ch_ft {n : Nat} {c : CH} (h : chOk n c) (h2 : c.1 ≠ 2) : cFrom c < n ∧ cTo c < n ∧ cFrom c ≠ cTo c := by
  unfold chOk at h
  rw [if_neg h2] at h
  unfold cFrom cTo
  split <;> omega

theorem sumN_two (f : Nat → Int) {a b n : Nat} (ha : a < n) (hb : b < n) (hab : a ≠ b) (h : ∀ j, j < n → j ≠ a → j ≠ b → f j = 0) : sumN f n = f a + f b := by
  have e : sumN f n = sumN (fun j => (if j = a then f a else 0) + (if j = b then f b else 0)) n := sumN_congr n fun j hj => by
    by_cases h1 : j = a
    · subst h1; simp [hab]
    · by_cases h2 : j = b
      · subst h2; simp [h1]
      · rw [h j hj h1 h2]; simp [h1, h2]
  rw [e, sumN_add, sumN_one _ a n ha (fun j _ hj => by simp [hj]), sumN_one _ b n hb (fun j _ hj => by simp [hj])]
  simp

/-- One row of a chip's table, times something. -/
theorem ch_row {n : Nat} {c : CH} (h : chOk n c) {i : Nat} (hi : i < n) (f : Nat → Int) :
    sumN (fun j => chM c i j * f j) n = if c.1 = 2 then (if i = c.2.1 then c.2.2 * f i else f i) else f i + (if i = cFrom c then c.2.2 * f (cTo c) else 0) := by
  by_cases h2 : c.1 = 2
  · rw [if_pos h2, sumN_one _ i n hi (fun j _ hj => by
      unfold chM
      rw [if_neg (fun e => hj e.symm), if_neg (fun e => e.1 h2), Int.zero_mul])]
    unfold chM
    by_cases hl : i = c.2.1 <;> simp [h2, hl]
  · obtain ⟨h3, h4, h5⟩ := ch_ft h h2
    rw [if_neg h2]
    by_cases hf : i = cFrom c
    · subst hf
      rw [if_pos rfl, sumN_two _ h3 h4 h5 (fun j _ h6 h7 => by
        unfold chM
        rw [if_neg (fun e => h6 e.symm), if_neg (fun e => h7 e.2.2), Int.zero_mul])]
      unfold chM
      rw [if_pos rfl, if_neg (fun e => h2 e.1), if_neg h5, if_pos ⟨h2, rfl, rfl⟩, Int.one_mul]
    · rw [if_neg hf, sumN_one _ i n hi (fun j _ hj => by
        unfold chM
        rw [if_neg (fun e => hj e.symm), if_neg (fun e => hf e.2.1), Int.zero_mul])]
      unfold chM
      rw [if_pos rfl, if_neg (fun e => h2 e.1)]
      omega

/-- Paths are entries of the product. -/
theorem path_net {n : Nat} : ∀ (cs : List CH), (∀ c ∈ cs, chOk n c) → ∀ a t, a < n → pathN cs a t = netM n cs a t
  | [], _, _, _, _ => rfl
  | c :: cs, h, a, t, ha => by
    have hc := h c (by simp)
    have ih := path_net cs (fun c hc => h c (by simp [hc]))
    unfold netM
    rw [ch_row hc ha (fun j => netM n cs j t)]
    unfold pathN
    by_cases h2 : c.1 = 2
    · rw [if_pos h2, if_pos h2, ih a t ha]
    · rw [if_neg h2, if_neg h2, ih a t ha, ih (cTo c) t (ch_ft hc h2).2.1]

/-- Chips put behind multiply. -/
theorem net_app {n : Nat} : ∀ (xs bs : List CH) (i k : Nat), i < n → netM n (xs ++ bs) i k = sumN (fun j => netM n xs i j * netM n bs j k) n
  | [], bs, i, k, hi => by
    rw [sumN_one _ i n hi (fun j _ hj => by
      show (if i = j then (1 : Int) else 0) * _ = 0
      rw [if_neg (fun e => hj e.symm), Int.zero_mul])]
    show _ = (if i = i then (1 : Int) else 0) * _
    rw [if_pos rfl, Int.one_mul]
    rfl
  | c :: xs, bs, i, k, hi => by
    show sumN (fun j => chM c i j * netM n (xs ++ bs) j k) n = sumN (fun j => sumN (fun m => chM c i m * netM n xs m j) n * netM n bs j k) n
    rw [sumN_congr (g := fun m => sumN (fun j => chM c i m * netM n xs m j * netM n bs j k) n) n (fun m hm => by
      rw [net_app xs bs m k hm, ← sumN_mul]
      exact sumN_congr n fun j _ => (Int.mul_assoc _ _ _).symm)]
    rw [sumN_comm]
    exact sumN_congr n fun j _ => sumN_mulR _ _ _

/-- A chip turned. -/
def swC (c : CH) : CH := (if c.1 = 0 then 1 else if c.1 = 1 then 0 else c.1, c.2.1, c.2.2)
theorem sw_ft {c : CH} (h : c.1 ≤ 2) (h2 : c.1 ≠ 2) : cFrom (swC c) = cTo c ∧ cTo (swC c) = cFrom c ∧ (swC c).1 ≠ 2 := by
  unfold cFrom cTo swC
  have : c.1 = 0 ∨ c.1 = 1 := by omega
  rcases this with e | e <;> simp [e]
theorem sw_h {c : CH} (h2 : c.1 = 2) : swC c = c := by
  unfold swC
  rw [if_neg (by omega), if_neg (by omega)]
theorem ch_turn {c : CH} (h : c.1 ≤ 2) (i j : Nat) : chM (swC c) i j = chM c j i := by
  by_cases h2 : c.1 = 2
  · rw [sw_h h2]
    unfold chM
    by_cases e : i = j
    · subst e; rfl
    · rw [if_neg e, if_neg (show ¬ j = i from fun x => e x.symm), if_neg (fun x => x.1 h2), if_neg (fun x => x.1 h2)]
  · obtain ⟨h3, h4, h5⟩ := sw_ft h h2
    unfold chM
    rw [h3, h4]
    by_cases e : i = j
    · subst e
      rw [if_pos rfl, if_pos rfl, if_neg (fun x => h5 x.1), if_neg (fun x => h2 x.1)]
    · rw [if_neg e, if_neg (show ¬ j = i from fun x => e x.symm)]
      by_cases x : i = cTo c ∧ j = cFrom c
      · rw [if_pos ⟨h5, x.1, x.2⟩, if_pos ⟨h2, x.2, x.1⟩]; rfl
      · rw [if_neg (fun y => x y.2), if_neg (fun y => x ⟨y.2.2, y.2.1⟩)]
theorem net_one {n : Nat} (c : CH) {i k : Nat} (hk : k < n) : netM n [c] i k = chM c i k := by
  show sumN (fun j => chM c i j * (if j = k then 1 else 0)) n = _
  rw [sumN_one _ k n hk (fun j _ hj => by rw [if_neg hj, Int.mul_zero]), if_pos rfl, Int.mul_one]
/-- Nets turned have tables turned. -/
theorem net_turn {n : Nat} : ∀ (cs : List CH), (∀ c ∈ cs, c.1 ≤ 2) → ∀ i k, i < n → k < n → netM n ((cs.map swC).reverse) k i = netM n cs i k
  | [], _, i, k, _, _ => by
    show (if k = i then (1 : Int) else 0) = if i = k then 1 else 0
    by_cases e : i = k
    · subst e; rfl
    · rw [if_neg e, if_neg (fun x => e x.symm)]
  | c :: cs, h, i, k, hi, hk => by
    rw [List.map_cons, List.reverse_cons, net_app _ _ k i hk]
    show _ = sumN (fun j => chM c i j * netM n cs j k) n
    refine sumN_congr n fun j hj => ?_
    rw [net_turn cs (fun c hc => h c (by simp [hc])) j k hj hk, net_one _ hi, ch_turn (h c (by simp)), Int.mul_comm]

end Go.Proofs.Ytbclpbgomkfabaa
