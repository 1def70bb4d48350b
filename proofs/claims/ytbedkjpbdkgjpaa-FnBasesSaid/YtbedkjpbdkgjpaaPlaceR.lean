/- The contract of spec.PlaceRelated. -/
import Derived.Test.YtbedkjpbdkgjpaaPlaceW
namespace Go.Proofs.Ytbedkjpbdkgjpaa
open Go.RowKit Go.Deep

/-- All relations hold. -/
def relOk (k n : Nat) (p : List Int) : Bool := (setsTo (k - 1) (2 ^ n)).all fun a => (setsTo (k + 1) (2 ^ n)).all fun b => decide (relS n p a b = 0)
theorem relOk_iff {k n : Nat} {p : List Int} (h1 : 1 ≤ k) : relOk k n p = true ↔ Rel k n p := by
  unfold relOk Rel
  simp only [List.all_eq_true, decide_eq_true_eq, setsTo_mem]
  constructor
  · intro h a b ha hb hka hkb; exact h a ⟨ha, by omega⟩ b ⟨hb, hkb⟩
  · rintro h a ⟨ha, hka⟩ b ⟨hb, hkb⟩; exact h a b ha hb (by omega) hkb
def relB (k n : Int) (p : List Int) : Bool := placeB k n p && relOk k.toNat n.toNat p

theorem setsI_get {k M i : Nat} (h : i < (setsTo k M).length) : ∃ s, (setsI k M).getD i 0 = ((s : Nat) : Int) ∧ (setsTo k M)[i]? = some s ∧ s < M ∧ popcS s = k := by
  have e : (setsTo k M)[i]? = some (setsTo k M)[i] := List.getElem?_eq_getElem h
  obtain ⟨_, h2, h3⟩ := setsTo_idx k M e
  refine ⟨_, ?_, e, h3, h2⟩
  unfold setsI
  rw [List.getD_eq_getElem?_getD, List.getElem?_map, e]
  rfl
theorem atP_bd {k M s : Nat} {p : List Int} (hl : p.length = (setsTo k M).length) (hp : NumsC p p.length) (hs : s < M) (hk : popcS s = k) : -100000 ≤ atP p s ∧ atP p s ≤ 100000 := by
  have h := (List.getElem?_eq_some_iff.mp (setsTo_pos k M hs hk)).1
  unfold atP
  rw [hk]
  exact hp _ (by omega)
theorem andNotS_fin : ∀ b : Fin 32, ∀ c : Fin 5, b.val.testBit c.val = true → bits BinOp.andNot IntKind.i64 (b.val : Int) (2 ^ c.val) = ((b.val - 2 ^ c.val : Nat) : Int) := by decide +kernel
theorem andLow_fin : ∀ b : Fin 32, ∀ c : Fin 5, bits BinOp.and IntKind.i64 (b.val : Int) (2 ^ c.val - 1) = ((b.val % 2 ^ c.val : Nat) : Int) := by decide +kernel
theorem powLow_in : ∀ c : Fin 6, IntKind.i64.wrap ((2 : Int) ^ c.val - 1) = (2 : Int) ^ c.val - 1 := by decide +kernel
theorem mul_bdP {a b B : Int} (h1 : -B ≤ a) (h2 : a ≤ B) (h3 : -B ≤ b) (h4 : b ≤ B) : -(B * B) ≤ a * b ∧ a * b ≤ B * B := by
  have e1 : (B - a) * (B - b) ≥ 0 := Int.mul_nonneg (by omega) (by omega)
  have e2 : (B + a) * (B + b) ≥ 0 := Int.mul_nonneg (by omega) (by omega)
  have e3 : (B - a) * (B + b) ≥ 0 := Int.mul_nonneg (by omega) (by omega)
  have e4 : (B + a) * (B - b) ≥ 0 := Int.mul_nonneg (by omega) (by omega)
  simp only [Int.sub_mul, Int.add_mul, Int.mul_sub, Int.mul_add] at e1 e2 e3 e4
  generalize a * b = x at *
  generalize B * B = z at *
  generalize a * B = y1 at *
  generalize B * b = y2 at *
  omega
theorem relT_no {p : List Int} {a b c : Nat} (h : ¬(b.testBit c = true ∧ a.testBit c = false)) : relT p a b c = 0 := by unfold relT; rw [if_neg h]
theorem relT_yes {p : List Int} {a b c : Nat} (h1 : b.testBit c = true) (h2 : a.testBit c = false) : relT p a b c = sg (popcS (a / 2 ^ c) + popcS (b % 2 ^ c)) (atP p (a ||| 2 ^ c) * atP p (b - 2 ^ c)) := by unfold relT; rw [if_pos ⟨h1, h2⟩]
theorem relT_bd {k n : Nat} {p : List Int} (h5 : n ≤ 5) (hl : p.length = (setsTo k (2 ^ n)).length) (hp : NumsC p p.length) {a b c : Nat} (ha : a < 2 ^ n) (hb : b < 2 ^ n) (hc : c < n) (hka : popcS a + 1 = k) (hkb : popcS b = k + 1) :
    -10000000000 ≤ relT p a b c ∧ relT p a b c ≤ 10000000000 := by
  have hpw := pow_le5 h5
  unfold relT
  by_cases hbc : b.testBit c = true ∧ a.testBit c = false
  · rw [if_pos hbc]
    obtain ⟨_, _, e3⟩ := relC_fin ⟨n, by omega⟩ ⟨a, by omega⟩ ⟨b, by omega⟩ ⟨c, by omega⟩ ha hb hc
    simp only at e3
    obtain ⟨_, _, x3, x4, x5, _⟩ := e3 hbc.1 hbc.2
    rw [← pcQ_of (s := a) (by omega), ← pcQ_of (s := a ||| 2 ^ c) (by omega)] at x3
    rw [← pcQ_of (s := b) (by omega), ← pcQ_of (s := b - 2 ^ c) (Nat.lt_of_le_of_lt (Nat.sub_le _ _) (by omega))] at x4
    have g1 := atP_bd hl hp x5 (by omega)
    have g2 := atP_bd hl hp (s := b - 2 ^ c) (Nat.lt_of_le_of_lt (Nat.sub_le _ _) hb) (by omega)
    have := mul_bdP (B := 100000) g1.1 g1.2 g2.1 g2.2
    exact sg_bd (B := 10000000000) (by omega)
  · rw [if_neg hbc]; omega
theorem relS_bd {k n : Nat} {p : List Int} (h5 : n ≤ 5) (hl : p.length = (setsTo k (2 ^ n)).length) (hp : NumsC p p.length) {a b : Nat} (ha : a < 2 ^ n) (hb : b < 2 ^ n) (hka : popcS a + 1 = k) (hkb : popcS b = k + 1) :
    ∀ c, c ≤ n → -((c : Int) * 10000000000) ≤ sumN (relT p a b) c ∧ sumN (relT p a b) c ≤ (c : Int) * 10000000000 := fun c hc =>
  sumN_bdB c (fun j hj => relT_bd h5 hl hp ha hb (by omega) hka hkb)
/-- What the walk wants of a set a of the first and a set b of the second kind, at a column c. -/
theorem rel_facts {k n : Nat} {p : List Int} (h5 : n ≤ 5) (hl : p.length = (setsTo k (2 ^ n)).length) {a b c : Nat} (ha : a < 2 ^ n) (hb : b < 2 ^ n) (hc : c < n) (hka : popcS a + 1 = k) (hkb : popcS b = k + 1) (h1 : b.testBit c = true) (h2 : a.testBit c = false) :
    ((a ||| 2 ^ c) ≤ 63 ∧ (setsTo (popcS (a ||| 2 ^ c)) (a ||| 2 ^ c)).length < p.length) ∧ (b - 2 ^ c ≤ 63 ∧ (setsTo (popcS (b - 2 ^ c)) (b - 2 ^ c)).length < p.length) := by
  have hpw := pow_le5 h5
  obtain ⟨_, _, e3⟩ := relC_fin ⟨n, by omega⟩ ⟨a, by omega⟩ ⟨b, by omega⟩ ⟨c, by omega⟩ ha hb hc
  simp only at e3
  obtain ⟨_, _, x3, x4, x5, _⟩ := e3 h1 h2
  have hb2 : b - 2 ^ c < 2 ^ n := Nat.lt_of_le_of_lt (Nat.sub_le _ _) hb
  rw [← pcQ_of (s := a) (by omega), ← pcQ_of (s := a ||| 2 ^ c) (by omega)] at x3
  rw [← pcQ_of (s := b) (by omega), ← pcQ_of (s := b - 2 ^ c) (by omega)] at x4
  refine ⟨⟨by omega, ?_⟩, ⟨by omega, ?_⟩⟩
  · rw [hl, show popcS (a ||| 2 ^ c) = k by omega]; exact (List.getElem?_eq_some_iff.mp (setsTo_pos k (2 ^ n) x5 (by omega))).1
  · rw [hl, show popcS (b - 2 ^ c) = k by omega]; exact (List.getElem?_eq_some_iff.mp (setsTo_pos k (2 ^ n) hb2 (by omega))).1

/-- The relations of the set number i of the first kind with the first j ones of the second kind. -/
def relJ (k n : Nat) (p : List Int) (i j : Nat) : Prop := ∀ j', j' < j → ∀ a b, (setsTo (k - 1) (2 ^ n))[i]? = some a → (setsTo (k + 1) (2 ^ n))[j']? = some b → relS n p a b = 0
def relI (k n : Nat) (p : List Int) (i : Nat) : Prop := ∀ i', i' < i → relJ k n p i' (setsTo (k + 1) (2 ^ n)).length
theorem relI_all {k n : Nat} {p : List Int} (h : relI k n p (setsTo (k - 1) (2 ^ n)).length) : relOk k n p = true := by
  unfold relOk
  simp only [List.all_eq_true, decide_eq_true_eq]
  intro a ha b hb
  obtain ⟨i, hi, e⟩ := List.mem_iff_getElem.mp ha
  obtain ⟨j, hj, f⟩ := List.mem_iff_getElem.mp hb
  exact h i hi j hj a b (by rw [List.getElem?_eq_getElem hi, e]) (by rw [List.getElem?_eq_getElem hj, f])
theorem relOk_no {k n : Nat} {p : List Int} {i j a b : Nat} (ha : (setsTo (k - 1) (2 ^ n))[i]? = some a) (hb : (setsTo (k + 1) (2 ^ n))[j]? = some b) (h : relS n p a b ≠ 0) : relOk k n p = false := by
  cases e : relOk k n p with
  | false => rfl
  | true =>
    unfold relOk at e
    simp only [List.all_eq_true, decide_eq_true_eq] at e
    exact absurd (e a (List.mem_of_getElem? ha) b (List.mem_of_getElem? hb)) h
theorem relJ_succ {k n : Nat} {p : List Int} {i j a b : Nat} (h : relJ k n p i j) (ha : (setsTo (k - 1) (2 ^ n))[i]? = some a) (hb : (setsTo (k + 1) (2 ^ n))[j]? = some b) (h0 : relS n p a b = 0) : relJ k n p i (j + 1) := by
  intro j' hj a' b' ha' hb'
  by_cases e : j' = j
  · subst e
    rw [ha] at ha'; rw [hb] at hb'
    cases ha'; cases hb'
    exact h0
  · exact h j' (by omega) a' b' ha' hb'
theorem relI_succ {k n : Nat} {p : List Int} {i : Nat} (h : relI k n p i) (h1 : relJ k n p i (setsTo (k + 1) (2 ^ n)).length) : relI k n p (i + 1) := by
  intro i' hi
  by_cases e : i' = i
  · subst e; exact h1
  · exact h i' (by omega)

end Go.Proofs.Ytbedkjpbdkgjpaa
