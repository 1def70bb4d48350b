/- Coordinates, their relations, their others and their bases: the pure side. -/
import Derived.Test.YtbedkjpbdkgjpaaSets
import Derived.Test.YtbedkjpbdkgjpaaDet
import Derived.Test.YtbedkjpbdkgjpaaDetMul
namespace Go.Proofs.Ytbedkjpbdkgjpaa
open Go.RowKit Go.Deep

/-- The size of a set below 64, reckoned quickly. -/
def pcQ (s : Nat) : Nat := s % 2 + s / 2 % 2 + s / 4 % 2 + s / 8 % 2 + s / 16 % 2 + s / 32 % 2
theorem popcS_pcQ : ∀ s : Fin 64, popcS s.val = pcQ s.val := by decide +kernel
theorem pcQ_of {s : Nat} (h : s < 64) : popcS s = pcQ s := popcS_pcQ ⟨s, h⟩

/-- The place of a set among those of its size. -/
theorem setsTo_pos (k : Nat) {s : Nat} : ∀ m, s < m → popcS s = k → (setsTo k m)[(setsTo k s).length]? = some s
  | 0, h, _ => by omega
  | m + 1, h, hk => by
    by_cases e : s = m
    · subst e
      rw [setsTo_yes hk, List.getElem?_append_right (Nat.le_refl _), Nat.sub_self]
      rfl
    · have ih := setsTo_pos k (s := s) m (by omega) hk
      have hl := (List.getElem?_eq_some_iff.mp ih).1
      rw [show setsTo k (m + 1) = setsTo k m ++ (if popcS m = k then [m] else []) from rfl, List.getElem?_append_left hl]
      exact ih
theorem setsTo_idx (k : Nat) {s i : Nat} : ∀ m, (setsTo k m)[i]? = some s → (setsTo k s).length = i ∧ popcS s = k ∧ s < m
  | 0, h => by simp [setsTo] at h
  | m + 1, h => by
    by_cases hm : popcS m = k
    · rw [setsTo_yes hm] at h
      by_cases hi : i < (setsTo k m).length
      · rw [List.getElem?_append_left hi] at h
        have := setsTo_idx k m h
        exact ⟨this.1, this.2.1, by omega⟩
      · rw [List.getElem?_append_right (by omega)] at h
        have hi0 : i - (setsTo k m).length = 0 := by
          cases e : i - (setsTo k m).length with
          | zero => rfl
          | succ j => rw [e] at h; simp at h
        rw [hi0] at h
        have hs : m = s := by simpa using h
        subst hs
        exact ⟨by omega, hm, by omega⟩
    · rw [setsTo_no hm] at h
      have := setsTo_idx k m h
      exact ⟨this.1, this.2.1, by omega⟩

/-- The coordinate of a set. -/
def atP (p : List Int) (s : Nat) : Int := p.getD (setsTo (popcS s) s).length 0
theorem atP_map {k m s : Nat} (f : Nat → Int) (h : s < m) (hk : popcS s = k) : atP ((setsTo k m).map f) s = f s := by
  unfold atP
  rw [hk, List.getD_eq_getElem?_getD, List.getElem?_map, setsTo_pos k m h hk]
  rfl
theorem atP_all {k m : Nat} {p : List Int} (h : p.length = (setsTo k m).length) : (setsTo k m).map (atP p) = p := by
  apply List.ext_getElem?
  intro i
  rw [List.getElem?_map]
  by_cases hi : i < (setsTo k m).length
  · have e : (setsTo k m)[i]? = some (setsTo k m)[i] := List.getElem?_eq_getElem hi
    obtain ⟨h1, h2, _⟩ := setsTo_idx k m e
    rw [e]
    show some (atP p _) = _
    unfold atP
    rw [h2, h1, List.getD_eq_getElem?_getD, List.getElem?_eq_getElem (by omega)]
    rfl
  · rw [List.getElem?_eq_none (by omega), List.getElem?_eq_none (by omega)]
    rfl
theorem atP_mem {k m s : Nat} {p : List Int} (h : p.length = (setsTo k m).length) (hs : s < m) (hk : popcS s = k) : atP p s ∈ p := by
  rw [← atP_all (p := p) h]
  refine List.mem_map.mpr ⟨s, (setsTo_mem k).mpr ⟨hs, hk⟩, ?_⟩
  rw [atP_all h]

/-- One product of a relation. -/
def relT (p : List Int) (a b c : Nat) : Int := if b.testBit c = true ∧ a.testBit c = false then sg (popcS (a / 2 ^ c) + popcS (b % 2 ^ c)) (atP p (a ||| 2 ^ c) * atP p (b - 2 ^ c)) else 0
def relS (n : Nat) (p : List Int) (a b : Nat) : Int := sumN (relT p a b) n
/-- Coordinates of k in n are related. -/
def Rel (k n : Nat) (p : List Int) : Prop := ∀ a b, a < 2 ^ n → b < 2 ^ n → popcS a + 1 = k → popcS b = k + 1 → relS n p a b = 0

/-- The sum of the places of a set that lie below c. -/
def bitS (s : Nat) : Nat → Nat
  | 0 => 0
  | c + 1 => bitS s c + s / 2 ^ c % 2 * c
/-- The others of coordinates of k in n. -/
def otherP (k n : Nat) (p : List Int) : List Int := (setsTo (n - k) (2 ^ n)).map fun s => sg (bitS s n + (n - k) * (n - k - 1) / 2) (atP p (2 ^ n - 1 - s))

theorem pow_le5 {n : Nat} (h : n ≤ 5) : 2 ^ n ≤ 32 := by
  have : 2 ^ n ≤ 2 ^ 5 := Nat.pow_le_pow_right (by omega) h
  omega
theorem sn_mod {x y : Nat} (h : x % 2 = y % 2) : sn x = sn y := by unfold sn; rw [h]

theorem relC_fin : ∀ n : Fin 6, ∀ a b : Fin 32, ∀ c : Fin 5, a.val < 2 ^ n.val → b.val < 2 ^ n.val → c.val < n.val →
    ((2 ^ n.val - 1 - a.val).testBit c.val = !a.val.testBit c.val) ∧ ((2 ^ n.val - 1 - b.val).testBit c.val = !b.val.testBit c.val) ∧
    (b.val.testBit c.val = true → a.val.testBit c.val = false →
      2 ^ n.val - 1 - (a.val ||| 2 ^ c.val) = (2 ^ n.val - 1 - a.val) - 2 ^ c.val ∧ 2 ^ n.val - 1 - (b.val - 2 ^ c.val) = (2 ^ n.val - 1 - b.val) ||| 2 ^ c.val ∧
      pcQ (a.val ||| 2 ^ c.val) = pcQ a.val + 1 ∧ pcQ (b.val - 2 ^ c.val) + 1 = pcQ b.val ∧ (a.val ||| 2 ^ c.val) < 2 ^ n.val ∧
      (pcQ (a.val / 2 ^ c.val) + pcQ (b.val % 2 ^ c.val) + bitS (a.val ||| 2 ^ c.val) n.val + bitS (b.val - 2 ^ c.val) n.val) % 2 =
        (bitS a.val n.val + bitS b.val n.val + pcQ a.val + pcQ b.val + n.val + (pcQ ((2 ^ n.val - 1 - b.val) / 2 ^ c.val) + pcQ ((2 ^ n.val - 1 - a.val) % 2 ^ c.val))) % 2) := by decide +kernel

theorem comp_fin : ∀ n : Fin 6, ∀ s : Fin 32, s.val < 2 ^ n.val → pcQ s.val + pcQ (2 ^ n.val - 1 - s.val) = n.val := by decide +kernel
theorem twice_fin : ∀ n : Fin 6, ∀ s : Fin 32, s.val < 2 ^ n.val → (bitS s.val n.val + pcQ s.val * (pcQ s.val - 1) / 2 + (bitS (2 ^ n.val - 1 - s.val) n.val + (n.val - pcQ s.val) * (n.val - pcQ s.val - 1) / 2)) % 2 = pcQ s.val * (n.val - pcQ s.val) % 2 := by decide +kernel
theorem subI_fin : ∀ I : Fin 32, ∀ a : Fin 5, I.val.testBit a.val = true → pcQ (I.val - 2 ^ a.val) + 1 = pcQ I.val ∧ (I.val - 2 ^ a.val ||| 2 ^ a.val) = I.val ∧
    (∀ c : Fin 5, (I.val - 2 ^ a.val).testBit c.val = (I.val.testBit c.val && !decide (c.val = a.val))) ∧ (∀ c : Fin 5, I.val.testBit c.val = false → c.val ≠ a.val → pcQ (I.val - 2 ^ a.val ||| 2 ^ c.val) = pcQ I.val) := by decide +kernel
theorem addJ_fin : ∀ J : Fin 32, ∀ a : Fin 5, J.val.testBit a.val = false → pcQ (J.val ||| 2 ^ a.val) = pcQ J.val + 1 ∧ (J.val ||| 2 ^ a.val) - 2 ^ a.val = J.val ∧
    (∀ c : Fin 5, (J.val ||| 2 ^ a.val).testBit c.val = (J.val.testBit c.val || decide (c.val = a.val))) := by decide +kernel

/-- Related coordinates have related others. -/
theorem other_rel {k n : Nat} {p : List Int} (h1 : 1 ≤ k) (h2 : k < n) (h5 : n ≤ 5) (h : Rel k n p) : Rel (n - k) n (otherP k n p) := by
  intro a b ha hb hka hkb
  have hp := pow_le5 h5
  have hA : 2 ^ n - 1 - b < 2 ^ n := by omega
  have hB : 2 ^ n - 1 - a < 2 ^ n := by omega
  have hcp := fun (s : Nat) (hs : s < 2 ^ n) => comp_fin ⟨n, by omega⟩ ⟨s, by omega⟩ hs
  have ea := hcp a ha
  have eb := hcp b hb
  simp only at ea eb
  rw [← pcQ_of (by omega), ← pcQ_of (by omega)] at ea eb
  have key : ∀ c, c < n → relT (otherP k n p) a b c = sn (bitS a n + bitS b n + pcQ a + pcQ b + n) * relT p (2 ^ n - 1 - b) (2 ^ n - 1 - a) c := fun c hc => by
    obtain ⟨e1, e2, e3⟩ := relC_fin ⟨n, by omega⟩ ⟨a, by omega⟩ ⟨b, by omega⟩ ⟨c, by omega⟩ ha hb hc
    simp only at e1 e2 e3
    unfold relT
    by_cases hbc : b.testBit c = true ∧ a.testBit c = false
    · obtain ⟨x1, x2, x3, x4, x5, x6⟩ := e3 hbc.1 hbc.2
      rw [if_pos hbc, if_pos ⟨by rw [e1, hbc.2]; rfl, by rw [e2, hbc.1]; rfl⟩]
      have hx1 : popcS (a ||| 2 ^ c) = n - k := by rw [pcQ_of (Nat.lt_of_lt_of_le x5 (by omega)), x3, ← pcQ_of (by omega)]; omega
      have hx2 : popcS (b - 2 ^ c) = n - k := by
        have := x4
        rw [← pcQ_of (s := b) (by omega), ← pcQ_of (s := b - 2 ^ c) (Nat.lt_of_le_of_lt (Nat.sub_le _ _) (by omega))] at this
        omega
      unfold otherP
      rw [atP_map _ x5 hx1, atP_map _ (Nat.lt_of_le_of_lt (Nat.sub_le _ _) hb) hx2, x1, x2]
      simp only [sg_sn]
      rw [pcQ_of (show a / 2 ^ c < 64 from Nat.lt_of_le_of_lt (Nat.div_le_self _ _) (by omega)), pcQ_of (show b % 2 ^ c < 64 from Nat.lt_of_le_of_lt (Nat.mod_le _ _) (by omega)),
        pcQ_of (show (2 ^ n - 1 - b) / 2 ^ c < 64 from Nat.lt_of_le_of_lt (Nat.div_le_self _ _) (by omega)), pcQ_of (show (2 ^ n - 1 - a) % 2 ^ c < 64 from Nat.lt_of_le_of_lt (Nat.mod_le _ _) (by omega))]
      have hs := sn_mod (x := pcQ (a / 2 ^ c) + pcQ (b % 2 ^ c) + bitS (a ||| 2 ^ c) n + bitS (b - 2 ^ c) n) (y := bitS a n + bitS b n + pcQ a + pcQ b + n + (pcQ ((2 ^ n - 1 - b) / 2 ^ c) + pcQ ((2 ^ n - 1 - a) % 2 ^ c))) x6
      rw [sn_add, sn_add] at hs
      rw [sn_add (bitS a n + bitS b n + pcQ a + pcQ b + n)] at hs
      have hq := sn_sq ((n - k) * (n - k - 1) / 2)
      rw [sn_add (bitS (a ||| 2 ^ c) n), sn_add (bitS (b - 2 ^ c) n)]
      generalize sn ((n - k) * (n - k - 1) / 2) = z at hq ⊢
      generalize sn (bitS (a ||| 2 ^ c) n) = z1 at hs ⊢
      generalize sn (bitS (b - 2 ^ c) n) = z2 at hs ⊢
      generalize sn (pcQ (a / 2 ^ c) + pcQ (b % 2 ^ c)) = z3 at hs ⊢
      generalize sn (pcQ ((2 ^ n - 1 - b) / 2 ^ c) + pcQ ((2 ^ n - 1 - a) % 2 ^ c)) = z4 at hs ⊢
      generalize sn (bitS a n + bitS b n + pcQ a + pcQ b + n) = z5 at hs ⊢
      generalize atP p (2 ^ n - 1 - a - 2 ^ c) = u
      generalize atP p (2 ^ n - 1 - b ||| 2 ^ c) = v
      calc z3 * (z1 * z * u * (z2 * z * v)) = (z3 * z1 * z2) * (z * z) * (v * u) := by grind
        _ = z5 * (z4 * (v * u)) := by rw [hs, hq]; grind
    · rw [if_neg hbc, if_neg (fun h => hbc ⟨by have := h.2; rw [e2] at this; simpa using this, by have := h.1; rw [e1] at this; simpa using this⟩), Int.mul_zero]
  unfold relS
  rw [sumN_congr n key, sumN_mul]
  have := h (2 ^ n - 1 - b) (2 ^ n - 1 - a) hA hB (by omega) (by omega)
  unfold relS at this
  rw [this, Int.mul_zero]

/-- Others twice are the coordinates, but for a sign. -/
theorem other_twice {k n : Nat} {p : List Int} (h1 : 1 ≤ k) (h2 : k < n) (h5 : n ≤ 5) (hl : p.length = (setsTo k (2 ^ n)).length) :
    otherP (n - k) n (otherP k n p) = p.map (sg (k * (n - k))) := by
  have hp := pow_le5 h5
  have hk : n - (n - k) = k := by omega
  conv => rhs; rw [← atP_all hl]
  rw [List.map_map]
  unfold otherP
  rw [hk]
  apply List.map_congr_left
  intro s hs
  obtain ⟨h3, h4⟩ := (setsTo_mem k).mp hs
  have e := comp_fin ⟨n, by omega⟩ ⟨s, by omega⟩ h3
  have e2 := twice_fin ⟨n, by omega⟩ ⟨s, by omega⟩ h3
  simp only at e e2
  rw [← pcQ_of (s := s) (by omega)] at e e2
  rw [← pcQ_of (s := 2 ^ n - 1 - s) (by omega)] at e
  rw [h4] at e2
  rw [atP_map _ (show 2 ^ n - 1 - s < 2 ^ n by omega) (by omega), show 2 ^ n - 1 - (2 ^ n - 1 - s) = s by omega]
  simp only [sg_sn, Function.comp]
  rw [← Int.mul_assoc, ← sn_add, sn_mod e2]

/-- The opposite coordinates are related. -/
theorem neg_rel {k n : Nat} {p : List Int} (h : Rel k n p) : Rel k n (p.map (fun x => 0 - x)) := by
  have e : ∀ s, atP (p.map (fun x => 0 - x)) s = -atP p s := fun s => by
    unfold atP
    rw [List.getD_eq_getElem?_getD, List.getElem?_map, List.getD_eq_getElem?_getD]
    cases p[(setsTo (popcS s) s).length]? with
    | none => rfl
    | some x => show 0 - x = -x; omega
  intro a b ha hb hka hkb
  have := h a b ha hb hka hkb
  unfold relS at this ⊢
  refine (sumN_congr (g := relT p a b) n fun c _ => ?_).trans this
  unfold relT
  rw [e, e]
  split
  · rw [Int.neg_mul_neg]
  · rfl

/-- Bases of related coordinates exchange columns. -/
theorem rel_bases {k n : Nat} {p : List Int} (h5 : n ≤ 5) (h : Rel k n p) {I J a : Nat} (hI : I < 2 ^ n) (hJ : J < 2 ^ n) (hIk : popcS I = k) (hJk : popcS J = k) (pI : atP p I ≠ 0) (pJ : atP p J ≠ 0)
    (ha : a < n) (h1 : I.testBit a = true) (h2 : J.testBit a = false) : ∃ b, b < n ∧ J.testBit b = true ∧ I.testBit b = false ∧ atP p (I - 2 ^ a ||| 2 ^ b) ≠ 0 ∧ popcS (I - 2 ^ a ||| 2 ^ b) = k ∧ (I - 2 ^ a ||| 2 ^ b) < 2 ^ n := by
  have hp := pow_le5 h5
  have hs1 := subI_fin ⟨I, by omega⟩ ⟨a, by omega⟩ h1
  have hs2 := addJ_fin ⟨J, by omega⟩ ⟨a, by omega⟩ h2
  simp only at hs1 hs2
  obtain ⟨x1, x2, x3, x4⟩ := hs1
  obtain ⟨y1, y2, y3⟩ := hs2
  have hb : (J ||| 2 ^ a) < 2 ^ n := Nat.or_lt_two_pow hJ (Nat.pow_lt_pow_right (by omega) ha)
  rw [← pcQ_of (s := I) (by omega), ← pcQ_of (s := I - 2 ^ a) (Nat.lt_of_le_of_lt (Nat.sub_le _ _) (by omega))] at x1
  rw [← pcQ_of (s := J) (by omega), ← pcQ_of (s := J ||| 2 ^ a) (Nat.lt_of_lt_of_le hb (by omega))] at y1
  have hIa : I - 2 ^ a < 2 ^ n := Nat.lt_of_le_of_lt (Nat.sub_le _ _) hI
  have hR := h (I - 2 ^ a) (J ||| 2 ^ a) hIa hb (by omega) (by omega)
  have ht : relT p (I - 2 ^ a) (J ||| 2 ^ a) a ≠ 0 := by
    unfold relT
    rw [if_pos ⟨by rw [y3 ⟨a, by omega⟩]; simp, by rw [x3 ⟨a, by omega⟩]; simp⟩, x2, y2, sg_sn]
    exact Int.mul_ne_zero (sn_ne _) (Int.mul_ne_zero pI pJ)
  have hex : ∃ c, c < n ∧ c ≠ a ∧ relT p (I - 2 ^ a) (J ||| 2 ^ a) c ≠ 0 := by
    apply Classical.byContradiction
    intro hn
    have := sumN_one (relT p (I - 2 ^ a) (J ||| 2 ^ a)) a n ha (fun j hj hja => Classical.byContradiction fun hz => hn ⟨j, hj, hja, hz⟩)
    unfold relS at hR
    rw [hR] at this
    exact ht this.symm
  obtain ⟨c, hc, hca, hz⟩ := hex
  unfold relT at hz
  by_cases hcc : (J ||| 2 ^ a).testBit c = true ∧ (I - 2 ^ a).testBit c = false
  · rw [if_pos hcc, sg_sn] at hz
    have z1 := y3 ⟨c, by omega⟩
    have z2 := x3 ⟨c, by omega⟩
    simp only at z1 z2
    have hJc : J.testBit c = true := by
      have := hcc.1
      rw [z1] at this
      simpa [Ne.symm hca, hca] using this
    have hIc : I.testBit c = false := by
      have := hcc.2
      rw [z2] at this
      simpa [hca] using this
    have z3 := x4 ⟨c, by omega⟩ hIc hca
    simp only at z3
    have hlt : (I - 2 ^ a ||| 2 ^ c) < 2 ^ n := Nat.or_lt_two_pow hIa (Nat.pow_lt_pow_right (by omega) hc)
    rw [← pcQ_of (s := I) (by omega), ← pcQ_of (s := I - 2 ^ a ||| 2 ^ c) (by omega)] at z3
    exact ⟨c, hc, hJc, hIc, fun h0 => hz (by rw [h0, Int.zero_mul, Int.mul_zero]), by omega, hlt⟩
  · rw [if_neg hcc] at hz
    exact absurd rfl hz

/-- Coordinates times numbers that are not 0 are related alike. -/
theorem same_rel {k n : Nat} {p q : List Int} {x y : Int} (hy : y ≠ 0) (h : ∀ s, s < 2 ^ n → popcS s = k → atP p s * y = atP q s * x) (h5 : n ≤ 5) (hq : Rel k n q) : Rel k n p := by
  have hp := pow_le5 h5
  intro a b ha hb hka hkb
  have e : y * y * relS n p a b = x * x * relS n q a b := by
    unfold relS
    rw [← sumN_mul, ← sumN_mul]
    apply sumN_congr
    intro c hc
    unfold relT
    by_cases hbc : b.testBit c = true ∧ a.testBit c = false
    · rw [if_pos hbc, if_pos hbc, sg_sn, sg_sn]
      obtain ⟨_, _, e3⟩ := relC_fin ⟨n, by omega⟩ ⟨a, by omega⟩ ⟨b, by omega⟩ ⟨c, by omega⟩ ha hb hc
      simp only at e3
      obtain ⟨_, _, x3, x4, x5, _⟩ := e3 hbc.1 hbc.2
      rw [← pcQ_of (s := a) (by omega), ← pcQ_of (s := a ||| 2 ^ c) (by omega)] at x3
      rw [← pcQ_of (s := b) (by omega), ← pcQ_of (s := b - 2 ^ c) (Nat.lt_of_le_of_lt (Nat.sub_le _ _) (by omega))] at x4
      have g1 := h (a ||| 2 ^ c) x5 (by omega)
      have g2 := h (b - 2 ^ c) (Nat.lt_of_le_of_lt (Nat.sub_le _ _) hb) (by omega)
      generalize atP p (a ||| 2 ^ c) = p1 at *
      generalize atP p (b - 2 ^ c) = p2 at *
      generalize atP q (a ||| 2 ^ c) = q1 at *
      generalize atP q (b - 2 ^ c) = q2 at *
      generalize sn (popcS (a / 2 ^ c) + popcS (b % 2 ^ c)) = z
      calc y * y * (z * (p1 * p2)) = z * ((p1 * y) * (p2 * y)) := by grind
        _ = x * x * (z * (q1 * q2)) := by rw [g1, g2]; grind
    · rw [if_neg hbc, if_neg hbc, Int.mul_zero, Int.mul_zero]
  rw [hq a b ha hb hka hkb, Int.mul_zero] at e
  rcases Int.mul_eq_zero.mp e with h0 | h0
  · rcases Int.mul_eq_zero.mp h0 with h0 | h0 <;> exact absurd h0 hy
  · exact h0

end Go.Proofs.Ytbedkjpbdkgjpaa
