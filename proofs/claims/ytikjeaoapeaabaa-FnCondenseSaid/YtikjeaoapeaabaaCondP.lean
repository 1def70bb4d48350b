/- Condensing: the numbers are values of squares beside each other: the pure side. -/
import Derived.Test.YtikjeaoapeaabaaSylv
import Derived.Test.YtikjeaoapeaabaaOrdDet
namespace Go.Proofs.Ytikjeaoapeaabaa
open Go.RowKit Go.Deep

/-- The value of the square of d rows that begins at i and k. -/
def cn (F : Nat → Nat → Int) (d i k : Nat) : Int := dt d (fun r c => F (i + r) (k + c))
theorem cn_zero (F : Nat → Nat → Int) (i k : Nat) : cn F 0 i k = 1 := rfl
theorem cn_one (F : Nat → Nat → Int) (i k : Nat) : cn F 1 i k = F i k := by unfold cn; rw [dt_one]; rfl
theorem cn_all (F : Nat → Nat → Int) (n : Nat) : cn F n 0 0 = dt n F := by
  unfold cn
  exact dt_congr n fun i j _ _ => by rw [Nat.zero_add, Nat.zero_add]
theorem cn_step (F : Nat → Nat → Int) (d i k : Nat) (h : cn F d (i + 1) (k + 1) ≠ 0) :
    cn F (d + 1) i k * cn F (d + 1) (i + 1) (k + 1) - cn F (d + 1) i (k + 1) * cn F (d + 1) (i + 1) k = cn F d (i + 1) (k + 1) * cn F (d + 2) i k := by
  have e : ∀ m, cn F m (i + 1) (k + 1) = dt m (fun r c => F (i + (r + 1)) (k + (c + 1))) := fun m => by
    unfold cn
    exact dt_congr m fun r c _ _ => by rw [show i + 1 + r = i + (r + 1) by omega, show k + 1 + c = k + (c + 1) by omega]
  have e1 : cn F (d + 1) i (k + 1) = dt (d + 1) (fun r c => F (i + r) (k + (c + 1))) := by
    unfold cn
    exact dt_congr _ fun r c _ _ => by rw [show k + 1 + c = k + (c + 1) by omega]
  have e2 : cn F (d + 1) (i + 1) k = dt (d + 1) (fun r c => F (i + (r + 1)) (k + c)) := by
    unfold cn
    exact dt_congr _ fun r c _ _ => by rw [show i + 1 + r = i + (r + 1) by omega]
  rw [e] at h
  rw [e, e, e1, e2]
  exact dt_dj d (fun r c => F (i + r) (k + c)) h
theorem cn_bd {n : Nat} {F : Nat → Nat → Int} (hF : ∀ i j, i < n → j < n → -30 ≤ F i j ∧ F i j ≤ 30) {d i k : Nat} (hd : d ≤ 6) (hi : i + d ≤ n) (hk : k + d ≤ n) : -bdN d ≤ cn F d i k ∧ cn F d i k ≤ bdN d :=
  dt_bd d _ hd fun r c hr hc => hF _ _ (by omega) (by omega)

/-- None of the numbers inside is 0. -/
def ConOk (n : Nat) (F : Nat → Nat → Int) : Prop := ∀ d i k, i + d + 1 < n → k + d + 1 < n → cn F d (i + 1) (k + 1) ≠ 0
open Classical in
noncomputable def conB (n : Nat) (F : Nat → Nat → Int) : Bool := decide (ConOk n F)
theorem conB_true {n : Nat} {F : Nat → Nat → Int} (h : ConOk n F) : conB n F = true := by simp [conB, h]
theorem conB_false {n : Nat} {F : Nat → Nat → Int} {d i k : Nat} (hi : i + d + 1 < n) (hk : k + d + 1 < n) (h : cn F d (i + 1) (k + 1) = 0) : conB n F = false := by
  have : ¬ ConOk n F := fun H => H d i k hi hk h
  simp [conB, this]
/-- .. as far as has been asked. -/
def ConTo (n : Nat) (F : Nat → Nat → Int) (m : Nat) : Prop := ∀ d i k, d < m → i + d + 1 < n → k + d + 1 < n → cn F d (i + 1) (k + 1) ≠ 0
theorem ConTo.start (n : Nat) (F : Nat → Nat → Int) : ConTo n F 0 := fun _ _ _ h => absurd h (Nat.not_lt_zero _)
theorem ConTo.next {n : Nat} {F : Nat → Nat → Int} {m : Nat} (h : ConTo n F m) (h2 : ∀ i k, i + m + 1 < n → k + m + 1 < n → cn F m (i + 1) (k + 1) ≠ 0) : ConTo n F (m + 1) := fun d i k hd hi hk => by
  by_cases e : d = m
  · subst e; exact h2 i k hi hk
  · exact h d i k (by omega) hi hk
theorem ConTo.all {n : Nat} {F : Nat → Nat → Int} {m : Nat} (h : ConTo n F m) (hm : n ≤ m + 1) : ConOk n F := fun d i k hi hk => h d i k (by omega) hi hk

theorem mul_bdR {x y B : Int} (hx : -B ≤ x ∧ x ≤ B) (hy : -B ≤ y ∧ y ≤ B) : -(B * B) ≤ x * y ∧ x * y ≤ B * B := by
  have hB : 0 ≤ B := by omega
  have e1 : (B - x) * (B - y) ≥ 0 := Int.mul_nonneg (by omega) (by omega)
  have e2 : (B + x) * (B + y) ≥ 0 := Int.mul_nonneg (by omega) (by omega)
  have e3 : (B - x) * (B + y) ≥ 0 := Int.mul_nonneg (by omega) (by omega)
  have e4 : (B + x) * (B - y) ≥ 0 := Int.mul_nonneg (by omega) (by omega)
  simp only [Int.sub_mul, Int.add_mul, Int.mul_sub, Int.mul_add] at e1 e2 e3 e4
  have c1 := Int.mul_comm B y
  have c2 := Int.mul_comm x B
  omega

/-- One number more: what is taken, and what it is divided by. -/
theorem cn_num {n : Nat} {F : Nat → Nat → Int} (h6 : n ≤ 6) (hF : ∀ i j, i < n → j < n → -30 ≤ F i j ∧ F i j ≤ 30) {d i k : Nat} (hi : i + d + 1 < n) (hk : k + d + 1 < n) (h : cn F d (i + 1) (k + 1) ≠ 0) :
    IntKind.i64.wrap (cn F (d + 1) i k * cn F (d + 1) (i + 1) (k + 1)) = cn F (d + 1) i k * cn F (d + 1) (i + 1) (k + 1) ∧
    IntKind.i64.wrap (cn F (d + 1) i (k + 1) * cn F (d + 1) (i + 1) k) = cn F (d + 1) i (k + 1) * cn F (d + 1) (i + 1) k ∧
    IntKind.i64.wrap (cn F (d + 1) i k * cn F (d + 1) (i + 1) (k + 1) - cn F (d + 1) i (k + 1) * cn F (d + 1) (i + 1) k) = cn F d (i + 1) (k + 1) * cn F (d + 2) i k ∧
    IntKind.i64.wrap (cn F (d + 2) i k) = cn F (d + 2) i k ∧
    Int.tdiv (cn F d (i + 1) (k + 1) * cn F (d + 2) i k) (cn F d (i + 1) (k + 1)) = cn F (d + 2) i k := by
  have a1 := cn_bd hF (d := d + 1) (i := i) (k := k) (by omega) (by omega) (by omega)
  have a2 := cn_bd hF (d := d + 1) (i := i + 1) (k := k + 1) (by omega) (by omega) (by omega)
  have a3 := cn_bd hF (d := d + 1) (i := i) (k := k + 1) (by omega) (by omega) (by omega)
  have a4 := cn_bd hF (d := d + 1) (i := i + 1) (k := k) (by omega) (by omega) (by omega)
  have a5 := cn_bd hF (d := d + 2) (i := i) (k := k) (by omega) (by omega) (by omega)
  have b1 : bdN (d + 1) ≤ 1944000000 := by
    have h : d = 0 ∨ d = 1 ∨ d = 2 ∨ d = 3 ∨ d = 4 := by omega
    rcases h with h | h | h | h | h <;> (subst h; decide)
  have b2 : bdN (d + 2) ≤ 349920000000 := by
    have h : d = 0 ∨ d = 1 ∨ d = 2 ∨ d = 3 ∨ d = 4 := by omega
    rcases h with h | h | h | h | h <;> (subst h; decide)
  have hs := cn_step F d i k h
  have m1 := mul_bdR (B := 1944000000) (show -1944000000 ≤ cn F (d + 1) i k ∧ cn F (d + 1) i k ≤ 1944000000 by omega) (show -1944000000 ≤ cn F (d + 1) (i + 1) (k + 1) ∧ cn F (d + 1) (i + 1) (k + 1) ≤ 1944000000 by omega)
  have m2 := mul_bdR (B := 1944000000) (show -1944000000 ≤ cn F (d + 1) i (k + 1) ∧ cn F (d + 1) i (k + 1) ≤ 1944000000 by omega) (show -1944000000 ≤ cn F (d + 1) (i + 1) k ∧ cn F (d + 1) (i + 1) k ≤ 1944000000 by omega)
  exact ⟨IntWalk.i64_in _ ⟨by omega, by omega⟩, IntWalk.i64_in _ ⟨by omega, by omega⟩, (IntWalk.i64_in _ ⟨by omega, by omega⟩).trans hs, IntWalk.i64_in _ ⟨by omega, by omega⟩, Int.mul_tdiv_cancel_left _ h⟩

/-- Does condensing lead to the value? -/
noncomputable def conOk (l : List (List Int)) (n : Nat) : Bool := sqB l && conB n (at2 l)
def conV (l : List (List Int)) (n : Nat) : Int := dt n (at2 l)

/-- A square at an address, read by row and column. -/
def GR (w : World) (a : Option Addr) (n : Nat) (f : Nat → Nat → Int) : Prop :=
  ∃ (b o : Nat) (A : Nat → Option Addr) (C : Nat → Nat), a = some ⟨b, o, none⟩ ∧ (∀ i, i < n → w.cell? ⟨b, o + i, none⟩ = some (.slice (A i) n (C i))) ∧
    ∀ i j, i < n → j < n → ∃ b' o', w.cell? ⟨b, o + i, none⟩ = some (.slice (some ⟨b', o', none⟩) n (C i)) ∧ w.cell? ⟨b', o' + j, none⟩ = some (.int .i64 (f i j))
theorem GR.since {w w' : World} {a : Option Addr} {n : Nat} {f : Nat → Nat → Int} (h : GR w a n f) (hs : w.Since w.heap.size w') : GR w' a n f := by
  obtain ⟨b, o, A, C, e, h1, h2⟩ := h
  have hk : ∀ (p : Addr) (v : Value), w.cell? p = some v → w'.cell? p = some v := fun p v hv => (hs.cell (World.block_lt_of_cell? _ _ hv)).trans hv
  refine ⟨b, o, A, C, e, fun i hi => hk _ _ (h1 i hi), fun i j hi hj => ?_⟩
  obtain ⟨b', o', g1, g2⟩ := h2 i j hi hj
  exact ⟨b', o', hk _ _ g1, hk _ _ g2⟩
theorem GR.congr {w : World} {a : Option Addr} {n : Nat} {f g : Nat → Nat → Int} (h : GR w a n f) (e : ∀ i j, i < n → j < n → f i j = g i j) : GR w a n g := by
  obtain ⟨b, o, A, C, e1, h1, h2⟩ := h
  refine ⟨b, o, A, C, e1, h1, fun i j hi hj => ?_⟩
  obtain ⟨b', o', g1, g2⟩ := h2 i j hi hj
  exact ⟨b', o', g1, by rw [← e i j hi hj]; exact g2⟩
theorem GR.of_mat {w : World} {a : Option Addr} {l : List (List Int)} {n : Nat} {f : Nat → Nat → Int} (h : MatR w a l) (hn : l.length = n) (h1 : 1 ≤ n) (hw : ∀ r, r < n → (l.getD r []).length = n) (he : ∀ i j, i < n → j < n → at2 l i j = f i j) : GR w a n f := by
  subst hn
  obtain ⟨b, o, A, C, e, hc⟩ := h h1
  refine ⟨b, o, A, C, e, fun i hi => by rw [(hc i hi).1, hw i hi], fun i j hi hj => ?_⟩
  obtain ⟨hc1, hc2⟩ := hc i hi
  have hrl := hw i hi
  obtain ⟨b', o', e', h3⟩ := hc2 (by omega)
  rw [e', hrl] at hc1
  exact ⟨b', o', hc1, by rw [← he i j hi hj]; exact h3 j (by omega)⟩
theorem GR.of_tab {w : World} {a : Option Addr} {n : Nat} {f : Nat → Nat → Int} (h : MatR w a (tabF n n f)) (h1 : 1 ≤ n) : GR w a n f :=
  GR.of_mat h (tabF_length _ _ _) h1 (fun _ hr => tabF_len _ _ _ _ hr) (fun i j hi hj => tabF_at _ _ _ i j hi hj)

/-- Rows and numbers made so far. -/
def condR (f : Nat → Nat → Int) (i j : Nat) : List Int := (List.range j).map fun k => f i k
theorem condR_succ (f : Nat → Nat → Int) (i j : Nat) : condR f i (j + 1) = condR f i j ++ [f i j] := by simp [condR, List.range_succ]
theorem condR_length (f : Nat → Nat → Int) (i j : Nat) : (condR f i j).length = j := by simp [condR]
def condT (f : Nat → Nat → Int) (m r : Nat) : List (List Int) := (List.range r).map fun i => condR f i m
theorem condT_succ (f : Nat → Nat → Int) (m r : Nat) : condT f m (r + 1) = condT f m r ++ [condR f r m] := by simp [condT, List.range_succ]
theorem condT_length (f : Nat → Nat → Int) (m r : Nat) : (condT f m r).length = r := by simp [condT]
theorem condT_all (f : Nat → Nat → Int) (m : Nat) : condT f m m = tabF m m f := rfl

end Go.Proofs.Ytikjeaoapeaabaa
