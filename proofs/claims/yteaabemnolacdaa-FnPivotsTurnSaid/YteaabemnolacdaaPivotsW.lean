/- Rows that are taken off each other in place: what spec.l2Pivots knows of its copy. -/
import Derived.Test.YteaabemnolacdaaPivotsI
import Derived.Test.YteaabemnolacdaaCopy
namespace Go.Proofs.Yteaabemnolacdaa
open Go.RowKit Go.Deep

/-- The rows from k on, and their numbers from column k on. -/
structure PR (w wr : World) (b n k : Nat) (G C : Nat → Nat) (T : Nat → Nat → Int) : Prop where
  since : w.Since w.heap.size wr
  base : w.heap.size ≤ b
  top : ∀ r, r < n → wr.cell? ⟨b, r, none⟩ = some (.slice (some ⟨G r, 0, none⟩) n (C r)) ∧ wr.frozen? ⟨b, r, none⟩ = false
  ne : ∀ r, r < n → G r ≠ b
  rows : ∀ r j, k ≤ r → r < n → k ≤ j → j < n → wr.cell? ⟨G r, j, none⟩ = some (.int .i64 (T r j))
theorem PR.start {w w1 : World} {a : Option Addr} {n : Nat} {l : List (List Int)} (h : OwnT w.heap.size w1.heap.size w1 a l) (hf : FreeTop w1 a n) (hs : w.Since w.heap.size w1) (hn : l.length = n) (h1 : 1 ≤ n) (hw : ∀ r, r < n → (l.getD r []).length = n) :
    ∃ b G C, a = some ⟨b, 0, none⟩ ∧ PR w w1 b n 0 G C (at2 l) := by
  obtain ⟨b, A, G, C, e, hb, hr, _⟩ := h (by omega)
  refine ⟨b, G, C, e, hs, hb.1, fun r hrn => ?_, fun r hrn => ?_, fun r j _ hrn _ hj => ?_⟩
  · obtain ⟨c1, c2⟩ := hr r (by omega)
    rw [hw r hrn] at c1 c2
    rw [(c2 (by omega)).1] at c1
    exact ⟨c1, hf b r e hrn⟩
  · obtain ⟨_, c2⟩ := hr r (by omega)
    rw [hw r hrn] at c2
    exact (c2 (by omega)).2.1.2.2
  · obtain ⟨_, c2⟩ := hr r (by omega)
    rw [hw r hrn] at c2
    exact ((c2 (by omega)).2.2 j hj).1
theorem PR.swap {w wr : World} {b n k p : Nat} {G C : Nat → Nat} {T : Nat → Nat → Int} (h : PR w wr b n k G C T) (hp : p < n) (hkp : k < p) :
    PR w ((wr.setCell ⟨b, p, none⟩ (.slice (some ⟨G k, 0, none⟩) n (C k))).setCell ⟨b, k, none⟩ (.slice (some ⟨G p, 0, none⟩) n (C p))) b n k (fun r => G (ex k p r)) (fun r => C (ex k p r)) (fun r j => T (ex k p r) j) := by
  have hk : k < n := by omega
  refine ⟨(h.since.setCell h.base _).setCell h.base _, h.base, fun r hr => ⟨?_, ?_⟩, fun r hr => h.ne _ (ex_bd hk hp hr), fun r j h1 h2 h3 h4 => ?_⟩
  · by_cases e1 : r = k
    · subst e1
      rw [show ex r p r = p by unfold ex; rw [if_pos rfl]]
      exact World.cell?_setCell_same' _ _ _ (by rw [World.cell?_setCell_other _ _ _ _ (fun e => by injection e; omega), (h.top r hr).1]; rfl)
    · rw [World.cell?_setCell_other _ _ _ _ (fun e => by injection e; omega)]
      by_cases e2 : r = p
      · subst e2
        rw [show ex k r r = k by unfold ex; rw [if_neg e1, if_pos rfl]]
        exact World.cell?_setCell_same' _ _ _ (by rw [(h.top r hr).1]; rfl)
      · rw [World.cell?_setCell_other _ _ _ _ (fun e => by injection e; omega), show ex k p r = r by unfold ex; rw [if_neg e1, if_neg e2]]
        exact (h.top r hr).1
  · rw [World.frozen?_setCell, World.frozen?_setCell]; exact (h.top r hr).2
  · have hx := ex_bd hk hp h2
    have hne := h.ne _ hx
    rw [World.cell?_setCell_other _ _ _ _ (fun e => by injection e; omega), World.cell?_setCell_other _ _ _ _ (fun e => by injection e; omega)]
    refine h.rows _ j ?_ hx h3 h4
    unfold ex; repeat (first | split | omega)

/-- .. while rows behind row k are made anew, as far as row i. -/
structure PRI (w wr : World) (b n k i : Nat) (G C : Nat → Nat) (T X : Nat → Nat → Int) : Prop where
  since : w.Since w.heap.size wr
  base : w.heap.size ≤ b
  top : ∀ r, r < n → wr.cell? ⟨b, r, none⟩ = some (.slice (some ⟨G r, 0, none⟩) n (C r)) ∧ wr.frozen? ⟨b, r, none⟩ = false
  ne : ∀ r, r < n → G r ≠ b
  piv : ∀ j, k ≤ j → j < n → wr.cell? ⟨G k, j, none⟩ = some (.int .i64 (T k j))
  old : ∀ r j, i ≤ r → r < n → k ≤ j → j < n → wr.cell? ⟨G r, j, none⟩ = some (.int .i64 (T r j))
  new : ∀ r j, k + 1 ≤ r → r < i → k + 1 ≤ j → j < n → wr.cell? ⟨G r, j, none⟩ = some (.int .i64 (X r j))
theorem PRI.start {w wr : World} {b n k : Nat} {G C : Nat → Nat} {T : Nat → Nat → Int} (X : Nat → Nat → Int) (h : PR w wr b n k G C T) (hk : k < n) : PRI w wr b n k (k + 1) G C T X :=
  ⟨h.since, h.base, h.top, h.ne, fun j h1 h2 => h.rows k j (Nat.le_refl _) hk h1 h2, fun r j h1 h2 h3 h4 => h.rows r j (by omega) h2 h3 h4, fun r j h1 h2 => by omega⟩
theorem PRI.done {w wr : World} {b n k : Nat} {G C : Nat → Nat} {T X : Nat → Nat → Int} (h : PRI w wr b n k n G C T X) : PR w wr b n (k + 1) G C X :=
  ⟨h.since, h.base, h.top, h.ne, fun r j h1 h2 h3 h4 => h.new r j h1 h2 h3 h4⟩
/-- The row being made. -/
structure JR (wi wj : World) (n k c : Nat) (x : Nat → Int) : Prop where
  since : wi.Since wi.heap.size wj
  row : wj.rowIs wi.heap.size 3 n (fun y => if k + 1 ≤ y ∧ y < c then .int .i64 (x y) else .int .i64 0)
theorem JR.start (wi : World) (n k : Nat) (x : Nat → Int) : JR wi (wi.alloc (.cells (madeCells #[.int .i64 0] n) 3)) n k (k + 1) x :=
  ⟨(World.Since.refl _ _).alloc (Nat.le_refl _) _, (World.rowIs_made wi (.int .i64 0) n 3).congr fun y _ => by rw [if_neg (by omega)]⟩
theorem JR.step {wi wj : World} {n k c : Nat} {x : Nat → Int} (h : JR wi wj n k c x) (hc : k + 1 ≤ c) : JR wi (wj.setCell ⟨wi.heap.size, c, none⟩ (.int .i64 (x c))) n k (c + 1) x :=
  ⟨h.since.setCell (Nat.le_refl _) _, (h.row.set c _).congr fun y _ => by
    by_cases e : y = c
    · subst e; rw [if_pos rfl, if_pos (by omega)]
    · rw [if_neg e]
      by_cases h1 : k + 1 ≤ y ∧ y < c
      · rw [if_pos h1, if_pos (by omega)]
      · rw [if_neg h1, if_neg (by omega)]⟩
theorem JR.drew {wi wj : World} {n k c : Nat} {x : Nat → Int} (h : JR wi wj n k c x) : JR wi wj.drew n k c x := ⟨h.since.drew, h.row⟩
theorem PRI.step {w wi wj : World} {b n k i : Nat} {G C : Nat → Nat} {T X : Nat → Nat → Int} (h : PRI w wi b n k i G C T X) (hj : JR wi wj n k n (X i)) (hi : i < n) (hki : k < i) :
    PRI w (wj.setCell ⟨b, i, none⟩ (.slice (some ⟨wi.heap.size, 0, none⟩) n n)) b n k (i + 1) (fun r => if r = i then wi.heap.size else G r) (fun r => if r = i then n else C r) T X := by
  have hbl : b < wi.heap.size := World.block_lt_of_cell? _ _ (h.top i hi).1
  have hcell : ∀ (g x : Nat) (v : Value), g ≠ b → wi.cell? ⟨g, x, none⟩ = some v → (wj.setCell ⟨b, i, none⟩ (.slice (some ⟨wi.heap.size, 0, none⟩) n n)).cell? ⟨g, x, none⟩ = some v := fun g x v hg hv => by
    rw [World.cell?_setCell_other _ _ _ _ (fun e => by injection e; omega)]
    exact (hj.since.cell (a := ⟨g, x, none⟩) (World.block_lt_of_cell? _ _ hv)).trans hv
  refine ⟨(h.since.trans (since_mono hj.since h.since.size)).setCell h.base _, h.base, fun r hr => ⟨?_, ?_⟩, fun r hr => ?_, fun j h1 h2 => ?_, fun r j h1 h2 h3 h4 => ?_, fun r j h1 h2 h3 h4 => ?_⟩
  · by_cases e : r = i
    · subst e
      rw [if_pos rfl, if_pos rfl]
      exact World.cell?_setCell_same' _ _ _ (by rw [(hj.since.cell (a := ⟨b, r, none⟩) hbl), (h.top r hr).1]; rfl)
    · rw [if_neg e, if_neg e, World.cell?_setCell_other _ _ _ _ (fun e => by injection e; omega)]
      exact (hj.since.cell (a := ⟨b, r, none⟩) hbl).trans (h.top r hr).1
  · rw [World.frozen?_setCell]
    exact (World.frozen?_of_block (a := ⟨b, r, none⟩) (hj.since.block b hbl)).trans (h.top r hr).2
  · by_cases e : r = i
    · rw [if_pos e]; omega
    · rw [if_neg e]; exact h.ne r hr
  · rw [if_neg (by omega)]
    exact hcell _ _ _ (h.ne k (by omega)) (h.piv j h1 h2)
  · rw [if_neg (by omega)]
    exact hcell _ _ _ (h.ne r h2) (h.old r j (by omega) h2 h3 h4)
  · by_cases e : r = i
    · subst e
      rw [if_pos rfl, World.cell?_setCell_other _ _ _ _ (fun e => by injection e; omega)]
      have := hj.row.cell (i := j) h4
      rw [if_pos (by omega)] at this
      exact this
    · rw [if_neg e]
      exact hcell _ _ _ (h.ne r (by omega)) (h.new r j h1 (by omega) h3 h4)

/-- A column with a number that is not 0, in place: what it leads to. -/
theorem Bar.go {N : Nat} {A : Nat → Nat → Int} {k p : Nat} {T : Nat → Nat → Int} {q s : Int} {F : Nat → Nat → Int} (h : Bar N A k (fun i j => T (k + i) (k + j)) q s F) (hN : N ≤ 6) (hA : ∀ i j, i < N → j < N → -30 ≤ A i j ∧ A i j ≤ 30) (hkp : k ≤ p) (hp : p < N) (h0 : T p k ≠ 0) :
    ∃ (X : Nat → Nat → Int) (F2 : Nat → Nat → Int), (∀ i j, k + 1 ≤ i → i < N → k + 1 ≤ j → j < N → T (ex k p i) j * T p k - T p j * T (ex k p i) k = q * X i j ∧ -4611686018427387904 ≤ X i j ∧ X i j ≤ 4611686018427387904) ∧
      (k + 2 ≤ N → ∀ i j, k ≤ i → i < N → k ≤ j → j < N → -1944000000 ≤ T i j ∧ T i j ≤ 1944000000) ∧ Bar N A (k + 1) (fun i j => X (k + 1 + i) (k + 1 + j)) (T p k) (if p = k then s else -s) F2 := by
  obtain ⟨a, rfl⟩ : ∃ a, p = k + a := ⟨p - k, by omega⟩
  have hex : ∀ i, ex k (k + a) (k + i) = k + ex 0 a i := fun i => by unfold ex; repeat (first | split | omega)
  obtain ⟨F2, hB2⟩ : ∃ F2, Bar N A k (fun i j => T (k + ex 0 a i) (k + j)) q (if k + a = k then s else -s) F2 := by
    by_cases ha : a = 0
    · subst ha
      rw [if_pos (by omega)]
      exact ⟨F, h.congr fun i j _ _ => by rw [ex_self]⟩
    · rw [if_neg (by omega)]
      exact ⟨_, h.swap (a := a) (by omega) ha fun i j _ _ => rfl⟩
  have e00 : T (k + ex 0 a 0) (k + 0) = T (k + a) k := by rw [show ex 0 a 0 = a by unfold ex; rw [if_pos rfl], Nat.add_zero]
  obtain ⟨Y, hY⟩ : ∃ Y : Nat → Nat → Int, Y = fun i j => Int.tdiv (chio (fun i j => T (k + ex 0 a i) (k + j)) i j) q := ⟨_, rfl⟩
  have hq : ∀ i j, i + 1 < N - k → j + 1 < N - k → chio (fun i j => T (k + ex 0 a i) (k + j)) i j = q * Y i j := fun i j h1 h2 => by
    obtain ⟨x, hx⟩ := hB2.exact (i := i) (j := j) h1 h2
    rw [hY]
    show _ = q * Int.tdiv _ q
    rw [hx, Int.mul_tdiv_cancel_left _ hB2.ne]
  have hB3 := hB2.step (u := Y) (by omega) (by rw [e00]; exact h0) hq
  rw [e00] at hB3
  refine ⟨fun i j => Y (i - (k + 1)) (j - (k + 1)), F2, fun i j h1 h2 h3 h4 => ⟨?_, ?_⟩, fun h2 i j h3 h4 h5 h6 => ?_, ?_⟩
  · rw [← hq (i - (k + 1)) (j - (k + 1)) (by omega) (by omega)]
    show _ = T (k + ex 0 a (i - (k + 1) + 1)) (k + (j - (k + 1) + 1)) * T (k + ex 0 a 0) (k + 0) - T (k + ex 0 a 0) (k + (j - (k + 1) + 1)) * T (k + ex 0 a (i - (k + 1) + 1)) (k + 0)
    rw [show i - (k + 1) + 1 = i - k by omega, show j - (k + 1) + 1 = j - k by omega, show k + (j - k) = j by omega, ← hex (i - k), show k + (i - k) = i by omega]
    rw [show ex 0 a 0 = a by unfold ex; rw [if_pos rfl], Nat.add_zero]
  · have e := hB3.bd hN hA (i := i - (k + 1)) (j := j - (k + 1)) (by omega) (by omega)
    have : bdN (k + 1 + 1) ≤ 349920000000 := by
      have h : k = 0 ∨ k = 1 ∨ k = 2 ∨ k = 3 ∨ k = 4 := by omega
      rcases h with h | h | h | h | h <;> (subst h; decide)
    show -4611686018427387904 ≤ Y (i - (k + 1)) (j - (k + 1)) ∧ Y (i - (k + 1)) (j - (k + 1)) ≤ 4611686018427387904
    omega
  · have e := h.bd hN hA (i := i - k) (j := j - k) (by omega) (by omega)
    have := bdN_le (n := k + 1) (by omega)
    simp only [show k + (i - k) = i by omega, show k + (j - k) = j by omega] at e
    omega
  · exact hB3.congr fun i j _ _ => by show Y (k + 1 + i - (k + 1)) (k + 1 + j - (k + 1)) = _; rw [show k + 1 + i - (k + 1) = i by omega, show k + 1 + j - (k + 1) = j by omega]

end Go.Proofs.Yteaabemnolacdaa
