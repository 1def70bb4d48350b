/- Marking a table of one's own, and looking whether the marks are held. -/
import Derived.Test.YtpimdgijjljejaaDoorOwn
namespace Go.Proofs.YtpimdgijjljejaaDoor
open Go.RowKit Go.Deep

/-- The first r rows are marked, the others as they were. -/
def mixT (k : Int) (l : List (List Int)) (r : Nat) : List (List Int) := (List.range l.length).map fun i => if i < r then markRow (k + (sumTo l i : Nat)) (l.getD i []).length else l.getD i []
theorem mixT_length (k : Int) (l : List (List Int)) (r : Nat) : (mixT k l r).length = l.length := by simp [mixT]
theorem mixT_get (k : Int) (l : List (List Int)) (r i : Nat) (h : i < l.length) : (mixT k l r).getD i [] = if i < r then markRow (k + (sumTo l i : Nat)) (l.getD i []).length else l.getD i [] := by simp [mixT, List.getD, h]
theorem mixT_len (k : Int) (l : List (List Int)) (r i : Nat) (h : i < l.length) : ((mixT k l r).getD i []).length = (l.getD i []).length := by
  rw [mixT_get k l r i h]; split
  · exact markRow_length _ _
  · rfl
theorem mixT_all (k : Int) (l : List (List Int)) : mixT k l l.length = markT k l := by
  unfold mixT markT
  exact List.map_congr_left fun i hi => by rw [if_pos (List.mem_range.1 hi)]

/-- 'OwnT', its parts named. -/
structure OwnD (lo hi : Nat) (w : World) (b : Nat) (A : Nat → Option Addr) (G C : Nat → Nat) (n : Nat) (L : Nat → Nat) (Z : Nat → Nat → Int) : Prop where
  top : ∀ r, r < n → w.cell? ⟨b, r, none⟩ = some (.slice (A r) (L r) (C r))
  addr : ∀ r, r < n → 0 < L r → A r = some ⟨G r, 0, none⟩
  inside : ∀ r, r < n → 0 < L r → lo ≤ G r ∧ G r < hi ∧ G r ≠ b
  cell : ∀ r, r < n → ∀ i, i < L r → w.cell? ⟨G r, i, none⟩ = some (.int .i64 (Z r i))
  free : ∀ r, r < n → ∀ i, i < L r → w.frozen? ⟨G r, i, none⟩ = false
  apart : ∀ r r', r < n → r' < n → 0 < L r → 0 < L r' → G r = G r' → r = r'

theorem OwnT.parts {lo hi : Nat} {w : World} {a : Option Addr} {l : List (List Int)} (h : OwnT lo hi w a l) (h0 : 0 < l.length) :
    ∃ (b : Nat) (A : Nat → Option Addr) (G C : Nat → Nat), a = some ⟨b, 0, none⟩ ∧ (lo ≤ b ∧ b < hi) ∧ OwnD lo hi w b A G C l.length (fun r => (l.getD r []).length) (fun r i => (l.getD r []).getD i 0) := by
  obtain ⟨b, A, G, C, e, hb, hr, hd⟩ := h h0
  exact ⟨b, A, G, C, e, hb, fun r h1 => (hr r h1).1, fun r h1 h2 => ((hr r h1).2 h2).1, fun r h1 h2 => ((hr r h1).2 h2).2.1, fun r h1 i hi => (((hr r h1).2 (by omega)).2.2 i hi).1, fun r h1 i hi => (((hr r h1).2 (by omega)).2.2 i hi).2, hd⟩

theorem OwnD.ownT {lo hi : Nat} {w : World} {b : Nat} {A : Nat → Option Addr} {G C : Nat → Nat} {n : Nat} {L : Nat → Nat} {Z : Nat → Nat → Int} {l : List (List Int)} (h : OwnD lo hi w b A G C n L Z) (hb : lo ≤ b ∧ b < hi) (hn : l.length = n)
    (hL : ∀ r, r < n → (l.getD r []).length = L r) (hZ : ∀ r, r < n → ∀ i, i < L r → (l.getD r []).getD i 0 = Z r i) : OwnT lo hi w (some ⟨b, 0, none⟩) l := by
  intro _
  subst hn
  refine ⟨b, A, G, C, rfl, hb, fun r hr => ⟨by rw [hL r hr]; exact h.top r hr, fun h0 => ?_⟩, fun r r' h1 h2 h3 h4 e => h.apart r r' h1 h2 (by rw [← hL r h1]; exact h3) (by rw [← hL r' h2]; exact h4) e⟩
  rw [hL r hr] at h0 ⊢
  exact ⟨h.addr r hr h0, h.inside r hr h0, fun i hi => ⟨by rw [hZ r hr i hi]; exact h.cell r hr i hi, h.free r hr i hi⟩⟩

theorem OwnD.mark {lo hi : Nat} {w w' : World} {b : Nat} {A : Nat → Option Addr} {G C : Nat → Nat} {n : Nat} {L : Nat → Nat} {Z : Nat → Nat → Int} (h : OwnD lo hi w b A G C n L Z) {r g : Nat} {k : Int} (hr : r < n)
    (hg : 0 < L r → g = G r) (hg0 : L r = 0 → w.heap.size ≤ g) (hM : Marked g (L r) k (L r) (Z r) w w') : OwnD lo hi w' b A G C n L (fun r' i => if r' = r then k + i else Z r' i) := by
  have hne : ∀ r', r' < n → 0 < L r' → r' ≠ r → G r' ≠ g := by
    intro r' h1 h2 h3 e
    by_cases h4 : 0 < L r
    · exact h3 (h.apart r' r h1 hr h2 h4 (by rw [e, hg h4]))
    · have h5 := World.block_lt_of_cell? _ _ (h.cell r' h1 0 h2)
      have h6 := hg0 (by omega)
      have : G r' < w.heap.size := h5
      omega
  have hbg : b ≠ g := by
    intro e
    have h5 : b < w.heap.size := World.block_lt_of_cell? _ _ (h.top r hr)
    by_cases h4 : 0 < L r
    · exact (h.inside r hr h4).2.2 (by rw [← hg h4, e])
    · have h6 := hg0 (by omega); omega
  refine ⟨fun r' h1 => (World.cell?_of_block (hM.block b hbg)).trans (h.top r' h1), h.addr, h.inside, fun r' h1 i hi => ?_, fun r' h1 i hi => ?_, h.apart⟩
  · by_cases e : r' = r
    · subst e
      rw [if_pos rfl, ← hg (by omega), hM.cell i hi, if_pos hi]
    · rw [if_neg e]
      exact (World.cell?_of_block (hM.block (G r') (hne r' h1 (by omega) e))).trans (h.cell r' h1 i hi)
  · by_cases e : r' = r
    · subst e
      rw [← hg (by omega)]; exact hM.frozen i hi
    · exact (World.frozen?_of_block (hM.block (G r') (hne r' h1 (by omega) e))).trans (h.free r' h1 i hi)

theorem OwnD.congr {lo hi : Nat} {w : World} {b : Nat} {A : Nat → Option Addr} {G C : Nat → Nat} {n : Nat} {L : Nat → Nat} {Z Z' : Nat → Nat → Int} (h : OwnD lo hi w b A G C n L Z) (e : ∀ r, r < n → ∀ i, i < L r → Z r i = Z' r i) : OwnD lo hi w b A G C n L Z' :=
  ⟨h.top, h.addr, h.inside, fun r hr i hi => by rw [h.cell r hr i hi, e r hr i hi], h.free, h.apart⟩

theorem Marked.frame {g m lo hi : Nat} {k : Int} {j : Nat} {f : Nat → Int} {w w' : World} (h : Marked g m k j f w w') (hg : (lo ≤ g ∧ g < hi) ∨ w.heap.size ≤ g) : Frame lo hi w w' :=
  ⟨h.os, h.tape, h.output, by rw [h.size]; exact Nat.le_refl _, fun b hb ho => h.block b (by rintro rfl; omega)⟩

/-- What stands in row r at i when the first q rows are marked. -/
def mixF (k : Int) (l : List (List Int)) (q r i : Nat) : Int := if r < q then k + (sumTo l r : Nat) + i else (l.getD r []).getD i 0

end Go.Proofs.YtpimdgijjljejaaDoor
