/- The contracts of impl.chosen and of the method part. -/
import Derived.Test.YtdodchmelepkeaaLSum
import Derived.Test.YtdodchmelepkeaaPartPure
namespace Go.Proofs.Ytdodchmelepkeaa
open Go.RowKit Go.Deep Go.Shelf
attribute [local go_sem] Oper.semAt_some

/-- Rows of one width, as many as in a table, of any numbers. -/
structure Rec (l : List (List Int)) : Prop where
  low : 1 ≤ l.length
  high : l.length ≤ 6
  width : 1 ≤ (l.getD 0 []).length ∧ (l.getD 0 []).length ≤ 6
  row : ∀ {r : Nat}, r < l.length → (l.getD r []).length = (l.getD 0 []).length
/-- .. and one row and one column more. -/
structure Rec7 (l : List (List Int)) : Prop where
  low : 1 ≤ l.length
  high : l.length ≤ 7
  width : 1 ≤ (l.getD 0 []).length ∧ (l.getD 0 []).length ≤ 7
  row : ∀ {r : Nat}, r < l.length → (l.getD r []).length = (l.getD 0 []).length
theorem Rec.rec7 {l : List (List Int)} (h : Rec l) : Rec7 l := ⟨h.low, by have := h.high; omega, by have := h.width; omega, fun hr => h.row hr⟩
theorem TabIn.rec {l : List (List Int)} (h : TabIn l) : Rec l := ⟨h.1, h.2.1, h.width, fun hr => h.row hr⟩

/-- Wb is W0 but for block g. -/
structure Tnd (W0 Wb : World) (g : Nat) : Prop where
  os : Wb.os = W0.os
  tape : Wb.tape = W0.tape
  output : Wb.output = W0.output
  size : Wb.heap.size = W0.heap.size
  block : ∀ b, b < W0.heap.size → b ≠ g → Wb.heap[b]? = W0.heap[b]?
theorem Tnd.refl (W0 : World) (g : Nat) : Tnd W0 W0 g := ⟨rfl, rfl, rfl, rfl, fun _ _ _ => rfl⟩
theorem Tnd.set {W0 Wb : World} {g : Nat} (h : Tnd W0 Wb g) (u : Value) : Tnd W0 (Wb.setCell ⟨g, 0, none⟩ u) g :=
  ⟨h.os, h.tape, h.output, (World.size_setCell _ _ _).trans h.size, fun b hb hn => (Below.heap_setCell _ _ _ _ hn).trans (h.block b hb hn)⟩

theorem BT.turn {w W W' : World} {v : Value} {l : List (List Int)} {A : Nat → Option Addr} {C : Nat → Nat} {row : Option Nat} (h : BT w W v l A C) (hg : W.grownBy W' row) (hr : ∀ r, row = some r → w.heap.size ≤ r ∧ ∃ o : Obj, W.heap[r]? = some o ∧ o.isCells = false) : BT w W' v l A C := by
  have hne : ∀ G cs t z, W.heap[G]? = some (.cells cs t z) → some G ≠ row := fun G cs t z h1 e => by
    obtain ⟨_, o, h2, h3⟩ := hr G e.symm
    rw [h1] at h2
    injection h2 with h2
    rw [← h2] at h3
    cases h3
  refine ⟨h.since.grown hg h.since.size (fun k e => (hr k e).1), ?_, fun r hr h0 => ?_, h.apart⟩
  · refine h.own.kept hg ?_
    rcases h.own.2 with ⟨hv, _⟩ | ⟨g, cap, cur, hv, _, hgg, _⟩
    · exact .inl (by rw [hv]; rfl)
    · exact .inr (by rw [hv]; exact hne _ _ _ _ hgg)
  · obtain ⟨G, e, h1, h2⟩ := h.rows r hr h0
    have hB := h2
    obtain ⟨cs, h3, _⟩ := h2
    exact ⟨G, e, h1, hB.of_block (hg.block G hB.lt (hne _ _ _ _ h3))⟩

theorem BT.setBelow {w W : World} {v : Value} {l : List (List Int)} {A : Nat → Option Addr} {C : Nat → Nat} {g : Nat} (h : BT w W v l A C) (hg : g < w.heap.size) (u : Value) : BT (w.setCell ⟨g, 0, none⟩ u) (W.setCell ⟨g, 0, none⟩ u) v l A C := by
  refine ⟨⟨h.since.os, h.since.tape, h.since.output, by simpa using h.since.size, fun k hk => ?_⟩, ?_, fun r hr h0 => ?_, h.apart⟩
  · have hk' : k < w.heap.size := by simpa using hk
    simp [World.setCell, Array.getElem?_modify, h.since.block k hk']
  · rw [World.size_setCell]
    refine h.own.kept (row := some g) ⟨rfl, rfl, rfl, by simp, fun k hk hne => Below.heap_setCell _ _ _ _ (fun e => hne (by rw [e]))⟩ ?_
    cases hv : v.ownBlock with
    | none => exact .inl rfl
    | some k => exact .inr (fun e => by injection e with e; have := (h.own.lt k hv).1; omega)
  · obtain ⟨G, e, h1, h2⟩ := h.rows r hr h0
    exact ⟨G, e, by simpa using h1, h2.of_block (Below.heap_setCell _ _ _ _ (by show G ≠ g; omega))⟩

/-- What is known in each round. -/
def PI (W0 : World) (g : Nat) (L : List (List Int)) (W : World) : Prop :=
  ∃ Wb v A C, Tnd W0 Wb g ∧ Wb.heap[g]? = some (.cells #[v] 61 (0, 0)) ∧ BT Wb W v L A C
theorem PI.kp {W0 : World} {g : Nat} {L : List (List Int)} {W : World} (h : PI W0 g L W) : W0.heap.size ≤ W.heap.size ∧ ∀ b, b ≠ g → b < W0.heap.size → W.heap[b]? = W0.heap[b]? := by
  obtain ⟨Wb, v, A, C, hT, _, hB⟩ := h
  have h1 := hT.size
  exact ⟨by have := hB.since.size; omega, fun b hb hlt => (hB.since.block b (by omega)).trans (hT.block b hlt hb)⟩
theorem PI.own (W0 : World) (g : Nat) {n : Nat} (f : List {i : Nat // i < n} → List (List Int)) : OwnFrom W0.heap.size (fun (pre : List {i : Nat // i < n}) W => PI W0 g (f pre) W) := by
  rintro s A B row ⟨Wb, v, A', C', hT, hb, hB⟩ hg hr
  exact ⟨Wb, v, A', C', hT, hb, hB.turn hg (fun r e => by rw [hT.size]; exact hr r e)⟩
theorem PI.since {w W0 W : World} {g : Nat} {L : List (List Int)} (h : PI W0 g L W) (hB : Below w.heap.size w W0) (hg : w.heap.size ≤ g) : w.Since w.heap.size W := by
  obtain ⟨Wb, v, A, C, hT, _, hBT⟩ := h
  have h1 := hT.size
  have h0 := hB.size
  exact ⟨hBT.since.os.trans (hT.os.trans hB.os), hBT.since.tape.trans (hT.tape.trans hB.tape), hBT.since.output.trans (hT.output.trans hB.output), by have := hBT.since.size; omega,
    fun k hk => ((hBT.since.block k (by omega)).trans (hT.block k (by omega) (by omega))).trans (hB.block k hk)⟩

theorem part_box {Wb W w1 w2 : World} {v rv : Value} {t : TypeId} {l : List (List Int)} {A : Nat → Option Addr} {C : Nat → Nat} {g : Nat} {cs : Array Value} {z : Nat × Nat} (h : BT Wb W v l A C) (hs : W.Since W.heap.size w1) (hb : Wb.heap[g]? = some (.cells cs t z)) (hg : g < Wb.heap.size) (hgr : (w1.alloc (.cells #[rv] 65)).grownBy w2 v.ownBlock) :
    w2.heap[g]? = some (.cells cs t z) := by
  have h0 := h.since.size
  have h1 := hs.size
  rw [hgr.block g (by simp; omega) (fun e => by have := (h.own.lt g e.symm).1; omega), Below.heap_alloc _ _ _ (by omega), hs.block g (by omega), h.since.block g hg]
  exact hb

theorem part_keeps {Wb W w1 w2 : World} {v rv : Value} {l : List (List Int)} {A : Nat → Option Addr} {C : Nat → Nat} (h : BT Wb W v l A C) (hs : W.Since W.heap.size w1) (hgr : (w1.alloc (.cells #[rv] 65)).grownBy w2 v.ownBlock) : KeepsOthers W w2 := by
  have h1 := hs.size
  refine ⟨by have := hgr.size; simp at this; omega, fun k o hk ho => ?_⟩
  have hlt := (Array.getElem?_eq_some_iff.1 hk).1
  rw [hgr.block k (by simp; omega) (fun e => ?_), Below.heap_alloc _ _ _ (by omega), hs.block k hlt]
  · exact hk
  · rcases h.own.2 with ⟨rfl, _⟩ | ⟨g, cap, cur, rfl, _, hgg, _⟩
    · cases e
    · injection e with e
      rw [e] at hk
      rw [hgg] at hk
      injection hk with hk
      rw [← hk] at ho
      cases ho

theorem part_next {W0 Wb w2 : World} {v v' : Value} {L : List (List Int)} {A : Nat → Option Addr} {C : Nat → Nat} {g : Nat} (hT : Tnd W0 Wb g) (hb : Wb.heap[g]? = some (.cells #[v] 61 (0, 0))) (h : BT Wb w2 v' L A C) (hg : g < Wb.heap.size) :
    PI W0 g L (w2.setCell ⟨g, 0, none⟩ v') :=
  ⟨_, v', A, C, hT.set v', by simp [World.setCell, Array.getElem?_modify, hb], h.setBelow hg v'⟩

theorem part_world (w : World) (v0 v1 v2 v3 : Value) (t : TypeId) (W0 : World) (h : W0 = (((w.alloc (.cells #[v0] 3)).alloc (.cells #[v1] t)).alloc (.cells #[v2] t)).alloc (.cells #[v3] 3)) :
    W0.heap.size = w.heap.size + 1 + 1 + 1 + 1 ∧ Below w.heap.size w W0 ∧ W0.cell? ⟨w.heap.size, 0, none⟩ = some v0 ∧ W0.heap[w.heap.size + 1]? = some (.cells #[v1] t (0, 0)) ∧
      W0.cell? ⟨w.heap.size + 1 + 1, 0, none⟩ = some v2 ∧ W0.cell? ⟨w.heap.size + 1 + 1 + 1, 0, none⟩ = some v3 := by
  have c0 := cell_new_l w v0 3
  have e1 := World.alloc_heap_new (w.alloc (.cells #[v0] 3)) (.cells #[v1] t)
  have c2 := cell_new_l ((w.alloc (.cells #[v0] 3)).alloc (.cells #[v1] t)) v2 t
  have c3 := cell_new_l (((w.alloc (.cells #[v0] 3)).alloc (.cells #[v1] t)).alloc (.cells #[v2] t)) v3 3
  simp only [World.size_alloc] at e1 c2 c3
  refine ⟨by rw [h]; simp, ?_, ?_, ?_, ?_, ?_⟩
  · rw [h]; exact ((((Below.refl _ w).alloc (Nat.le_refl _) _).alloc (by simp) _).alloc (by simp; omega) _).alloc (by simp; omega) _
  · rw [h]; exact cell_alloc_l _ (cell_alloc_l _ (cell_alloc_l _ c0.1))
  · rw [h]; exact ((Below.heap_alloc _ _ _ (by simp)).trans (Below.heap_alloc _ _ _ (by simp))).trans e1
  · rw [h]; exact cell_alloc_l _ c2.1
  · rw [h]; exact c3.1

end Go.Proofs.Ytdodchmelepkeaa
