/- A drawn table: how it is read, and how one of its cells or rows is replaced. -/
import Derived.Test.YtdbomnhlgaohaaaTable
namespace Go.Proofs.Ytdbomnhlgaohaaa
open Go.RowKit Go.Deep

theorem BD.inT {B : Nat} {w : World} {v : Value} {l : List (List Int)} {A : Nat → Option Addr} {C : Nat → Nat} (h : BD B w v l A C) : ∃ a cap, v = .slice a l.length cap ∧ InT B w.heap.size w a l := by
  by_cases h0 : 0 < l.length
  · obtain ⟨b, cap, cur, e, hb, hg, hc⟩ := h.top h0
    refine ⟨_, cap, e, fun _ => ⟨b, 0, A, fun r => ((A r).getD default).block, fun _ => 0, C, rfl, ⟨hb, (Array.getElem?_eq_some_iff.1 hg).1⟩, fun r hr => ⟨?_, fun h1 => ?_⟩⟩⟩
    · rw [Nat.zero_add]; simp [World.cell?, hg, hc r hr]
    · obtain ⟨g, e, hB, hw⟩ := h.row hr
      have e' : ((A r).getD default).block = g := by rw [e]; rfl
      dsimp only
      rw [e']
      exact ⟨e, ⟨hB, hw.lt⟩, fun i hi => by rw [Nat.zero_add]; exact hw.cell hi⟩
  · rcases h.own.2 with ⟨hv, hn⟩ | ⟨g, cap, cur, e, _⟩
    · exact ⟨none, 0, by rw [hv, hn], fun h => absurd h h0⟩
    · exact ⟨_, cap, e, fun h => absurd h h0⟩

theorem BD.row_ne {B : Nat} {w : World} {l : List (List Int)} {A : Nat → Option Addr} {C : Nat → Nat} {b cap n : Nat} (h : BD B w (.slice (some ⟨b, 0, none⟩) n cap) l A C) {g : Nat} {x : List Int} (hw : RowB w g x) : g ≠ b := by
  rintro rfl
  obtain ⟨cs, hc, _⟩ := hw
  rcases h.own.2 with ⟨e, _⟩ | ⟨g', cap', cur, e, _, hgg, _⟩
  · cases e
  · injection e with e
    injection e with e
    injection e with e
    rw [← e, hc] at hgg
    injection hgg with hgg
    injection hgg with _ e2 _
    exact absurd e2 (by decide)

theorem BD.addr_ne {B : Nat} {w : World} {v : Value} {l : List (List Int)} {A : Nat → Option Addr} {C : Nat → Nat} (h : BD B w v l A C) {r j g g' : Nat} (hr : r < l.length) (hj : j < l.length) (hA : A r = some ⟨g, 0, none⟩) (hA' : A j = some ⟨g', 0, none⟩) (hne : j ≠ r) : g' ≠ g := by
  rintro rfl
  exact hne (h.apart j r hj hr (by rw [hA, hA']))

theorem BD.cellTop {B : Nat} {w : World} {l : List (List Int)} {A : Nat → Option Addr} {C : Nat → Nat} {b cap n : Nat} (h : BD B w (.slice (some ⟨b, 0, none⟩) n cap) l A C) {r : Nat} (hr : r < l.length) :
    w.cell? ⟨b, r, none⟩ = some (.slice (A r) (l.getD r []).length (C r)) ∧ w.frozen? ⟨b, r, none⟩ = false ∧ b < w.heap.size := by
  obtain ⟨b', cp', cur, hv, _, hcur, hc⟩ := h.top (by omega)
  injection hv with hv _ _
  injection hv with hv
  injection hv with hv
  subst hv
  exact ⟨by simp [World.cell?, hcur, hc r hr], by simp [World.frozen?, hcur], (Array.getElem?_eq_some_iff.1 hcur).1⟩

/-- A row is replaced. -/
theorem BD.setRow {B : Nat} {w w5 : World} {l : List (List Int)} {A : Nat → Option Addr} {C : Nat → Nat} {b cap n : Nat} (h : BD B w (.slice (some ⟨b, 0, none⟩) n cap) l A C) {r g : Nat} (hr : r < l.length) (hA : A r = some ⟨g, 0, none⟩) (hg : w.grownBy w5 (some g)) {g2 cp k : Nat} {y : List Int}
    (hy : RW B w5 (.slice (some ⟨g2, 0, none⟩) k cp) y) (hk : y.length = k) (h0 : 0 < k) : InT B w5.heap.size (w5.setCell ⟨b, r, none⟩ (.slice (some ⟨g2, 0, none⟩) k cp)) (some ⟨b, 0, none⟩) (l.set r y) := by
  subst hk
  obtain ⟨b', cap', cur, e, hb, hcur, hc⟩ := h.top (by omega)
  injection e with e en _
  injection e with e
  injection e with e
  subst e
  obtain ⟨g', hA', hBg, hrb⟩ := h.row hr
  rw [hA] at hA'
  injection hA' with hA'
  injection hA' with hA'
  subst hA'
  have hgb := h.row_ne hrb
  have hbl : b < w.heap.size := (Array.getElem?_eq_some_iff.1 hcur).1
  have hcur5 : w5.heap[b]? = some (.cells cur 23 (0, 0)) := (hg.block b hbl (fun e => by injection e with e; omega)).trans hcur
  obtain ⟨hB2, hrb2⟩ := hy.rowB h0
  have hg2b : g2 ≠ b := by
    rintro rfl
    obtain ⟨cs, h1, _⟩ := hrb2
    rw [h1] at hcur5
    injection hcur5 with h2
    injection h2 with _ h2 _
    exact absurd h2 (by decide)
  have hbl5 : b < w5.heap.size := (Array.getElem?_eq_some_iff.1 hcur5).1
  intro _
  refine ⟨b, 0, fun j => if j = r then some ⟨g2, 0, none⟩ else A j, fun j => if j = r then g2 else ((A j).getD default).block, fun _ => 0, fun j => if j = r then cp else C j, rfl, ⟨hb, hbl5⟩, fun j hj => ?_⟩
  rw [List.length_set] at hj
  show (w5.setCell ⟨b, r, none⟩ _).cell? ⟨b, 0 + j, none⟩ = _ ∧ _
  rw [Nat.zero_add]
  by_cases ej : j = r
  · subst ej
    have e1 : (l.set j y).getD j [] = y := by simp [List.getD, hj]
    rw [e1]
    simp only [↓reduceIte]
    refine ⟨World.cell?_setCell_same' _ _ _ (by simp [World.cell?, hcur5, hc j hj]), fun _ => ⟨trivial, ⟨hB2, hrb2.lt⟩, fun i hi => ?_⟩⟩
    rw [Nat.zero_add]
    exact cell_set_far (hrb2.cell hi) hg2b
  · have e1 : (l.set r y).getD j [] = l.getD j [] := by simp [List.getD, List.getElem?_set_ne (Ne.symm ej)]
    rw [e1]
    simp only [if_neg ej]
    obtain ⟨gj, hAj, hBj, hrbj⟩ := h.row hj
    have hgj := h.addr_ne hr hj hA hAj ej
    have hrb5 : RowB w5 gj (l.getD j []) := hrbj.of_block (hg.block gj hrbj.lt (fun e => by injection e with e; omega))
    have hgjb := h.row_ne hrbj
    refine ⟨?_, fun _ => ?_⟩
    · rw [World.cell?_setCell_other _ _ _ _ (fun e => ej (by injection e with _ e; exact e.symm))]
      simp [World.cell?, hcur5, hc j hj]
    · have e' : ((A j).getD default).block = gj := by rw [hAj]; rfl
      rw [e']
      exact ⟨hAj, ⟨hBj, hrb5.lt⟩, fun i hi => by rw [Nat.zero_add]; exact cell_set_far (hrb5.cell hi) hgjb⟩

/-- A number is replaced. -/
theorem BD.setNum {B : Nat} {w : World} {l : List (List Int)} {A : Nat → Option Addr} {C : Nat → Nat} {b cap n : Nat} (h : BD B w (.slice (some ⟨b, 0, none⟩) n cap) l A C) {r g k : Nat} (hr : r < l.length) (hA : A r = some ⟨g, 0, none⟩) (hk : k < (l.getD r []).length) (z : Int) :
    InT B w.heap.size (w.setCell ⟨g, k, none⟩ (.int .i64 z)) (some ⟨b, 0, none⟩) (l.set r ((l.getD r []).set k z)) := by
  obtain ⟨b', cap', cur, e, hb, hcur, hc⟩ := h.top (by omega)
  injection e with e en _
  injection e with e
  injection e with e
  subst e
  obtain ⟨g', hA', hBg, hrb⟩ := h.row hr
  rw [hA] at hA'
  injection hA' with hA'
  injection hA' with hA'
  subst hA'
  have hgb := h.row_ne hrb
  intro _
  refine ⟨b, 0, A, fun j => ((A j).getD default).block, fun _ => 0, C, rfl, ⟨hb, (Array.getElem?_eq_some_iff.1 hcur).1⟩, fun j hj => ?_⟩
  rw [List.length_set] at hj
  show (w.setCell ⟨g, k, none⟩ _).cell? ⟨b, 0 + j, none⟩ = _ ∧ _
  rw [Nat.zero_add]
  have hlen : ((l.set r ((l.getD r []).set k z)).getD j []).length = (l.getD j []).length := by
    by_cases ej : j = r
    · subst ej; simp [List.getD, hj]
    · simp [List.getD, List.getElem?_set_ne (Ne.symm ej)]
  rw [hlen]
  refine ⟨cell_set_far (by simp [World.cell?, hcur, hc j hj]) (Ne.symm hgb), fun _ => ?_⟩
  obtain ⟨gj, hAj, hBj, hrbj⟩ := h.row hj
  have e' : ((A j).getD default).block = gj := by rw [hAj]; rfl
  dsimp only
  rw [e']
  refine ⟨hAj, ⟨hBj, hrbj.lt⟩, fun i hi => ?_⟩
  rw [Nat.zero_add]
  by_cases ej : j = r
  · subst ej
    rw [hA] at hAj
    injection hAj with hAj
    injection hAj with hAj
    subst hAj
    have e1 : (l.set j ((l.getD j []).set k z)).getD j [] = (l.getD j []).set k z := by simp [List.getD, hj]
    rw [e1]
    by_cases ei : i = k
    · subst ei
      rw [World.cell?_setCell_same' _ _ _ (by rw [hrbj.cell hi]; rfl)]
      simp [List.getD] at hi ⊢
      simp [hi]
    · rw [World.cell?_setCell_other _ _ _ _ (fun e => ei (by injection e with _ e; exact e.symm)), hrbj.cell hi]
      simp [List.getD, List.getElem?_set_ne (Ne.symm ei)]
  · have hgj := h.addr_ne hr hj hA hAj ej
    have e1 : (l.set r ((l.getD r []).set k z)).getD j [] = l.getD j [] := by simp [List.getD, List.getElem?_set_ne (Ne.symm ej)]
    rw [e1]
    exact cell_set_far (hrbj.cell hi) hgj

/-- What the reader does leaves a drawn table. -/
theorem InT.kept {lo hi : Nat} {w w' : World} {a : Option Addr} {l : List (List Int)} {G : Nat} (h : InT lo hi w a l) (hg : w.grownBy w' (some G)) (hG : G < lo) : InT lo hi w' a l :=
  h.frame (lo' := G) (hi' := G + 1) ⟨hg.os, hg.tape, hg.output, hg.size, fun k hk ho => hg.block k hk (fun e => by injection e with e; omega)⟩ (.inr (by omega))

end Go.Proofs.Ytdbomnhlgaohaaa
