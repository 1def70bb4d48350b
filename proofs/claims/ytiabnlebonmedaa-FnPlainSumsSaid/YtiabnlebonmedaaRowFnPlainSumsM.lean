import Derived.Test.YtiabnlebonmedaaTable
import Derived.Test.YtiabnlebonmedaaHarn2
import Derived.Test.YtiabnlebonmedaaPlainF
import Derived.Test.YtiabnlebonmedaaOrders
import Derived.Test.YtiabnlebonmedaaRowsV
import Derived.Test.YtiabnlebonmedaaOrdersC
import Derived.Laws.EntriesVeiled
import Derived.Test.YtiabnlebonmedaaWR
import Derived.Test.YtiabnlebonmedaaRound
import Derived.Test.YtiabnlebonmedaaOrdersI
import Derived.Test.YtiabnlebonmedaaOrdL
import Derived.Test.YtiabnlebonmedaaPartImpl
import Derived.Test.YtiabnlebonmedaaSig
import Derived.Test.YtiabnlebonmedaaSquareV
import Derived.Test.YtiabnlebonmedaaDet
import Derived.Test.YtiabnlebonmedaaRowsF
import Derived.Deep.DeepCutAuto
import Derived.Test.YtiabnlebonmedaaAddImpl
import Derived.Test.YtiabnlebonmedaaAddSpec
import Derived.Test.YtiabnlebonmedaaTimesSpec
import Derived.Test.YtiabnlebonmedaaSumSpec
import Derived.Test.YtiabnlebonmedaaOrdersK
import Derived.Test.YtiabnlebonmedaaRows
import Derived.Test.YtiabnlebonmedaaData
import Derived.ProofKit
import Derived.Deep.Matrix
import Derived.Test.YtiabnlebonmedaaDraw0

section
/- A drawn table: how it is read, and how one of its cells or rows is replaced. -/
namespace Go.Proofs.Ytiabnlebonmedaa
open Go.RowKit Go.Deep

theorem BD.inT {B : Nat} {w : World} {v : Value} {l : List (List Int)} {A : Nat → Option Addr} {C : Nat → Nat} (h : BD B w v l A C) : ∃ a cap, v = .slice a l.length cap ∧ InT B w.heap.size w a l := by
  by_cases h0 : 0 < l.length
  · obtain ⟨b, cap, cur, e, hb, hg, hc⟩ := h.top h0
    refine ⟨_, cap, e, fun _ => ⟨b, 0, A, fun r => ((A r).getD default).block, fun _ => 0, C, rfl, ⟨hb, (Array.getElem?_eq_some_iff.1 hg).1⟩, fun r hr => ⟨?_, fun h1 => ?_⟩⟩⟩
    · rw [Nat.zero_add]; simp [World.cell?, hg, hc r hr]
    · obtain ⟨g, e, hB, hw⟩ := h.row hr
      have e' : ((A r).getD default).block = g := by rw [e]; rfl
      dsimp only
      rw [e']
      exact ⟨e, ⟨hB, hw.lt⟩, fun i hi => by rw [Nat.zero_add]; exact hw.cell hi⟩
  · rcases h.own.2 with ⟨hv, hn⟩ | ⟨g, cap, cur, e, _⟩
    · exact ⟨none, 0, by rw [hv, hn], fun h => absurd h h0⟩
    · exact ⟨_, cap, e, fun h => absurd h h0⟩

theorem BD.row_ne {B : Nat} {w : World} {l : List (List Int)} {A : Nat → Option Addr} {C : Nat → Nat} {b cap n : Nat} (h : BD B w (.slice (some ⟨b, 0, none⟩) n cap) l A C) {g : Nat} {x : List Int} (hw : RowB w g x) : g ≠ b := by
  rintro rfl
  obtain ⟨cs, hc, _⟩ := hw
  rcases h.own.2 with ⟨e, _⟩ | ⟨g', cap', cur, e, _, hgg, _⟩
  · cases e
  · injection e with e
    injection e with e
    injection e with e
    rw [← e, hc] at hgg
    injection hgg with hgg
    injection hgg with _ e2 _
    exact absurd e2 (by decide)

theorem BD.addr_ne {B : Nat} {w : World} {v : Value} {l : List (List Int)} {A : Nat → Option Addr} {C : Nat → Nat} (h : BD B w v l A C) {r j g g' : Nat} (hr : r < l.length) (hj : j < l.length) (hA : A r = some ⟨g, 0, none⟩) (hA' : A j = some ⟨g', 0, none⟩) (hne : j ≠ r) : g' ≠ g := by
  rintro rfl
  exact hne (h.apart j r hj hr (by rw [hA, hA']))

theorem BD.cellTop {B : Nat} {w : World} {l : List (List Int)} {A : Nat → Option Addr} {C : Nat → Nat} {b cap n : Nat} (h : BD B w (.slice (some ⟨b, 0, none⟩) n cap) l A C) {r : Nat} (hr : r < l.length) :
    w.cell? ⟨b, r, none⟩ = some (.slice (A r) (l.getD r []).length (C r)) ∧ w.frozen? ⟨b, r, none⟩ = false ∧ b < w.heap.size := by
  obtain ⟨b', cp', cur, hv, _, hcur, hc⟩ := h.top (by omega)
  injection hv with hv _ _
  injection hv with hv
  injection hv with hv
  subst hv
  exact ⟨by simp [World.cell?, hcur, hc r hr], by simp [World.frozen?, hcur], (Array.getElem?_eq_some_iff.1 hcur).1⟩

/-- A row is replaced. -/
theorem BD.setRow {B : Nat} {w w5 : World} {l : List (List Int)} {A : Nat → Option Addr} {C : Nat → Nat} {b cap n : Nat} (h : BD B w (.slice (some ⟨b, 0, none⟩) n cap) l A C) {r g : Nat} (hr : r < l.length) (hA : A r = some ⟨g, 0, none⟩) (hg : w.grownBy w5 (some g)) {g2 cp k : Nat} {y : List Int}
    (hy : RW B w5 (.slice (some ⟨g2, 0, none⟩) k cp) y) (hk : y.length = k) (h0 : 0 < k) : InT B w5.heap.size (w5.setCell ⟨b, r, none⟩ (.slice (some ⟨g2, 0, none⟩) k cp)) (some ⟨b, 0, none⟩) (l.set r y) := by
  subst hk
  obtain ⟨b', cap', cur, e, hb, hcur, hc⟩ := h.top (by omega)
  injection e with e en _
  injection e with e
  injection e with e
  subst e
  obtain ⟨g', hA', hBg, hrb⟩ := h.row hr
  rw [hA] at hA'
  injection hA' with hA'
  injection hA' with hA'
  subst hA'
  have hgb := h.row_ne hrb
  have hbl : b < w.heap.size := (Array.getElem?_eq_some_iff.1 hcur).1
  have hcur5 : w5.heap[b]? = some (.cells cur 29 (0, 0)) := (hg.block b hbl (fun e => by injection e with e; omega)).trans hcur
  obtain ⟨hB2, hrb2⟩ := hy.rowB h0
  have hg2b : g2 ≠ b := by
    rintro rfl
    obtain ⟨cs, h1, _⟩ := hrb2
    rw [h1] at hcur5
    injection hcur5 with h2
    injection h2 with _ h2 _
    exact absurd h2 (by decide)
  have hbl5 : b < w5.heap.size := (Array.getElem?_eq_some_iff.1 hcur5).1
  intro _
  refine ⟨b, 0, fun j => if j = r then some ⟨g2, 0, none⟩ else A j, fun j => if j = r then g2 else ((A j).getD default).block, fun _ => 0, fun j => if j = r then cp else C j, rfl, ⟨hb, hbl5⟩, fun j hj => ?_⟩
  rw [List.length_set] at hj
  show (w5.setCell ⟨b, r, none⟩ _).cell? ⟨b, 0 + j, none⟩ = _ ∧ _
  rw [Nat.zero_add]
  by_cases ej : j = r
  · subst ej
    have e1 : (l.set j y).getD j [] = y := by simp [List.getD, hj]
    rw [e1]
    simp only [↓reduceIte]
    refine ⟨World.cell?_setCell_same' _ _ _ (by simp [World.cell?, hcur5, hc j hj]), fun _ => ⟨trivial, ⟨hB2, hrb2.lt⟩, fun i hi => ?_⟩⟩
    rw [Nat.zero_add]
    exact cell_set_far (hrb2.cell hi) hg2b
  · have e1 : (l.set r y).getD j [] = l.getD j [] := by simp [List.getD, List.getElem?_set_ne (Ne.symm ej)]
    rw [e1]
    simp only [if_neg ej]
    obtain ⟨gj, hAj, hBj, hrbj⟩ := h.row hj
    have hgj := h.addr_ne hr hj hA hAj ej
    have hrb5 : RowB w5 gj (l.getD j []) := hrbj.of_block (hg.block gj hrbj.lt (fun e => by injection e with e; omega))
    have hgjb := h.row_ne hrbj
    refine ⟨?_, fun _ => ?_⟩
    · rw [World.cell?_setCell_other _ _ _ _ (fun e => ej (by injection e with _ e; exact e.symm))]
      simp [World.cell?, hcur5, hc j hj]
    · have e' : ((A j).getD default).block = gj := by rw [hAj]; rfl
      rw [e']
      exact ⟨hAj, ⟨hBj, hrb5.lt⟩, fun i hi => by rw [Nat.zero_add]; exact cell_set_far (hrb5.cell hi) hgjb⟩

/-- A number is replaced. -/
theorem BD.setNum {B : Nat} {w : World} {l : List (List Int)} {A : Nat → Option Addr} {C : Nat → Nat} {b cap n : Nat} (h : BD B w (.slice (some ⟨b, 0, none⟩) n cap) l A C) {r g k : Nat} (hr : r < l.length) (hA : A r = some ⟨g, 0, none⟩) (hk : k < (l.getD r []).length) (z : Int) :
    InT B w.heap.size (w.setCell ⟨g, k, none⟩ (.int .i64 z)) (some ⟨b, 0, none⟩) (l.set r ((l.getD r []).set k z)) := by
  obtain ⟨b', cap', cur, e, hb, hcur, hc⟩ := h.top (by omega)
  injection e with e en _
  injection e with e
  injection e with e
  subst e
  obtain ⟨g', hA', hBg, hrb⟩ := h.row hr
  rw [hA] at hA'
  injection hA' with hA'
  injection hA' with hA'
  subst hA'
  have hgb := h.row_ne hrb
  intro _
  refine ⟨b, 0, A, fun j => ((A j).getD default).block, fun _ => 0, C, rfl, ⟨hb, (Array.getElem?_eq_some_iff.1 hcur).1⟩, fun j hj => ?_⟩
  rw [List.length_set] at hj
  show (w.setCell ⟨g, k, none⟩ _).cell? ⟨b, 0 + j, none⟩ = _ ∧ _
  rw [Nat.zero_add]
  have hlen : ((l.set r ((l.getD r []).set k z)).getD j []).length = (l.getD j []).length := by
    by_cases ej : j = r
    · subst ej; simp [List.getD, hj]
    · simp [List.getD, List.getElem?_set_ne (Ne.symm ej)]
  rw [hlen]
  refine ⟨cell_set_far (by simp [World.cell?, hcur, hc j hj]) (Ne.symm hgb), fun _ => ?_⟩
  obtain ⟨gj, hAj, hBj, hrbj⟩ := h.row hj
  have e' : ((A j).getD default).block = gj := by rw [hAj]; rfl
  dsimp only
  rw [e']
  refine ⟨hAj, ⟨hBj, hrbj.lt⟩, fun i hi => ?_⟩
  rw [Nat.zero_add]
  by_cases ej : j = r
  · subst ej
    rw [hA] at hAj
    injection hAj with hAj
    injection hAj with hAj
    subst hAj
    have e1 : (l.set j ((l.getD j []).set k z)).getD j [] = (l.getD j []).set k z := by simp [List.getD, hj]
    rw [e1]
    by_cases ei : i = k
    · subst ei
      rw [World.cell?_setCell_same' _ _ _ (by rw [hrbj.cell hi]; rfl)]
      simp [List.getD] at hi ⊢
      simp [hi]
    · rw [World.cell?_setCell_other _ _ _ _ (fun e => ei (by injection e with _ e; exact e.symm)), hrbj.cell hi]
      simp [List.getD, List.getElem?_set_ne (Ne.symm ei)]
  · have hgj := h.addr_ne hr hj hA hAj ej
    have e1 : (l.set r ((l.getD r []).set k z)).getD j [] = l.getD j [] := by simp [List.getD, List.getElem?_set_ne (Ne.symm ej)]
    rw [e1]
    exact cell_set_far (hrbj.cell hi) hgj

/-- What the reader does leaves a drawn table. -/
theorem InT.kept {lo hi : Nat} {w w' : World} {a : Option Addr} {l : List (List Int)} {G : Nat} (h : InT lo hi w a l) (hg : w.grownBy w' (some G)) (hG : G < lo) : InT lo hi w' a l :=
  h.frame (lo' := G) (hi' := G + 1) ⟨hg.os, hg.tape, hg.output, hg.size, fun k hk ho => hg.block k hk (fun e => by injection e with e; omega)⟩ (.inr (by omega))

end Go.Proofs.Ytiabnlebonmedaa
end

section
/- The contract of spec.l91Some. -/
namespace Go.Proofs.Ytiabnlebonmedaa
open Go.RowKit Go.Deep

/-- A table that a call has drawn: at least one row, no row empty. -/
def Drawn0 (w w' : World) (R K : Nat) (a : Option Addr) (l : List (List Int)) : Prop :=
  1 ≤ l.length ∧ l.length ≤ R ∧ (∀ j, j < l.length → 1 ≤ (l.getD j []).length ∧ (l.getD j []).length ≤ K + 1) ∧ InT w.heap.size w'.heap.size w' a l

theorem lens_set {l : List (List Int)} {r : Nat} {y : List Int} {n m K : Nat} (hl : l.length = n) (h : ∀ j, j < n → (l.getD j []).length = m) (hm : 1 ≤ m ∧ m ≤ K) (hy : 1 ≤ y.length ∧ y.length ≤ K + 1) : ∀ j, j < (l.set r y).length → 1 ≤ ((l.set r y).getD j []).length ∧ ((l.set r y).getD j []).length ≤ K + 1 := by
  intro j hj
  rw [List.length_set] at hj
  by_cases e : j = r
  · subst e
    rw [show (l.set j y).getD j [] = y by simp [List.getD, hj]]
    exact hy
  · rw [show (l.set r y).getD j [] = l.getD j [] by simp [List.getD, List.getElem?_set_ne (Ne.symm e)], h j (by omega)]
    omega

end Go.Proofs.Ytiabnlebonmedaa
end

section
/- The contract of spec.l6Open, and of what draws one table. -/
namespace Go.Proofs.Ytiabnlebonmedaa
open Go.RowKit Go.Deep

set_option maxHeartbeats 1000000 in
theorem l6Open_any (a : Option Addr) (nb cb : Nat) (w : World) (hc : nb ≤ cb) (h63 : cb ≤ 9223372036854775807) (hb : BytR w a nb) :
    Calls Try.prog 63 #[.slice a nb cb] w fun e w' => ∃ n' c', e = .returned (.pointer (some ⟨w.heap.size, 0, none⟩)) ∧ w.Since w.heap.size w' ∧ w'.heap.size = w.heap.size + 1 ∧ RD w w' w.heap.size a n' c' 67 0 := by
  by_cases hl : 2000 < nb
  · have hl' : decide ((2000 : Int) < (nb : Int)) = true := by simp; omega
    have h2 : (2000 : Int) ≤ (cb : Int) := by omega
    obtain ⟨b, o, rfl, hcell⟩ := hb (by omega)
    go_enter Try.func63, Try.ntmps63
    go_wp2
    go_ret
    exact ⟨_, _, rfl, (World.Since.refl _ _).alloc (Nat.le_refl _) _, by simp, ⟨heap_alloc_new _ _, Nat.le_refl _, (World.Since.refl _ _).alloc (Nat.le_refl _) _, fun _ => ⟨b, o, rfl, fun i hi => hcell i (by omega)⟩, by omega⟩⟩
  · have hl' : decide ((2000 : Int) < (nb : Int)) = false := by simp; omega
    go_enter Try.func63, Try.ntmps63
    go_wp2
    go_ret
    exact ⟨_, _, rfl, (World.Since.refl _ _).alloc (Nat.le_refl _) _, by simp, ⟨heap_alloc_new _ _, Nat.le_refl _, (World.Since.refl _ _).alloc (Nat.le_refl _) _, hb, by omega⟩⟩

/-- A call has drawn a table. -/
def DrawnT (w w' : World) (R K : Nat) (a : Option Addr) (l : List (List Int)) : Prop :=
  1 ≤ l.length ∧ l.length ≤ R ∧ (∀ j, j < l.length → 1 ≤ (l.getD j []).length ∧ (l.getD j []).length ≤ K + 1) ∧ InT w.heap.size w'.heap.size w' a l

end Go.Proofs.Ytiabnlebonmedaa
end

section
/- The contracts of the functions that draw a square. -/
namespace Go.Proofs.Ytiabnlebonmedaa
open Go.RowKit Go.Deep

set_option maxRecDepth 100000 in
set_option maxHeartbeats 4000000 in
theorem l91Square_any (w0 w : World) (G nb c p R : Nat) (a : Option Addr) (h : RD w0 w G a nb c 67 p) (hR1 : 1 ≤ R) (hR : R ≤ 8) (hp : p ≤ 40000) :
    Calls Try.prog 62 #[.pointer (some ⟨G, 0, none⟩), .int .i64 R] w fun e w' => ∃ a' cap l p', e = .returned (.slice a' l.length cap) ∧ w.grownBy w' (some G) ∧ RD w0 w' G a nb c 67 p' ∧ p' ≤ p + 1200 ∧ Drawn0 w w' R R a' l := by
  have hG := h.lt
  have HRD := Lib.hid h
  clear h
  go_enter Try.func62, Try.ntmps62
  go_wp2_with fail
  refine (pick_any w0 _ G nb c _ a _ HRD.out (by omega)).mono ?_
  rintro e w1 ⟨y1, rfl, hy1, hg1, hd1⟩
  obtain ⟨n, hn, hnn⟩ : ∃ n : Nat, IntKind.i64.wrap (1 + (y1 : Int)) = n ∧ n = y1 + 1 := ⟨y1 + 1, (IntWalk.i64_in _ ⟨by omega, by omega⟩).trans (by omega), rfl⟩
  have hn1 : 1 ≤ n ∧ n ≤ R := by omega
  have HD2 := Lib.hid hd1
  have HG2 := Lib.hid hg1
  clear hd1 hg1 hnn hy1 HRD
  go_wp2_with fail
  refine (l91Table_any w0 _ G nb c _ n n a HD2.out (by omega) (by omega) (by omega) (by omega)).mono ?_
  rintro e w3 ⟨v, l, A, C, p3, rfl, hl, hlm, hg3, hd3, hp3, hB⟩
  obtain ⟨b, cp, cur, hv, hbb, hcur, hc⟩ := hB.top (by omega)
  rw [hl] at hv
  subst hv
  have hG2 := HG2.out.size
  have HD3 := Lib.hid hd3
  have HG3 := Lib.hid (grown_trans HG2.out hg3)
  have HB := Lib.hid hB
  clear hd3 hg3 hcur hc hB HD2
  go_wp2_with fail
  refine (pick_any w0 _ G nb c _ a _ HD3.out (by omega)).mono ?_
  rintro e w4 ⟨y4, rfl, hy4, hg4, hd4⟩
  have HG4 := Lib.hid (grown_trans HG3.out hg4)
  have HB4 := Lib.hid (HB.out.kept hg4 (by omega))
  have HD4 := Lib.hid hd4
  have hz4 := HG4.out.size
  clear hd4 hg4 HB HG3 HD3 hy4
  obtain ⟨g0, hA0, hg0, hrb0⟩ := HB4.out.row (r := 0) (by omega)
  by_cases hy0 : y4 = 0
  · subst hy0
    obtain ⟨t1, _, _⟩ := HB4.out.cellTop (r := 0) (by omega)
    rw [hlm 0 (by omega), hA0] at t1
    have t2 := hrb0.cell (i := 0) (by rw [hlm 0 (by omega)]; omega)
    have t3 := hrb0.frozen 0
    have hIT := HB4.out.setNum (r := 0) (k := 0) (by omega) hA0 (by rw [hlm 0 (by omega)]; omega) 31
    have hll : (l.set 0 ((l.getD 0 []).set 0 31)).length = n := by rw [List.length_set]; exact hl
    have hlens := lens_set (K := R) (r := 0) (y := (l.getD 0 []).set 0 31) hl hlm (by omega) (by rw [List.length_set, hlm 0 (by omega)]; omega)
    have HIT := Lib.hid hIT
    have HLL := Lib.hid hll
    have HLENS := Lib.hid hlens
    have HGS := Lib.hid (grown_set HG4.out (show w.heap.size ≤ g0 by omega) (k := 0) (.int .i64 31))
    have HDS := Lib.hid (HD4.out.grown (grown_set_any w4 g0 0 (.int .i64 31)) (fun i e => by cases e; omega))
    have p1 : 0 < n := by omega
    clear hrb0 hIT hll hlens hA0 hlm hl
    go_wp2
    go_ret
    exact ⟨_, _, l.set 0 ((l.getD 0 []).set 0 31), _, by rw [HLL.out]; rfl, HGS.out, HDS.out, by omega, by rw [HLL.out]; omega, by rw [HLL.out]; omega, HLENS.out, HIT.out.mono hG2 (by simp)⟩
  · clear hrb0 hA0 hg0
    by_cases hy1 : y4 = 1
    · subst hy1
      clear hlm hl HB4
      have hnp : IntKind.i64.wrap ((n : Int) + 1) = ((n + 1 : Nat) : Int) := (IntWalk.i64_in _ ⟨by omega, by omega⟩).trans (by omega)
      have E5 := l91Table_any w0 w4 G nb c _ n (n + 1) a HD4.out (by omega) (by omega) (by omega) (by omega)
      rw [show ((n + 1 : Nat) : Int) = (n : Int) + 1 by omega] at E5
      replace E5 := Lib.hid E5
      go_wp2_with fail
      refine (E5.out).mono ?_
      rintro e w5 ⟨v, l5, A5, C5, p5, rfl, hl, hlm, hg5, hd5, hp5, hB⟩
      obtain ⟨a', cap', hv, hIT⟩ := hB.inT
      rw [hl] at hv
      subst hv
      have HL := Lib.hid hl
      have HLM := Lib.hid hlm
      have HIT := Lib.hid hIT
      have HG5 := Lib.hid (grown_trans HG4.out hg5)
      have HD5 := Lib.hid hd5
      have hG4 := HG4.out.size
      clear hl hlm hIT hB hg5 hd5
      go_wp2
      go_ret
      exact ⟨_, _, l5, _, by rw [HL.out]; rfl, HG5.out, HD5.out, by omega, by rw [HL.out]; omega, by rw [HL.out]; omega, fun j hj => by rw [HLM.out j (by rw [← HL.out]; exact hj)]; omega, HIT.out.mono hG4 (Nat.le_refl _)⟩
    · have h1 : ((y4 : Int) == 0) = false := by simp; omega
      have h2 : ((y4 : Int) == 1) = false := by simp; omega
      obtain ⟨a', cap', hv, hIT⟩ := HB4.out.inT
      rw [hl] at hv
      injection hv with hv _ _
      subst hv
      have HL := Lib.hid hl
      have HLM := Lib.hid hlm
      have HIT := Lib.hid hIT
      clear hl hlm hIT
      go_wp2
      go_ret
      exact ⟨_, _, l, _, by rw [HL.out]; rfl, HG4.out, HD4.out, by omega, by rw [HL.out]; omega, by rw [HL.out]; omega, fun j hj => by rw [HLM.out j (by rw [← HL.out]; exact hj)]; omega, HIT.out.mono hG2 (Nat.le_refl _)⟩

set_option maxHeartbeats 1000000 in
theorem l91Squared_any (a : Option Addr) (nb cb : Nat) (w : World) (hc : nb ≤ cb) (h63 : cb ≤ 9223372036854775807) (hb : BytR w a nb) :
    Calls Try.prog 36 #[.slice a nb cb] w fun e w' => ∃ a' cap l, e = .returned (.slice a' l.length cap) ∧ w.Since w.heap.size w' ∧ DrawnT w w' 5 5 a' l := by
  have E := Lib.hid (l6Open_any a nb cb w hc h63 hb)
  clear hb
  go_enter Try.func36, Try.ntmps36
  go_wp2_with fail
  refine (E.out).mono ?_
  rintro e w1 ⟨n', c', rfl, hs, hz, hd⟩
  have HD := Lib.hid hd
  clear hd
  go_wp2_with fail
  refine (l91Square_any w w1 w.heap.size n' c' 0 5 a HD.out (by omega) (by omega) (by omega)).mono ?_
  rintro e w2 ⟨a', cap', l, p', rfl, hg, hd2, hp, h1, h5, hl, hit⟩
  go_wp2
  go_ret
  exact ⟨a', cap', l, rfl, hs.trans (since_grown hg (Nat.le_refl _) hs.size), h1, h5, hl, hit.mono hs.size (Nat.le_refl _)⟩

set_option maxHeartbeats 1000000 in
theorem drawValueOrders_any (a : Option Addr) (nb cb : Nat) (w : World) (hc : nb ≤ cb) (h63 : cb ≤ 9223372036854775807) (hb : BytR w a nb) :
    Calls Try.prog 28 #[.slice a nb cb] w fun e w' => ∃ a' cap l, e = .returned (.slice a' l.length cap) ∧ w.Since w.heap.size w' ∧ DrawnT w w' 5 5 a' l := by
  have E := Lib.hid (l91Squared_any a nb cb w hc h63 hb)
  clear hb
  go_enter Try.func28, Try.ntmps28
  go_wp2_with fail
  refine (E.out).mono ?_
  rintro e w1 ⟨a', cap', l, rfl, hs, hd⟩
  go_wp2
  go_ret
  exact ⟨a', cap', l, rfl, hs, hd⟩




set_option maxHeartbeats 1000000 in
theorem drawPlainOrders_any (a : Option Addr) (nb cb : Nat) (w : World) (hc : nb ≤ cb) (h63 : cb ≤ 9223372036854775807) (hb : BytR w a nb) :
    Calls Try.prog 13 #[.slice a nb cb] w fun e w' => ∃ a' cap l, e = .returned (.slice a' l.length cap) ∧ w.Since w.heap.size w' ∧ DrawnT w w' 5 5 a' l := by
  have E := Lib.hid (l91Squared_any a nb cb w hc h63 hb)
  clear hb
  go_enter Try.func13, Try.ntmps13
  go_wp2_with fail
  refine (E.out).mono ?_
  rintro e w1 ⟨a', cap', l, rfl, hs, hd⟩
  go_wp2
  go_ret
  exact ⟨a', cap', l, rfl, hs, hd⟩

set_option maxHeartbeats 1000000 in
theorem drawPlainSums_any (a : Option Addr) (nb cb : Nat) (w : World) (hc : nb ≤ cb) (h63 : cb ≤ 9223372036854775807) (hb : BytR w a nb) :
    Calls Try.prog 18 #[.slice a nb cb] w fun e w' => ∃ a' cap l, e = .returned (.slice a' l.length cap) ∧ w.Since w.heap.size w' ∧ DrawnT w w' 5 5 a' l := by
  have E := Lib.hid (l91Squared_any a nb cb w hc h63 hb)
  clear hb
  go_enter Try.func18, Try.ntmps18
  go_wp2_with fail
  refine (E.out).mono ?_
  rintro e w1 ⟨a', cap', l, rfl, hs, hd⟩
  go_wp2
  go_ret
  exact ⟨a', cap', l, rfl, hs, hd⟩

set_option maxHeartbeats 1000000 in
theorem drawPlainCount_any (a : Option Addr) (nb cb : Nat) (w : World) (hc : nb ≤ cb) (h63 : cb ≤ 9223372036854775807) (hb : BytR w a nb) :
    Calls Try.prog 21 #[.slice a nb cb] w fun e w' => ∃ a' cap l, e = .returned (.slice a' l.length cap) ∧ w.Since w.heap.size w' ∧ DrawnT w w' 5 5 a' l := by
  have E := Lib.hid (l91Squared_any a nb cb w hc h63 hb)
  clear hb
  go_enter Try.func21, Try.ntmps21
  go_wp2_with fail
  refine (E.out).mono ?_
  rintro e w1 ⟨a', cap', l, rfl, hs, hd⟩
  go_wp2
  go_ret
  exact ⟨a', cap', l, rfl, hs, hd⟩

end Go.Proofs.Ytiabnlebonmedaa
end

section
/- The contracts of laws.sameInts and laws.sameRows. -/
namespace Go.Proofs.Ytiabnlebonmedaa
open Go.RowKit Go.Deep

end Go.Proofs.Ytiabnlebonmedaa
end

section
/- The walk of laws.FnTurn. -/
namespace Go.Proofs.Ytiabnlebonmedaa
open Go.RowKit Go.Deep

theorem szL_of {l : List (List Int)} {n k : Nat} (h1 : l.length ≤ n) (h2 : ∀ j, j < l.length → (l.getD j []).length ≤ k) (hnk : n * k + n ≤ 1048576) : szL l ≤ 1048576 := by
  have h3 := sumTo_le_mul l k h2 l.length (Nat.le_refl _)
  have h4 : l.length * k ≤ n * k := Nat.mul_le_mul_right _ h1
  have h5 : k * l.length = l.length * k := Nat.mul_comm _ _
  unfold szL
  omega
theorem rows_le {l : List (List Int)} (h : szL l ≤ 1048576) : ∀ r, r < l.length → (l.getD r []).length ≤ 9223372036854775807 := fun r hr => by
  have := row_le l hr
  unfold szL at h
  omega

theorem tab_self {l : List (List Int)} {n m : Nat} (hn : l.length = n) (hm : ∀ r, r < n → (l.getD r []).length = m) : tabF n m (at2 l) = l := by
  refine List.ext_getElem (by rw [tabF_length, hn]) fun r h1 h2 => ?_
  have hr : r < n := by rw [tabF_length] at h1; exact h1
  have e1 : (tabF n m (at2 l))[r] = (tabF n m (at2 l)).getD r [] := by simp [List.getD, h1]
  have e2 : l[r] = l.getD r [] := by simp [List.getD, h2]
  rw [e1, e2, tabF_get _ _ _ _ hr]
  refine List.ext_getElem (by rw [List.length_map, List.length_range, hm r hr]) fun k h3 h4 => ?_
  rw [List.getElem_map, List.getElem_range]
  unfold at2
  obtain ⟨x, hx⟩ : ∃ x, x = l.getD r [] := ⟨_, rfl⟩
  subst hx
  generalize l.getD r [] = x at *
  simp [List.getD, h4]

theorem turnL_turnL {l : List (List Int)} (hT : TabIn l) : turnL (turnL l) = l := by
  have h1 := hT.1
  have hw := hT.width
  have e0 : ((turnL l).getD 0 []).length = l.length := tabF_len _ _ _ _ hw.1
  have e1 : turnL (turnL l) = tabF l.length (l.getD 0 []).length fun k i => at2 (turnL l) i k := by
    show tabF ((turnL l).getD 0 []).length (turnL l).length _ = _
    rw [e0, turnL_length]
  rw [e1]
  have e2 : tabF l.length (l.getD 0 []).length (fun k i => at2 (turnL l) i k) = tabF l.length (l.getD 0 []).length (at2 l) := by
    unfold tabF
    refine List.map_congr_left fun r hr => List.map_congr_left fun k hk => ?_
    exact tabF_at _ _ _ _ _ (List.mem_range.1 hk) (List.mem_range.1 hr)
  rw [e2]
  exact tab_self rfl (fun r hr => hT.row hr)

end Go.Proofs.Ytiabnlebonmedaa
end

section
/- The contracts of spec.l5Plain and spec.PlainOrders. -/
namespace Go.Proofs.Ytiabnlebonmedaa
open Go.RowKit Go.Deep

set_option maxRecDepth 100000 in
set_option maxHeartbeats 4000000 in
theorem l5Plain_any (a : Option Addr) (cap n : Nat) (l : List (List Int)) (hn : l.length = n) (hT : TabIn l) (hm : (l.getD 0 []).length = n) :
    ∀ d i used : Nat, i + d = n → used ≤ 63 → ∀ W : World, MatR W a l → Calls Try.prog 40 #[.slice a n cap, .int .i64 i, .int .i64 used] W fun e w' => e = .returned (.int .i64 (plF l n d used)) ∧ Drawn W w' := by
  intro d
  induction d with
  | zero =>
    intro i used hi _ W _
    have hin : i = n := by omega
    subst hin
    rw [plF_zero]
    clear hn hT hm
    go_enter Try.func40, Try.ntmps40
    go_wp2
    go_ret
    exact ⟨rfl, Drawn.refl _⟩
  | succ d ih =>
    intro i used hi hu W hmat
    rw [plF_succ]
    have hi2 : n - (d + 1) = i := by omega
    rw [hi2]
    have hE := entB_of hT hn hm
    have h6 := hE.1
    have hne : ((i : Int) == (n : Int)) = false := by simp; omega
    have hbF := fun u => plF_bd hE d (by omega) u
    have hp1 := p180_pos d
    have hp2 := p180_le (d + 1) (by omega)
    have hsum := fun k (hk : k ≤ n) => sumP_bd hE (i := i) (used := used) (k := k) (by omega) hk (by omega) hbF
    obtain ⟨b, o, A, C, rfl, hrow, hcell⟩ := hmat.grid hn hT hm
    obtain ⟨F, hF⟩ : ∃ F, F = plF l n d := ⟨_, rfl⟩
    simp only [← hF] at hbF hsum ih ⊢
    clear hF
    have HIH := Lib.hid (fun (u : Nat) (hu : u ≤ 63) (V : World) (hV : MatR V (some ⟨b, o, none⟩) l) => ih (i + 1) u (by omega) hu V hV)
    have HMAT := Lib.hid hmat
    have HC := Lib.hid hcell
    have HSUM := Lib.hid hsum
    have HBF := Lib.hid hbF
    have hii : i < n := by omega
    clear hmat hrow hcell ih hsum hbF hi2 hE
    go_enter Try.func40, Try.ntmps40
    go_wp2
    go_loopg [7, 8] n (fun g s k wr => ∃ q : Nat, q ≤ n ∧ g = n - q ∧ k = .int .i64 q ∧ s = .int .i64 (sumN (plT l i used F) q) ∧ Drawn W wr)
    case atStart => exact ⟨0, Nat.zero_le _, rfl, rfl, rfl, Drawn.refl _⟩
    case round =>
      obtain ⟨q, hq, rfl, rfl, rfl, hD⟩ := hrel
      by_cases hlt : q < n
      · have hbit := bit0_any used q hu (by omega)
        obtain ⟨s0, hs0⟩ : ∃ s, s = sumN (plT l i used F) q := ⟨_, rfl⟩
        rw [← hs0]
        have HS0 := Lib.hid hs0
        clear hs0
        cases hb : used.testBit q with
        | true =>
          have e : sumN (plT l i used F) (q + 1) = s0 := by
            show sumN (plT l i used F) q + plT l i used F q = s0
            rw [plT_yes F hb, HS0.out, Int.add_zero]
          rw [hb] at hbit
          have HE := Lib.hid e
          clear e hb
          go_wp2
          go_roundg (n - (q + 1))
          case measure => omega
          case rel => exact ⟨q + 1, by omega, rfl, by go_num, by rw [HE.out], hD⟩
        | false =>
          rw [hb] at hbit
          obtain ⟨u2, hu2, hu2v⟩ : ∃ u : Nat, bits BinOp.or IntKind.i64 (used : Int) (2 ^ q) = u ∧ u = used ||| 2 ^ q := ⟨_, orS_fin ⟨used, by omega⟩ ⟨q, by omega⟩, rfl⟩
          have hu2l : u2 ≤ 63 := by rw [hu2v]; exact orS_lt ⟨used, by omega⟩ ⟨q, by omega⟩
          obtain ⟨b', o', e1, e2, e3, e4⟩ := HC.out i q hii hlt
          rw [← hD.cell] at e1 e2
          obtain ⟨y, hy⟩ : ∃ y, y = at2 l i q := ⟨_, rfl⟩
          rw [← hy] at e2 e3 e4
          obtain ⟨f2, hf2⟩ : ∃ z, z = F u2 := ⟨_, rfl⟩
          have hfb := HBF.out u2
          rw [← hf2] at hfb
          have hxb := mul_bdB e3 e4 hfb.1 hfb.2
          have hp3 : p180 (d + 1) = 180 * p180 d := rfl
          have hwx : IntKind.i64.wrap (y * f2) = y * f2 := IntWalk.i64_in _ ⟨by omega, by omega⟩
          have hwi : IntKind.i64.wrap ((i : Int) + 1) = (i : Int) + 1 := IntWalk.i64_in _ ⟨by omega, by omega⟩
          have hwq := pow_in ⟨q, by omega⟩
          simp only at hwq
          have hmq : min q 64 = q := by omega
          have E1 := fun (p : Nat) => HIH.out u2 hu2l (wr.drewN p) (HMAT.out.drawn (hD.trans (Drawn.mk _ _)))
          rw [← hf2, show ((i + 1 : Nat) : Int) = (i : Int) + 1 by omega] at E1
          replace E1 := Lib.hid E1
          have e : sumN (plT l i used F) (q + 1) = s0 + y * f2 := by
            show sumN (plT l i used F) q + plT l i used F q = s0 + y * f2
            rw [plT_no F hb, ← HS0.out, ← hu2v, ← hy, ← hf2]
          have hsb := HSUM.out (q + 1) (by omega)
          rw [e] at hsb
          have hws : IntKind.i64.wrap (s0 + y * f2) = s0 + y * f2 := IntWalk.i64_in _ ⟨by omega, by omega⟩
          have HE := Lib.hid e
          have HDD := Lib.hid hD
          clear e hb hu2v hy hf2 hfb hD
          go_wp2
          go_quiet ((go_at_call 40; exact Calls.quiet_of (E1.out _)))
          go_wp2
          go_roundg (n - (q + 1))
          case measure => omega
          case rel => exact ⟨q + 1, by omega, rfl, by go_num, by rw [HE.out], HDD.out.trans (Drawn.mk _ _)⟩
      · have hqn : n = q := by omega
        subst hqn
        go_wp2
        go_ret
        exact ⟨rfl, hD⟩

set_option maxHeartbeats 1000000 in
theorem specPlainOrders_any (a : Option Addr) (cap n : Nat) (l : List (List Int)) (w : World) (hn : l.length = n) (hsz : szL l ≤ 1048576) (hm : MatR w a l) :
    Calls Try.prog 15 #[.slice a n cap] w (SpecW w (sqB l) (plF l n n 0)) := by
  have E := l2Square_any a cap n l w hn hsz hm
  cases hs : sqB l with
  | false =>
    rw [hs] at E
    replace E := Lib.hid E
    clear hs hm hn hsz
    go_enter Try.func15, Try.ntmps15
    go_wp2_with fail
    refine (E.out).mono ?_
    rintro e w1 ⟨rfl, hd⟩
    have HD := Lib.hid (hd.since w.heap.size)
    clear hd
    go_wp2
    go_ret2
    exact ⟨rfl, HD.out⟩
  | true =>
    rw [hs] at E
    replace E := Lib.hid E
    obtain ⟨hT, hw⟩ := sqB_of hs
    have E2 := Lib.hid (fun (W : World) (hd : Drawn w W) => l5Plain_any a cap n l hn hT (by omega) n 0 0 (by omega) (by omega) W (hm.drawn hd))
    clear hs hm hn hsz hT hw
    go_enter Try.func15, Try.ntmps15
    go_wp2_with fail
    refine (E.out).mono ?_
    rintro e w1 ⟨rfl, hd⟩
    have HD := Lib.hid hd
    clear hd
    go_wp2_with fail
    refine (E2.out w1 HD.out).mono ?_
    rintro e w2 ⟨rfl, hd2⟩
    have HS2 := Lib.hid ((HD.out.trans hd2).since w.heap.size)
    clear hd2
    go_wp2
    go_ret2
    exact ⟨rfl, HS2.out⟩

end Go.Proofs.Ytiabnlebonmedaa
end

section
/- The contract of spec.PlainSums. -/
namespace Go.Proofs.Ytiabnlebonmedaa
open Go.RowKit Go.Deep

/-- The sum of the numbers of row i in the first k columns of a set. -/
def rwS (l : List (List Int)) (s i k : Nat) : Int := sumN (fun j => ((s / 2 ^ j % 2 : Nat) : Int) * at2 l i j) k
/-- The product over the first i rows. -/
def prS (l : List (List Int)) (n s : Nat) : Nat → Int
  | 0 => 1
  | i + 1 => prS l n s i * rwS l s i n
/-- What a set of columns adds. -/
def ryT (l : List (List Int)) (n s : Nat) : Int := if s = 0 then 0 else sg (n - popcS s) (prS l n s n)
theorem rwS_bd {l : List (List Int)} {n : Nat} (h : EntB l n) (s : Nat) {i : Nat} (hi : i < n) {k : Nat} (hk : k ≤ n) : -180 ≤ rwS l s i k ∧ rwS l s i k ≤ 180 := by
  have h6 := h.1
  have h1 := sumN_bdB (f := fun j => ((s / 2 ^ j % 2 : Nat) : Int) * at2 l i j) (B := 30) k (fun j hj => by
    have := h.2 i j hi (by omega)
    have e : s / 2 ^ j % 2 = 0 ∨ s / 2 ^ j % 2 = 1 := by omega
    rcases e with e | e <;> rw [e] <;> simp <;> omega)
  unfold rwS
  omega
theorem mul_bd180 {a b B : Int} (h1 : -180 ≤ b) (h2 : b ≤ 180) (h3 : -B ≤ a) (h4 : a ≤ B) : -(180 * B) ≤ a * b ∧ a * b ≤ 180 * B := by
  have e1 : (180 - b) * (B - a) ≥ 0 := Int.mul_nonneg (by omega) (by omega)
  have e2 : (180 + b) * (B + a) ≥ 0 := Int.mul_nonneg (by omega) (by omega)
  have e3 : (180 - b) * (B + a) ≥ 0 := Int.mul_nonneg (by omega) (by omega)
  have e4 : (180 + b) * (B - a) ≥ 0 := Int.mul_nonneg (by omega) (by omega)
  rw [Int.mul_comm a b]
  simp only [Int.sub_mul, Int.add_mul, Int.mul_sub, Int.mul_add] at e1 e2 e3 e4
  omega
theorem prS_bd {l : List (List Int)} {n : Nat} (h : EntB l n) (s : Nat) : ∀ i, i ≤ n → -(p180 i) ≤ prS l n s i ∧ prS l n s i ≤ p180 i
  | 0, _ => by simp [prS, p180]
  | i + 1, hi => by
    have ih := prS_bd h s i (by omega)
    have hr := rwS_bd h s (show i < n by omega) (Nat.le_refl n)
    exact mul_bd180 hr.1 hr.2 ih.1 ih.2
theorem ryT_bd {l : List (List Int)} {n : Nat} (h : EntB l n) (s : Nat) : -34012224000000 ≤ ryT l n s ∧ ryT l n s ≤ 34012224000000 := by
  have h1 := prS_bd h s n (Nat.le_refl _)
  have h2 := p180_le n h.1
  unfold ryT
  split
  · omega
  · exact sg_bd (B := 34012224000000) (by omega)
theorem ryS_bd {l : List (List Int)} {n : Nat} (h : EntB l n) {m : Nat} (hm : m ≤ 64) : -2176782336000000 ≤ sumN (ryT l n) m ∧ sumN (ryT l n) m ≤ 2176782336000000 := by
  have h1 := sumN_bdB (f := ryT l n) (B := 34012224000000) m (fun j _ => ryT_bd h j)
  have h2 : (m : Int) * 34012224000000 ≤ 64 * 34012224000000 := Int.mul_le_mul_of_nonneg_right (by omega) (by omega)
  omega
theorem pow_wrap1 : ∀ n : Fin 7, wrap64 (2 ^ n.val) = ((2 ^ n.val : Nat) : Int) := by decide +kernel
theorem popc_in : ∀ n : Fin 7, ∀ s : Fin 64, s.val < 2 ^ n.val → popcS s.val ≤ n.val := by decide +kernel
theorem bitA6_fin : ∀ s : Fin 64, ∀ c : Fin 6, bits BinOp.and IntKind.i64 ((s.val : Int) / 2 ^ c.val) 1 = ((s.val / 2 ^ c.val % 2 : Nat) : Int) := by decide +kernel

set_option maxRecDepth 100000 in
set_option maxHeartbeats 2000000 in
theorem specPlainSums_any (a : Option Addr) (cap n : Nat) (l : List (List Int)) (w : World) (hn : l.length = n) (hsz : szL l ≤ 1048576) (hm : MatR w a l) :
    Calls Try.prog 19 #[.slice a n cap] w (SpecW w (sqB l) (sumN (ryT l n) (2 ^ n))) := by
  have E := l2Square_any a cap n l w hn hsz hm
  cases hs : sqB l with
  | false =>
    rw [hs] at E
    replace E := Lib.hid E
    clear hs hm hn hsz
    go_enter Try.func19, Try.ntmps19
    go_wp2_with fail
    refine (E.out).mono ?_
    rintro e w1 ⟨rfl, hd⟩
    have HD := Lib.hid (hd.since w.heap.size)
    clear hd
    go_wp2
    go_ret2
    exact ⟨rfl, HD.out⟩
  | true =>
    rw [hs] at E
    replace E := Lib.hid E
    obtain ⟨hT, hw⟩ := sqB_of hs
    rw [hn] at hw
    have hE := entB_of hT hn hw.symm
    have h6 := hE.1
    have h64 : 2 ^ n ≤ 64 := Nat.pow_le_pow_right (n := 2) (by omega) h6
    have hpn : 1 ≤ 2 ^ n := Nat.one_le_two_pow
    obtain ⟨b, o, A, C, rfl, hrow, hcell⟩ := hm.grid hn hT hw.symm
    have HC := Lib.hid hcell
    have HRW := Lib.hid (fun s i (hi : i < n) k (hk : k ≤ n) => rwS_bd hE s hi hk)
    have HPR := Lib.hid (fun s i (hi : i ≤ n) => prS_bd hE s i hi)
    have HRT := Lib.hid (fun s => ryT_bd hE s)
    have HRS := Lib.hid (fun m (hm : m ≤ 64) => ryS_bd hE hm)
    have h0 : sumN (ryT l n) 1 = 0 := rfl
    have hwn : wrap64 (2 ^ n) = ((2 ^ n : Nat) : Int) := pow_wrap1 ⟨n, by omega⟩
    obtain ⟨M, hM⟩ : ∃ M, 2 ^ n = M := ⟨_, rfl⟩
    have HMN := Lib.hid hM
    rw [hM] at h64 hpn hwn ⊢
    have H0 := Lib.hid h0
    clear hs hm hn hsz hT hw hrow hcell hE h0 hM
    go_enter Try.func19, Try.ntmps19
    go_wp2_with fail
    refine (E.out).mono ?_
    rintro e w1 ⟨rfl, hd⟩
    have HD := Lib.hid hd
    clear hd
    go_wp2
    go_loopg [4, 5, 6, 7, 8, 9] (M - 1) (fun g sv s _ _ _ _ wr => ∃ s0 : Nat, 1 ≤ s0 ∧ s0 ≤ M ∧ g = M - s0 ∧ s = .int .i64 s0 ∧ sv = .int .i64 (sumN (ryT l n) s0) ∧ Drawn w wr)
    case atStart => exact ⟨1, Nat.le_refl _, hpn, rfl, rfl, by rw [H0.out], HD.out⟩
    case round =>
      obtain ⟨s, hs1, hsM, rfl, rfl, rfl, hD⟩ := hrel
      by_cases hlt : s < M
      · have hlM : decide ((s : Int) < (M : Int)) = true := by simp; omega
        have hsb0 := HRS.out s (by omega)
        have hsb1 := HRS.out (s + 1) (by omega)
        have hry : ryT l n s = sg (n - popcS s) (prS l n s n) := if_neg (by omega)
        have hst : sumN (ryT l n) (s + 1) = sumN (ryT l n) s + ryT l n s := rfl
        obtain ⟨S0, hS0⟩ : ∃ x, sumN (ryT l n) s = x := ⟨_, rfl⟩
        rw [hS0] at hsb0 hst ⊢
        have HRY := Lib.hid hry
        have HST := Lib.hid hst
        have HDR := Lib.hid hD
        clear hry hst hS0 hD
        go_wp2
        go_loopg [6, 7, 8, 9] n (fun g x i _ _ wr => ∃ i0 : Nat, i0 ≤ n ∧ g = n - i0 ∧ i = .int .i64 i0 ∧ x = .int .i64 (prS l n s i0) ∧ Drawn w wr)
        case atStart => exact ⟨0, Nat.zero_le _, rfl, rfl, rfl, HDR.out⟩
        case round =>
          obtain ⟨i0, hi0, rfl, rfl, rfl, hD⟩ := hrel
          clear HDR
          have HDR := Lib.hid hD
          clear hD
          by_cases hlti : i0 < n
          · have hp1 := HPR.out s i0 (by omega)
            have hp2 := HPR.out s (i0 + 1) (by omega)
            have hp3 := p180_le i0 (by omega)
            have hp4 := p180_le (i0 + 1) (by omega)
            have hpr : prS l n s (i0 + 1) = prS l n s i0 * rwS l s i0 n := rfl
            obtain ⟨X, hX⟩ : ∃ x, prS l n s i0 = x := ⟨_, rfl⟩
            rw [hX] at hp1 hpr ⊢
            have HPX := Lib.hid hpr
            have HR0 := Lib.hid (show rwS l s i0 0 = 0 from rfl)
            clear hpr hX
            go_wp2
            go_loopg [8, 9] n (fun g r k wr => ∃ k0 : Nat, k0 ≤ n ∧ g = n - k0 ∧ k = .int .i64 k0 ∧ r = .int .i64 (rwS l s i0 k0) ∧ Drawn w wr)
            case atStart => exact ⟨0, Nat.zero_le _, rfl, rfl, by rw [HR0.out], HDR.out⟩
            case round =>
              obtain ⟨k0, hk0, rfl, rfl, rfl, hD⟩ := hrel
              clear HDR HR0
              by_cases hltk : k0 < n
              · obtain ⟨b', o', e1, e2, e3, e4⟩ := HC.out i0 k0 hlti hltk
                rw [← hD.cell] at e1 e2
                have hba := bitA6_fin ⟨s, by omega⟩ ⟨k0, by omega⟩
                simp only at hba
                have hmk : min k0 64 = k0 := by omega
                have hr1 := HRW.out s i0 hlti k0 hk0
                have hr2 := HRW.out s i0 hlti (k0 + 1) (by omega)
                have hrs : rwS l s i0 (k0 + 1) = rwS l s i0 k0 + ((s / 2 ^ k0 % 2 : Nat) : Int) * at2 l i0 k0 := rfl
                obtain ⟨y, hy⟩ : ∃ x, at2 l i0 k0 = x := ⟨_, rfl⟩
                rw [hy] at e2 e3 e4 hrs
                have hbt : s / 2 ^ k0 % 2 ≤ 1 := by omega
                obtain ⟨bt, hb⟩ : ∃ x, s / 2 ^ k0 % 2 = x := ⟨_, rfl⟩
                rw [hb] at hba hrs hbt
                obtain ⟨R0, hR⟩ : ∃ x, rwS l s i0 k0 = x := ⟨_, rfl⟩
                rw [hR] at hr1 hrs ⊢
                rw [hrs] at hr2
                have hby : -30 ≤ (bt : Int) * y ∧ (bt : Int) * y ≤ 30 := by
                  have : bt = 0 ∨ bt = 1 := by omega
                  rcases this with e | e <;> rw [e] <;> simp <;> omega
                have hw1 : IntKind.i64.wrap ((bt : Int) * y) = (bt : Int) * y := IntWalk.i64_in _ ⟨by omega, by omega⟩
                have hw2 : IntKind.i64.wrap (R0 + (bt : Int) * y) = R0 + (bt : Int) * y := IntWalk.i64_in _ ⟨by omega, by omega⟩
                have HRS2 := Lib.hid hrs
                have HDR := Lib.hid hD
                clear hrs hR hb hy hr2 hD
                go_wp2
                go_quiet (fail)
                go_wp2
                go_roundg (n - (k0 + 1))
                case measure => omega
                case rel => exact ⟨k0 + 1, by omega, rfl, by go_num, by rw [HRS2.out], HDR.out.trans (Drawn.mk _ _)⟩
              · have hkn : k0 = n := by omega
                subst hkn
                have hr1 := HRW.out s i0 hlti k0 (Nat.le_refl _)
                obtain ⟨R0, hR⟩ : ∃ x, rwS l s i0 k0 = x := ⟨_, rfl⟩
                have HPX2 := HPX.out
                rw [hR] at hr1 HPX2 ⊢
                rw [HPX2] at hp2
                have hw1 : IntKind.i64.wrap (X * R0) = X * R0 := IntWalk.i64_in _ ⟨by omega, by omega⟩
                have HPX3 := Lib.hid HPX2
                have HDR := Lib.hid hD
                clear hR HPX2 hD hp2
                go_wp2
                go_roundg (k0 - (i0 + 1))
                case measure => omega
                case rel => exact ⟨i0 + 1, by omega, rfl, by go_num, by rw [HPX3.out], HDR.out⟩
          · have hin : i0 = n := by omega
            subst hin
            have hp1 := HPR.out s i0 (Nat.le_refl _)
            have hp3 := p180_le i0 (by omega)
            have hry := HRY.out
            have hst := HST.out
            obtain ⟨X, hX⟩ : ∃ x, prS l i0 s i0 = x := ⟨_, rfl⟩
            rw [hX] at hp1 hry ⊢
            rw [hry] at hst
            rw [hst] at hsb1
            have ES := fun (V : World) => l2Size_any s (by omega) V
            have hpc := popcS_le s
            have hps : popcS s ≤ i0 := popc_in ⟨i0, by omega⟩ ⟨s, by omega⟩ (by show s < 2 ^ i0; rw [HMN.out]; exact hlt)
            obtain ⟨c, hc⟩ : ∃ x, popcS s = x := ⟨_, rfl⟩
            simp only [hc] at ES
            rw [hc] at hst hsb1 hps
            replace ES := Lib.hid ES
            have HST2 := Lib.hid hst
            have hwd : IntKind.i64.wrap ((i0 : Int) - (c : Int)) = ((i0 - c : Nat) : Int) := (IntWalk.i64_in _ ⟨by omega, by omega⟩).trans (by omega)
            obtain ⟨d, hd⟩ : ∃ x, i0 - c = x := ⟨_, rfl⟩
            rw [hd] at hwd hsb1
            have HDD := Lib.hid hd
            clear hX hry hst hc hd hpc
            go_wp2_with fail
            refine (ES.out _).mono ?_
            rintro e w2 ⟨rfl, rfl⟩
            by_cases hodd : d % 2 = 1
            · have ho : ((d : Int) % 2 == 1) = true := by simp; omega
              have e0 : sg d X = -X := by unfold sg; rw [if_pos hodd]
              rw [e0] at hsb1
              have w1' : IntKind.i64.wrap (-X) = -X := IntWalk.i64_in _ ⟨by omega, by omega⟩
              have w3' : IntKind.i64.wrap (S0 + -X) = S0 + -X := IntWalk.i64_in _ ⟨by omega, by omega⟩
              go_wp2
              go_roundg (M - (s + 1))
              case measure => omega
              case rel => exact ⟨s + 1, by omega, by omega, rfl, by go_num, by rw [HST2.out, HDD.out, e0], HDR.out⟩
            · have ho : ((d : Int) % 2 == 1) = false := by simp; omega
              have e0 : sg d X = X := by unfold sg; rw [if_neg hodd]
              rw [e0] at hsb1
              have w3' : IntKind.i64.wrap (S0 + X) = S0 + X := IntWalk.i64_in _ ⟨by omega, by omega⟩
              go_wp2
              go_roundg (M - (s + 1))
              case measure => omega
              case rel => exact ⟨s + 1, by omega, by omega, rfl, by go_num, by rw [HST2.out, HDD.out, e0], HDR.out⟩
      · have hsm : s = M := by omega
        have hlM : decide ((s : Int) < (M : Int)) = false := by simp; omega
        subst hsm
        have HF := Lib.hid (hD.since w.heap.size)
        go_wp2
        go_ret2
        exact ⟨rfl, HF.out⟩

end Go.Proofs.Ytiabnlebonmedaa
end

section
/- orders as an iterator that keeps its word; the sums and the count over it. -/
namespace Go.Proofs.Ytiabnlebonmedaa
open Go.RowKit Go.Deep Go.Shelf
attribute [local go_sem] Oper.semAt_some

theorem map_snd {α : Type} (g : Nat) (L : List α) : (([] : List (Nat × α)) ++ L.map (Prod.mk g)).map (fun x => x.2) = L := by
  rw [List.nil_append]
  induction L with
  | nil => rfl
  | cons x L ih => rw [List.map_cons, List.map_cons, ih]

theorem orders_any (n : Int) (w : World) :
    Calls Try.prog 66 #[.int .i64 n] w fun e w' => e = .returned (.func (.func 82) #[] #[.pointer (some ⟨w.heap.size, 0, none⟩)]) ∧ w' = w.alloc (.cells #[.int .i64 n] 3) := by
  go_enter Try.func66, Try.ntmps66
  go_wp2
  go_ret
  exact ⟨rfl, rfl⟩

set_option maxRecDepth 100000 in
set_option maxHeartbeats 2000000 in
theorem orders_stops (k Bn n : Nat) (h1 : 1 ≤ n) (h6 : n ≤ 6) (w : World) (hlt : Bn < w.heap.size) (hb : w.cell? ⟨Bn, 0, none⟩ = some (.int .i64 n)) :
    SeqC Fence.wide k Try.prog 82 #[.pointer (some ⟨Bn, 0, none⟩)] (olV n) (olP n) (fun b => b = Bn) (fun ys => ys.map (·.2) = ordL n n []) 46656 w := by
  intro l J own W hW hown hJ hY hj
  refine callsIn_wide.2 ?_
  obtain ⟨i3, hi3⟩ := info3_parts
  have cn := (hW.cell (p := ⟨Bn, 0, none⟩) hlt).trans hb
  have hlW := World.block_lt_of_cell? _ _ cn
  have hlen := ordL_len h6 n []
  have hpow : 6 ^ n ≤ 6 ^ 6 := Nat.pow_le_pow_right (by omega) h6
  have HG := Lib.hid (fun (V : World) (hob : OB Bn W.heap.size (W.heap.size + 1) n l V) (hc : ColsAt V (W.heap.size + 1 + 1) n []) (hjv : J [] V) =>
    goOn_any l Bn W.heap.size (W.heap.size + 1) (W.heap.size + 1 + 1) n 46656 W.heap.size own J h6 hJ (by omega) (by omega) (by omega) (by omega) (by omega) (by simp at hlW; omega) (fun k hk => hown k hk) (fun m pre x V' hp hx hl => yieldAt_any (hY pre x V' hp hx hl)) n [] [] V (by simp) (by simp) hob hc hjv (by simp; omega))
  have oy : (W.alloc (.cells #[.func (.yield l) #[] #[]] 71)).cell? ⟨W.heap.size, 0, none⟩ = _ := (cell_new_l W _ _).1
  have og := (cell_new_l (W.alloc (.cells #[.func (.yield l) #[] #[]] 71)) (.func (.func 83) #[] #[.pointer (some ⟨Bn, 0, none⟩), .pointer (some ⟨W.heap.size, 0, none⟩), .pointer (some ⟨W.heap.size + 1, 0, none⟩)]) 71).1
  obtain ⟨V, hV⟩ : ∃ V, V = (W.alloc (.cells #[.func (.yield l) #[] #[]] 71)).alloc (.cells #[.func (.func 83) #[] #[.pointer (some ⟨Bn, 0, none⟩), .pointer (some ⟨W.heap.size, 0, none⟩), .pointer (some ⟨W.heap.size + 1, 0, none⟩)]] 71) := ⟨_, rfl⟩
  have hz : V.drew.heap.size = W.heap.size + 1 + 1 := by show V.heap.size = _; rw [hV]; simp
  rw [World.size_alloc, ← hV] at og
  have hjV : J [] V.drew := by
    have h := hJ.alloc (.cells #[.func (.func 83) #[] #[.pointer (some ⟨Bn, 0, none⟩), .pointer (some ⟨W.heap.size, 0, none⟩), .pointer (some ⟨W.heap.size + 1, 0, none⟩)]] 71) (hJ.alloc (.cells #[.func (.yield l) #[] #[]] 71) hj)
    rw [← hV] at h
    exact hJ _ _ _ none h (grown_drewC V 1) (fun r e => by cases e)
  have hob : OB Bn W.heap.size (W.heap.size + 1) n l V.drew := ⟨by
      show V.cell? _ = _
      rw [hV]; exact cell_alloc_l _ (cell_alloc_l _ cn), by
      show V.cell? _ = _
      rw [hV]; exact cell_alloc_l _ oy, og⟩
  have c1 : V.drew.cell? ⟨W.heap.size + 1, 0, none⟩ = _ := hob.bg
  have c2 : V.drew.cell? ⟨Bn, 0, none⟩ = _ := hob.bn
  obtain ⟨w', hm1, hm2, hm3⟩ := run_make_own (P := Try.prog) V.drew 0 29 3 i3 (.int .i64 0) 1 Try.underlying29 hi3.1 hi3.2.1 hi3.2.2.1 .i64 .i64 n (by rw [hi3.2.2.2]; omega) (by unfold maxLen; omega) (Nat.zero_le _)
  rw [hz] at hm1 hm2
  have d1 := (hm3.cell_far ⟨W.heap.size + 1, 0, none⟩ (by rw [hz]; show W.heap.size + 1 < _; omega) (by simp)).trans c1
  have d2 := (hm3.cell_far ⟨Bn, 0, none⟩ (by rw [hz]; show Bn < _; simp at hlW; omega) (by simp)).trans c2
  have E := Lib.hid (HG.out w' (hob.keeps (own := fun _ => False) (Keeps.grown hm3 (fun r e => by cases e)) (fun h => h) (fun h => h) (fun h => h)) hm2 (hJ _ _ _ none hjV hm3 (fun r e => by cases e)))
  have HKC := Lib.hid (fun (w2 : World) (h : Keeps (fun k => own k ∨ k = W.heap.size + 1 + 1) w' w2) => And.intro (h.cell (a := ⟨W.heap.size + 1, 0, none⟩) (fun h => h.elim (fun h => absurd (hown _ h).1 (show ¬ (W.heap.size + 1 < W.heap.size) by omega)) (fun h => absurd h (show ¬ (W.heap.size + 1 = W.heap.size + 1 + 1) by omega))) d1) (h.cell (a := ⟨Bn, 0, none⟩) (fun h => h.elim (fun h => (hown _ h).2 rfl) (fun h => absurd h (show ¬ (Bn = W.heap.size + 1 + 1) by have : Bn < W.heap.size := hlW; omega))) d2))
  clear HG hob hm2 hm3 hjV hj hJ hY hown hpow hlen hi3 oy og cn hb
  have HV := Lib.hid hV
  clear hV
  go_enter Try.func82, Try.ntmps82
  go_wp2
  rw [← HV.out]
  go_region_held3 (fun w'' => w''.cell? ⟨W.heap.size + 1, 0, none⟩ = some (.func (.func 83) #[] #[.pointer (some ⟨Bn, 0, none⟩), .pointer (some ⟨W.heap.size, 0, none⟩), .pointer (some ⟨W.heap.size + 1, 0, none⟩)]) ∧ w''.cell? ⟨Bn, 0, none⟩ = some (.int .i64 n))
    (first | exact ⟨e1, e2⟩ | exact ⟨d1, d2⟩ | exact ⟨c1, c2⟩)
    (first
      | (go_at_call 83; refine (E.out).mono ?_; rintro e w2 ⟨rfl, hj2, hk2, _⟩; have HJ2 := Lib.hid hj2; obtain ⟨e1, e2⟩ := HKC.out _ hk2; clear hj2 hk2))
  go_end0
  exact ⟨⟨_, rfl⟩, _, map_snd _ _, HJ2.out⟩

end Go.Proofs.Ytiabnlebonmedaa
end

section
/- The contract of spec.PlainCount. -/
namespace Go.Proofs.Ytiabnlebonmedaa
open Go.RowKit Go.Deep

/-- 1 where a number is not 0. -/
def oneN (l : List (List Int)) (i k : Nat) : Int := if at2 l i k = 0 then 0 else 1
/-- The square of these. -/
def oneL (l : List (List Int)) (n : Nat) : List (List Int) := tabF n n (oneN l)
theorem oneN_bd (l : List (List Int)) (i k : Nat) : 0 ≤ oneN l i k ∧ oneN l i k ≤ 1 := by unfold oneN; split <;> omega
theorem oneL_tab (l : List (List Int)) {n : Nat} (h1 : 1 ≤ n) (h6 : n ≤ 6) : TabIn (oneL l n) ∧ (oneL l n).length = n ∧ ((oneL l n).getD 0 []).length = n :=
  ⟨tabIn_tabF h1 h6 h1 h6 (fun i k _ _ => by have := oneN_bd l i k; omega), tabF_length _ _ _, tabF_len _ _ _ _ (by omega)⟩
theorem min_max_one (y : Int) : (if (if y < -y then -y else y) < 1 then if y < -y then -y else y else 1) = if y = 0 then 0 else 1 := by
  repeat' split
  all_goals omega

set_option maxRecDepth 100000 in
set_option maxHeartbeats 2000000 in
theorem specPlainCount_any (a : Option Addr) (cap n : Nat) (l : List (List Int)) (w : World) (hn : l.length = n) (hsz : szL l ≤ 1048576) (hm : MatR w a l) :
    Calls Try.prog 23 #[.slice a n cap] w (SpecW w (sqB l) (plF (oneL l n) n n 0)) := by
  have E := l2Square_any a cap n l w hn hsz hm
  cases hs : sqB l with
  | false =>
    rw [hs] at E
    replace E := Lib.hid E
    clear hs hm hn hsz
    go_enter Try.func23, Try.ntmps23
    go_wp2_with fail
    refine (E.out).mono ?_
    rintro e w1 ⟨rfl, hd⟩
    have HD := Lib.hid (hd.since w.heap.size)
    clear hd
    go_wp2
    go_ret2
    exact ⟨rfl, HD.out⟩
  | true =>
    rw [hs] at E
    replace E := Lib.hid E
    obtain ⟨hT, hw⟩ := sqB_of hs
    rw [hn] at hw
    have h6 := hT.2.1
    have h1 := hT.1
    rw [hn] at h6 h1
    have HE3 := Lib.hid (fun (W : World) (hs : w.Since w.heap.size W) => l1Copy_any a cap n l W hn hT (hm.since hs))
    obtain ⟨o1, o2, o3⟩ := oneL_tab l h1 h6
    have EP := Lib.hid (fun (a' : Option Addr) (c' : Nat) (W : World) (hm' : MatR W a' (oneL l n)) => l5Plain_any a' c' n (oneL l n) o2 o1 o3 n 0 0 (by omega) (by omega) W hm')
    have hrow : ∀ r, r < n → (l.getD r []).length = n := fun r hr => by rw [hT.row (by omega), ← hw]
    obtain ⟨bt, ot, At, Ct, rfl, hlen, hcell⟩ := hm.grid hn hT hw.symm
    have HC := Lib.hid hcell
    have HLEN := Lib.hid hlen
    have HROW := Lib.hid hrow
    have HN := Lib.hid hn
    clear hs hm hsz hT hw hrow hcell hlen o1 o2 o3 hn
    go_enter Try.func23, Try.ntmps23
    go_wp2_with fail
    refine (E.out).mono ?_
    rintro e w1 ⟨rfl, hd⟩
    have hs1 := hd.since w.heap.size
    clear hd
    go_wp2_with fail
    refine (HE3.out w1 hs1).mono ?_
    rintro e w2 ⟨a2, cap2, rfl, hs2, ho2⟩
    obtain ⟨b, A, G, C, rfl, hb, hWR⟩ := ho2.wr HN.out (by omega) HROW.out hs2 (oneN l)
    have HB := Lib.hid hb
    have HWR := Lib.hid hWR
    have hz2 := hs2.size
    have hz1 := hs1.size
    clear hb hWR ho2
    go_wp2
    go_loopg [5, 6] n (fun g i _ wr => ∃ r : Nat, r ≤ n ∧ g = n - r ∧ i = .int .i64 r ∧ WR w1 wr b n n A G C (oneN l) l r 0 w2.heap.size)
    case atStart => exact ⟨0, Nat.zero_le _, rfl, rfl, HWR.out⟩
    case round =>
      obtain ⟨r, hr, rfl, rfl, hR⟩ := hrel
      clear HWR
      by_cases hlt : r < n
      · have HR := Lib.hid hR
        clear hR
        go_wp2
        go_loopg [6] n (fun g j wi => ∃ c : Nat, c ≤ n ∧ g = n - c ∧ j = .int .i64 c ∧ WR w1 wi b n n A G C (oneN l) l r c w2.heap.size)
        case atStart => exact ⟨0, Nat.zero_le _, rfl, rfl, HR.out⟩
        case round =>
          obtain ⟨c, hc, rfl, rfl, hI⟩ := hrel
          clear HR
          have hS := hs1.trans (since_mono hI.since hz1)
          by_cases hcm : c < n
          · obtain ⟨b', o', e1, e2, e3, e4⟩ := HC.out r c hlt hcm
            obtain ⟨f1, f2, f3, f4, f5⟩ := hI.facts hlt hcm
            have hb1 : bt < w.heap.size := World.block_lt_of_cell? _ _ e1
            have hb2 : b' < w.heap.size := World.block_lt_of_cell? _ _ e2
            rw [← hS.cell (a := ⟨bt, ot + r, none⟩) hb1] at e1
            rw [← hS.cell (a := ⟨b', o' + c, none⟩) hb2] at e2
            obtain ⟨g, hg⟩ : ∃ g, G r = g := ⟨_, rfl⟩
            rw [hg] at f1 f2 f3 f4 f5
            have hval : oneN l r c = if at2 l r c = 0 then 0 else 1 := rfl
            obtain ⟨y, hy⟩ : ∃ y, at2 l r c = y := ⟨_, rfl⟩
            rw [hy] at e2 e3 e4 f2 hval
            have hmm := min_max_one y
            have hwr : IntKind.i64.wrap (0 - y) = -y := (IntWalk.i64_in _ ⟨by omega, by omega⟩).trans (by omega)
            have hwr2 : IntKind.i64.wrap (-y) = -y := IntWalk.i64_in _ ⟨by omega, by omega⟩
            have HII := Lib.hid hI
            have HG := Lib.hid hg
            have HVAL := Lib.hid hval
            have HMM := Lib.hid hmm
            clear hI hy hg hval hmm
            have k1 := cell_set_ne (j := c) (v := .int .i64 (if (if y < -y then -y else y) < 1 then if y < -y then -y else y else 1)) f1 (show b ≠ g from fun e => f5 e.symm)
            have k2 := cell_set_ne (g := g) (j := c) (v := .int .i64 (if (if y < -y then -y else y) < 1 then if y < -y then -y else y else 1)) e1 (show bt ≠ g by omega)
            have k3 := cell_set_ne (g := g) (j := c) (v := .int .i64 (if (if y < -y then -y else y) < 1 then if y < -y then -y else y else 1)) e2 (show b' ≠ g by omega)
            go_wp2
            go_region_held3 (fun w' => w'.cell? ⟨b, r, none⟩ = some (.slice (some ⟨g, 0, none⟩) n (C r)) ∧ w'.cell? ⟨bt, ot + r, none⟩ = some (.slice (some ⟨b', o', none⟩) n (Ct r)) ∧ w'.cell? ⟨b', o' + c, none⟩ = some (.int .i64 y)) (go_keep) (fail)
            have hN := HII.out.store hlt hcm 1
            rw [HG.out, HVAL.out, ← HMM.out] at hN
            rename_i hHd
            clear hHd k1 k2 k3 HMM
            revert hN
            generalize (if (if y < -y then -y else y) < 1 then if y < -y then -y else y else 1) = Z1
            generalize (if y < -y then -y else y) = Z2
            intro hN
            have HNN := Lib.hid hN
            clear hN e1 e2 f1 f2 f3 hwr hwr2 hS
            all_goals
              go_wp2
              go_roundg (n - (c + 1))
              case measure => omega
              case rel => exact ⟨c + 1, by omega, rfl, by go_num, HNN.out⟩
          · have hcc : c = n := by omega
            subst hcc
            have HNN := Lib.hid hI.next
            clear hI hS
            go_wp2
            go_roundg (c - (r + 1))
            case measure => omega
            case rel => exact ⟨r + 1, by omega, rfl, by go_num, HNN.out⟩
      · have : r = n := by omega
        subst this
        have hfin := hR.ownT HB.out
        have hS := hs1.trans (since_mono hR.since hz1)
        have HF := Lib.hid hfin.matR
        have HS := Lib.hid hS
        clear hR hfin hS
        go_wp2_with fail
        refine (EP.out _ _ _ HF.out).mono ?_
        rintro e w4 ⟨rfl, hd4⟩
        have HS4 := Lib.hid (HS.out.trans (since_mono (hd4.since wr.heap.size) HS.out.size))
        clear hd4
        go_wp2
        go_ret2
        exact ⟨rfl, HS4.out⟩

end Go.Proofs.Ytiabnlebonmedaa
end

section
/- The contracts of plainByOrders and countOrders. -/
namespace Go.Proofs.Ytiabnlebonmedaa
open Go.RowKit Go.Deep Go.Shelf
attribute [local go_sem] Oper.semAt_some

theorem since_rowC {w X Y : World} {row : Option Nat} (h : w.Since w.heap.size X) (hg : X.grownBy Y row) (hr : ∀ r, row = some r → w.heap.size ≤ r) : w.Since w.heap.size Y :=
  ⟨hg.os.trans h.os, hg.tape.trans h.tape, hg.output.trans h.output, Nat.le_trans h.size hg.size, fun k hk => (hg.block k (by have := h.size; omega) (fun e => by have := hr k e.symm; omega)).trans (h.block k hk)⟩
theorem olP_put (n : Nat) (x : OL) (W : World) (l : Nat) (o o' : Obj) (h : olP n x W) (hl : W.heap[l]? = some o) (ho : o.isCells = false) : olP n x (W.putObj l o') := by
  refine ⟨h.1, fun hp => ?_⟩
  obtain ⟨b, p, e, hc⟩ := h.2 hp
  exact ⟨b, p, e, fun i hi => cell_kept (hc i hi) (grownBy_putObj' W l o') (fun r e => by cases e; exact ⟨o, hl, ho⟩)⟩

theorem prodC_bd {l : List (List Int)} {n : Nat} (hE : EntB l n) {cs : List Nat} (hl : cs.length = n) (hc : ∀ c ∈ cs, c < n) : -(p180 n) ≤ prodC l cs ∧ prodC l cs ≤ p180 n := by
  unfold prodC
  rw [hl]
  exact prodN_bd (by omega) n (fun j hj => hE.2 j _ hj (by
    have : cs.getD j 0 = cs[j]'(by omega) := by simp [List.getD, show j < cs.length by omega]
    rw [this]; exact hc _ (List.getElem_mem _)))

/-- What lies while lists are added up. -/
structure PLI (w : World) (t : TypeId) (tv : Value) (y : Int) (W : World) : Prop where
  bt : Boxed W w.heap.size t tv
  bs : Boxed W (w.heap.size + 1) 3 (.int .i64 y)
  sn : w.Since w.heap.size W
theorem PLI.kept {w W W' : World} {t : TypeId} {tv : Value} {y : Int} {row : Option Nat} (h : PLI w t tv y W) (hg : W.grownBy W' row) (hr : ∀ r, row = some r → w.heap.size + 2 ≤ r) : PLI w t tv y W' :=
  ⟨h.bt.kept hg (fun e => by have := hr _ e.symm; omega), h.bs.kept hg (fun e => by have := hr _ e.symm; omega), since_rowC h.sn hg (fun r e => by have := hr r e; omega)⟩
theorem PLI.set {w W : World} {t : TypeId} {tv : Value} {y : Int} (h : PLI w t tv y W) (z : Int) : PLI w t tv z (W.setCell ⟨w.heap.size + 1, 0, none⟩ (.int .i64 z)) :=
  ⟨h.bt.kept (grownBy_setCell' W _ _) (by simp), h.bs.set _, since_rowC h.sn (grownBy_setCell' W _ _) (fun r e => by cases e; omega)⟩
theorem pli_start (w : World) (t : TypeId) (tv : Value) (y : Int) : PLI w t tv y ((w.alloc (.cells #[tv] t)).alloc (.cells #[.int .i64 y] 3)) := by
  have b1 := (Boxed.new w t tv).alloc (.cells #[.int .i64 y] 3)
  have b2 := Boxed.new (w.alloc (.cells #[tv] t)) 3 (.int .i64 y)
  rw [World.size_alloc] at b2
  exact ⟨b1, b2, ((World.Since.refl _ w).alloc (Nat.le_refl _) _).alloc (by simp) _⟩

set_option maxRecDepth 100000 in
set_option maxHeartbeats 2000000 in
theorem plainByOrders_any (a : Option Addr) (cap n : Nat) (l : List (List Int)) (w : World) (hn : l.length = n) (hT : TabIn l) (hw : (l.getD 0 []).length = n) (hm : MatR w a l) :
    Calls Try.prog 38 #[.slice a n cap] w fun e w' => e = .returned (.int .i64 (plF l n n 0)) ∧ w.Since w.heap.size w' := by
  have h6 := hT.2.1
  have h1 := hT.1
  rw [hn] at h6 h1
  have hE := entB_of hT hn hw
  have EP := Lib.hid (fun (x : OL) (V : World) (hs : w.Since w.heap.size V) (hx : olP n x V) => plainProduct_any a cap n l x.1 n x.2 V hn hT hw (hm.since hs) hx.1.1 hx.1.2 hx.2)
  refine (callsIn_wide (n := 9)).1 ?_
  refine callsIn_of_wp_marks Try.func38 rfl trivial ?_ rfl
  simp only [Try.ntmps38, List.size_toArray, List.length_cons, List.length_nil, Nat.reduceAdd, Nat.reduceSub, Array.replicate_succ, Array.replicate_zero, List.push_toArray, List.append_toArray, List.nil_append, List.cons_append]
  clear hm
  gi_wp2_with (refine ⟨trivial, ?_⟩; gi_at_call 66; refine (callsIn_wide.2 (orders_any _ _)).mono ?_; rintro e w' ⟨rfl, rfl⟩)
  have hP := pli_start w 37 (.slice a n cap) 0
  obtain ⟨W1, hW1⟩ : ∃ W1, (w.alloc (.cells #[.slice a n cap] 37)).alloc (.cells #[.int .i64 0] 3) = W1 := ⟨_, rfl⟩
  have hz : W1.heap.size = w.heap.size + 1 + 1 := by rw [← hW1]; simp
  rw [hW1] at hP ⊢
  clear hW1
  have hbn := (Boxed.new W1 3 (.int .i64 n)).cell
  rw [hz] at hbn
  have hP2 := hP.kept (World.grownBy_alloc W1 (.cells #[.int .i64 n] 3) none) (fun r e => by cases e)
  have hz2 : (W1.alloc (.cells #[.int .i64 n] 3)).heap.size = w.heap.size + 3 := by simp [hz]
  obtain ⟨W0, hW0⟩ : ∃ W0, W1.alloc (.cells #[.int .i64 n] 3) = W0 := ⟨_, rfl⟩
  rw [hW0] at hbn hP2 hz2 ⊢
  clear hW0 hP hz
  refine rangeC (F := Fence.wide) (n := 9) rfl (by omega) (gf := 82) (lb := #[.pointer (some ⟨w.heap.size + 1 + 1, 0, none⟩)]) rfl trivial (enters_of Try.func82 (by kernel_rfl) rfl)
    (orders_stops 8 (w.heap.size + 1 + 1) n h1 h6 W0 (by omega) hbn) (fun _ => rfl) (olP_put n) (fun k => k = w.heap.size + 1) (by rintro k rfl; exact ⟨by omega, by omega⟩) (by rintro k rfl; omega)
    (fun (pre : List OL) W => PLI w 37 (.slice a n cap) (lsumI (fun x : OL => prodC l x.2) pre) W ∧ ∀ x ∈ pre, x.2.length = n ∧ ∀ c ∈ x.2, c < n)
    (fun pre X Y row hs hg hr => ⟨hs.1.kept hg (fun r e => by have := hr r e; omega), hs.2⟩)
    ⟨hP2, by simp⟩
    (fun x => { tmps := #[.slice a n cap, .pointer (some ⟨w.heap.size, 0, none⟩), .int .i64 0, .pointer (some ⟨w.heap.size + 1, 0, none⟩), .slice (some ⟨x.1, 0, none⟩) n n, .slice a n cap, .int .i64 n, .func (.func 82) #[] #[.pointer (some ⟨w.heap.size + 1 + 1, 0, none⟩)], .slice (some ⟨x.1, 0, none⟩) n n, undef, undef, undef, undef, undef, undef], defers := [] }) ?assign ?body ?done
  case assign =>
    intro lp x W K hK
    simp only [olV]
    gi_wp2
    exact hK
  case body =>
    rintro lp pre x W hl ⟨hv, hpre⟩ hpx hlen
    have hxx := hpx.1
    have hpz : prodN 1 (fun i => at2 l i (x.2.getD i 0)) n = prodC l x.2 := by unfold prodC; rw [hxx.1]
    have hzb := prodC_bd hE hxx.1 hxx.2
    have hyb := lsumI_bd (f := fun x : OL => prodC l x.2) (B := p180 n) (by have := p180_pos n; omega) pre (fun x hx => prodC_bd hE (hpre x hx).1 (hpre x hx).2)
    have hp6 := p180_le n h6
    have hmul : (pre.length : Int) * p180 n ≤ 46656 * 34012224000000 := Int.mul_le_mul (by omega) hp6 (by have := p180_pos n; omega) (by omega)
    have hsn := lsumI_snoc (fun x : OL => prodC l x.2) pre x
    have E := EP.out x W.drew hv.sn.drew (show olP n x W.drew from hpx)
    rw [hpz] at E
    obtain ⟨y, hy⟩ : ∃ y, lsumI (fun x : OL => prodC l x.2) pre = y := ⟨_, rfl⟩
    obtain ⟨z, hz⟩ : ∃ z, prodC l x.2 = z := ⟨_, rfl⟩
    rw [hy] at hv hyb hsn
    rw [hz] at E hzb hsn
    replace E := Lib.hid E
    have hws : IntKind.i64.wrap (y + z) = y + z := IntWalk.i64_in _ ⟨by omega, by omega⟩
    have cT : W.drew.cell? ⟨w.heap.size, 0, none⟩ = _ := hv.bt.cell
    have cS : W.drew.cell? ⟨w.heap.size + 1, 0, none⟩ = _ := hv.bs.cell
    have HSN := Lib.hid hsn
    have HV := Lib.hid hv
    have hmix : Try.prog.follows .mixedOrders = true := by kernel_rfl
    have HPRE := Lib.hid (show ∀ x' ∈ pre ++ [x], x'.2.length = n ∧ ∀ c ∈ x'.2, c < n from fun x' hx' => by
      rcases List.mem_append.1 hx' with h | h
      · exact hpre x' h
      · simp at h; subst h; exact hxx)
    clear hyb hzb hmul hsn hv hpre hpz hy hz hp6
    gi_wp2
    gi_region_with_o (first
      | (refine ⟨trivial, ?_⟩; gi_at_call 67; refine (CallsIn.inRound lp (callsIn_wide.2 (E.out))).mono ?_; rintro e w2 ⟨rfl, hs2⟩; have hg2 := grown_of_since (row := none) hs2; have hg := undrew hg2; have cS2 := (HV.out.bs.kept hg (by simp)).cell; have fS2 := (HV.out.bs.kept hg (by simp)).frozen; have HG := Lib.hid hg; clear hs2 hg2 hg))
    all_goals
      gi_wp2
      exact ⟨(Keeps.grown HG.out (fun r e => by cases e)).trans (Keeps.grown (grownBy_setCell' w2 (w.heap.size + 1) _) (fun r e => by cases e; rfl)), by rw [HSN.out]; exact (HV.out.kept HG.out (fun r e => by cases e)).set _, HPRE.out⟩
  case done =>
    rintro D ys W hD hS ⟨hv, _⟩ hK
    have hy : lsumI (fun x : OL => prodC l x.2) ys = plF l n n 0 := by
      rw [← plS_all l n h6, ← ordL_sum l n n [], ← hS, lsumI_map]
    rw [hy] at hv
    have cS := hv.bs.cell
    have hlt := hv.bs.lt
    have HS := Lib.hid (since_rowC hv.sn (grownBy_putObj' W D (.deferred none)) (fun r e => by cases e; omega))
    obtain ⟨y, hyy⟩ : ∃ y, plF l n n 0 = y := ⟨_, rfl⟩
    rw [hyy] at cS
    have HYY := Lib.hid hyy
    clear hv hS hy hyy
    gi_wp2
    refine ⟨by simp, .inl ⟨_, _, rfl, run_takeDeferred hK, ?_⟩⟩
    refine ⟨.int .i64 y, ?_, by rw [HYY.out], HS.out⟩
    simp [results, Try.f38, go_sem]

end Go.Proofs.Ytiabnlebonmedaa
end

section
/- The contracts of productOfSums and plainBySums. -/
namespace Go.Proofs.Ytiabnlebonmedaa
open Go.RowKit Go.Deep Go.Shelf
attribute [local go_sem] Oper.semAt_some

theorem prS_prod (l : List (List Int)) (n s : Nat) : ∀ i, prS l n s i = prodN 1 (fun i => rwS l s i n) i
  | 0 => rfl
  | i + 1 => by unfold prS prodN; rw [prS_prod l n s i]
theorem lprod_bd180 {n : Nat} (f : Nat → Int) (hf : ∀ j, j < n → -180 ≤ f j ∧ f j ≤ 180) (pre : List {i : Nat // i < n}) : -(p180 pre.length) ≤ lprod 1 f pre ∧ lprod 1 f pre ≤ p180 pre.length := by
  have H : ∀ (k : Nat) (pre : List {i : Nat // i < n}), pre.length = k → -(p180 k) ≤ lprod 1 f pre ∧ lprod 1 f pre ≤ p180 k := by
    intro k
    induction k with
    | zero =>
      intro pre h
      obtain rfl := List.length_eq_zero_iff.1 h
      simp [lprod, p180]
    | succ k ih =>
      intro pre h
      obtain ⟨xs, x, rfl⟩ : ∃ xs x, pre = xs ++ [x] := ⟨pre.dropLast, pre.getLast (by intro e; simp [e] at h), (List.dropLast_concat_getLast _).symm⟩
      have h1 := ih xs (by simp at h; exact h)
      have h2 := hf x.1 x.2
      rw [lprod_snoc]
      exact mul_bd180 h2.1 h2.2 h1.1 h1.2
  exact H _ pre rfl
/-- The numbers of a row in a set's columns add up to the row's sum; part of them is small. -/
theorem pick_sum {l : List (List Int)} {n j : Nat} (hE : EntB l n) (hj : j < n) (_hl : (l.getD j []).length = n) (s : Nat) : lsumI id (pickTo s (l.getD j []) n n) = rwS l s j n ∧ ∀ q, -180 ≤ lsumI id ((pickTo s (l.getD j []) n n).take q) ∧ lsumI id ((pickTo s (l.getD j []) n n).take q) ≤ 180 := by
  have H : ∀ k, k ≤ n → lsumI id (pickTo s (l.getD j []) n k) = rwS l s j k := by
    intro k
    induction k with
    | zero => intro _; rfl
    | succ k ih =>
      intro h
      have e : rwS l s j (k + 1) = rwS l s j k + ((s / 2 ^ k % 2 : Nat) : Int) * at2 l j k := rfl
      rw [e]
      cases hb : s.testBit k with
      | true =>
        have hd : s / 2 ^ k % 2 = 1 := by rw [Nat.testBit_eq_decide_div_mod_eq] at hb; simpa using hb
        rw [pickTo_yes s _ n k (by omega) hb, lsumI_snoc, ih (by omega), hd]
        show _ + at2 l j k = _
        omega
      | false =>
        have hd : s / 2 ^ k % 2 = 0 := by rw [Nat.testBit_eq_decide_div_mod_eq] at hb; have : ¬ s / 2 ^ k % 2 = 1 := by simpa using hb
                                          omega
        rw [pickTo_no s _ n k hb, ih (by omega), hd]
        omega
  refine ⟨H n (Nat.le_refl _), fun q => ?_⟩
  have hlen := pickTo_length s (l.getD j []) n n
  have h6 := hE.1
  have := lsumI_bd (f := id) (B := 30) (by omega) ((pickTo s (l.getD j []) n n).take q) (fun y hy => by
    have := List.mem_of_mem_take hy
    simp only [pickTo, List.mem_map] at this
    obtain ⟨c, _, rfl⟩ := this
    exact hE.2 j c.1 hj c.2)
  have h2 : ((pickTo s (l.getD j []) n n).take q).length ≤ 6 := by rw [List.length_take]; omega
  omega

set_option maxRecDepth 100000 in
set_option maxHeartbeats 2000000 in
theorem productOfSums_any (a : Option Addr) (cap n s : Nat) (l : List (List Int)) (w : World) (hn : l.length = n) (hT : TabIn l) (hw : (l.getD 0 []).length = n) (hm : MatR w a l) (hs : s ≤ 63) :
    Calls Try.prog 71 #[.slice a n cap, .int .i64 s] w fun e w' => e = .returned (.int .i64 (prS l n s n)) ∧ w.Since w.heap.size w' := by
  have h6 := hT.2.1
  have h1 := hT.1
  rw [hn] at h6 h1
  obtain ⟨b, o, A, C, rfl, hlen, hcell⟩ := hm.grid hn hT hw
  have hbl : b < w.heap.size := World.block_lt_of_cell? _ _ (hlen 0 (by omega))
  have hpow : 2 ^ n - 1 ≤ 63 := by have : 2 ^ n ≤ 2 ^ 6 := Nat.pow_le_pow_right (by omega) h6; omega
  have hE := entB_of hT hn hw
  have hrl : ∀ j, j < n → (l.getD j []).length = n := fun j hj => by rw [hT.row (by omega), hw]
  have hrowj : ∀ j, j < n → RowR w (A j) (l.getD j []) := fun j hj _ => by
    obtain ⟨bj, oj, e1, e2, _⟩ := hcell j 0 hj (by omega)
    have hA : A j = some ⟨bj, oj, none⟩ := by
      have := (hlen j hj).symm.trans e1
      simp at this
      exact this
    refine ⟨bj, oj, hA, fun i hi => ?_⟩
    obtain ⟨b2, o2, f1, f2, _⟩ := hcell j i hj (by rw [hrl j hj] at hi; exact hi)
    have := e1.symm.trans f1
    simp at this
    obtain ⟨rfl, rfl⟩ := this
    exact f2
  have HCH := Lib.hid (fun (j : Nat) (hj : j < n) (V : World) (hV : w.Since w.heap.size V) => chosen_any (A j) (C j) n s (l.getD j []) V (hrl j hj) (by omega) hs ((hrowj j hj).since hV))
  have HBND := Lib.hid (fun (j : Nat) (hj : j < n) => pick_sum hE hj (hrl j hj) s)
  have HC := Lib.hid hcell
  have HL := Lib.hid hlen
  obtain ⟨f, hf⟩ : ∃ f : Nat → Int, f = fun i => rwS l s i n := ⟨_, rfl⟩
  rw [prS_prod l n s n, ← hf]
  have HFB := Lib.hid (show ∀ i, i < n → -180 ≤ f i ∧ f i ≤ 180 from fun i hi => by rw [hf]; exact rwS_bd hE s hi (Nat.le_refl _))
  have HF := Lib.hid hf
  clear hm hn hT hw hcell hf hrowj hrl hE
  refine (callsIn_wide (n := 9)).1 ?_
  refine callsIn_of_wp_marks Try.func71 rfl trivial ?_ rfl
  simp only [Try.ntmps71, List.size_toArray, List.length_cons, List.length_nil, Nat.reduceAdd, Nat.reduceSub, Array.replicate_succ, Array.replicate_zero, List.push_toArray, List.append_toArray, List.nil_append, List.cons_append]
  gi_wp2_with (first
    | (refine ⟨trivial, ?_⟩; gi_at_call 80; refine (callsIn_wide.2 (allRows_any _ _ _ _ h6)).mono ?_; rintro e w' ⟨rfl, rfl⟩)
    | (refine ⟨trivial, ?_⟩; gi_at_call 79; refine (callsIn_wide.2 (rows_any _ _ _ _ _)).mono ?_; rintro e w' ⟨rfl, rfl⟩))
  obtain ⟨W0, hW0⟩ : ∃ W0, W0 = ((((w.alloc (.cells #[.int .i64 s] 3)).alloc (.cells #[.int .i64 1] 3)).alloc (.cells #[.slice (some ⟨b, o, none⟩) n cap] 37)).alloc (.cells #[.int .i64 (2 ^ n - 1 : Nat)] 3)) := ⟨_, rfl⟩
  rw [← hW0]
  obtain ⟨hsz0, hB0, d0, d1, d1f, d2, d3⟩ := prodO_world w (.int .i64 s) (.int .i64 1) (.slice (some ⟨b, o, none⟩) n cap) (.int .i64 (2 ^ n - 1 : Nat)) 37 3 W0 hW0
  have hc0' : ∀ j, j < n → W0.cell? ⟨b, o + j, none⟩ = some (.slice (A j) n (C j)) := fun j hj => (hB0.cell (p := ⟨b, o + j, none⟩) hbl).trans (HL.out j hj)
  have hstops := rows_stopsB 8 (by omega) (w.heap.size + 1) W0.heap.size (w.heap.size + 1 + 1) (w.heap.size + 1 + 1 + 1) b o n cap (2 ^ n - 1) (by omega) hpow A (fun _ => n) C W0 (Nat.le_refl _) (by omega) (by omega) (by omega) (by omega) (by omega) d2 d3 hc0'
  clear hc0' d2 d3 hW0
  refine wpIn_rangeFunc_ownF (F := Fence.wide) (n := 9) rfl (by omega) (gf := 92) (lb := #[.pointer (some ⟨w.heap.size + 1 + 1, 0, none⟩), .pointer (some ⟨w.heap.size + 1 + 1 + 1, 0, none⟩)]) rfl trivial (enters_of Try.func92 (by kernel_rfl) rfl)
    hstops kpB_t (kpB_b (Nat.le_refl _)) (Below.refl _ _) (fun _ => rfl)
    (fun pre W => (W.cell? ⟨w.heap.size, 0, none⟩ = some (.int .i64 s) ∧ W.cell? ⟨w.heap.size + 1, 0, none⟩ = some (.int .i64 (lprod 1 f pre)) ∧ W.frozen? ⟨w.heap.size + 1, 0, none⟩ = false) ∧ Below w.heap.size w W ∧ W0.heap.size ≤ W.heap.size)
    (fun _ _ _ => False)
    (OwnFrom.and (Own.from (fun s A B row hs hg hr => ⟨cell_kept hs.1 hg hr, cell_kept hs.2.1 hg hr, (frozen_kept hs.2.1 hg hr).trans hs.2.2⟩) _) (OwnFrom.and (ownFrom_below (Nat.le_refl _) (by omega)) (fun s A B row hs hg hr => Nat.le_trans hs hg.size)))
    (fun c => fun s A B row hs hg hr => hs)
    ⟨⟨d0, d1, d1f⟩, hB0, Nat.le_refl _⟩
    (fun x => { tmps := #[.slice (some ⟨b, o, none⟩) n cap, .int .i64 s, undef, .pointer (some ⟨w.heap.size, 0, none⟩), .int .i64 0, .pointer (some ⟨w.heap.size + 1, 0, none⟩), undef, .slice (A x.1) n (C x.1), undef, undef, undef,
        .slice (some ⟨b, o, none⟩) n cap, .slice (some ⟨b, o, none⟩) n cap, .int .i64 (2 ^ n - 1 : Nat),
        .func (.func 92) #[] #[.pointer (some ⟨w.heap.size + 1 + 1, 0, none⟩), .pointer (some ⟨w.heap.size + 1 + 1 + 1, 0, none⟩)],
        .int .i64 x.1, .slice (A x.1) n (C x.1), undef, undef, undef, undef, undef, undef, undef, undef, undef, undef, undef, undef, undef, undef, undef, undef], defers := [] }) ?assign ?body ?done ?stop
  case assign =>
    intro lp x W K hK
    gi_wp2
    exact hK
  case body =>
    rintro lp pre x W ⟨⟨q0, q1, q1f⟩, gB, gZ⟩ hlen
    have hx2 := x.2
    obtain ⟨j, hj⟩ : ∃ j, x.1 = j := ⟨_, rfl⟩
    rw [hj] at hx2 ⊢
    have hsn := lprod_snoc 1 f pre x
    rw [hj] at hsn
    have hlb := lprod_bd180 f HFB.out pre
    have hp6 := p180_le pre.length (by omega)
    have hfb := HFB.out j hx2
    obtain ⟨hp1, hp2⟩ := HBND.out j hx2
    have hfj : f j = rwS l s j n := by rw [HF.out]
    rw [← hfj] at hp1
    have EC := HCH.out j hx2 W (below_since gB)
    obtain ⟨xs, hxs⟩ : ∃ xs, pickTo s (l.getD j []) n n = xs := ⟨_, rfl⟩
    have hml : xs.length ≤ n := by rw [← hxs]; exact pickTo_length _ _ _ _
    rw [hxs] at hp1 hp2 EC
    obtain ⟨p, hp⟩ : ∃ p, f j = p := ⟨_, rfl⟩
    obtain ⟨y, hy⟩ : ∃ y, lprod 1 f pre = y := ⟨_, rfl⟩
    rw [hp] at hsn hfb hp1
    rw [hy] at q1 hsn hlb
    have hmb := mul_bd180 hfb.1 hfb.2 hlb.1 hlb.2
    have hw2 : IntKind.i64.wrap (y * p) = y * p := IntWalk.i64_in _ ⟨by omega, by omega⟩
    have HSN := Lib.hid hsn
    have HP1 := Lib.hid hp1
    have HP2 := Lib.hid hp2
    have HGB := Lib.hid gB
    replace EC := Lib.hid EC
    clear hj hp hy hsn hlb hfj hmb hxs hp6 hp1 hp2 hfb
    gi_wp2_with (refine ⟨trivial, ?_⟩; gi_at_call 86; refine (CallsIn.inRound lp (callsIn_wide.2 (EC.out))).mono ?_; rintro e w2 ⟨v, rfl, hR⟩; obtain ⟨a2, cp, rfl, hr2⟩ := hR.slice; have hs2 := hR.since)
    have hlW : w.heap.size + 1 < W.heap.size := World.block_lt_of_cell? _ _ q1
    have c1 := (hs2.cell (a := ⟨w.heap.size + 1, 0, none⟩) hlW).trans q1
    have c1f := (hs2.frozen hlW).trans q1f
    have c0 := (hs2.cell (a := ⟨w.heap.size, 0, none⟩) (by show w.heap.size < _; omega)).trans q0
    have HR2 := Lib.hid hr2
    have HS2 := Lib.hid hs2
    obtain ⟨m, hm⟩ : ∃ m, xs.length = m := ⟨_, rfl⟩
    have HM := Lib.hid hm
    rw [hm] at hml ⊢
    clear hr2 hs2 hR hm gB q0 q1 q1f
    gi_loopw [8, 10, 21] (fun sv _ i wr => ∃ q : Nat, q ≤ m ∧ i = .int .i64 q ∧ sv = .int .i64 (lsumI id (xs.take q)) ∧ w2 = wr) (fun _ _ i _ => m - (intOf i).toNat)
    case atStart => exact ⟨0, Nat.zero_le _, rfl, rfl, rfl⟩
    case round =>
      obtain ⟨q, hq, rfl, rfl, rfl⟩ := hrel
      by_cases hlt : q < m
      · obtain ⟨G, rfl, hG, hrb⟩ := HR2.out (by rw [HM.out]; omega)
        have cq : w2.cell? ⟨G, q, none⟩ = _ := hrb.cell (i := q) (by rw [HM.out]; exact hlt)
        have ht : xs.take (q + 1) = xs.take q ++ [xs.getD q 0] := by rw [List.take_add_one]; simp [List.getD, show q < xs.length by rw [HM.out]; exact hlt]
        have hb0 := HP2.out q
        have hb1 := HP2.out (q + 1)
        have e : lsumI id (xs.take (q + 1)) = lsumI id (xs.take q) + xs.getD q 0 := by rw [ht, lsumI_snoc]; rfl
        obtain ⟨u, hu⟩ : ∃ u, xs.getD q 0 = u := ⟨_, rfl⟩
        obtain ⟨z, hz⟩ : ∃ z, lsumI id (xs.take q) = z := ⟨_, rfl⟩
        rw [hz, hu] at e
        rw [hu] at cq
        rw [e] at hb1
        rw [hz]
        have hws : IntKind.i64.wrap (z + u) = z + u := IntWalk.i64_in _ ⟨by omega, by omega⟩
        have hwq : IntKind.i64.wrap ((q : Int) + 1) = ((q + 1 : Nat) : Int) := (IntWalk.i64_in _ ⟨by omega, by omega⟩).trans (by omega)
        have HE := Lib.hid e
        clear ht hb0 hb1 e hu hz hrb
        gi_wp2
        go_roundw
        case rel => exact ⟨q + 1, by omega, rfl, by rw [HE.out], trivial⟩
        case measure => simp [intOf]; omega
      · obtain rfl : q = m := by omega
        have hps : lsumI id (xs.take q) = p := by rw [← HM.out, List.take_length]; exact HP1.out
        rw [hps]
        clear hps
        gi_wp2
        rw [← HSN.out] at hw2 ⊢
        refine ⟨(KeepsOthers.of_grownBy (grown_of_since (row := none) HS2.out) (fun j o e => by cases e)).trans (KeepsOthers.setCell _ _ _), ⟨?_, fun b h1 h2 => ?_⟩, ⟨?_, ?_, ?_⟩, ?_, ?_⟩
        · simpa using HS2.out.size
        · exact (Below.heap_setCell _ _ _ _ h1).trans (HS2.out.block b (by omega))
        · exact (World.cell?_setCell_other _ _ _ _ (fun e => by injection e with e1; omega)).trans c0
        · exact World.cell?_setCell_same' _ _ _ (by rw [c1]; rfl)
        · exact (World.frozen?_setCell _ _ _ _).trans c1f
        · exact (HGB.out.trans ⟨HS2.out.os, HS2.out.tape, HS2.out.output, HS2.out.size, fun k hk => HS2.out.block k (by have := HGB.out.size; omega)⟩).setCell (p := ⟨w.heap.size + 1, 0, none⟩) (by simp) _
        · simpa using Nat.le_trans gZ HS2.out.size
  case done =>
    rintro D ys W hD rfl ⟨⟨q0, q1, q1f⟩, gB, _⟩ hK
    gi_wp2
    refine ⟨by simp, .inl ⟨_, _, rfl, run_takeDeferred hK, ?_⟩⟩
    have hls := lprod_sel 1 f (2 ^ n - 1) n (fun i hi => by rw [Nat.testBit_two_pow_sub_one]; simpa using hi) n (Nat.le_refl _)
    refine ⟨.int .i64 (prodN 1 f n), ?_, rfl, below_since (gB.trans (belowK_b (w := w) (Nat.le_refl _) W D _ _ (by omega) hK rfl rfl))⟩
    simp [results, Try.f71, go_sem, hls]
  case stop =>
    rintro D c pre W hD hpre hF hK
    exact hF.elim


end Go.Proofs.Ytiabnlebonmedaa
end

section
/- The contracts of members and isSet. -/
namespace Go.Proofs.Ytiabnlebonmedaa
open Go.RowKit Go.Deep

/-! The steps of OnesCount64. -/
def oc1 (s : Int) : Int := IntKind.u64.wrap (bits BinOp.and IntKind.u64 (s / 2) 6148914691236517205 + bits BinOp.and IntKind.u64 s 6148914691236517205)
def oc2 (x : Int) : Int := IntKind.u64.wrap (bits BinOp.and IntKind.u64 (x / 4) 3689348814741910323 + bits BinOp.and IntKind.u64 x 3689348814741910323)
def oc3 (x : Int) : Int := bits BinOp.and IntKind.u64 (IntKind.u64.wrap (x / 16 + x)) 1085102592571150095
def oc4 (x : Int) : Int := IntKind.u64.wrap (x + x / 256)
def oc5 (x : Int) : Int := IntKind.u64.wrap (x + x / 65536)
def oc6 (x : Int) : Int := IntKind.u64.wrap (x + x / 4294967296)
def ocF (s : Int) : Int := bits BinOp.and IntKind.i64 (wrap64 (oc6 (oc5 (oc4 (oc3 (oc2 (oc1 s))))))) 127
theorem ocF_fin : ∀ s : Fin 64, ocF s.val = popcS s.val := by decide +kernel

set_option maxRecDepth 100000 in
set_option maxHeartbeats 1000000 in
theorem ones64_any (s : Nat) (h : s < 64) (w : World) :
    Calls Try.prog 97 #[.int .u64 s] w fun e w' => e = .returned (.int .i64 (popcS s)) ∧ w = w' := by
  go_enter Try.func97, Try.ntmps97
  go_wp2
  go_ret
  refine ⟨?_, rfl⟩
  have e := ocF_fin ⟨s, h⟩
  simp only [ocF, oc6, oc5, oc4, oc3, oc2, oc1] at e
  exact congrArg (fun z => Ending.returned (Value.int IntKind.i64 z)) e

set_option maxHeartbeats 400000 in
theorem ones_any (s : Nat) (h : s < 64) (w : World) :
    Calls Try.prog 85 #[.int .u64 s] w fun e w' => e = .returned (.int .i64 (popcS s)) ∧ w = w' := by
  have E := Lib.hid (ones64_any s h w)
  go_enter Try.func85, Try.ntmps85
  go_wp2_with fail
  refine (E.out).mono ?_
  rintro e w' ⟨rfl, rfl⟩
  go_wp2
  go_ret
  exact ⟨rfl, rfl⟩

set_option maxHeartbeats 400000 in
theorem members_any (s : Nat) (h : s < 64) (w : World) :
    Calls Try.prog 70 #[.int .i64 s] w fun e w' => e = .returned (.int .i64 (popcS s)) ∧ w = w' := by
  have E := Lib.hid (ones_any s h w)
  go_enter Try.func70, Try.ntmps70
  go_wp2_with fail
  refine (E.out).mono ?_
  rintro e w' ⟨rfl, rfl⟩
  go_wp2
  go_ret
  exact ⟨rfl, rfl⟩

end Go.Proofs.Ytiabnlebonmedaa
end

section
/- The contract of plainBySums. -/
namespace Go.Proofs.Ytiabnlebonmedaa
open Go.RowKit Go.Deep

set_option maxRecDepth 100000 in
set_option maxHeartbeats 2000000 in
theorem plainBySums_any (a : Option Addr) (cap n : Nat) (l : List (List Int)) (w : World) (hn : l.length = n) (hT : TabIn l) (hw : (l.getD 0 []).length = n) (hm : MatR w a l) :
    Calls Try.prog 41 #[.slice a n cap] w fun e w' => e = .returned (.int .i64 (sumN (ryT l n) (2 ^ n))) ∧ w.Since w.heap.size w' := by
  have hE := entB_of hT hn hw
  have h6 := hE.1
  have hpw : 2 ^ n ≤ 2 ^ 6 := Nat.pow_le_pow_right (by omega) h6
  have hp0 : 1 ≤ 2 ^ n := Nat.pow_pos (by omega)
  have HPS := Lib.hid (fun (s : Nat) (hs : s ≤ 63) (V : World) (hV : w.Since w.heap.size V) => productOfSums_any a cap n s l V hn hT hw (hm.since hV) hs)
  have HB := Lib.hid (fun (q : Nat) (hq : q ≤ 64) => ryS_bd hE hq)
  have HR := Lib.hid (fun (s : Nat) (hs : s ≠ 0) => show ryT l n s = sn (n - popcS s) * prS l n s n from by unfold ryT; rw [if_neg hs, sg_sn])
  have HP := Lib.hid (fun (s : Nat) => prS_bd hE s n (Nat.le_refl _))
  have hp6 := p180_le n h6
  have h0 : sumN (ryT l n) 1 = 0 := rfl
  have HPC := Lib.hid (fun (s : Nat) (hs : s < 2 ^ n) => popc_in ⟨n, by omega⟩ ⟨s, by omega⟩ hs)
  obtain ⟨F, hF⟩ : ∃ F, F = ryT l n := ⟨_, rfl⟩
  simp only [← hF] at HB HR h0 ⊢
  have H0 := Lib.hid h0
  obtain ⟨M, hM⟩ : ∃ M, 2 ^ n = M := ⟨_, rfl⟩
  have EF := Lib.hid (fun (V : World) => fullSet_any n h6 V)
  have hMM := Lib.hid hM
  simp only [hM] at hpw hp0 HPC EF ⊢
  clear hm hn hT hw hE hF h0 hM
  go_enter Try.func41, Try.ntmps41
  go_wp2
  go_loopg [3, 4] (M - 1) (fun g sv c wr => ∃ q : Nat, 1 ≤ q ∧ q ≤ M ∧ g = M - q ∧ c = .int .i64 q ∧ sv = .int .i64 (sumN F q) ∧ w.Since w.heap.size wr)
  case atStart => exact ⟨1, Nat.le_refl _, hp0, rfl, rfl, by rw [H0.out], World.Since.refl _ _⟩
  case round =>
    obtain ⟨q, hq1, hq, rfl, rfl, rfl, hS⟩ := hrel
    have HS := Lib.hid hS
    by_cases hlt : q < M
    · have hc : ((q : Int) ≤ ((M - 1 : Nat) : Int)) := by omega
      have e : sumN F (q + 1) = sumN F q + F q := rfl
      have hb := HB.out (q + 1) (by omega)
      rw [e] at hb
      have hr := HR.out q (by omega)
      have hpb := HP.out q
      have hpc := HPC.out q hlt
      have EM := Lib.hid (fun (V : World) => members_any q (by omega) V)
      have EP := HPS.out q (by omega)
      obtain ⟨pc, hpcc⟩ : ∃ p, popcS q = p := ⟨_, rfl⟩
      have EG := Lib.hid (fun (V : World) => signOf_any (n - pc) (by omega) V)
      simp only [hpcc] at EM
      rw [hpcc] at hr hpc
      have hsb := sn_bd (n - pc)
      obtain ⟨s0, hs0⟩ : ∃ s, sumN F q = s := ⟨_, rfl⟩
      obtain ⟨z, hz⟩ : ∃ z, F q = z := ⟨_, rfl⟩
      obtain ⟨p, hp⟩ : ∃ p, prS l n q n = p := ⟨_, rfl⟩
      obtain ⟨g, hg⟩ : ∃ g, sn (n - pc) = g := ⟨_, rfl⟩
      rw [hs0, hz] at e hb
      rw [hz, hp, hg] at hr
      simp only [hp] at EP hpb
      simp only [hg] at EG hsb
      replace EP := Lib.hid EP
      rw [hs0]
      have hsub : IntKind.i64.wrap ((n : Int) - (pc : Int)) = ((n - pc : Nat) : Int) := (IntWalk.i64_in _ ⟨by omega, by omega⟩).trans (by omega)
      have hzb : -34012224000000 ≤ z ∧ z ≤ 34012224000000 := by
        have : g = -1 ∨ g = 0 ∨ g = 1 := by omega
        rcases this with rfl | rfl | rfl <;> omega
      have hwm : IntKind.i64.wrap (g * p) = z := by rw [← hr]; exact IntWalk.i64_in _ ⟨by omega, by omega⟩
      have hws : IntKind.i64.wrap (s0 + z) = s0 + z := IntWalk.i64_in _ ⟨by omega, by omega⟩
      have HE := Lib.hid e
      clear e hb hr hpb hsb hzb hs0 hz hp hg hpcc hS
      go_wp2_with (first
        | (go_at_call 68; refine (EF.out _).mono ?_; rintro e w' ⟨rfl, rfl⟩)
        | (go_at_call 70; refine (EM.out _).mono ?_; rintro e w' ⟨rfl, rfl⟩)
        | (go_at_call 69; refine (EG.out _).mono ?_; rintro e w' ⟨rfl, rfl⟩)
        | (go_at_call 71; refine (EP.out _ HS.out).mono ?_; rintro e w2 ⟨rfl, hs2⟩; have HS2 := Lib.hid (HS.out.trans (since_mono hs2 HS.out.size)); clear hs2))
      go_roundg (M - (q + 1))
      case measure => omega
      case rel => exact ⟨q + 1, by omega, by omega, rfl, by go_num, by rw [HE.out], HS2.out⟩
    · obtain rfl : q = M := by omega
      have hc : ¬ ((q : Int) ≤ ((q - 1 : Nat) : Int)) := by omega
      clear hS
      go_wp2_with (go_at_call 68; refine (EF.out _).mono ?_; rintro e w' ⟨rfl, rfl⟩)
      go_ret
      exact ⟨rfl, HS.out⟩

end Go.Proofs.Ytiabnlebonmedaa
end

section
/- The contract of impl.PlainSums. -/
namespace Go.Proofs.Ytiabnlebonmedaa
open Go.RowKit Go.Deep

set_option maxHeartbeats 1000000 in
theorem implPlainSums_any (a : Option Addr) (cap n : Nat) (l : List (List Int)) (w : World) (hn : l.length = n) (hsz : szL l ≤ 1048576) (hm : MatR w a l) :
    Calls Try.prog 17 #[.slice a n cap] w (SpecW w (sqB l) (sumN (ryT l n) (2 ^ n))) := by
  have E := isSquare_any a cap n l w hn hsz hm
  cases hs : sqB l with
  | false =>
    rw [hs] at E
    replace E := Lib.hid E
    clear hs hm hn hsz
    go_enter Try.func17, Try.ntmps17
    go_wp2_with fail
    refine (E.out).mono ?_
    rintro e w1 ⟨rfl, hd⟩
    have HD := Lib.hid hd
    clear hd
    go_wp2
    go_ret2
    exact ⟨rfl, HD.out⟩
  | true =>
    rw [hs] at E
    replace E := Lib.hid E
    obtain ⟨hT, hw⟩ := sqB_of hs
    have E2 := Lib.hid (fun (W : World) (hd : w.Since w.heap.size W) => plainBySums_any a cap n l W hn hT (by omega) (hm.since hd))
    clear hs hm hn hsz hT hw
    go_enter Try.func17, Try.ntmps17
    go_wp2_with fail
    refine (E.out).mono ?_
    rintro e w1 ⟨rfl, hd⟩
    have HD := Lib.hid hd
    clear hd
    go_wp2_with fail
    refine (E2.out w1 HD.out).mono ?_
    rintro e w2 ⟨rfl, hs2⟩
    have HS2 := Lib.hid (HD.out.trans (since_mono hs2 HD.out.size))
    clear hs2
    go_wp2
    go_ret2
    exact ⟨rfl, HS2.out⟩

end Go.Proofs.Ytiabnlebonmedaa
end

section
/- Halves of squares turned about: the pure side of spec.l5Half and spec.l5Count. -/
namespace Go.Proofs.Ytiabnlebonmedaa
open Go.RowKit Go.Deep

/-- The least member of a set. -/
def lowB (s : Nat) : Nat := if s % 2 = 1 then 0 else if s / 2 % 2 = 1 then 1 else if s / 4 % 2 = 1 then 2 else if s / 8 % 2 = 1 then 3 else if s / 16 % 2 = 1 then 4 else 5
theorem lowB_fin : ∀ s : Fin 64, s.val ≠ 0 → s.val.testBit (lowB s.val) = true ∧ lowB s.val < 6 ∧ ∀ j : Fin 6, j.val < lowB s.val → s.val.testBit j.val = false := by decide +kernel
theorem lowB_in : ∀ n : Fin 7, ∀ s : Fin 64, s.val < 2 ^ n.val → s.val ≠ 0 → lowB s.val < n.val := by decide +kernel
/-- How many members lie between two places. -/
def btw (s i k : Nat) : Nat := popcS (s / 2 ^ (i + 1) % 2 ^ (k - i - 1))
theorem btw_fin : ∀ s : Fin 64, ∀ i k : Fin 6, i.val < k.val → btw s.val i.val (k.val + 1) = btw s.val i.val k.val + (if s.val.testBit k.val = true then 1 else 0) := by decide +kernel
theorem btw_zero : ∀ s : Fin 64, ∀ i : Fin 6, btw s.val i.val (i.val + 1) = 0 := by decide +kernel
theorem two_off : ∀ s : Fin 64, ∀ i k : Fin 6, i.val < k.val → s.val.testBit i.val = true → s.val.testBit k.val = true →
    bits BinOp.andNot IntKind.i64 (s.val : Int) (2 ^ i.val) = ((s.val - 2 ^ i.val : Nat) : Int) ∧ bits BinOp.andNot IntKind.i64 ((s.val - 2 ^ i.val : Nat) : Int) (2 ^ k.val) = ((s.val - 2 ^ i.val - 2 ^ k.val : Nat) : Int) ∧
    popcS (s.val - 2 ^ i.val - 2 ^ k.val) + 2 = popcS s.val := by decide +kernel
theorem two_less {s i k m : Nat} (h : s < m) : s - 2 ^ i - 2 ^ k < m := Nat.lt_of_le_of_lt (Nat.le_trans (Nat.sub_le _ _) (Nat.sub_le _ _)) h

/-- One term of the half over the rows that are left. -/
def halfT (l : List (List Int)) (i s : Nat) (f : Nat → Int) (k : Nat) : Int := if i < k ∧ s.testBit k = true then sg (btw s i k) (at2 l i k * f (s - 2 ^ i - 2 ^ k)) else 0
theorem halfT_no {l : List (List Int)} {i s k : Nat} (f : Nat → Int) (h : ¬(i < k ∧ s.testBit k = true)) : halfT l i s f k = 0 := by unfold halfT; rw [if_neg h]
theorem halfT_yes {l : List (List Int)} {i s k : Nat} (f : Nat → Int) (h1 : i < k) (h2 : s.testBit k = true) : halfT l i s f k = sg (btw s i k) (at2 l i k * f (s - 2 ^ i - 2 ^ k)) := by unfold halfT; rw [if_pos ⟨h1, h2⟩]
/-- What l5Half returns; d: at most so many pairs. -/
def halfF (l : List (List Int)) (n : Nat) : Nat → Nat → Int
  | 0, s => if s = 0 then 1 else 0
  | d + 1, s => if s = 0 then 1 else sumN (halfT l (lowB s) s (halfF l n d)) n
theorem halfF_none (l : List (List Int)) (n d : Nat) : halfF l n d 0 = 1 := by cases d <;> rfl
theorem halfF_some (l : List (List Int)) (n d : Nat) {s : Nat} (h : s ≠ 0) : halfF l n (d + 1) s = sumN (halfT l (lowB s) s (halfF l n d)) n := if_neg h

/-- One term of the count of pairings. -/
def cntT (l : List (List Int)) (i s : Nat) (f : Nat → Nat) (k : Nat) : Nat := if (i < k ∧ s.testBit k = true) ∧ at2 l i k ≠ 0 then f (s - 2 ^ i - 2 ^ k) else 0
/-- A sum of numbers from 0 on. -/
def sumM (f : Nat → Nat) : Nat → Nat
  | 0 => 0
  | n + 1 => sumM f n + f n
/-- What l5Count returns. -/
def cntF (l : List (List Int)) (n : Nat) : Nat → Nat → Nat
  | 0, s => if s = 0 then 1 else 0
  | d + 1, s => if s = 0 then 1 else sumM (cntT l (lowB s) s (cntF l n d)) n
theorem cntF_none (l : List (List Int)) (n d : Nat) : cntF l n d 0 = 1 := by cases d <;> rfl
theorem cntF_some (l : List (List Int)) (n d : Nat) {s : Nat} (h : s ≠ 0) : cntF l n (d + 1) s = sumM (cntT l (lowB s) s (cntF l n d)) n := if_neg h
theorem cntT_no {l : List (List Int)} {i s k : Nat} (f : Nat → Nat) (h : ¬((i < k ∧ s.testBit k = true) ∧ at2 l i k ≠ 0)) : cntT l i s f k = 0 := by unfold cntT; rw [if_neg h]
theorem cntT_yes {l : List (List Int)} {i s k : Nat} (f : Nat → Nat) (h : (i < k ∧ s.testBit k = true) ∧ at2 l i k ≠ 0) : cntT l i s f k = f (s - 2 ^ i - 2 ^ k) := by unfold cntT; rw [if_pos h]

theorem sumN_congrH {f g : Nat → Int} : ∀ n, (∀ c, c < n → f c = g c) → sumN f n = sumN g n
  | 0, _ => rfl
  | n + 1, h => by
    show sumN f n + f n = sumN g n + g n
    rw [sumN_congrH n (fun c hc => h c (by omega)), h n (by omega)]
theorem halfT_bd {l : List (List Int)} {n i s k : Nat} {f : Nat → Int} {B : Int} (h : EntB l n) (hi : i < n) (hk : k < n) (hB : 0 ≤ B) (hf : ∀ u, -B ≤ f u ∧ f u ≤ B) : -(30 * B) ≤ halfT l i s f k ∧ halfT l i s f k ≤ 30 * B := by
  unfold halfT
  split
  · have h1 := h.2 i k hi hk
    have h2 := hf (s - 2 ^ i - 2 ^ k)
    exact sg_bd (mul_bdB h1.1 h1.2 h2.1 h2.2)
  · omega
theorem halfT_in {l : List (List Int)} {i s k m : Nat} {f : Nat → Int} (hs : s < m) : halfT l i s (fun u => if u < m then f u else 0) k = halfT l i s f k := by
  unfold halfT
  split
  · show sg _ (at2 l i k * (if s - 2 ^ i - 2 ^ k < m then f (s - 2 ^ i - 2 ^ k) else 0)) = _
    rw [if_pos (two_less hs)]
  · rfl
theorem sumH_bd {l : List (List Int)} {n i s k : Nat} {f : Nat → Int} {B : Int} (h : EntB l n) (hi : i < n) (hk : k ≤ n) (hB : 0 ≤ B) (hf : ∀ u, -B ≤ f u ∧ f u ≤ B) : -(180 * B) ≤ sumN (halfT l i s f) k ∧ sumN (halfT l i s f) k ≤ 180 * B := by
  have h6 := h.1
  have h1 := sumN_bdB (f := halfT l i s f) (B := 30 * B) k (fun j hj => halfT_bd h hi (by omega) hB hf)
  have h2 : (k : Int) * (30 * B) ≤ 6 * (30 * B) := Int.mul_le_mul_of_nonneg_right (by omega) (by omega)
  omega
/-- A bound for sets of any kind: the numbers of rows beyond the square count for nothing. -/
theorem halfF_bd {l : List (List Int)} {n : Nat} (h : EntB l n) : ∀ d s, s < 2 ^ n → -(p180 d) ≤ halfF l n d s ∧ halfF l n d s ≤ p180 d
  | 0, s, _ => by unfold halfF; split <;> simp [p180]
  | d + 1, s, hs => by
    have hp := p180_pos d
    have hp3 : p180 (d + 1) = 180 * p180 d := rfl
    by_cases h0 : s = 0
    · rw [h0, halfF_none]; omega
    · rw [halfF_some l n d h0]
      have h6 := h.1
      have h64 : 2 ^ n ≤ 2 ^ 6 := Nat.pow_le_pow_right (by omega) h6
      have hl := lowB_in ⟨n, by omega⟩ ⟨s, by omega⟩ hs h0
      simp only at hl
      have e : sumN (halfT l (lowB s) s (halfF l n d)) n = sumN (halfT l (lowB s) s (fun u => if u < 2 ^ n then halfF l n d u else 0)) n := by
        exact sumN_congrH n (fun k _ => (halfT_in hs).symm)
      rw [e]
      exact sumH_bd h hl (Nat.le_refl _) (by omega) (fun u => by
        by_cases hu : u < 2 ^ n
        · rw [if_pos hu]; exact halfF_bd h d u hu
        · rw [if_neg hu]; omega)

theorem sumM_le {f : Nat → Nat} {B : Nat} (h : ∀ k, f k ≤ B) : ∀ n, sumM f n ≤ n * B
  | 0 => by simp [sumM]
  | n + 1 => by
    have := sumM_le h n
    have := h n
    rw [Nat.add_mul, Nat.one_mul]
    show sumM f n + f n ≤ _
    omega
/-- 6 to the power of d. -/
def p6 : Nat → Nat
  | 0 => 1
  | d + 1 => 6 * p6 d
theorem p6_pos : ∀ d, 1 ≤ p6 d
  | 0 => by simp [p6]
  | d + 1 => by have := p6_pos d; unfold p6; omega
theorem cntF_bd (l : List (List Int)) {n : Nat} (h6 : n ≤ 6) : ∀ d s, cntF l n d s ≤ p6 d
  | 0, s => by unfold cntF; split <;> simp [p6]
  | d + 1, s => by
    have hp := p6_pos (d + 1)
    by_cases h0 : s = 0
    · rw [h0, cntF_none]; exact hp
    · rw [cntF_some l n d h0]
      have := sumM_le (f := cntT l (lowB s) s (cntF l n d)) (B := p6 d) (fun k => by
        unfold cntT
        split
        · exact cntF_bd l h6 d _
        · omega) n
      have h2 : n * p6 d ≤ 6 * p6 d := Nat.mul_le_mul_right _ h6
      show _ ≤ 6 * p6 d
      omega

end Go.Proofs.Ytiabnlebonmedaa
end

section
/- Chapter 5's laws, the pure side: sums without signs beside values, and the counts of pairings and of lists. -/
namespace Go.Proofs.Ytiabnlebonmedaa
open Go.RowKit Go.Deep

theorem sg_or (p : Nat) (x : Int) : sg p x = x ∨ sg p x = -x := by unfold sg; split <;> simp
theorem sumM_zero {f : Nat → Nat} : ∀ n, sumM f n = 0 → ∀ k, k < n → f k = 0
  | 0, _, k, hk => by omega
  | n + 1, h, k, hk => by
    have h1 : sumM f n + f n = 0 := h
    by_cases e : k = n
    · subst e; omega
    · exact sumM_zero n (by omega) k (by omega)
theorem sumM_one {f : Nat → Nat} : ∀ n, sumM f n = 1 → ∃ k, k < n ∧ f k = 1 ∧ ∀ j, j < n → j ≠ k → f j = 0
  | 0, h => by simp [sumM] at h
  | n + 1, h => by
    have h1 : sumM f n + f n = 1 := h
    by_cases e : f n = 0
    · obtain ⟨k, hk, e1, e2⟩ := sumM_one (f := f) n (by omega)
      refine ⟨k, by omega, e1, fun j hj hne => ?_⟩
      by_cases e3 : j = n
      · subst e3; exact e
      · exact e2 j (by omega) hne
    · have h0 := sumM_zero n (show sumM f n = 0 by omega)
      exact ⟨n, by omega, by omega, fun j hj hne => h0 j (by omega)⟩
theorem sumN_oneP (f : Nat → Int) (k : Nat) : ∀ n, k < n → (∀ j, j < n → j ≠ k → f j = 0) → sumN f n = f k
  | 0, h, _ => by omega
  | n + 1, h, h0 => by
    show sumN f n + f n = f k
    by_cases e : k = n
    · subst e
      have : sumN f k = 0 := by
        rw [sumN_congrH k (g := fun _ => 0) (fun c hc => h0 c (by omega) (by omega))]
        exact sumN_zeroP k
      omega
    · rw [sumN_oneP f k n (by omega) (fun j hj hne => h0 j (by omega) hne), h0 n (by omega) (by omega), Int.add_zero]
where
  sumN_zeroP : ∀ n, sumN (fun _ => 0) n = 0
    | 0 => rfl
    | n + 1 => by
      show sumN (fun _ => 0) n + 0 = 0
      rw [sumN_zeroP n]; rfl
theorem sumN_noneP {f : Nat → Int} : ∀ n, (∀ k, k < n → f k = 0) → sumN f n = 0
  | 0, _ => rfl
  | n + 1, h => by
    show sumN f n + f n = 0
    rw [sumN_noneP n (fun k hk => h k (by omega)), h n (by omega)]; rfl

/-- A half of which no pairing counts is 0; one of which one pairing counts is not. -/
theorem half_cnt (l : List (List Int)) (n : Nat) : ∀ d s, (cntF l n d s = 0 → halfF l n d s = 0) ∧ (cntF l n d s = 1 → halfF l n d s ≠ 0)
  | 0, s => by
    unfold cntF halfF
    by_cases e : s = 0 <;> simp [e]
  | d + 1, s => by
    by_cases e : s = 0
    · subst e; rw [cntF_none, halfF_none]; simp
    · rw [cntF_some l n d e, halfF_some l n d e]
      have hz : ∀ k, cntT l (lowB s) s (cntF l n d) k = 0 → halfT l (lowB s) s (halfF l n d) k = 0 := fun k h => by
        by_cases h1 : lowB s < k ∧ s.testBit k = true
        · rw [halfT_yes _ h1.1 h1.2]
          by_cases h2 : at2 l (lowB s) k = 0
          · rw [h2]; unfold sg; split <;> simp
          · rw [cntT_yes _ ⟨h1, h2⟩] at h
            rw [(half_cnt l n d _).1 h]; unfold sg; split <;> simp
        · exact halfT_no _ h1
      constructor
      · intro h
        exact sumN_noneP n fun k hk => hz k (sumM_zero n h k hk)
      · intro h
        obtain ⟨k, hk, e1, e2⟩ := sumM_one n h
        rw [sumN_oneP _ k n hk (fun j hj hne => hz j (e2 j hj hne))]
        by_cases h1 : (lowB s < k ∧ s.testBit k = true) ∧ at2 l (lowB s) k ≠ 0
        · rw [cntT_yes _ h1] at e1
          have h3 := (half_cnt l n d _).2 e1
          rw [halfT_yes _ h1.1.1 h1.1.2]
          have h4 : at2 l (lowB s) k * halfF l n d (s - 2 ^ lowB s - 2 ^ k) ≠ 0 := Int.mul_ne_zero h1.2 h3
          rcases sg_or (btw s (lowB s) k) (at2 l (lowB s) k * halfF l n d (s - 2 ^ lowB s - 2 ^ k)) with h | h <;> rw [h] <;> omega
        · rw [cntT_no _ h1] at e1; omega

theorem sg_mod (p : Nat) {x y : Int} (h : (x - y) % 2 = 0) : (x - sg p y) % 2 = 0 := by unfold sg; split <;> omega
theorem sumN_mod {f g : Nat → Int} : ∀ n, (∀ k, k < n → (f k - g k) % 2 = 0) → (sumN f n - sumN g n) % 2 = 0
  | 0, _ => rfl
  | n + 1, h => by
    have h1 := sumN_mod n (fun k hk => h k (by omega))
    have h2 := h n (by omega)
    show ((sumN f n + f n) - (sumN g n + g n)) % 2 = 0
    omega
/-- Sums without signs and values are even or odd together. -/
theorem pl_mod (l : List (List Int)) (n : Nat) : ∀ d u, (plF l n d u - ordF l n d u) % 2 = 0
  | 0, _ => rfl
  | d + 1, u => by
    rw [plF_succ, ordF_succ]
    refine sumN_mod n fun k _ => ?_
    by_cases h : u.testBit k = true
    · rw [plT_yes _ h, ordT_yes _ h]; rfl
    · have h' : u.testBit k = false := by simpa using h
      rw [plT_no _ h', ordT_no _ h']
      refine sg_mod _ ?_
      have ih := pl_mod l n d (u ||| 2 ^ k)
      rw [← Int.mul_sub]
      obtain ⟨q, hq⟩ : ∃ q, plF l n d (u ||| 2 ^ k) - ordF l n d (u ||| 2 ^ k) = 2 * q := ⟨(plF l n d (u ||| 2 ^ k) - ordF l n d (u ||| 2 ^ k)) / 2, by omega⟩
      rw [hq, Int.mul_left_comm]
      omega

theorem sumN_le {f g : Nat → Int} : ∀ n, (∀ k, k < n → -(f k) ≤ g k ∧ g k ≤ f k) → -(sumN f n) ≤ sumN g n ∧ sumN g n ≤ sumN f n
  | 0, _ => by simp [sumN]
  | n + 1, h => by
    have h1 := sumN_le n (fun k hk => h k (by omega))
    have h2 := h n (by omega)
    show -(sumN f n + f n) ≤ sumN g n + g n ∧ sumN g n + g n ≤ sumN f n + f n
    omega
/-- Where no entry is below 0, the sum without signs is at least the value, and at least its opposite. -/
theorem pl_ge (l : List (List Int)) (n : Nat) (h0 : ∀ i k, i < n → k < n → 0 ≤ at2 l i k) : ∀ d, d ≤ n → ∀ u, -(plF l n d u) ≤ ordF l n d u ∧ ordF l n d u ≤ plF l n d u
  | 0, _, _ => by rw [plF_zero, ordF_zero]; omega
  | d + 1, hd, u => by
    rw [plF_succ, ordF_succ]
    refine sumN_le n fun k hk => ?_
    by_cases h : u.testBit k = true
    · rw [plT_yes _ h, ordT_yes _ h]; omega
    · have h' : u.testBit k = false := by simpa using h
      rw [plT_no _ h', ordT_no _ h']
      have ih := pl_ge l n h0 d (by omega) (u ||| 2 ^ k)
      have hx := h0 (n - (d + 1)) k (by omega) hk
      refine sg_bd ?_
      rw [← Int.mul_neg]
      exact ⟨Int.mul_le_mul_of_nonneg_left ih.1 hx, Int.mul_le_mul_of_nonneg_left ih.2 hx⟩

theorem sumN_nn {f : Nat → Int} : ∀ n, (∀ k, k < n → 0 ≤ f k) → 0 ≤ sumN f n
  | 0, _ => by simp [sumN]
  | n + 1, h => by
    have h1 := sumN_nn n (fun k hk => h k (by omega))
    have h2 := h n (by omega)
    show 0 ≤ sumN f n + f n
    omega
theorem sumN_zeroI {f : Nat → Int} : ∀ n, (∀ k, k < n → 0 ≤ f k) → sumN f n = 0 → ∀ k, k < n → f k = 0
  | 0, _, _, k, hk => by omega
  | n + 1, h0, h, k, hk => by
    have h1 : sumN f n + f n = 0 := h
    have h2 := sumN_nn n (fun k hk => h0 k (by omega))
    have h3 := h0 n (by omega)
    by_cases e : k = n
    · subst e; omega
    · exact sumN_zeroI n (fun k hk => h0 k (by omega)) (by omega) k (by omega)
theorem sumN_oneI {f : Nat → Int} : ∀ n, (∀ k, k < n → 0 ≤ f k) → sumN f n = 1 → ∃ k, k < n ∧ f k = 1 ∧ ∀ j, j < n → j ≠ k → f j = 0
  | 0, _, h => by simp [sumN] at h
  | n + 1, h0, h => by
    have h1 : sumN f n + f n = 1 := h
    have h2 := sumN_nn n (fun k hk => h0 k (by omega))
    have h3 := h0 n (by omega)
    by_cases e : f n = 0
    · obtain ⟨k, hk, e1, e2⟩ := sumN_oneI n (fun k hk => h0 k (by omega)) (by omega)
      refine ⟨k, by omega, e1, fun j hj hne => ?_⟩
      by_cases e3 : j = n
      · subst e3; exact e
      · exact e2 j (by omega) hne
    · have h4 := sumN_zeroI n (fun k hk => h0 k (by omega)) (show sumN f n = 0 by omega)
      exact ⟨n, by omega, by omega, fun j hj hne => h4 j (by omega)⟩

/-- For a square o that is 1 where l is not 0, and 0 elsewhere: where the count is 0, both sums are 0; where it is 1, they are one number or its opposite, and not 0. -/
theorem pl_cnt (l o : List (List Int)) (n : Nat) (ho : ∀ i k, i < n → k < n → at2 o i k = if at2 l i k = 0 then 0 else 1) : ∀ d, d ≤ n → ∀ u, 0 ≤ plF o n d u ∧
    (plF o n d u = 0 → ordF l n d u = 0 ∧ plF l n d u = 0) ∧ (plF o n d u = 1 → (ordF l n d u = plF l n d u ∨ ordF l n d u = -plF l n d u) ∧ ordF l n d u ≠ 0)
  | 0, _, _ => by simp [plF_zero, ordF_zero]
  | d + 1, hd, u => by
    rw [plF_succ, plF_succ, ordF_succ]
    have hi : n - (d + 1) < n := by omega
    obtain ⟨i, hii⟩ : ∃ i, n - (d + 1) = i := ⟨_, rfl⟩
    rw [hii] at hi ⊢
    have ih := pl_cnt l o n ho d (by omega)
    have hnn : ∀ k, k < n → 0 ≤ plT o i u (plF o n d) k := fun k hk => by
      by_cases h : u.testBit k = true
      · rw [plT_yes _ h]; omega
      · have h' : u.testBit k = false := by simpa using h
        rw [plT_no _ h', ho i k hi hk]
        have := (ih (u ||| 2 ^ k)).1
        split <;> omega
    have hz : ∀ k, k < n → plT o i u (plF o n d) k = 0 → ordT l i u (ordF l n d) k = 0 ∧ plT l i u (plF l n d) k = 0 := fun k hk h0 => by
      by_cases h : u.testBit k = true
      · rw [plT_yes _ h, ordT_yes _ h]; exact ⟨rfl, rfl⟩
      · have h' : u.testBit k = false := by simpa using h
        rw [plT_no _ h', ho i k hi hk] at h0
        rw [plT_no _ h', ordT_no _ h']
        by_cases h2 : at2 l i k = 0
        · rw [h2]; unfold sg; split <;> simp
        · rw [if_neg h2, Int.one_mul] at h0
          obtain ⟨e1, e2⟩ := (ih (u ||| 2 ^ k)).2.1 h0
          rw [e1, e2]; unfold sg; split <;> simp
    refine ⟨sumN_nn n hnn, fun h => ?_, fun h => ?_⟩
    · have hh := sumN_zeroI n hnn h
      exact ⟨sumN_noneP n fun k hk => (hz k hk (hh k hk)).1, sumN_noneP n fun k hk => (hz k hk (hh k hk)).2⟩
    · obtain ⟨k, hk, e1, e2⟩ := sumN_oneI n hnn h
      rw [sumN_oneP (ordT l i u (ordF l n d)) k n hk (fun j hj hne => (hz j hj (e2 j hj hne)).1), sumN_oneP (plT l i u (plF l n d)) k n hk (fun j hj hne => (hz j hj (e2 j hj hne)).2)]
      by_cases h : u.testBit k = true
      · rw [plT_yes _ h] at e1; omega
      · have h' : u.testBit k = false := by simpa using h
        rw [plT_no _ h', ho i k hi hk] at e1
        rw [plT_no _ h', ordT_no _ h']
        by_cases h2 : at2 l i k = 0
        · rw [if_pos h2] at e1; omega
        · rw [if_neg h2, Int.one_mul] at e1
          obtain ⟨e3, e4⟩ := (ih (u ||| 2 ^ k)).2.2 e1
          have h4 : at2 l i k * ordF l n d (u ||| 2 ^ k) ≠ 0 := Int.mul_ne_zero h2 e4
          have h5 : at2 l i k * ordF l n d (u ||| 2 ^ k) = at2 l i k * plF l n d (u ||| 2 ^ k) ∨ at2 l i k * ordF l n d (u ||| 2 ^ k) = -(at2 l i k * plF l n d (u ||| 2 ^ k)) := by
            rcases e3 with e | e <;> rw [e]
            · exact Or.inl rfl
            · exact Or.inr (Int.mul_neg _ _)
          rcases sg_or (popcS (u / 2 ^ k)) (at2 l i k * ordF l n d (u ||| 2 ^ k)) with e | e <;> rw [e] <;> constructor <;> omega

end Go.Proofs.Ytiabnlebonmedaa
end

section
/- The value by lists, by rows and by pivots is one: the pure side. -/
namespace Go.Proofs.Ytiabnlebonmedaa
open Go.RowKit Go.Deep

/-- The numbers below n that a set lacks. -/
def lacks (n U : Nat) : List Nat := (List.range n).filter fun k => !U.testBit k
/-- The one at j. -/
def gam (U j : Nat) : Nat := (lacks 6 U).getD j 0
/-- The sign that a set of used columns bears. -/
def sgU (U : Nat) : Int := sn (((List.range 6).filter fun k => U.testBit k).foldl (· + ·) 0 + popcS U * (popcS U - 1) / 2)

theorem lacks_len : ∀ n : Fin 7, ∀ U : Fin 64, U.val < 2 ^ n.val → (lacks n.val U.val).length + popcS U.val = n.val := by decide +kernel
theorem lacks_get : ∀ n : Fin 7, ∀ U : Fin 64, ∀ j : Fin 6, U.val < 2 ^ n.val → j.val + popcS U.val < n.val → (lacks n.val U.val).getD j.val 0 = gam U.val j.val ∧ gam U.val j.val < n.val ∧ U.val.testBit (gam U.val j.val) = false := by decide +kernel
theorem gam_or : ∀ U : Fin 64, ∀ j j' : Fin 6, j.val + popcS U.val < 6 → j'.val + popcS U.val + 1 < 6 → gam (U.val ||| 2 ^ gam U.val j.val) j'.val = gam U.val (skip j.val j'.val) := by decide +kernel
theorem sgU_or : ∀ U : Fin 64, ∀ j : Fin 6, j.val + popcS U.val < 6 → sn (popcS (U.val / 2 ^ gam U.val j.val)) * sgU (U.val ||| 2 ^ gam U.val j.val) = sgU U.val * sn j.val := by decide +kernel
theorem popcS_add : ∀ U : Fin 64, ∀ k : Fin 6, U.val.testBit k.val = false → popcS (U.val ||| 2 ^ k.val) = popcS U.val + 1 := by decide +kernel

theorem sumL_get (F : Nat → Int) : ∀ l : List Nat, (l.map F).foldr (· + ·) 0 = sumN (fun j => F (l.getD j 0)) l.length
  | [] => rfl
  | x :: xs => by
    rw [List.length_cons, sumN_first, List.map_cons, List.foldr_cons, sumL_get F xs]
    rfl
theorem sumL_snoc (l : List Int) (x : Int) : (l ++ [x]).foldr (· + ·) 0 = l.foldr (· + ·) 0 + x := by
  induction l with
  | nil => simp
  | cons y ys ih => simp only [List.cons_append, List.foldr_cons, ih]; omega
theorem sumN_lacks (F : Nat → Int) (U : Nat) : ∀ n, sumN (fun k => if U.testBit k then 0 else F k) n = ((lacks n U).map F).foldr (· + ·) 0
  | 0 => rfl
  | n + 1 => by
    have e : lacks (n + 1) U = lacks n U ++ (if U.testBit n then [] else [n]) := by
      unfold lacks
      rw [List.range_succ, List.filter_append]
      cases h : U.testBit n <;> simp [h]
    unfold sumN
    rw [sumN_lacks F U n, e]
    cases h : U.testBit n
    · simp only [Bool.false_eq_true, if_false, List.map_append, List.map_cons, List.map_nil, sumL_snoc]
    · simp

theorem ordF_dt (l : List (List Int)) {n : Nat} (hn : n ≤ 6) : ∀ (d U : Nat), U < 2 ^ n → popcS U + d = n → ordF l n d U = sgU U * dt d (fun i j => at2 l (n - d + i) (gam U j))
  | 0, U, hU, hp => by
    rw [ordF_zero, dt_zero]
    have h : ∀ n : Fin 7, ∀ U : Fin 64, U.val < 2 ^ n.val → popcS U.val = n.val → sgU U.val = 1 := by decide +kernel
    have p : 2 ^ n ≤ 2 ^ 6 := Nat.pow_le_pow_right (by omega) hn
    have := h ⟨n, by omega⟩ ⟨U, by omega⟩ hU (by simpa using hp)
    simp only at this
    rw [this]; rfl
  | d + 1, U, hU, hp => by
    have p : 2 ^ n ≤ 2 ^ 6 := Nat.pow_le_pow_right (by omega) hn
    have hlen := lacks_len ⟨n, by omega⟩ ⟨U, by omega⟩ hU
    simp only at hlen
    rw [ordF_succ, dt_succ, ← sumN_mul]
    have e0 : ∀ k, ordT l (n - (d + 1)) U (ordF l n d) k = if U.testBit k then 0 else sn (popcS (U / 2 ^ k)) * (at2 l (n - (d + 1)) k * ordF l n d (U ||| 2 ^ k)) := fun k => by
      unfold ordT
      split
      · rfl
      · rw [sg_sn]
    rw [sumN_congr n (fun k _ => e0 k), sumN_lacks (fun k => sn (popcS (U / 2 ^ k)) * (at2 l (n - (d + 1)) k * ordF l n d (U ||| 2 ^ k))), sumL_get, show (lacks n U).length = d + 1 by omega]
    refine sumN_congr _ fun j hj => ?_
    obtain ⟨g1, g2, g3⟩ := lacks_get ⟨n, by omega⟩ ⟨U, by omega⟩ ⟨j, by omega⟩ hU (by simp only; omega)
    simp only at g1 g2 g3
    have hs := sgU_or ⟨U, by omega⟩ ⟨j, by omega⟩ (by simp only; omega)
    have ha := popcS_add ⟨U, by omega⟩ ⟨gam U j, by omega⟩ g3
    simp only at hs ha
    rw [g1, ordF_dt l hn d (U ||| 2 ^ gam U j) (Nat.or_lt_two_pow hU (Nat.pow_lt_pow_right (by omega) g2)) (by omega)]
    have ed : dt d (fun i j' => at2 l (n - d + i) (gam (U ||| 2 ^ gam U j) j')) = dt d (dr j (fun i j => at2 l (n - (d + 1) + i) (gam U j))) := dt_congr d fun i j' _ hj' => by
      have := gam_or ⟨U, by omega⟩ ⟨j, by omega⟩ ⟨j', by omega⟩ (by simp only; omega) (by simp only; omega)
      simp only at this
      rw [this]
      show _ = at2 l (n - (d + 1) + (i + 1)) (gam U (skip j j'))
      rw [show n - (d + 1) + (i + 1) = n - d + i by omega]
    rw [ed, Nat.add_zero]
    generalize dt d (dr j (fun i j => at2 l (n - (d + 1) + i) (gam U j))) = D
    generalize at2 l (n - (d + 1)) (gam U j) = y
    rw [show sn (popcS (U / 2 ^ gam U j)) * (y * (sgU (U ||| 2 ^ gam U j) * D)) = (sn (popcS (U / 2 ^ gam U j)) * sgU (U ||| 2 ^ gam U j)) * (y * D) by grind, hs, Int.mul_assoc]
theorem gam_zero : ∀ j : Fin 6, gam 0 j.val = j.val := by decide +kernel
/-- The sum over lists is the value by first rows. -/
theorem ordF_all (l : List (List Int)) {n : Nat} (hn : n ≤ 6) : ordF l n n 0 = dt n (at2 l) := by
  rw [ordF_dt l hn n 0 (Nat.pow_pos (by omega)) (by have : popcS 0 = 0 := by decide
                                                    omega)]
  have h1 : sgU 0 = 1 := by decide +kernel
  rw [h1, Int.one_mul]
  refine dt_congr n fun i j hi hj => ?_
  have := gam_zero ⟨j, by omega⟩
  simp only at this
  rw [this, Nat.sub_self, Nat.zero_add]

end Go.Proofs.Ytiabnlebonmedaa
end

section
/- Two rows of a table exchanged: the contract of the method swapped. -/
namespace Go.Proofs.Ytiabnlebonmedaa
open Go.RowKit Go.Deep

/-- The row that comes to row r. -/
def sw (i k r : Nat) : Nat := if r = k then i else if r = i then k else r
def swapL (l : List (List Int)) (i k : Nat) : List (List Int) := (List.range l.length).map fun r => l.getD (sw i k r) []
theorem swapL_length (l : List (List Int)) (i k : Nat) : (swapL l i k).length = l.length := by simp [swapL]
theorem swapL_get (l : List (List Int)) (i k : Nat) {r : Nat} (h : r < l.length) : (swapL l i k).getD r [] = l.getD (sw i k r) [] := by simp [swapL, List.getD, h]
theorem sw_lt {i k r n : Nat} (hi : i < n) (hk : k < n) (hr : r < n) : sw i k r < n := by unfold sw; split <;> (try split) <;> omega
theorem sw_sw (i k r : Nat) : sw i k (sw i k r) = r := by
  unfold sw
  by_cases h1 : r = k
  · subst h1
    by_cases h2 : i = r
    · subst h2; simp
    · simp [h2]
  · by_cases h2 : r = i
    · subst h2; simp
    · simp [h1, h2]
theorem sw_inj {i k r r' : Nat} (h : sw i k r = sw i k r') : r = r' := by
  have := congrArg (sw i k) h
  rwa [sw_sw, sw_sw] at this
theorem swapL_tab {l : List (List Int)} {i k : Nat} (hT : TabIn l) (hi : i < l.length) (hk : k < l.length) : TabIn (swapL l i k) := by
  have h1 := hT.1
  have h2 := hT.2.1
  refine ⟨by rw [swapL_length]; exact h1, by rw [swapL_length]; exact h2, fun r hr => ?_⟩
  rw [swapL_length] at hr
  rw [swapL_get l i k (show 0 < l.length by omega), swapL_get l i k hr]
  have h3 := hT.2.2 _ (sw_lt hi hk hr)
  rw [hT.row (sw_lt hi hk (show 0 < l.length by omega))]
  exact h3

theorem sel_full (n k : Nat) (hk : k ≤ n) : (sel (2 ^ n - 1) n k).map (·.1) = List.range k := by
  induction k with
  | zero => rfl
  | succ k ih =>
    rw [sel_yes _ _ _ (by omega) (by rw [Nat.testBit_two_pow_sub_one]; simp; omega), List.map_append, ih (by omega), List.range_succ]
    rfl
theorem range_getD {α : Type} (x : List α) (d : α) : (List.range x.length).map (fun j => x.getD j d) = x := by
  refine List.ext_getElem (by simp) fun i h1 h2 => ?_
  simp [List.getD, h2]
theorem pickTo_full (x : List Int) (m : Nat) (h : x.length = m) : pickTo (2 ^ m - 1) x m m = x := by
  have e : pickTo (2 ^ m - 1) x m m = ((sel (2 ^ m - 1) m m).map (·.1)).map (fun j => x.getD j 0) := by rw [List.map_map]; rfl
  rw [e, sel_full m m (Nat.le_refl _), ← h, range_getD]
theorem partL_full {l : List (List Int)} (hT : Rec l) : partL l (2 ^ l.length - 1) (2 ^ (l.getD 0 []).length - 1) = l := by
  have e : partL l (2 ^ l.length - 1) (2 ^ (l.getD 0 []).length - 1) = ((sel (2 ^ l.length - 1) l.length l.length).map (·.1)).map (fun r => pickTo (2 ^ (l.getD 0 []).length - 1) (l.getD r []) (l.getD 0 []).length (l.getD 0 []).length) := by rw [List.map_map]; rfl
  rw [e, sel_full _ _ (Nat.le_refl _)]
  have h : (List.range l.length).map (fun r => pickTo (2 ^ (l.getD 0 []).length - 1) (l.getD r []) (l.getD 0 []).length (l.getD 0 []).length) = (List.range l.length).map (fun r => l.getD r []) :=
    List.map_congr_left fun r hr => pickTo_full _ _ (hT.row (List.mem_range.1 hr))
  rw [h, range_getD]

/-- Two rows are exchanged. -/
theorem OwnD.swap {lo hi : Nat} {w : World} {b : Nat} {A : Nat → Option Addr} {G C : Nat → Nat} {n m : Nat} {Z : Nat → Nat → Int} (h : OwnD lo hi w b A G C n (fun _ => m) Z) {i k : Nat} (hi' : i < n) (hk : k < n) :
    OwnD lo hi ((w.setCell ⟨b, i, none⟩ (.slice (A k) m (C k))).setCell ⟨b, k, none⟩ (.slice (A i) m (C i))) b (fun r => A (sw i k r)) (fun r => G (sw i k r)) (fun r => C (sw i k r)) n (fun _ => m) (fun r c => Z (sw i k r) c) := by
  refine ⟨fun r hr => ?_, fun r hr h0 => h.addr _ (sw_lt hi' hk hr) h0, fun r hr h0 => h.inside _ (sw_lt hi' hk hr) h0, fun r hr c hc => ?_, fun r hr c hc => by rw [World.frozen?_setCell, World.frozen?_setCell]; exact h.free _ (sw_lt hi' hk hr) c hc, fun r r' hr hr' h0 h0' e => sw_inj (h.apart _ _ (sw_lt hi' hk hr) (sw_lt hi' hk hr') h0 h0' e)⟩
  · by_cases e1 : r = k
    · subst e1
      have : sw i r r = i := by simp [sw]
      rw [this]
      refine World.cell?_setCell_same' _ _ _ ?_
      by_cases e2 : i = r
      · subst e2
        rw [World.cell?_setCell_same' _ _ _ (by rw [h.top i hi']; rfl)]; rfl
      · rw [World.cell?_setCell_other _ _ _ _ (fun e => e2 (by injection e)), h.top r hk]; rfl
    · rw [World.cell?_setCell_other _ _ _ _ (fun e => e1 (by injection e with _ e; exact e.symm))]
      by_cases e2 : r = i
      · subst e2
        have : sw r k r = k := by simp [sw, e1]
        rw [this]
        exact World.cell?_setCell_same' _ _ _ (by rw [h.top r hr]; rfl)
      · have : sw i k r = r := by simp [sw, e1, e2]
        rw [this, World.cell?_setCell_other _ _ _ _ (fun e => e2 (by injection e with _ e; exact e.symm))]
        exact h.top r hr
  · have hl := sw_lt hi' hk hr
    have hin := h.inside _ hl (by omega)
    rw [World.cell?_setCell_other _ _ _ _ (fun e => hin.2.2 (by injection e with e; exact e.symm)), World.cell?_setCell_other _ _ _ _ (fun e => hin.2.2 (by injection e with e; exact e.symm))]
    exact h.cell _ hl c hc
theorem OwnD.swapT {lo hi : Nat} {w : World} {b : Nat} {A : Nat → Option Addr} {G C : Nat → Nat} {n m : Nat} {Z : Nat → Nat → Int} {l : List (List Int)} (h : OwnD lo hi w b A G C n (fun _ => m) Z) {i k : Nat} (hi' : i < n) (hk : k < n) (hb : lo ≤ b ∧ b < hi)
    (hn : l.length = n) (hm : ∀ r, r < n → (l.getD r []).length = m) (hZ : ∀ r c, r < n → c < m → Z r c = at2 l r c) : OwnT lo hi ((w.setCell ⟨b, i, none⟩ (.slice (A k) m (C k))).setCell ⟨b, k, none⟩ (.slice (A i) m (C i))) (some ⟨b, 0, none⟩) (swapL l i k) :=
  (h.swap hi' hk).ownT hb ((swapL_length _ _ _).trans hn) (fun r hr => by rw [swapL_get l i k (by omega)]; exact hm _ (sw_lt hi' hk hr)) (fun r hr c hc => by rw [swapL_get l i k (by omega)]; exact (hZ _ c (sw_lt hi' hk hr) hc).symm)

set_option maxRecDepth 100000 in
set_option maxHeartbeats 2000000 in
theorem swapped_any (a : Option Addr) (cap n i k : Nat) (l : List (List Int)) (w : World) (hn : l.length = n) (hT : Rec l) (hi : i < n) (hk : k < n) (hm : MatR w a l) :
    Calls Try.prog 102 #[.slice a n cap, .int .i64 i, .int .i64 k] w fun e w' => ∃ a' cap', e = .returned (.slice a' n cap') ∧ w.Since w.heap.size w' ∧ OwnT w.heap.size w'.heap.size w' a' (swapL l i k) := by
  have h6 := hT.high
  have h1 := hT.low
  have hw := hT.width
  rw [hn] at h6 h1
  obtain ⟨m, hmm⟩ : ∃ m, (l.getD 0 []).length = m := ⟨_, rfl⟩
  have E1 := Lib.hid (allRows_any a cap n w h6)
  have E2 := width_any a cap n l w hn (by omega) (by omega) hm
  rw [hmm] at E2 hw
  replace E2 := Lib.hid E2
  have E3 := Lib.hid (fullSet_any m hw.2 w)
  have p1 : 2 ^ n ≤ 2 ^ 6 := Nat.pow_le_pow_right (by omega) h6
  have p2 : 2 ^ m ≤ 2 ^ 6 := Nat.pow_le_pow_right (by omega) hw.2
  have E4 := part_rec a cap n (2 ^ n - 1) (2 ^ m - 1) l w hn hT (by omega) (by omega) hm
  have hfull := partL_full hT
  rw [hn, hmm] at hfull
  rw [hfull, hn] at E4
  replace E4 := Lib.hid E4
  have hrow : ∀ r, r < n → (l.getD r []).length = m := fun r hr => by rw [hT.row (by omega), hmm]
  have HN := Lib.hid hn
  have HROW := Lib.hid hrow
  clear hm hT hfull hrow hmm hn p1 p2
  go_enter Try.func102, Try.ntmps102
  go_wp2_with fail
  refine (E1.out).mono ?_
  rintro e w1 ⟨rfl, rfl⟩
  go_wp2_with fail
  refine (E2.out).mono ?_
  rintro e w1 ⟨rfl, rfl⟩
  go_wp2_with fail
  refine (E3.out).mono ?_
  rintro e w1 ⟨rfl, rfl⟩
  go_wp2_with fail
  refine (E4.out).mono ?_
  rintro e w2 ⟨a2, cap2, rfl, hs2, ho2, hfr⟩
  obtain ⟨b, A, G, C, rfl, hb, hWR⟩ := ho2.wr HN.out (by omega) HROW.out hs2 (fun _ _ => 0)
  have hO := hWR.own
  have c1 := hO.top i hi
  have c2 := hO.top k hk
  have HF := Lib.hid (hO.swapT hi hk hb HN.out HROW.out (fun r c _ _ => by unfold updF; rw [if_neg (by omega)]))
  have f1 := hfr b i rfl hi
  have f2 := hfr b k rfl hk
  have HS := Lib.hid (show w.Since w.heap.size ((w2.setCell ⟨b, i, none⟩ (.slice (A k) m (C k))).setCell ⟨b, k, none⟩ (.slice (A i) m (C i))) from (hs2.setCell hb.1 _).setCell hb.1 _)
  have HZ := Lib.hid (show ((w2.setCell ⟨b, i, none⟩ (.slice (A k) m (C k))).setCell ⟨b, k, none⟩ (.slice (A i) m (C i))).heap.size = w2.heap.size by simp)
  obtain ⟨y1, hy1⟩ : ∃ y, y = A i := ⟨_, rfl⟩
  obtain ⟨y2, hy2⟩ : ∃ y, y = A k := ⟨_, rfl⟩
  obtain ⟨z1, hz1⟩ : ∃ y, y = C i := ⟨_, rfl⟩
  obtain ⟨z2, hz2⟩ : ∃ y, y = C k := ⟨_, rfl⟩
  rw [← hy1, ← hy2, ← hz1, ← hz2] at HF HS HZ
  rw [← hy1, ← hz1] at c1
  rw [← hy2, ← hz2] at c2
  obtain ⟨Y, hY⟩ : ∃ Y, (w2.setCell ⟨b, i, none⟩ (.slice y2 m z2)).cell? ⟨b, k, none⟩ = some Y := by
    by_cases e : i = k
    · subst e; exact ⟨_, World.cell?_setCell_same' _ _ _ (by rw [c1]; rfl)⟩
    · exact ⟨_, (World.cell?_setCell_other _ _ _ _ (fun e' => e (by injection e'))).trans c2⟩
  clear hWR hO ho2 hfr hs2 hy1 hy2 hz1 hz2
  go_wp2
  go_region
  go_wp2
  go_ret
  exact ⟨_, _, rfl, HS.out.drew, (HF.out.mono (Nat.le_refl _) (by rw [World.size_drew, HZ.out]; exact Nat.le_refl _))⟩

end Go.Proofs.Ytiabnlebonmedaa
end

section
/- The part of a table is a table; the contract of impl.TablePart. -/
namespace Go.Proofs.Ytiabnlebonmedaa
open Go.RowKit Go.Deep

/-- Does TablePart succeed? -/
noncomputable def partOk (l : List (List Int)) (s c : Int) : Bool := tabIn l && (inB s 1 (2 ^ l.length - 1 : Nat) && inB c 1 (2 ^ (l.getD 0 []).length - 1 : Nat))
theorem partOk_tab {l : List (List Int)} {s c : Int} (h : partOk l s c = true) : TabIn (partL l s.toNat c.toNat) := by
  unfold partOk at h
  rw [Bool.and_eq_true, Bool.and_eq_true] at h
  have h2 := of_decide_eq_true h.2.1
  have h3 := of_decide_eq_true h.2.2
  have p1 := Nat.one_le_two_pow (n := l.length)
  have p2 := Nat.one_le_two_pow (n := (l.getD 0 []).length)
  exact partL_tab (tabIn_of h.1) (by omega) (by omega) (by omega) (by omega)

end Go.Proofs.Ytiabnlebonmedaa
end

section
/- The contract of impl.TableSwap. -/
namespace Go.Proofs.Ytiabnlebonmedaa
open Go.RowKit Go.Deep


/-- Does TableSwap succeed? -/
noncomputable def swapOk (l : List (List Int)) (i k : Int) : Bool := tabIn l && (rowB i l.length && rowB k l.length)
theorem swapOk_tab {l : List (List Int)} {i k : Int} (h : swapOk l i k = true) : TabIn (swapL l i.toNat k.toNat) := by
  unfold swapOk at h
  rw [Bool.and_eq_true, Bool.and_eq_true] at h
  obtain ⟨i, rfl, hi⟩ := rowB_of h.2.1
  obtain ⟨k, rfl, hk⟩ := rowB_of h.2.2
  exact swapL_tab (tabIn_of h.1) hi hk
theorem szL_swapOk (l : List (List Int)) (i k : Int) (h : swapOk l i k = true) : szL (swapL l i.toNat k.toNat) ≤ 1048576 := szL_tab (swapOk_tab h)



end Go.Proofs.Ytiabnlebonmedaa
end

section
/- The contract of spec.TableSwap. -/
namespace Go.Proofs.Ytiabnlebonmedaa
open Go.RowKit Go.Deep

/-- A table of one's own whose outer row is written. -/
structure SW (w1 w' : World) (b n m : Nat) (A : Nat → Option Addr) (G C : Nat → Nat) (Z : Nat → Nat → Int) (hi : Nat) : Prop where
  since : w1.Since w1.heap.size w'
  size : hi ≤ w'.heap.size
  own : OwnD w1.heap.size hi w' b A G C n (fun _ => m) Z
  free : ∀ r, r < n → w'.frozen? ⟨b, r, none⟩ = false
  inb : w1.heap.size ≤ b ∧ b < hi

theorem SW.later {w1 w' w2 : World} {b n m : Nat} {A : Nat → Option Addr} {G C : Nat → Nat} {Z : Nat → Nat → Int} {hi : Nat} (h : SW w1 w' b n m A G C Z hi) (hs : w'.Since w'.heap.size w2) : SW w1 w2 b n m A G C Z hi :=
  ⟨h.since.trans (since_mono hs h.since.size), Nat.le_trans h.size hs.size, h.own.later hs, fun r hr => by rw [hs.frozen (a := ⟨b, r, none⟩) (World.block_lt_of_cell? _ _ (h.own.top r hr))]; exact h.free r hr, h.inb⟩

/-- One row is replaced by a new one. -/
theorem SW.put {w1 w2 w3 : World} {b n m : Nat} {A : Nat → Option Addr} {G C : Nat → Nat} {Z : Nat → Nat → Int} {hi : Nat} (h : SW w1 w2 b n m A G C Z hi) (hs : w2.Since w2.heap.size w3) {g cp : Nat} {x : List Int} (hg : w2.heap.size ≤ g) (hx : RowB w3 g x) (hxl : x.length = m)
    (hm : 0 < m) {i : Nat} (hi' : i < n) : SW w1 (w3.setCell ⟨b, i, none⟩ (.slice (some ⟨g, 0, none⟩) m cp)) b n m (fun r => if r = i then some ⟨g, 0, none⟩ else A r) (fun r => if r = i then g else G r) (fun r => if r = i then cp else C r) (fun r c => if r = i then x.getD c 0 else Z r c) w3.heap.size := by
  have h3 := h.later hs
  have hgl := hx.lt
  have hsz := h.size
  have hb := h.inb
  have hss := h.since.size
  have hsz3 := hs.size
  have hgb : g ≠ b := by omega
  refine ⟨h3.since.setCell hb.1 _, by simp, ⟨fun r hr => ?_, fun r hr h0 => ?_, fun r hr h0 => ?_, fun r hr c hc => ?_, fun r hr c hc => ?_, fun r r' hr hr' h0 h0' e => ?_⟩, fun r hr => by rw [World.frozen?_setCell]; exact h3.free r hr, hb.1, by omega⟩
  · by_cases e : r = i
    · subst e
      rw [if_pos rfl, if_pos rfl]
      exact World.cell?_setCell_same' _ _ _ (by rw [h3.own.top r hr]; rfl)
    · rw [if_neg e, if_neg e, World.cell?_setCell_other _ _ _ _ (fun e' => e (by injection e' with _ e'; exact e'.symm))]
      exact h3.own.top r hr
  · by_cases e : r = i
    · rw [if_pos e, if_pos e]
    · rw [if_neg e, if_neg e]; exact h3.own.addr r hr h0
  · by_cases e : r = i
    · rw [if_pos e]; exact ⟨by omega, hgl, hgb⟩
    · rw [if_neg e]; have := h3.own.inside r hr h0; exact ⟨this.1, by omega, this.2.2⟩
  · by_cases e : r = i
    · rw [if_pos e, if_pos e, World.cell?_setCell_other _ _ _ _ (fun e' => hgb (by injection e' with e'; exact e'.symm))]
      exact hx.cell (by rw [hxl]; exact hc)
    · rw [if_neg e, if_neg e, World.cell?_setCell_other _ _ _ _ (fun e' => (h3.own.inside r hr (by omega)).2.2 (by injection e' with e'; exact e'.symm))]
      exact h3.own.cell r hr c hc
  · rw [World.frozen?_setCell]
    by_cases e : r = i
    · rw [if_pos e]; exact hx.frozen c
    · rw [if_neg e]; exact h3.own.free r hr c hc
  · by_cases e1 : r = i <;> by_cases e2 : r' = i
    · omega
    · rw [if_pos e1, if_neg e2] at e
      have := (h.own.inside r' hr' h0').2.1
      omega
    · rw [if_neg e1, if_pos e2] at e
      have := (h.own.inside r hr h0).2.1
      omega
    · rw [if_neg e1, if_neg e2] at e
      exact h3.own.apart r r' hr hr' h0 h0' e

theorem OwnT.sw {w w1 : World} {a : Option Addr} {l : List (List Int)} {n m : Nat} (h : OwnT w.heap.size w1.heap.size w1 a l) (hn : l.length = n) (h1 : 0 < n) (hm : ∀ r, r < n → (l.getD r []).length = m) (hs : w.Since w.heap.size w1) (hf : FreeTop w1 a n) :
    ∃ b A G C, a = some ⟨b, 0, none⟩ ∧ SW w w1 b n m A G C (fun r c => at2 l r c) w1.heap.size := by
  obtain ⟨b, A, G, C, e, hb, hW⟩ := h.wr hn h1 hm hs (fun _ _ => 0)
  exact ⟨b, A, G, C, e, hs, Nat.le_refl _, hW.own.congr fun r _ c _ => by unfold updF; rw [if_neg (by omega)], fun r hr => hf b r e hr, hb⟩

theorem SW.ownT {w1 w' : World} {b n m : Nat} {A : Nat → Option Addr} {G C : Nat → Nat} {Z : Nat → Nat → Int} {hi : Nat} {l : List (List Int)} (h : SW w1 w' b n m A G C Z hi) (hn : l.length = n) (hm : ∀ r, r < n → (l.getD r []).length = m) (hZ : ∀ r c, r < n → c < m → at2 l r c = Z r c) : OwnT w1.heap.size w'.heap.size w' (some ⟨b, 0, none⟩) l :=
  (h.own.ownT h.inb hn hm fun r hr c hc => hZ r c hr hc).mono (Nat.le_refl _) h.size

/-- The row that was made by append, and what may be kept of the world before. -/
theorem own_row (W : World) : (W.alloc (.cells #[] 3)).ownsRow W.heap.size 3 1 (.slice (some ⟨W.heap.size, 0, none⟩) 0 0) 0 [] := World.ownsRow_made W #[] 0 (Nat.le_refl _) (Nat.zero_le _) rfl
theorem row_cells {w W : World} {b' o' m : Nat} {x : List Int} (hx : x.length = m) (hs : w.Since w.heap.size W) (hce : ∀ j, j < m → w.cell? ⟨b', o' + j, none⟩ = some (.int .i64 (x.getD j 0))) (o : Obj) : ∀ (j : Nat) (u : Value), (x.map (Value.int .i64))[j]? = some u → (W.alloc o).cell? ((⟨b', o', none⟩ : Addr).add j) = some u := fun j u hj => by
  rw [Go.WideShapes.add_plain]
  obtain ⟨hjl, he⟩ := List.getElem?_eq_some_iff.1 hj
  have hjx : j < m := by rw [← hx]; simpa using hjl
  have h2 := hce j hjx
  refine cell_alloc_l _ ?_
  rw [hs.cell (a := ⟨b', o' + j, none⟩) (World.block_lt_of_cell? _ _ h2), h2, ← he]
  simp [List.getD, show j < x.length by omega]

end Go.Proofs.Ytiabnlebonmedaa
end

section
/- What is exchanged twice, or added and taken off, is as it was. -/
namespace Go.Proofs.Ytiabnlebonmedaa
open Go.RowKit Go.Deep

theorem swap_back {l : List (List Int)} {i k : Int} (h : swapOk l i k = true) : swapOk (swapL l i.toNat k.toNat) i k = true ∧ swapL (swapL l i.toNat k.toNat) i.toNat k.toNat = l := by
  have hT := swapOk_tab h
  unfold swapOk at h ⊢
  rw [Bool.and_eq_true, Bool.and_eq_true] at h
  refine ⟨by rw [tabIn_true hT, swapL_length, h.2.1, h.2.2]; rfl, ?_⟩
  obtain ⟨i, rfl, hi⟩ := rowB_of h.2.1
  obtain ⟨k, rfl, hk⟩ := rowB_of h.2.2
  rw [Int.toNat_natCast, Int.toNat_natCast]
  have e : swapL (swapL l i k) i k = (List.range l.length).map fun r => l.getD r [] := by
    show (List.range (swapL l i k).length).map (fun r => (swapL l i k).getD (sw i k r) []) = _
    rw [swapL_length]
    refine List.map_congr_left fun r hr => ?_
    rw [swapL_get l i k (sw_lt hi hk (List.mem_range.1 hr)), sw_sw]
  rw [e, range_getD]

theorem tabF_congr {n m : Nat} {f g : Nat → Nat → Int} (h : ∀ i k, i < n → k < m → f i k = g i k) : tabF n m f = tabF n m g := by
  unfold tabF
  exact List.map_congr_left fun r hr => List.map_congr_left fun k hk => h r k (List.mem_range.1 hr) (List.mem_range.1 hk)

theorem add_back {l : List (List Int)} {fr tq f : Int} (h : addOk l fr tq f = true) : addOk (addL l fr.toNat tq.toNat f) fr tq (-f) = true ∧ addL (addL l fr.toNat tq.toNat f) fr.toNat tq.toNat (-f) = l := by
  unfold addOk at h ⊢
  simp only [Bool.and_eq_true, Bool.not_eq_true'] at h
  obtain ⟨h1, h2, h3, h4, h5, h6⟩ := h
  have hT := tabIn_of h1
  obtain ⟨fr, rfl, hfr⟩ := rowB_of h2
  obtain ⟨tq, rfl, hto⟩ := rowB_of h3
  rw [Int.toNat_natCast, Int.toNat_natCast] at *
  have hne : fr ≠ tq := by rintro rfl; simp at h4
  have hw := hT.width
  have h0 := hT.1
  have e0 : ((addL l fr tq f).getD 0 []).length = (l.getD 0 []).length := tabF_len _ _ _ _ (by omega)
  have e : addL (addL l fr tq f) fr tq (-f) = l := by
    show tabF (addL l fr tq f).length ((addL l fr tq f).getD 0 []).length (addF (addL l fr tq f) fr tq (-f)) = l
    rw [addL_length, e0]
    refine Eq.trans (tabF_congr fun i k hi hk => ?_) (tab_self rfl (fun r hr => hT.row hr))
    have a1 : at2 (addL l fr tq f) i k = addF l fr tq f i k := tabF_at _ _ _ _ _ hi hk
    have a2 : at2 (addL l fr tq f) fr k = addF l fr tq f fr k := tabF_at _ _ _ _ _ hfr hk
    show (if i = tq then at2 (addL l fr tq f) i k + (-f) * at2 (addL l fr tq f) fr k else at2 (addL l fr tq f) i k) = at2 l i k
    rw [a1, a2]
    unfold addF
    by_cases hi : i = tq
    · rw [if_pos hi, if_pos hi, if_neg hne, Int.neg_mul]; omega
    · rw [if_neg hi, if_neg hi]
  refine ⟨?_, e⟩
  have h5' := of_decide_eq_true h5
  rw [h6, addL_length, h2, h3, h4, e, h1]
  have : inB (-f) (-30) 30 = true := by unfold inB at *; simp at *; omega
  rw [this]; rfl
theorem addOk_num {l : List (List Int)} {fr tq f : Int} (h : addOk l fr tq f = true) : -30 ≤ f ∧ f ≤ 30 := by
  unfold addOk at h
  simp only [Bool.and_eq_true] at h
  exact of_decide_eq_true h.2.2.2.2.1

end Go.Proofs.Ytiabnlebonmedaa
end

section
/- Times, sums: what is so of tables. -/
namespace Go.Proofs.Ytiabnlebonmedaa
open Go.RowKit Go.Deep

theorem tabF_tab {n m : Nat} {f : Nat → Nat → Int} (hn : 1 ≤ n ∧ n ≤ 6) (hm : 1 ≤ m ∧ m ≤ 6) (h : ∀ i k, i < n → k < m → -30 ≤ f i k ∧ f i k ≤ 30) : TabIn (tabF n m f) := by
  refine ⟨by rw [tabF_length]; exact hn.1, by rw [tabF_length]; exact hn.2, fun r hr => ?_⟩
  rw [tabF_length] at hr
  refine ⟨by rw [tabF_len _ _ _ _ hr, tabF_len _ _ _ _ (by omega)], by rw [tabF_len _ _ _ _ hr]; exact hm.1, by rw [tabF_len _ _ _ _ hr]; exact hm.2, fun k hk => ?_⟩
  rw [tabF_len _ _ _ _ hr] at hk
  rw [tabF_at _ _ _ _ _ hr hk]
  exact h r k hr hk
theorem tab_bd {n m : Nat} {f : Nat → Nat → Int} (hn : 1 ≤ n) (h : TabIn (tabF n m f)) : ∀ i k, i < n → k < m → -30 ≤ f i k ∧ f i k ≤ 30 := by
  intro i k hi hk
  have h1 := h.at (i := i) (k := k) (by rw [tabF_length]; exact hi) (by rw [tabF_len _ _ _ _ (by omega)]; exact hk)
  have h2 : at2 (tabF n m f) i k = f i k := tabF_at _ _ _ _ _ hi hk
  rw [h2] at h1
  exact h1
theorem TabIn.sides {l : List (List Int)} (h : TabIn l) : (1 ≤ l.length ∧ l.length ≤ 6) ∧ (1 ≤ (l.getD 0 []).length ∧ (l.getD 0 []).length ≤ 6) := ⟨⟨h.1, h.2.1⟩, h.width⟩
theorem timesL_at {l : List (List Int)} {z : Int} {i k : Nat} (hi : i < l.length) (hk : k < (l.getD 0 []).length) : at2 (timesL l z) i k = at2 l i k * z := tabF_at _ _ _ _ _ hi hk
theorem timesL_width {l : List (List Int)} (z : Int) (h : 1 ≤ l.length) : ((timesL l z).getD 0 []).length = (l.getD 0 []).length := tabF_len _ _ _ _ (by omega)

theorem less_bd {x z : Int} (hz : 1 ≤ z) (h1 : -30 ≤ x * z) (h2 : x * z ≤ 30) : -30 ≤ x * (z - 1) ∧ x * (z - 1) ≤ 30 := by
  rw [Int.mul_sub, Int.mul_one]
  by_cases hx : 0 ≤ x
  · have := Int.mul_le_mul_of_nonneg_left hz hx
    rw [Int.mul_one] at this
    omega
  · have := Int.mul_le_mul_of_nonneg_left hz (show 0 ≤ -x by omega)
    rw [Int.mul_one, Int.neg_mul] at this
    omega

theorem timesOk_of {l : List (List Int)} {z : Int} (h : timesOk l z = true) : TabIn l ∧ (-30 ≤ z ∧ z ≤ 30) ∧ TabIn (timesL l z) := by
  unfold timesOk at h
  simp only [Bool.and_eq_true] at h
  exact ⟨tabIn_of h.1, of_decide_eq_true h.2.1, tabIn_of h.2.2⟩

theorem times_less {l : List (List Int)} {z : Int} (h : timesOk l z = true) (hz : 1 ≤ z) : timesOk l (z - 1) = true ∧ sumOk (timesL l (z - 1)) l = true ∧ sumL (timesL l (z - 1)) l = timesL l z := by
  obtain ⟨hT, hzb, hM⟩ := timesOk_of h
  have hs := hT.sides
  have hb := tab_bd hs.1.1 hM
  have hL : TabIn (timesL l (z - 1)) := tabF_tab hs.1 hs.2 fun i k hi hk => less_bd hz (hb i k hi hk).1 (hb i k hi hk).2
  have hin : inB (z - 1) (-30) 30 = true := by unfold inB; simp; omega
  have e : sumL (timesL l (z - 1)) l = timesL l z := by
    show tabF (timesL l (z - 1)).length ((timesL l (z - 1)).getD 0 []).length (fun i k => at2 (timesL l (z - 1)) i k + at2 l i k) = tabF l.length (l.getD 0 []).length fun i k => at2 l i k * z
    rw [timesL_length, timesL_width _ hs.1.1]
    refine tabF_congr fun i k hi hk => ?_
    rw [timesL_at hi hk, Int.mul_sub, Int.mul_one]
    omega
  refine ⟨?_, ?_, e⟩
  · unfold timesOk
    rw [tabIn_true hT, hin, tabIn_true hL]; rfl
  · unfold sumOk alikeB
    rw [e, tabIn_true hT, tabIn_true hL, tabIn_true hM, timesL_length, timesL_width _ hs.1.1]
    simp

end Go.Proofs.Ytiabnlebonmedaa
end

section
/- Sums both ways and turned. -/
namespace Go.Proofs.Ytiabnlebonmedaa
open Go.RowKit Go.Deep

theorem turnL_at {l : List (List Int)} {i k : Nat} (hi : i < l.length) (hk : k < (l.getD 0 []).length) : at2 (turnL l) k i = at2 l i k := tabF_at _ _ _ _ _ hk hi
theorem turnL_width {l : List (List Int)} (h : TabIn l) : ((turnL l).getD 0 []).length = l.length := tabF_len _ _ _ _ (by have := h.width; omega)
theorem turnL_tab {l : List (List Int)} (h : TabIn l) : TabIn (turnL l) := tabIn_of (tabIn_turn h)

theorem sumOk_of {l u : List (List Int)} (h : sumOk l u = true) : TabIn l ∧ TabIn u ∧ l.length = u.length ∧ (l.getD 0 []).length = (u.getD 0 []).length ∧ TabIn (sumL l u) := by
  unfold sumOk alikeB at h
  simp only [Bool.and_eq_true, beq_iff_eq] at h
  exact ⟨tabIn_of h.1, tabIn_of h.2.1, h.2.2.1.1, h.2.2.1.2, tabIn_of h.2.2.2⟩
theorem sumOk_mk {l u : List (List Int)} (h1 : TabIn l) (h2 : TabIn u) (h3 : l.length = u.length) (h4 : (l.getD 0 []).length = (u.getD 0 []).length) (h5 : TabIn (sumL l u)) : sumOk l u = true := by
  unfold sumOk alikeB
  rw [tabIn_true h1, tabIn_true h2, tabIn_true h5, h3, h4]
  simp

theorem sum_comm {l u : List (List Int)} (h : sumOk l u = true) : sumOk u l = true ∧ sumL u l = sumL l u := by
  obtain ⟨h1, h2, h3, h4, h5⟩ := sumOk_of h
  have e : sumL u l = sumL l u := by
    unfold sumL
    rw [← h3, ← h4]
    exact tabF_congr fun i k _ _ => Int.add_comm _ _
  exact ⟨sumOk_mk h2 h1 h3.symm h4.symm (by rw [e]; exact h5), e⟩

theorem sumL_at {l u : List (List Int)} {i k : Nat} (hi : i < l.length) (hk : k < (l.getD 0 []).length) : at2 (sumL l u) i k = at2 l i k + at2 u i k := tabF_at _ _ _ _ _ hi hk
theorem sumL_width {l : List (List Int)} (u : List (List Int)) (h : 1 ≤ l.length) : ((sumL l u).getD 0 []).length = (l.getD 0 []).length := tabF_len _ _ _ _ (by omega)

theorem sum_turn {l u : List (List Int)} (h : sumOk l u = true) : sumOk (turnL l) (turnL u) = true ∧ sumL (turnL l) (turnL u) = turnL (sumL l u) := by
  obtain ⟨h1, h2, h3, h4, h5⟩ := sumOk_of h
  have e : sumL (turnL l) (turnL u) = turnL (sumL l u) := by
    show tabF (turnL l).length ((turnL l).getD 0 []).length (fun i k => at2 (turnL l) i k + at2 (turnL u) i k) = tabF ((sumL l u).getD 0 []).length (sumL l u).length fun k i => at2 (sumL l u) i k
    rw [turnL_length, turnL_width h1, sumL_width u h1.1, sumL_length]
    refine tabF_congr fun k i hk hi => ?_
    rw [turnL_at hi hk, turnL_at (l := u) (by omega) (by omega), sumL_at hi hk]
  exact ⟨sumOk_mk (turnL_tab h1) (turnL_tab h2) (by rw [turnL_length, turnL_length, h4]) (by rw [turnL_width h1, turnL_width h2, h3]) (by rw [e]; exact turnL_tab h5), e⟩

end Go.Proofs.Ytiabnlebonmedaa
end

section
/- Sums without signs: turned, and by sets of columns. -/
namespace Go.Proofs.Ytiabnlebonmedaa
open Go.RowKit Go.Deep

/-- The sum without signs over n rows and columns, by the first row. -/
def pm : Nat → (Nat → Nat → Int) → Int
  | 0, _ => 1
  | n + 1, f => sumN (fun k => f 0 k * pm n (dr k f)) (n + 1)
theorem pm_zero (f : Nat → Nat → Int) : pm 0 f = 1 := rfl
theorem pm_succ (n : Nat) (f : Nat → Nat → Int) : pm (n + 1) f = sumN (fun k => f 0 k * pm n (dr k f)) (n + 1) := rfl
theorem pm_congr : ∀ (n : Nat) {f g : Nat → Nat → Int}, (∀ i j, i < n → j < n → f i j = g i j) → pm n f = pm n g
  | 0, _, _, _ => rfl
  | n + 1, f, g, h => by
    rw [pm_succ, pm_succ]
    refine sumN_congr _ fun k hk => ?_
    rw [h 0 k (by omega) hk, pm_congr n (f := dr k f) (g := dr k g) (fun i j hi hj => h _ _ (by omega) (skip_bd hj))]
/-- By the first column. -/
theorem pm_col : ∀ (n : Nat) (f : Nat → Nat → Int), pm (n + 1) f = sumN (fun i => f i 0 * pm n (fun r j => f (skip i r) (j + 1))) (n + 1)
  | 0, f => by simp [pm, sumN]
  | n + 1, f => by
    rw [pm_succ, sumN_first, sumN_first (fun i => f i 0 * pm (n + 1) (fun r j => f (skip i r) (j + 1)))]
    have e0 : pm (n + 1) (dr 0 f) = pm (n + 1) (fun r j => f (skip 0 r) (j + 1)) := rfl
    rw [e0]
    congr 1
    have h1 : ∀ k, k < n + 1 → f 0 (k + 1) * pm (n + 1) (dr (k + 1) f) = sumN (fun i => f 0 (k + 1) * (f (i + 1) 0 * pm n (fun r j => f (skip i r + 1) (skip k j + 1)))) (n + 1) := fun k _ => by
      rw [pm_col n (dr (k + 1) f), sumN_mul]
      refine congrArg _ (sumN_congr _ fun i _ => ?_)
      have e1 : dr (k + 1) f i 0 = f (i + 1) 0 := by unfold dr; rw [skip_lt (by omega)]
      have e2 : pm n (fun r j => dr (k + 1) f (skip i r) (j + 1)) = pm n (fun r j => f (skip i r + 1) (skip k j + 1)) := pm_congr n (fun r j _ _ => by unfold dr; rw [skip_succ])
      rw [e1, e2]
    have h2 : ∀ i, i < n + 1 → f (i + 1) 0 * pm (n + 1) (fun r j => f (skip (i + 1) r) (j + 1)) = sumN (fun k => f 0 (k + 1) * (f (i + 1) 0 * pm n (fun r j => f (skip i r + 1) (skip k j + 1)))) (n + 1) := fun i _ => by
      rw [pm_succ, ← sumN_mul]
      refine sumN_congr _ fun k _ => ?_
      have e1 : f (skip (i + 1) 0) (k + 1) = f 0 (k + 1) := by rw [skip_lt (by omega)]
      have e2 : pm n (dr k (fun r j => f (skip (i + 1) r) (j + 1))) = pm n (fun r j => f (skip i r + 1) (skip k j + 1)) := pm_congr n (fun r j _ _ => by show f (skip (i + 1) (r + 1)) (skip k j + 1) = _; rw [skip_succ])
      rw [e1, e2, Int.mul_left_comm]
    rw [sumN_congr _ h1, sumN_congr _ h2, sumN_comm]
/-- Turned. -/
theorem pm_turn : ∀ (n : Nat) (f : Nat → Nat → Int), pm n (fun i j => f j i) = pm n f
  | 0, _ => rfl
  | n + 1, f => by
    rw [pm_col n f, pm_succ]
    refine sumN_congr _ fun k _ => ?_
    rw [show dr k (fun i j => f j i) = fun i j => (fun r j => f (skip k r) (j + 1)) j i from rfl, pm_turn n]

theorem plF_pm (l : List (List Int)) {n : Nat} (hn : n ≤ 6) : ∀ (d U : Nat), U < 2 ^ n → popcS U + d = n → plF l n d U = pm d (fun i j => at2 l (n - d + i) (gam U j))
  | 0, U, hU, hp => by rw [plF_zero, pm_zero]
  | d + 1, U, hU, hp => by
    have p : 2 ^ n ≤ 2 ^ 6 := Nat.pow_le_pow_right (by omega) hn
    have hlen := lacks_len ⟨n, by omega⟩ ⟨U, by omega⟩ hU
    simp only at hlen
    rw [plF_succ, pm_succ]
    have e0 : ∀ k, plT l (n - (d + 1)) U (plF l n d) k = if U.testBit k then 0 else at2 l (n - (d + 1)) k * plF l n d (U ||| 2 ^ k) := fun k => rfl
    rw [sumN_congr n (fun k _ => e0 k), sumN_lacks (fun k => at2 l (n - (d + 1)) k * plF l n d (U ||| 2 ^ k)), sumL_get, show (lacks n U).length = d + 1 by omega]
    refine sumN_congr _ fun j hj => ?_
    obtain ⟨g1, g2, g3⟩ := lacks_get ⟨n, by omega⟩ ⟨U, by omega⟩ ⟨j, by omega⟩ hU (by simp only; omega)
    simp only at g1 g2 g3
    have ha := popcS_add ⟨U, by omega⟩ ⟨gam U j, by omega⟩ g3
    simp only at ha
    rw [g1, plF_pm l hn d (U ||| 2 ^ gam U j) (Nat.or_lt_two_pow hU (Nat.pow_lt_pow_right (by omega) g2)) (by omega)]
    have ed : pm d (fun i j' => at2 l (n - d + i) (gam (U ||| 2 ^ gam U j) j')) = pm d (dr j (fun i j => at2 l (n - (d + 1) + i) (gam U j))) := pm_congr d fun i j' _ hj' => by
      have := gam_or ⟨U, by omega⟩ ⟨j, by omega⟩ ⟨j', by omega⟩ (by simp only; omega) (by simp only; omega)
      simp only at this
      rw [this]
      show _ = at2 l (n - (d + 1) + (i + 1)) (gam U (skip j j'))
      rw [show n - (d + 1) + (i + 1) = n - d + i by omega]
    rw [ed]
    rfl
theorem plF_all (l : List (List Int)) {n : Nat} (hn : n ≤ 6) : plF l n n 0 = pm n (at2 l) := by
  rw [plF_pm l hn n 0 (Nat.pow_pos (by omega)) (by have : popcS 0 = 0 := by decide
                                                   omega)]
  refine pm_congr n fun i j hi hj => ?_
  have := gam_zero ⟨j, by omega⟩
  simp only at this
  rw [this, Nat.sub_self, Nat.zero_add]
/-- The sum without signs of a square turned. -/
theorem plF_turn {l : List (List Int)} {n : Nat} (hT : TabIn l) (hn : l.length = n) (hw : (l.getD 0 []).length = n) : plF (turnL l) n n 0 = plF l n n 0 := by
  have h6 := hT.2.1
  rw [plF_all _ (by omega), plF_all _ (by omega), ← pm_turn n (at2 l)]
  exact pm_congr n fun i j hi hj => turnL_at (by omega) (by omega)

/-- The product over the last d rows. -/
def prR (l : List (List Int)) (n : Nat) : Nat → Nat → Int
  | 0, _ => 1
  | d + 1, s => rwS l s (n - (d + 1)) n * prR l n d s
/-- The sum with signs over the sets of columns that hold all of V. -/
def ryR (l : List (List Int)) (n d V : Nat) : Int := sumN (fun s => if s ||| V = s then sg (n - popcS s) (prR l n d s) else 0) (2 ^ n)
theorem ryR_base : ∀ n : Fin 7, ∀ V : Fin 64, V.val < 2 ^ n.val → sumN (fun s => if s ||| V.val = s then sg (n.val - popcS s) 1 else 0) (2 ^ n.val) = if popcS V.val = n.val then 1 else 0 := by decide +kernel
theorem sup_of {s V k : Nat} (h : s ||| (V ||| 2 ^ k) = s) : s ||| V = s := by
  refine Nat.eq_of_testBit_eq fun j => ?_
  have := congrArg (fun x => Nat.testBit x j) h
  simp only [Nat.testBit_or] at this ⊢
  cases h1 : s.testBit j <;> cases h2 : V.testBit j <;> simp_all
theorem or_self_of {s k : Nat} (h : s.testBit k = true) : s ||| 2 ^ k = s := by
  refine Nat.eq_of_testBit_eq fun j => ?_
  rw [Nat.testBit_or, Nat.testBit_two_pow]
  by_cases e : k = j
  · subst e; rw [h]; rfl
  · simp [e]
theorem or_self_to {s k : Nat} (h : s ||| 2 ^ k = s) : s.testBit k = true := by
  rw [← h, Nat.testBit_or, Nat.testBit_two_pow_self, Bool.or_true]
theorem bit_tb (s k : Nat) : s / 2 ^ k % 2 = if s.testBit k = true then 1 else 0 := by
  have h : s.testBit k = decide (s / 2 ^ k % 2 = 1) := Nat.testBit_eq_decide_div_mod_eq
  rw [h]
  by_cases e : s / 2 ^ k % 2 = 1
  · rw [e]; rfl
  · have : s / 2 ^ k % 2 = 0 := by omega
    rw [this]; rfl
theorem sg_mulL (p : Nat) (x y : Int) : sg p (x * y) = x * sg p y := by unfold sg; split <;> grind
theorem sg_zero (p : Nat) : sg p 0 = 0 := by unfold sg; split <;> rfl
/-- One row more. -/
theorem ryR_succ (l : List (List Int)) (n d V : Nat) : ryR l n (d + 1) V = sumN (fun k => at2 l (n - (d + 1)) k * ryR l n d (V ||| 2 ^ k)) n := by
  have e1 : ∀ k, k < n → at2 l (n - (d + 1)) k * ryR l n d (V ||| 2 ^ k) = sumN (fun s => at2 l (n - (d + 1)) k * (if s ||| (V ||| 2 ^ k) = s then sg (n - popcS s) (prR l n d s) else 0)) (2 ^ n) := fun k _ => (sumN_mul _ _ _).symm
  rw [sumN_congr n e1, sumN_comm]
  refine sumN_congr _ fun s _ => ?_
  by_cases h : s ||| V = s
  · rw [if_pos h]
    show sg _ (rwS l s (n - (d + 1)) n * prR l n d s) = _
    rw [sg_mulL]
    unfold rwS
    rw [Int.mul_comm, ← sumN_mul]
    refine sumN_congr _ fun k _ => ?_
    rw [bit_tb]
    by_cases hb : s.testBit k = true
    · rw [if_pos hb, if_pos (by rw [← Nat.or_assoc, h]; exact or_self_of hb)]
      simp [Int.mul_comm]
    · rw [if_neg hb, if_neg (fun h2 => hb (by rw [← Nat.or_assoc, h] at h2; exact or_self_to h2))]
      simp
  · rw [if_neg h]
    symm
    refine sumN_none n fun k _ => ?_
    rw [if_neg (fun h2 => h (sup_of h2)), Int.mul_zero]
theorem ryR_pl (l : List (List Int)) {n : Nat} (hn : n ≤ 6) : ∀ d V, V < 2 ^ n → (popcS V + d < n → ryR l n d V = 0) ∧ (popcS V + d = n → ryR l n d V = plF l n d V)
  | 0, V, hV => by
    have p : 2 ^ n ≤ 2 ^ 6 := Nat.pow_le_pow_right (by omega) hn
    have h := ryR_base ⟨n, by omega⟩ ⟨V, by omega⟩ hV
    simp only at h
    have e : ryR l n 0 V = if popcS V = n then 1 else 0 := h
    rw [e, plF_zero]
    constructor
    · intro h1; rw [if_neg (by omega)]
    · intro h1; rw [if_pos (by omega)]
  | d + 1, V, hV => by
    have p : 2 ^ n ≤ 2 ^ 6 := Nat.pow_le_pow_right (by omega) hn
    have hin : ∀ k, k < n → V ||| 2 ^ k < 2 ^ n := fun k hk => Nat.or_lt_two_pow hV (Nat.pow_lt_pow_right (by omega) hk)
    rw [ryR_succ, plF_succ]
    constructor
    · intro h
      refine sumN_none n fun k hk => ?_
      have ih := (ryR_pl l hn d (V ||| 2 ^ k) (hin k hk)).1
      rw [ih, Int.mul_zero]
      by_cases hb : V.testBit k = true
      · rw [or_self_of hb]; omega
      · have := popcS_add ⟨V, by omega⟩ ⟨k, by omega⟩ (by simpa using hb)
        simp only at this
        omega
    · intro h
      refine sumN_congr n fun k hk => ?_
      have ih := ryR_pl l hn d (V ||| 2 ^ k) (hin k hk)
      by_cases hb : V.testBit k = true
      · rw [plT_yes _ hb, ih.1 (by rw [or_self_of hb]; omega), Int.mul_zero]
      · have hb' : V.testBit k = false := by simpa using hb
        have := popcS_add ⟨V, by omega⟩ ⟨k, by omega⟩ hb'
        simp only at this
        rw [plT_no _ hb', ih.2 (by omega)]
theorem prS_prR (l : List (List Int)) (n s : Nat) : ∀ d j, j + d = n → prS l n s j * prR l n d s = prS l n s n
  | 0, j, h => by rw [show j = n by omega]; exact Int.mul_one _
  | d + 1, j, h => by
    rw [← prS_prR l n s d (j + 1) (by omega)]
    show prS l n s j * (rwS l s (n - (d + 1)) n * prR l n d s) = prS l n s j * rwS l s j n * prR l n d s
    rw [show n - (d + 1) = j by omega, Int.mul_assoc]
/-- By sets of columns. -/
theorem ry_pl (l : List (List Int)) {n : Nat} (h1 : 1 ≤ n) (hn : n ≤ 6) : sumN (ryT l n) (2 ^ n) = plF l n n 0 := by
  have h0 : popcS 0 = 0 := by decide
  rw [← (ryR_pl l hn n 0 (Nat.pow_pos (by omega))).2 (by omega)]
  refine sumN_congr _ fun s _ => ?_
  rw [if_pos (Nat.or_zero s)]
  have e : prR l n n s = prS l n s n := by rw [← prS_prR l n s n 0 (by omega)]; exact (Int.one_mul _).symm
  rw [e]
  unfold ryT
  by_cases hs : s = 0
  · subst hs
    rw [if_pos rfl]
    obtain ⟨m, rfl⟩ : ∃ m, n = m + 1 := ⟨n - 1, by omega⟩
    have : rwS l 0 m (m + 1) = 0 := sumN_none _ fun k _ => by simp
    show 0 = sg _ (prS l (m + 1) 0 m * rwS l 0 m (m + 1))
    rw [this, Int.mul_zero, sg_zero]
  · rw [if_neg hs]

end Go.Proofs.Ytiabnlebonmedaa
end

section
/- The walk of laws.FnPlainSums. -/
namespace Go.Proofs.Ytiabnlebonmedaa
open Go.RowKit Go.Deep

set_option maxRecDepth 100000 in
set_option maxHeartbeats 4000000 in
theorem fnPlainSums (a : Option Addr) (cap n : Nat) (w : World) (hc : n ≤ cap) (h63 : cap ≤ 9223372036854775807) (hb : BytR w a n) :
    Calls Try.prog 4 #[.slice a n cap] w fun e w' => e = .returned (.bool true) ∧ w.Since w.heap.size w' := by
  by_cases hlen : 1048576 < n
  · have hl' : decide ((1048576 : Int) < (n : Int)) = true := by simp; omega
    clear hb
    go_enter Try.func4, Try.ntmps4
    go_wp2
    go_ret
    exact ⟨rfl, World.Since.refl _ _⟩
  · have hl' : decide ((1048576 : Int) < (n : Int)) = false := by simp; omega
    have ED := Lib.hid (drawPlainSums_any a n cap w hc h63 hb)
    clear hb
    go_enter Try.func4, Try.ntmps4
    go_wp2_with fail
    refine (ED.out).mono ?_
    rintro e w1 ⟨a1, c1, l, rfl, hs1, h1, h5, hlens, hit⟩
    have hsz : szL l ≤ 1048576 := szL_of h5 (fun j hj => (hlens j hj).2) (by decide)
    obtain ⟨nn, hn⟩ : ∃ nn, l.length = nn := ⟨_, rfl⟩
    rw [hn]
    have HN := Lib.hid hn
    have HSZ := Lib.hid hsz
    have HM := Lib.hid (fun (W : World) (h : w1.Since w1.heap.size W) => hit.matR.since h)
    have HS1 := Lib.hid hs1
    obtain ⟨ok, hok⟩ : ∃ ok, sqB l = ok := ⟨_, rfl⟩
    obtain ⟨v, hv⟩ : ∃ v, (if ok = true then sumN (ryT l nn) (2 ^ nn) else 0) = v := ⟨_, rfl⟩
    have E1 := implPlainSums_any a1 c1 nn l w1 hn hsz hit.matR
    have E2 := fun (W : World) (h : w1.Since w1.heap.size W) => specPlainSums_any a1 c1 nn l W hn hsz (hit.matR.since h)
    unfold SpecW at E1
    unfold SpecW at E2
    rw [hok, hv] at E1
    simp only [hok, hv] at E2
    replace E1 := Lib.hid E1
    replace E2 := Lib.hid E2
    have HOK := Lib.hid hok
    have HV := Lib.hid hv
    clear hn hsz hit hs1 h1 h5 hlens hok hv
    go_wp2_with fail
    refine (E1.out).mono ?_
    rintro e w2 ⟨rfl, hs2⟩
    have HS2 := Lib.hid hs2
    clear hs2
    go_wp2_with fail
    refine (E2.out w2 HS2.out).mono ?_
    rintro e w3 ⟨rfl, hd3⟩
    have HS3 := Lib.hid (HS2.out.trans (since_mono (hd3) HS2.out.size))
    clear hd3
    cases ok with
    | false =>
      go_wp2
      go_ret
      exact ⟨rfl, HS1.out.trans (since_mono HS3.out HS1.out.size)⟩
    | true =>
      have hv := HV.out
      rw [if_pos rfl] at hv
      obtain ⟨hT, hw⟩ := sqB_of HOK.out
      have h1 := hT.1
      have h6 := hT.2.1
      rw [HN.out] at h1 h6 hw
      have hE := entB_of hT HN.out hw.symm
      rw [ry_pl l h1 h6] at hv
      have hmod := pl_mod l nn nn 0
      have hge := fun h0 => pl_ge l nn h0 nn (Nat.le_refl _) 0
      have hbx := plF_bd hE nn (Nat.le_refl _) 0
      have hby := ordF_bd hT HN.out hw.symm nn (Nat.le_refl _) 0
      have hp6 := p180_le nn h6
      rw [hv] at hmod hge hbx
      have E5 := fun (W : World) (h : w1.Since w1.heap.size W) => implValueOrders_any a1 c1 nn l W HN.out HSZ.out (HM.out W h)
      unfold SpecW at E5
      simp only [HOK.out, if_true] at E5
      obtain ⟨x, hx⟩ : ∃ x, ordF l nn nn 0 = x := ⟨_, rfl⟩
      simp only [hx] at E5 hmod hge hby
      replace E5 := Lib.hid E5
      have HGE := Lib.hid hge
      have hwd : IntKind.i64.wrap (v - x) = v - x := IntWalk.i64_in _ ⟨by omega, by omega⟩
      have hwn : IntKind.i64.wrap (0 - x) = -x := (IntWalk.i64_in _ ⟨by omega, by omega⟩).trans (by omega)
      have hwn2 : IntKind.i64.wrap (-x) = -x := IntWalk.i64_in _ ⟨by omega, by omega⟩
      have htm : (Int.tmod (v - x) 2 == 0) = true := by
        have : Int.tmod (v - x) 2 = 0 := Int.tmod_eq_zero_of_dvd (Int.dvd_of_emod_eq_zero hmod)
        rw [this]; rfl
      have HGR := Lib.hid (fun (W : World) (h : w1.Since w1.heap.size W) => (HM.out W h).grid HN.out hT hw.symm)
      clear hT hw hv h1 hx hge hE hbx hby hp6

      go_wp2_with fail
      refine (E5.out w3 HS3.out).mono ?_
      rintro e w5 ⟨rfl, hs5⟩
      have HS5 := Lib.hid (HS3.out.trans (since_mono hs5 HS3.out.size))
      clear hs5

      obtain ⟨bt, ot, At, Ct, hat, hlen1, hcell⟩ := HGR.out w5 HS5.out
      subst hat
      have HC := Lib.hid hcell
      clear hlen1 hcell HGR
      go_wp2
      go_loopg [10, 11, 12] nn (fun g pv iv _ wr => ∃ (i : Nat) (b : Bool), i ≤ nn ∧ g = nn - i ∧ iv = .int .i64 i ∧ pv = .bool b ∧ (b = true → ∀ r c, r < nn → c < nn → r < i → 0 ≤ at2 l r c) ∧ w5 = wr)
      case atStart => exact ⟨0, true, Nat.zero_le _, rfl, rfl, rfl, fun _ r c _ _ h => absurd h (by omega), rfl⟩
      case round =>
        obtain ⟨i, b, hi, rfl, rfl, rfl, hb, rfl⟩ := hrel
        have HBB := Lib.hid hb
        clear hb
        by_cases hlt : i < nn
        · go_wp2
          go_loopg [10, 12] nn (fun g pv kv wr => ∃ (k : Nat) (b : Bool), k ≤ nn ∧ g = nn - k ∧ kv = .int .i64 k ∧ pv = .bool b ∧ (b = true → ∀ r c, r < nn → c < nn → (r < i ∨ r = i ∧ c < k) → 0 ≤ at2 l r c) ∧ w5 = wr)
          case atStart => exact ⟨0, b, Nat.zero_le _, rfl, rfl, rfl, fun hb r c hr hc h => HBB.out hb r c hr hc (by omega), rfl⟩
          case round =>
            obtain ⟨k, b, hk, rfl, rfl, rfl, hb, rfl⟩ := hrel
            have HB2 := Lib.hid hb
            clear hb
            by_cases hltk : k < nn
            · cases b with
              | false =>
                go_wp2
                go_roundg (nn - (k + 1))
                case measure => omega
                case rel => exact ⟨k + 1, false, by omega, rfl, by go_num, rfl, by simp, rfl⟩
              | true =>
                obtain ⟨b', o', q1, q2, _, _⟩ := HC.out i k hlt hltk
                obtain ⟨y, hy⟩ : ∃ y, at2 l i k = y := ⟨_, rfl⟩
                rw [hy] at q2
                have HY := Lib.hid hy
                clear hy
                by_cases h0 : 0 ≤ y
                · go_wp2
                  go_roundg (nn - (k + 1))
                  case measure => omega
                  case rel => exact ⟨k + 1, true, by omega, rfl, by go_num, rfl, fun _ r c hr hc h => by
                    by_cases e : r = i ∧ c = k
                    · rw [e.1, e.2, HY.out]; exact h0
                    · exact HB2.out trivial r c hr hc (by omega), rfl⟩
                · go_wp2
                  go_roundg (nn - (k + 1))
                  case measure => omega
                  case rel => exact ⟨k + 1, false, by omega, rfl, by go_num, rfl, by simp, rfl⟩
            · obtain rfl : k = nn := by omega
              go_wp2
              go_roundg (k - (i + 1))
              case measure => omega
              case rel => exact ⟨i + 1, b, by omega, rfl, by go_num, rfl, fun hb r c hr hc h => HB2.out hb r c hr hc (by omega), rfl⟩
        · obtain rfl : i = nn := by omega
          cases b with
          | false =>
            go_wp2
            go_ret
            exact ⟨rfl, HS1.out.trans (since_mono HS5.out HS1.out.size)⟩
          | true =>
            obtain ⟨g1, g2⟩ := HGE.out (fun r c hr hc => HBB.out (by simp) r c hr hc hr)
            have hd1 : -x ≤ v := by omega
            have hd2 : x ≤ v := by omega
            clear g1 g2
            by_cases hm : x < -x
            all_goals
              go_wp2
              all_goals first
                | (go_ret; exact ⟨rfl, HS1.out.trans (since_mono HS5.out HS1.out.size)⟩)
                | (exfalso; omega)

end Go.Proofs.Ytiabnlebonmedaa
end

section
/- What an argument reads as, in the words of the walks; the last step of a row. -/
namespace Go.Proofs.Ytiabnlebonmedaa
open Go.ChangeShapes Go.WideShapes Go.ChangeAt Go.RowKit Go.Deep

theorem below_since' {B : Nat} {w w' : World} (h : Below B w w') : w.Since B w' := ⟨h.os, h.tape, h.output, h.size, h.block⟩
theorem since_below' {B : Nat} {w w' : World} (h : w.Since B w') : Below B w w' := ⟨h.os, h.tape, h.output, h.size, h.block⟩

section
variable {H : Type} {enc : TypeId × Value → H} {P : Program}
theorem post_of_below {f : Func} {s : ChangeSpec} {apart fresh handsOn again : Bool} {W W' : World} {args : Array Value} {v : Value} {ds gs : List (DataW H)} {before pa pv : List MemPlace}
    (hW : DataW.Whole enc P f.params.toList s.vars apart W args.toList ds gs before)
    (hres : ∀ (b : Nat) (sp : Nat → Bool) (hd : Bool), DataW.TrodAll enc P W' b sp hd f.resultTypes.toList (v.resultList f.resultTypes.size) (s.fn H (ds ++ gs)).results [])
    (hargs : ∀ sp : Nat → Bool, (∀ p ∈ before, sp p.block = true) → DataW.TrodAll enc P W' 0 sp true f.params.toList args.toList (s.fn H (ds ++ gs)).args pa)
    (hvars : ∀ sp : Nat → Bool, (∀ p ∈ before, sp p.block = true) → DataW.TrodVars enc P W' sp s.vars (s.fn H (ds ++ gs)).vars pv)
    (hps : before = pa ++ pv) (hb : Below W.heap.size W W') (hag : again = false) :
    s.post enc P f apart fresh handsOn again W args v W' := by
  have hlt : ∀ p ∈ before, p.block < W.heap.size := fun p hp => hW.lt p hp
  have hold : ∀ p ∈ before, (fun b => decide (b < W.heap.size)) p.block = true := fun p hp => by simpa using hlt p hp
  refine ⟨ds, gs, before, [], pa, pv, hW, hres _ _ _, hargs _ hold, hvars _ hold, World.keptBut_mono (fun p hp => ⟨hp, ?_⟩) (hb.frame (· ∈ before)), fun h => ?_⟩
  · rw [hps, List.mem_append] at hp
    exact Or.inr hp
  · rw [hag] at h; cases h

/-- An argument of slices of integers reads as a list of lists. -/
theorem open_mat {W : World} {t e q : TypeId} {a : Option Addr} {n cap : Nat} {d : DataW H} {p : List MemPlace} (ht : P.underlying t = some (.slice e)) (he : P.underlying e = some (.slice q)) (hq : P.underlying q = some (.int .i64))
    (ce : P.cellsOf e = 1) (cq : P.cellsOf q = 1) (h : DataW.Trod enc P W 0 (fun _ => true) true t (.slice a n cap) d p) :
    ∃ l : List (List Int), l.length = n ∧ MatR W a l ∧ n ≤ 9223372036854775807 ∧ ∀ r, r < l.length → (l.getD r []).length ≤ 9223372036854775807 := by
  obtain ⟨fuel, hf⟩ := h
  rcases open_int_rows ht he hq ce cq hf with ⟨hcs, _⟩ | ⟨a', len', cap', A, L, C, Z, hcs, _, hl, hm, _, hrows⟩
  · simp [Value.cells] at hcs
    obtain ⟨rfl, rfl, rfl⟩ := hcs
    exact ⟨[], rfl, (fun h => by simp at h), by omega, fun r hr => by simp at hr⟩
  · simp [Value.cells] at hcs
    obtain ⟨rfl, rfl, rfl⟩ := hcs
    have hmx : maxLen = 9223372036854775807 := rfl
    have hlen : ∀ r, r < n → ((Z r).take (L r)).length = L r := fun r hr => by
      obtain ⟨_, h1, _, h2, _⟩ := hrows r (by omega)
      rw [List.length_take]; omega
    have hget : ∀ r, r < n → ((List.range n).map fun r => (Z r).take (L r)).getD r [] = (Z r).take (L r) := fun r hr => by simp [List.getD, hr]
    refine ⟨(List.range n).map fun r => (Z r).take (L r), by simp, fun h => ?_, by omega, fun r hr => ?_⟩
    · obtain ⟨b, o, spot⟩ := a'
      simp at h
      have hspot : spot = none := by simpa [Addr.add] using World.cell?_spot (hrows 0 (by omega)).1
      subst hspot
      refine ⟨b, o, A, C, rfl, fun r hr => ?_⟩
      simp at hr
      rw [hget r hr, hlen r hr]
      obtain ⟨g1, g2, g3, g4, g5, g6, g7⟩ := hrows r (by omega)
      refine ⟨by rw [← add_plain]; exact g1, fun h0 => ?_⟩
      rw [hlen r hr] at h0
      cases hA : A r with
      | none => have := g6 hA; omega
      | some a'' =>
        obtain ⟨_, hcell⟩ := g7 a'' hA
        obtain ⟨b', o', sp⟩ := a''
        have hs : sp = none := by simpa [Addr.add] using World.cell?_spot (hcell 0 (by omega))
        subst hs
        refine ⟨b', o', rfl, fun i hi => ?_⟩
        rw [hlen r hr] at hi
        rw [← add_plain, hcell i (by omega)]
        congr 2
        simp [List.getD, hi]
    · simp at hr
      rw [hget r hr, hlen r hr]
      obtain ⟨_, h1, h2, _⟩ := hrows r (by omega)
      omega
end

theorem Try.own : ownKnob Try.prog.godebug = none := by kernel_rfl
theorem Try.laidOut : laidOutB Try.prog = true := by kernel_rfl
theorem Try.cellsR : Try.prog.cellsOf 29 = 1 := by kernel_rfl
theorem Try.cellsI : Try.prog.cellsOf 3 = 1 := by kernel_rfl

end Go.Proofs.Ytiabnlebonmedaa
end

section
/- An argument of bytes reads as bytes. -/
namespace Go.Proofs.Ytiabnlebonmedaa
open Go.ChangeShapes Go.WideShapes Go.ChangeAt Go.RowKit Go.Deep

theorem wf_u8_of {n : Int} (h : (Lit.int .u8 n).wf = true) : 0 ≤ n ∧ n ≤ 255 := by
  have h2 : (0 : Int) ≤ n ∧ n ≤ 255 := by simpa [Lit.wf, IntKind.min, IntKind.max, IntKind.signed, IntKind.bits] using h
  exact h2

theorem open_bytes {H : Type} {enc : TypeId × Value → H} {P : Program} {W : World} {t e : TypeId} {a : Option Addr} {n cap : Nat} {d : DataW H} {p : List MemPlace} (ht : P.underlying t = some (.slice e)) (he : P.underlying e = some (.int .u8)) (ce : P.cellsOf e = 1)
    (h : DataW.Trod enc P W 0 (fun _ => true) true t (.slice a n cap) d p) : BytR W a n ∧ n ≤ cap ∧ cap ≤ 9223372036854775807 := by
  obtain ⟨fuel, hf⟩ := h
  rcases open_ints ht he ce hf with ⟨hcs, _⟩ | ⟨a', len, cap', zs, hcs, _, hl, hm, hlen, _, hcell, hwf⟩
  · simp [Value.cells] at hcs
    obtain ⟨rfl, rfl, rfl⟩ := hcs
    exact ⟨fun h => absurd h (by omega), by omega, by omega⟩
  · simp [Value.cells] at hcs
    obtain ⟨rfl, rfl, rfl⟩ := hcs
    have hmx : maxLen = 9223372036854775807 := rfl
    have hzl : zs.length = cap := by simpa using hlen
    refine ⟨fun h0 => ?_, by omega, by omega⟩
    obtain ⟨b, o, spot⟩ := a'
    have hspot : spot = none := by simpa [Addr.add] using World.cell?_spot (hcell 0 (by omega))
    subst hspot
    refine ⟨b, o, rfl, fun i hi => ?_⟩
    have hi' : i < zs.length := by omega
    have hw := wf_u8_of (hwf (zs.getD i 0) (by simp [List.getD, hi']))
    obtain ⟨z, hz⟩ := Int.eq_ofNat_of_zero_le hw.1
    refine ⟨z, by omega, ?_⟩
    rw [← add_plain, hcell i hi', hz]

theorem Try.cellsB : Try.prog.cellsOf 5 = 1 := by kernel_rfl

end Go.Proofs.Ytiabnlebonmedaa
end

section
/- The statement FnPlainSums, proved: for every input the law returns true and the argument reads as before. No conditions. -/
namespace Go.Proofs.Ytiabnlebonmedaa
open Go.ChangeShapes Go.WideShapes Go.ChangeAt Go.RowKit Go.Deep

set_option maxRecDepth 100000 in
theorem lifted_FnPlainSums (os : Os) (started : os.Started) (H : Type) (enc : TypeId × Value → H) :
    ReturnsInHanded {} Try.checked os 4 .any (Rows.fnPlainSumsSpec.pre6 enc Try.prog Try.f4 Rows.fnPlainSumsRow.domain false) (Rows.fnPlainSumsSpec.post enc Try.prog Try.f4 false true false false) := by
  refine returnsInHanded_of_change (C := Try.checked) Try.own started (by kernel_rfl) Try.func4
    (ChangeSpec.witness6 (enc := enc) (C := Try.checked) false ⟨#[], #[.slice none 0 0], []⟩ 8 (by kernel_rfl) (by kernel_rfl) (by kernel_rfl) (by kernel_rfl)) ?_
  intro W base args ds gs before hval0 hW _ _
  have hval : ∀ (j : Nat) t v, Try.f4.params[j]? = some t → args[j]? = some v → Value.okWide Try.prog W .any base t v := hval0
  have hW' := hW
  obtain ⟨p, q, hA0, hV, rfl, hfz, hnd⟩ := hW
  have hA : DataW.TrodAll enc Try.prog W 0 (fun _ => true) true Try.f4.params.toList args.toList ds p := hA0
  rw [Try.params4] at hA hval
  obtain ⟨v0, d0, rfl, rfl, h0⟩ := trodAll_one hA
  obtain ⟨p0, hp0⟩ : ∃ p0, p0 = p := ⟨_, rfl⟩
  subst hp0
  obtain ⟨rfl, rfl⟩ := trodVars_none hV
  obtain ⟨a0, n0, cap0, rfl⟩ := okWide_slice Try.underlying22 (hval 0 22 v0 rfl rfl)
  obtain ⟨hb0, hc0, h630⟩ := open_bytes Try.underlying22 Try.underlying5 Try.cellsB h0
  clear hA0 hval0
  simp only [List.append_nil] at hW'
  have hlt0 : ∀ x ∈ p0, x.block < W.heap.size := fun x hx => hW'.lt x (by simp [hx])
  refine (fnPlainSums a0 cap0 n0 W hc0 h630 hb0).mono fun e W' ⟨he, hs⟩ => ?_
  subst he
  have hb := since_below' hs
  have ht0 : ∀ sp : Nat → Bool, (∀ x ∈ p0, sp x.block = true) → DataW.Trod enc Try.prog W' 0 sp true 22 (.slice a0 n0 cap0) d0 p0 := fun sp hsp =>
    WideElems.Trod_stays Try.laidOut (by kernel_rfl) (of_decide_eq_true (by kernel_rfl)) h0 (fun x hx => hb.same (hlt0 x hx)) hsp
  have hargs : ∀ sp : Nat → Bool, (∀ x ∈ (p0), sp x.block = true) → DataW.TrodAll enc Try.prog W' 0 sp true [22] [.slice a0 n0 cap0] [d0] (p0) := fun sp hsp => by
    have := trodAll_mk1 (enc := enc) (P := Try.prog) (w := W') (base := 0) (spare := sp) (held := true) (ht0 sp (fun x hx => hsp x (by simp [hx])))
    simpa using this
  exact ⟨_, rfl, post_of_below (pa := p0) (pv := []) hW' (fun _ _ _ => trodAll_mk1 (shut_bool Try.underlying4 true)) (fun sp hsp => hargs sp (fun x hx => hsp x (by simpa using hx))) (fun _ _ => rfl) (by simp) hb rfl⟩

theorem FnPlainSums_holds : Rows.FnPlainSumsSaid :=
  OpenClaim.holds_of_wide 4 Try.f4 rfl rfl rfl rfl rfl rfl rfl ⟨rfl, rfl, rfl, rfl, rfl⟩ rfl rfl rfl rfl rfl (by kernel_rfl) Try.func4 (by kernel_rfl)
    (of_decide_eq_true (by kernel_rfl)) (by unfold Func.isWrapper; first | (rw [if_pos (by decide +kernel)]; kernel_rfl) | (rw [if_neg (by decide +kernel)]; exact ⟨rfl, rfl⟩))
    (fun os started H enc _ => lifted_FnPlainSums os started H enc)

end Go.Proofs.Ytiabnlebonmedaa
end
