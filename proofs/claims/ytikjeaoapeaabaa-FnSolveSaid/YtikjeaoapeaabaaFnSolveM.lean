import Derived.Test.YtikjeaoapeaabaaTable
import Derived.Test.YtikjeaoapeaabaaMark
import Derived.Test.YtikjeaoapeaabaaDetMul
import Derived.Test.YtikjeaoapeaabaaOtherV
import Derived.Test.YtikjeaoapeaabaaL2Square
import Derived.Test.YtikjeaoapeaabaaBar
import Derived.Test.YtikjeaoapeaabaaMakeImpl
import Derived.Test.YtikjeaoapeaabaaOrdF
import Derived.Test.YtikjeaoapeaabaaPartImpl
import Derived.Test.YtikjeaoapeaabaaOrdDet
import Derived.Test.YtikjeaoapeaabaaMinorV
import Derived.Test.YtikjeaoapeaabaaImpl1
import Derived.Test.YtikjeaoapeaabaaCopy
import Derived.StillTailTactics
import Derived.Test.YtikjeaoapeaabaaTimesImpl
import Derived.Test.YtikjeaoapeaabaaRowsV
import Derived.Test.YtikjeaoapeaabaaDet
import Derived.Test.YtikjeaoapeaabaaRoads
import Derived.Test.YtikjeaoapeaabaaPivotsI
import Derived.Test.YtikjeaoapeaabaaHarn2
import Derived.Test.YtikjeaoapeaabaaRows
import Derived.Test.YtikjeaoapeaabaaData
import Derived.ProofKit
import Derived.Deep.Matrix
import Derived.Test.YtikjeaoapeaabaaDraw0

section
namespace Go.Proofs.Ytikjeaoapeaabaa
open Go.RowKit Go.Deep

theorem BD.inT {B : Nat} {w : World} {v : Value} {l : List (List Int)} {A : Nat → Option Addr} {C : Nat → Nat} (h : BD B w v l A C) : ∃ a cap, v = .slice a l.length cap ∧ InT B w.heap.size w a l := by
  by_cases h0 : 0 < l.length
  · obtain ⟨b, cap, cur, e, hb, hg, hc⟩ := h.top h0
    refine ⟨_, cap, e, fun _ => ⟨b, 0, A, fun r => ((A r).getD default).block, fun _ => 0, C, rfl, ⟨hb, (Array.getElem?_eq_some_iff.1 hg).1⟩, fun r hr => ⟨?_, fun h1 => ?_⟩⟩⟩
    · rw [Nat.zero_add]; simp [World.cell?, hg, hc r hr]
    · obtain ⟨g, e, hB, hw⟩ := h.row hr
      have e' : ((A r).getD default).block = g := by rw [e]; rfl
      dsimp only
      rw [e']
      exact ⟨e, ⟨hB, hw.lt⟩, fun i hi => by rw [Nat.zero_add]; exact hw.cell hi⟩
  · rcases h.own.2 with ⟨hv, hn⟩ | ⟨g, cap, cur, e, _⟩
    · exact ⟨none, 0, by rw [hv, hn], fun h => absurd h h0⟩
    · exact ⟨_, cap, e, fun h => absurd h h0⟩

theorem BD.row_ne {B : Nat} {w : World} {l : List (List Int)} {A : Nat → Option Addr} {C : Nat → Nat} {b cap n : Nat} (h : BD B w (.slice (some ⟨b, 0, none⟩) n cap) l A C) {g : Nat} {x : List Int} (hw : RowB w g x) : g ≠ b := by
  rintro rfl
  obtain ⟨cs, hc, _⟩ := hw
  rcases h.own.2 with ⟨e, _⟩ | ⟨g', cap', cur, e, _, hgg, _⟩
  · cases e
  · injection e with e
    injection e with e
    injection e with e
    rw [← e, hc] at hgg
    injection hgg with hgg
    injection hgg with _ e2 _
    exact absurd e2 (by decide)

theorem BD.addr_ne {B : Nat} {w : World} {v : Value} {l : List (List Int)} {A : Nat → Option Addr} {C : Nat → Nat} (h : BD B w v l A C) {r j g g' : Nat} (hr : r < l.length) (hj : j < l.length) (hA : A r = some ⟨g, 0, none⟩) (hA' : A j = some ⟨g', 0, none⟩) (hne : j ≠ r) : g' ≠ g := by
  rintro rfl
  exact hne (h.apart j r hj hr (by rw [hA, hA']))

theorem BD.cellTop {B : Nat} {w : World} {l : List (List Int)} {A : Nat → Option Addr} {C : Nat → Nat} {b cap n : Nat} (h : BD B w (.slice (some ⟨b, 0, none⟩) n cap) l A C) {r : Nat} (hr : r < l.length) :
    w.cell? ⟨b, r, none⟩ = some (.slice (A r) (l.getD r []).length (C r)) ∧ w.frozen? ⟨b, r, none⟩ = false ∧ b < w.heap.size := by
  obtain ⟨b', cp', cur, hv, _, hcur, hc⟩ := h.top (by omega)
  injection hv with hv _ _
  injection hv with hv
  injection hv with hv
  subst hv
  exact ⟨by simp [World.cell?, hcur, hc r hr], by simp [World.frozen?, hcur], (Array.getElem?_eq_some_iff.1 hcur).1⟩

theorem BD.setRow {B : Nat} {w w5 : World} {l : List (List Int)} {A : Nat → Option Addr} {C : Nat → Nat} {b cap n : Nat} (h : BD B w (.slice (some ⟨b, 0, none⟩) n cap) l A C) {r g : Nat} (hr : r < l.length) (hA : A r = some ⟨g, 0, none⟩) (hg : w.grownBy w5 (some g)) {g2 cp k : Nat} {y : List Int}
    (hy : RW B w5 (.slice (some ⟨g2, 0, none⟩) k cp) y) (hk : y.length = k) (h0 : 0 < k) : InT B w5.heap.size (w5.setCell ⟨b, r, none⟩ (.slice (some ⟨g2, 0, none⟩) k cp)) (some ⟨b, 0, none⟩) (l.set r y) := by
  subst hk
  obtain ⟨b', cap', cur, e, hb, hcur, hc⟩ := h.top (by omega)
  injection e with e en _
  injection e with e
  injection e with e
  subst e
  obtain ⟨g', hA', hBg, hrb⟩ := h.row hr
  rw [hA] at hA'
  injection hA' with hA'
  injection hA' with hA'
  subst hA'
  have hgb := h.row_ne hrb
  have hbl : b < w.heap.size := (Array.getElem?_eq_some_iff.1 hcur).1
  have hcur5 : w5.heap[b]? = some (.cells cur 33 (0, 0)) := (hg.block b hbl (fun e => by injection e with e; omega)).trans hcur
  obtain ⟨hB2, hrb2⟩ := hy.rowB h0
  have hg2b : g2 ≠ b := by
    rintro rfl
    obtain ⟨cs, h1, _⟩ := hrb2
    rw [h1] at hcur5
    injection hcur5 with h2
    injection h2 with _ h2 _
    exact absurd h2 (by decide)
  have hbl5 : b < w5.heap.size := (Array.getElem?_eq_some_iff.1 hcur5).1
  intro _
  refine ⟨b, 0, fun j => if j = r then some ⟨g2, 0, none⟩ else A j, fun j => if j = r then g2 else ((A j).getD default).block, fun _ => 0, fun j => if j = r then cp else C j, rfl, ⟨hb, hbl5⟩, fun j hj => ?_⟩
  rw [List.length_set] at hj
  show (w5.setCell ⟨b, r, none⟩ _).cell? ⟨b, 0 + j, none⟩ = _ ∧ _
  rw [Nat.zero_add]
  by_cases ej : j = r
  · subst ej
    have e1 : (l.set j y).getD j [] = y := by simp [List.getD, hj]
    rw [e1]
    simp only [↓reduceIte]
    refine ⟨World.cell?_setCell_same' _ _ _ (by simp [World.cell?, hcur5, hc j hj]), fun _ => ⟨trivial, ⟨hB2, hrb2.lt⟩, fun i hi => ?_⟩⟩
    rw [Nat.zero_add]
    exact cell_set_far (hrb2.cell hi) hg2b
  · have e1 : (l.set r y).getD j [] = l.getD j [] := by simp [List.getD, List.getElem?_set_ne (Ne.symm ej)]
    rw [e1]
    simp only [if_neg ej]
    obtain ⟨gj, hAj, hBj, hrbj⟩ := h.row hj
    have hgj := h.addr_ne hr hj hA hAj ej
    have hrb5 : RowB w5 gj (l.getD j []) := hrbj.of_block (hg.block gj hrbj.lt (fun e => by injection e with e; omega))
    have hgjb := h.row_ne hrbj
    refine ⟨?_, fun _ => ?_⟩
    · rw [World.cell?_setCell_other _ _ _ _ (fun e => ej (by injection e with _ e; exact e.symm))]
      simp [World.cell?, hcur5, hc j hj]
    · have e' : ((A j).getD default).block = gj := by rw [hAj]; rfl
      rw [e']
      exact ⟨hAj, ⟨hBj, hrb5.lt⟩, fun i hi => by rw [Nat.zero_add]; exact cell_set_far (hrb5.cell hi) hgjb⟩

theorem BD.setNum {B : Nat} {w : World} {l : List (List Int)} {A : Nat → Option Addr} {C : Nat → Nat} {b cap n : Nat} (h : BD B w (.slice (some ⟨b, 0, none⟩) n cap) l A C) {r g k : Nat} (hr : r < l.length) (hA : A r = some ⟨g, 0, none⟩) (hk : k < (l.getD r []).length) (z : Int) :
    InT B w.heap.size (w.setCell ⟨g, k, none⟩ (.int .i64 z)) (some ⟨b, 0, none⟩) (l.set r ((l.getD r []).set k z)) := by
  obtain ⟨b', cap', cur, e, hb, hcur, hc⟩ := h.top (by omega)
  injection e with e en _
  injection e with e
  injection e with e
  subst e
  obtain ⟨g', hA', hBg, hrb⟩ := h.row hr
  rw [hA] at hA'
  injection hA' with hA'
  injection hA' with hA'
  subst hA'
  have hgb := h.row_ne hrb
  intro _
  refine ⟨b, 0, A, fun j => ((A j).getD default).block, fun _ => 0, C, rfl, ⟨hb, (Array.getElem?_eq_some_iff.1 hcur).1⟩, fun j hj => ?_⟩
  rw [List.length_set] at hj
  show (w.setCell ⟨g, k, none⟩ _).cell? ⟨b, 0 + j, none⟩ = _ ∧ _
  rw [Nat.zero_add]
  have hlen : ((l.set r ((l.getD r []).set k z)).getD j []).length = (l.getD j []).length := by
    by_cases ej : j = r
    · subst ej; simp [List.getD, hj]
    · simp [List.getD, List.getElem?_set_ne (Ne.symm ej)]
  rw [hlen]
  refine ⟨cell_set_far (by simp [World.cell?, hcur, hc j hj]) (Ne.symm hgb), fun _ => ?_⟩
  obtain ⟨gj, hAj, hBj, hrbj⟩ := h.row hj
  have e' : ((A j).getD default).block = gj := by rw [hAj]; rfl
  dsimp only
  rw [e']
  refine ⟨hAj, ⟨hBj, hrbj.lt⟩, fun i hi => ?_⟩
  rw [Nat.zero_add]
  by_cases ej : j = r
  · subst ej
    rw [hA] at hAj
    injection hAj with hAj
    injection hAj with hAj
    subst hAj
    have e1 : (l.set j ((l.getD j []).set k z)).getD j [] = (l.getD j []).set k z := by simp [List.getD, hj]
    rw [e1]
    by_cases ei : i = k
    · subst ei
      rw [World.cell?_setCell_same' _ _ _ (by rw [hrbj.cell hi]; rfl)]
      simp [List.getD] at hi ⊢
      simp [hi]
    · rw [World.cell?_setCell_other _ _ _ _ (fun e => ei (by injection e with _ e; exact e.symm)), hrbj.cell hi]
      simp [List.getD, List.getElem?_set_ne (Ne.symm ei)]
  · have hgj := h.addr_ne hr hj hA hAj ej
    have e1 : (l.set r ((l.getD r []).set k z)).getD j [] = l.getD j [] := by simp [List.getD, List.getElem?_set_ne (Ne.symm ej)]
    rw [e1]
    exact cell_set_far (hrbj.cell hi) hgj

theorem InT.kept {lo hi : Nat} {w w' : World} {a : Option Addr} {l : List (List Int)} {G : Nat} (h : InT lo hi w a l) (hg : w.grownBy w' (some G)) (hG : G < lo) : InT lo hi w' a l :=
  h.frame (lo' := G) (hi' := G + 1) ⟨hg.os, hg.tape, hg.output, hg.size, fun k hk ho => hg.block k hk (fun e => by injection e with e; omega)⟩ (.inr (by omega))

end Go.Proofs.Ytikjeaoapeaabaa
end

section
namespace Go.Proofs.Ytikjeaoapeaabaa
open Go.RowKit Go.Deep

def Drawn0 (w w' : World) (R K : Nat) (a : Option Addr) (l : List (List Int)) : Prop :=
  1 ≤ l.length ∧ l.length ≤ R ∧ (∀ j, j < l.length → 1 ≤ (l.getD j []).length ∧ (l.getD j []).length ≤ K + 1) ∧ InT w.heap.size w'.heap.size w' a l

theorem lens_set {l : List (List Int)} {r : Nat} {y : List Int} {n m K : Nat} (hl : l.length = n) (h : ∀ j, j < n → (l.getD j []).length = m) (hm : 1 ≤ m ∧ m ≤ K) (hy : 1 ≤ y.length ∧ y.length ≤ K + 1) : ∀ j, j < (l.set r y).length → 1 ≤ ((l.set r y).getD j []).length ∧ ((l.set r y).getD j []).length ≤ K + 1 := by
  intro j hj
  rw [List.length_set] at hj
  by_cases e : j = r
  · subst e
    rw [show (l.set j y).getD j [] = y by simp [List.getD, hj]]
    exact hy
  · rw [show (l.set r y).getD j [] = l.getD j [] by simp [List.getD, List.getElem?_set_ne (Ne.symm e)], h j (by omega)]
    omega

end Go.Proofs.Ytikjeaoapeaabaa
end

section
namespace Go.Proofs.Ytikjeaoapeaabaa
open Go.RowKit Go.Deep

set_option maxHeartbeats 1000000 in
theorem l6Open_any (a : Option Addr) (nb cb : Nat) (w : World) (hc : nb ≤ cb) (h63 : cb ≤ 9223372036854775807) (hb : BytR w a nb) :
    Calls Try.prog 76 #[.slice a nb cb] w fun e w' => ∃ n' c', e = .returned (.pointer (some ⟨w.heap.size, 0, none⟩)) ∧ w.Since w.heap.size w' ∧ w'.heap.size = w.heap.size + 1 ∧ RD w w' w.heap.size a n' c' 80 0 := by
  by_cases hl : 2000 < nb
  · have hl' : decide ((2000 : Int) < (nb : Int)) = true := by simp; omega
    have h2 : (2000 : Int) ≤ (cb : Int) := by omega
    obtain ⟨b, o, rfl, hcell⟩ := hb (by omega)
    go_enter Try.func76, Try.ntmps76
    go_wp2
    go_ret
    exact ⟨_, _, rfl, (World.Since.refl _ _).alloc (Nat.le_refl _) _, by simp, ⟨heap_alloc_new _ _, Nat.le_refl _, (World.Since.refl _ _).alloc (Nat.le_refl _) _, fun _ => ⟨b, o, rfl, fun i hi => hcell i (by omega)⟩, by omega⟩⟩
  · have hl' : decide ((2000 : Int) < (nb : Int)) = false := by simp; omega
    go_enter Try.func76, Try.ntmps76
    go_wp2
    go_ret
    exact ⟨_, _, rfl, (World.Since.refl _ _).alloc (Nat.le_refl _) _, by simp, ⟨heap_alloc_new _ _, Nat.le_refl _, (World.Since.refl _ _).alloc (Nat.le_refl _) _, hb, by omega⟩⟩

def DrawnT (w w' : World) (R K : Nat) (a : Option Addr) (l : List (List Int)) : Prop :=
  1 ≤ l.length ∧ l.length ≤ R ∧ (∀ j, j < l.length → 1 ≤ (l.getD j []).length ∧ (l.getD j []).length ≤ K + 1) ∧ InT w.heap.size w'.heap.size w' a l

end Go.Proofs.Ytikjeaoapeaabaa
end

section
namespace Go.Proofs.Ytikjeaoapeaabaa
open Go.RowKit Go.Deep

set_option maxRecDepth 100000 in
set_option maxHeartbeats 4000000 in
theorem l91Square_any (w0 w : World) (G nb c p R : Nat) (a : Option Addr) (h : RD w0 w G a nb c 80 p) (hR1 : 1 ≤ R) (hR : R ≤ 8) (hp : p ≤ 40000) :
    Calls Try.prog 77 #[.pointer (some ⟨G, 0, none⟩), .int .i64 R] w fun e w' => ∃ a' cap l p', e = .returned (.slice a' l.length cap) ∧ w.grownBy w' (some G) ∧ RD w0 w' G a nb c 80 p' ∧ p' ≤ p + 1200 ∧ Drawn0 w w' R R a' l := by
  have hG := h.lt
  have HRD := Lib.hid h
  clear h
  go_enter Try.func77, Try.ntmps77
  go_wp2_with fail
  refine (pick_any w0 _ G nb c _ a _ HRD.out (by omega)).mono ?_
  rintro e w1 ⟨y1, rfl, hy1, hg1, hd1⟩
  obtain ⟨n, hn, hnn⟩ : ∃ n : Nat, IntKind.i64.wrap (1 + (y1 : Int)) = n ∧ n = y1 + 1 := ⟨y1 + 1, (IntWalk.i64_in _ ⟨by omega, by omega⟩).trans (by omega), rfl⟩
  have hn1 : 1 ≤ n ∧ n ≤ R := by omega
  have HD2 := Lib.hid hd1
  have HG2 := Lib.hid hg1
  clear hd1 hg1 hnn hy1 HRD
  go_wp2_with fail
  refine (l91Table_any w0 _ G nb c _ n n a HD2.out (by omega) (by omega) (by omega) (by omega)).mono ?_
  rintro e w3 ⟨v, l, A, C, p3, rfl, hl, hlm, hg3, hd3, hp3, hB⟩
  obtain ⟨b, cp, cur, hv, hbb, hcur, hc⟩ := hB.top (by omega)
  rw [hl] at hv
  subst hv
  have hG2 := HG2.out.size
  have HD3 := Lib.hid hd3
  have HG3 := Lib.hid (grown_trans HG2.out hg3)
  have HB := Lib.hid hB
  clear hd3 hg3 hcur hc hB HD2
  go_wp2_with fail
  refine (pick_any w0 _ G nb c _ a _ HD3.out (by omega)).mono ?_
  rintro e w4 ⟨y4, rfl, hy4, hg4, hd4⟩
  have HG4 := Lib.hid (grown_trans HG3.out hg4)
  have HB4 := Lib.hid (HB.out.kept hg4 (by omega))
  have HD4 := Lib.hid hd4
  have hz4 := HG4.out.size
  clear hd4 hg4 HB HG3 HD3 hy4
  obtain ⟨g0, hA0, hg0, hrb0⟩ := HB4.out.row (r := 0) (by omega)
  by_cases hy0 : y4 = 0
  · subst hy0
    obtain ⟨t1, _, _⟩ := HB4.out.cellTop (r := 0) (by omega)
    rw [hlm 0 (by omega), hA0] at t1
    have t2 := hrb0.cell (i := 0) (by rw [hlm 0 (by omega)]; omega)
    have t3 := hrb0.frozen 0
    have hIT := HB4.out.setNum (r := 0) (k := 0) (by omega) hA0 (by rw [hlm 0 (by omega)]; omega) 31
    have hll : (l.set 0 ((l.getD 0 []).set 0 31)).length = n := by rw [List.length_set]; exact hl
    have hlens := lens_set (K := R) (r := 0) (y := (l.getD 0 []).set 0 31) hl hlm (by omega) (by rw [List.length_set, hlm 0 (by omega)]; omega)
    have HIT := Lib.hid hIT
    have HLL := Lib.hid hll
    have HLENS := Lib.hid hlens
    have HGS := Lib.hid (grown_set HG4.out (show w.heap.size ≤ g0 by omega) (k := 0) (.int .i64 31))
    have HDS := Lib.hid (HD4.out.grown (grown_set_any w4 g0 0 (.int .i64 31)) (fun i e => by cases e; omega))
    have p1 : 0 < n := by omega
    clear hrb0 hIT hll hlens hA0 hlm hl
    go_wp2
    go_ret
    exact ⟨_, _, l.set 0 ((l.getD 0 []).set 0 31), _, by rw [HLL.out]; rfl, HGS.out, HDS.out, by omega, by rw [HLL.out]; omega, by rw [HLL.out]; omega, HLENS.out, HIT.out.mono hG2 (by simp)⟩
  · clear hrb0 hA0 hg0
    by_cases hy1 : y4 = 1
    · subst hy1
      clear hlm hl HB4
      have hnp : IntKind.i64.wrap ((n : Int) + 1) = ((n + 1 : Nat) : Int) := (IntWalk.i64_in _ ⟨by omega, by omega⟩).trans (by omega)
      have E5 := l91Table_any w0 w4 G nb c _ n (n + 1) a HD4.out (by omega) (by omega) (by omega) (by omega)
      rw [show ((n + 1 : Nat) : Int) = (n : Int) + 1 by omega] at E5
      replace E5 := Lib.hid E5
      go_wp2_with fail
      refine (E5.out).mono ?_
      rintro e w5 ⟨v, l5, A5, C5, p5, rfl, hl, hlm, hg5, hd5, hp5, hB⟩
      obtain ⟨a', cap', hv, hIT⟩ := hB.inT
      rw [hl] at hv
      subst hv
      have HL := Lib.hid hl
      have HLM := Lib.hid hlm
      have HIT := Lib.hid hIT
      have HG5 := Lib.hid (grown_trans HG4.out hg5)
      have HD5 := Lib.hid hd5
      have hG4 := HG4.out.size
      clear hl hlm hIT hB hg5 hd5
      go_wp2
      go_ret
      exact ⟨_, _, l5, _, by rw [HL.out]; rfl, HG5.out, HD5.out, by omega, by rw [HL.out]; omega, by rw [HL.out]; omega, fun j hj => by rw [HLM.out j (by rw [← HL.out]; exact hj)]; omega, HIT.out.mono hG4 (Nat.le_refl _)⟩
    · have h1 : ((y4 : Int) == 0) = false := by simp; omega
      have h2 : ((y4 : Int) == 1) = false := by simp; omega
      obtain ⟨a', cap', hv, hIT⟩ := HB4.out.inT
      rw [hl] at hv
      injection hv with hv _ _
      subst hv
      have HL := Lib.hid hl
      have HLM := Lib.hid hlm
      have HIT := Lib.hid hIT
      clear hl hlm hIT
      go_wp2
      go_ret
      exact ⟨_, _, l, _, by rw [HL.out]; rfl, HG4.out, HD4.out, by omega, by rw [HL.out]; omega, by rw [HL.out]; omega, fun j hj => by rw [HLM.out j (by rw [← HL.out]; exact hj)]; omega, HIT.out.mono hG2 (Nat.le_refl _)⟩

set_option maxHeartbeats 1000000 in
theorem l91Squared_any (a : Option Addr) (nb cb : Nat) (w : World) (hc : nb ≤ cb) (h63 : cb ≤ 9223372036854775807) (hb : BytR w a nb) :
    Calls Try.prog 79 #[.slice a nb cb] w fun e w' => ∃ a' cap l, e = .returned (.slice a' l.length cap) ∧ w.Since w.heap.size w' ∧ DrawnT w w' 5 5 a' l := by
  have E := Lib.hid (l6Open_any a nb cb w hc h63 hb)
  clear hb
  go_enter Try.func79, Try.ntmps79
  go_wp2_with fail
  refine (E.out).mono ?_
  rintro e w1 ⟨n', c', rfl, hs, hz, hd⟩
  have HD := Lib.hid hd
  clear hd
  go_wp2_with fail
  refine (l91Square_any w w1 w.heap.size n' c' 0 5 a HD.out (by omega) (by omega) (by omega)).mono ?_
  rintro e w2 ⟨a', cap', l, p', rfl, hg, hd2, hp, h1, h5, hl, hit⟩
  go_wp2
  go_ret
  exact ⟨a', cap', l, rfl, hs.trans (since_grown hg (Nat.le_refl _) hs.size), h1, h5, hl, hit.mono hs.size (Nat.le_refl _)⟩

set_option maxHeartbeats 1000000 in
theorem drawValueOther_any (a : Option Addr) (nb cb : Nat) (w : World) (hc : nb ≤ cb) (h63 : cb ≤ 9223372036854775807) (hb : BytR w a nb) :
    Calls Try.prog 42 #[.slice a nb cb] w fun e w' => ∃ a' cap l, e = .returned (.slice a' l.length cap) ∧ w.Since w.heap.size w' ∧ DrawnT w w' 5 5 a' l := by
  have E := Lib.hid (l91Squared_any a nb cb w hc h63 hb)
  clear hb
  go_enter Try.func42, Try.ntmps42
  go_wp2_with fail
  refine (E.out).mono ?_
  rintro e w1 ⟨a', cap', l, rfl, hs, hd⟩
  go_wp2
  go_ret
  exact ⟨a', cap', l, rfl, hs, hd⟩

end Go.Proofs.Ytikjeaoapeaabaa
end

section
namespace Go.Proofs.Ytikjeaoapeaabaa
open Go.RowKit Go.Deep

def InR (lo hi : Nat) (w : World) (a : Option Addr) (x : List Int) : Prop :=
  0 < x.length → ∃ g o : Nat, a = some ⟨g, o, none⟩ ∧ (lo ≤ g ∧ g < hi) ∧ ∀ i, i < x.length → w.cell? ⟨g, o + i, none⟩ = some (.int .i64 (x.getD i 0))
def OwnR (lo hi : Nat) (w : World) (a : Option Addr) (x : List Int) : Prop :=
  0 < x.length → ∃ g : Nat, a = some ⟨g, 0, none⟩ ∧ (lo ≤ g ∧ g < hi) ∧ ∀ i, i < x.length → w.cell? ⟨g, i, none⟩ = some (.int .i64 (x.getD i 0)) ∧ w.frozen? ⟨g, i, none⟩ = false
theorem OwnR.inR {lo hi : Nat} {w : World} {a : Option Addr} {x : List Int} (h : OwnR lo hi w a x) : InR lo hi w a x := fun h0 => by
  obtain ⟨g, e, hg, hc⟩ := h h0
  exact ⟨g, 0, e, hg, fun i hi => by rw [Nat.zero_add]; exact (hc i hi).1⟩
theorem InR.rowR {lo hi : Nat} {w : World} {a : Option Addr} {x : List Int} (h : InR lo hi w a x) : RowR w a x := fun h0 => by
  obtain ⟨g, o, e, _, hc⟩ := h h0
  exact ⟨g, o, e, hc⟩
theorem OwnR.rowR {lo hi : Nat} {w : World} {a : Option Addr} {x : List Int} (h : OwnR lo hi w a x) : RowR w a x := h.inR.rowR
theorem InR.nil (lo hi : Nat) (w : World) (a : Option Addr) : InR lo hi w a [] := fun h => by simp at h
theorem OwnR.nil (lo hi : Nat) (w : World) (a : Option Addr) : OwnR lo hi w a [] := fun h => by simp at h
theorem InR.mono {lo hi lo' hi' : Nat} {w : World} {a : Option Addr} {x : List Int} (h : InR lo hi w a x) (h1 : lo' ≤ lo) (h2 : hi ≤ hi') : InR lo' hi' w a x := fun h0 => by
  obtain ⟨g, o, e, hg, hc⟩ := h h0
  exact ⟨g, o, e, by omega, hc⟩
theorem OwnR.mono {lo hi lo' hi' : Nat} {w : World} {a : Option Addr} {x : List Int} (h : OwnR lo hi w a x) (h1 : lo' ≤ lo) (h2 : hi ≤ hi') : OwnR lo' hi' w a x := fun h0 => by
  obtain ⟨g, e, hg, hc⟩ := h h0
  exact ⟨g, e, by omega, hc⟩
theorem InR.frame {lo hi lo' hi' : Nat} {w w' : World} {a : Option Addr} {x : List Int} (h : InR lo hi w a x) (hf : Frame lo' hi' w w') (hd : hi ≤ lo' ∨ hi' ≤ lo) : InR lo hi w' a x := fun h0 => by
  obtain ⟨g, o, e, hg, hc⟩ := h h0
  exact ⟨g, o, e, hg, fun i hi1 => hf.cell (hc i hi1) (by show g < lo' ∨ hi' ≤ g; omega)⟩
theorem OwnR.frame {lo hi lo' hi' : Nat} {w w' : World} {a : Option Addr} {x : List Int} (h : OwnR lo hi w a x) (hf : Frame lo' hi' w w') (hd : hi ≤ lo' ∨ hi' ≤ lo) : OwnR lo hi w' a x := fun h0 => by
  obtain ⟨g, e, hg, hc⟩ := h h0
  exact ⟨g, e, hg, fun i hi1 => ⟨hf.cell (hc i hi1).1 (by show g < lo' ∨ hi' ≤ g; omega), (hf.frozen (hc i hi1).1 (by show g < lo' ∨ hi' ≤ g; omega)).trans (hc i hi1).2⟩⟩
theorem InR.since {lo hi : Nat} {w w' : World} {a : Option Addr} {x : List Int} (h : InR lo hi w a x) (hs : w.Since w.heap.size w') : InR lo hi w' a x := h.frame (frame_since hs hi hi) (.inl (Nat.le_refl _))
theorem OwnR.since {lo hi : Nat} {w w' : World} {a : Option Addr} {x : List Int} (h : OwnR lo hi w a x) (hs : w.Since w.heap.size w') : OwnR lo hi w' a x := h.frame (frame_since hs hi hi) (.inl (Nat.le_refl _))
theorem RowMade.ownR {w wr : World} {l : List Int} (h : RowMade w wr l l.length) : OwnR w.heap.size wr.heap.size wr (some ⟨w.heap.size, 0, none⟩) l := fun _ => by
  have hs := h.size
  refine ⟨w.heap.size, rfl, by omega, fun i hi => ⟨?_, h.row.frozen i⟩⟩
  have := h.row.cell (i := i) hi
  rw [if_pos hi] at this
  exact this

theorem toIntR_any (a : Option Addr) (cap n : Nat) (l : List Int) (w : World) (hn : l.length = n) (hn1 : n ≤ 1048576) (hm : RowR w a l) :
    Calls Try.prog 33 #[.slice a n cap] w fun e w' => e = .returned (.slice (some ⟨w.heap.size, 0, none⟩) n n) ∧ w.Since w.heap.size w' ∧ OwnR w.heap.size w'.heap.size w' (some ⟨w.heap.size, 0, none⟩) l := by
  subst hn
  exact (toIntS_any a cap l w hn1 hm).mono fun _ _ h => ⟨h.1, h.2.since, h.2.ownR⟩

theorem markR_any (a : Option Addr) (lo hi cap m : Nat) (k : Int) (x : List Int) (w : World) (hx : x.length = m) (h0 : 0 ≤ k) (hk : k + m ≤ 4000000) (h : OwnR lo hi w a x) :
    Calls Try.prog 36 #[.slice a m cap, .int .i64 k] w fun e w' => e = .returned (.int .i64 (k + m)) ∧ OwnR lo hi w' a (markRow k m) ∧ Frame lo hi w w' ∧ w'.heap.size = w.heap.size := by
  by_cases h1 : 0 < m
  · obtain ⟨g, e, hg, hc⟩ := h (by omega)
    refine (markIntS_any a g cap m k x w hx h0 hk (fun _ => e) (fun i hi => (hc i (by omega)).1) (fun i hi => (hc i (by omega)).2)).mono ?_
    rintro r w' ⟨rfl, hM⟩
    refine ⟨rfl, fun _ => ⟨g, e, hg, fun i hi => ?_⟩, hM.frame (.inl hg), hM.size⟩
    rw [markRow_length] at hi
    refine ⟨?_, hM.frozen i hi⟩
    rw [hM.cell i hi, if_pos hi, markRow_get _ _ _ hi]
  · have hm : m = 0 := by omega
    subst hm
    have hxe : x = [] := List.length_eq_zero_iff.1 hx
    clear h
    go_enter Try.func36, Try.ntmps36
    go_wp2
    go_loopg [1, 5] 0 (fun g q i wr => q = .int .i64 k ∧ i = .int .i64 0 ∧ wr = w)
    case atStart => exact ⟨rfl, rfl, rfl⟩
    case round =>
      obtain ⟨rfl, rfl, rfl⟩ := hrel
      go_wp2
      go_ret
      exact ⟨ret_int (by simp), OwnR.nil _ _ _ _, Frame.refl _ _ _, rfl⟩

end Go.Proofs.Ytikjeaoapeaabaa
end

section
namespace Go.Proofs.Ytikjeaoapeaabaa
open Go.RowKit Go.Deep

theorem RW.rowR {B : Nat} {w : World} {v : Value} {x : List Int} {j : Nat} (h : RW B w v x) (hx : x.length = j) : ∃ ax cx, v = .slice ax j cx ∧ RowR w ax x := by
  by_cases h0 : 0 < x.length
  · obtain ⟨g, cp, e, hge, hrb⟩ := h.form h0
    rw [hx] at e
    exact ⟨_, cp, e, fun _ => ⟨g, 0, rfl, fun i hi => by rw [Nat.zero_add]; exact hrb.cell hi⟩⟩
  · rcases h.2 with ⟨e, _⟩ | ⟨g, cp, cur, e, _⟩
    · exact ⟨none, 0, by rw [e]; congr 1; omega, fun h => absurd h h0⟩
    · rw [hx] at e
      exact ⟨_, cp, e, fun h => absurd h h0⟩

set_option maxRecDepth 100000 in
set_option maxHeartbeats 2000000 in
theorem drawValueSolve_any (a : Option Addr) (nb cb : Nat) (w : World) (hc : nb ≤ cb) (h63 : cb ≤ 9223372036854775807) (hb : BytR w a nb) :
    Calls Try.prog 38 #[.slice a nb cb] w fun e w' => ∃ a' cap l a2 cap2 x, e = .returned (.tuple #[.slice a' l.length cap, .slice a2 (List.length x) cap2]) ∧ w.Since w.heap.size w' ∧ DrawnT w w' 4 4 a' l ∧ x.length ≤ 5 ∧ RowR w' a2 x := by
  obtain ⟨i3, hi3⟩ := info3_parts
  have HJ := Lib.hid hi3
  have E := Lib.hid (l6Open_any a nb cb w hc h63 hb)
  clear hb hi3
  go_enter Try.func38, Try.ntmps38
  go_wp2_with fail
  refine (E.out).mono ?_
  rintro e w1 ⟨n', c', rfl, hs, hz, hd⟩
  have HD0 := Lib.hid hd
  have HS1 := Lib.hid hs
  have hz1 : w.heap.size < w1.heap.size := by omega
  clear hd hz hs
  go_wp2_with fail
  refine (l91Square_any w w1 w.heap.size n' c' 0 4 a HD0.out (by omega) (by omega) (by omega)).mono ?_
  rintro e w2 ⟨a', cap', l, p', rfl, hg, hd2, hp, h1, h5, hl, hit⟩
  have HG0 := Lib.hid hg
  have HIT := Lib.hid hit
  have HL := Lib.hid hl
  have HD := Lib.hid hd2
  have hz2 := hg.size
  obtain ⟨nn, hnn⟩ : ∃ n, l.length = n := ⟨_, rfl⟩
  rw [hnn] at h1 h5 ⊢
  have HN := Lib.hid hnn
  clear hg hit hl hd2 hnn
  have HD3 := Lib.hid (HD.out.grown (World.grownBy_alloc w2 (.cells #[] 3) none) (fun k e => by cases e))
  go_wp2_with fail
  refine (pick_any w _ w.heap.size n' c' _ a _ HD3.out (by omega)).mono ?_
  rintro e w3 ⟨y, rfl, hy, hg3, hd3⟩
  have HG3 := Lib.hid (show w2.grownBy w3 (some w.heap.size) from grown_trans (grown_alloc (World.grownBy_refl w2 (some w.heap.size)) (.cells #[] 3)) hg3)
  have HD4 := Lib.hid hd3
  have hrw : RW w2.heap.size w3 (.slice (some ⟨w2.heap.size, 0, none⟩) 0 0) [] := RW.kept (World.ownsRow_made w2 #[] 0 (Nat.le_refl _) (Nat.zero_le _) rfl) hg3 (by omega)
  have HW3 := Lib.hid hrw
  obtain ⟨N, hN⟩ : ∃ N : Nat, (nn : Int) + (y : Int) / 23 = (N : Int) := ⟨nn + y / 23, by omega⟩
  have hN5 : N ≤ 5 := by omega
  clear hg3 hd3 hrw
  go_wp2
  clear hN
  go_loopg [6, 8] N (fun g v i wr => ∃ j p x, j ≤ N ∧ g = N - j ∧ i = .int .i64 (j : Nat) ∧ List.length x = j ∧ w2.grownBy wr (some w.heap.size) ∧ RD w wr w.heap.size a n' c' 80 p ∧ p ≤ 1300 + 2 * j ∧ RW w2.heap.size wr v x)
  case atStart => exact ⟨0, p' + 1, [], Nat.zero_le _, rfl, rfl, rfl, HG3.out, HD4.out, by omega, HW3.out⟩
  case round =>
    obtain ⟨j, p, x, hj, rfl, rfl, hxl, hgi, hdi, hpp, hW⟩ := hrel
    clear HD4 HG3 HW3 HD HD3
    have HD := Lib.hid hdi
    have HG := Lib.hid hgi
    have HW := Lib.hid hW
    have hz4 := hgi.size
    clear hdi hgi hW
    by_cases hjN : j < N
    · go_wp2_with fail
      refine (pick_any w _ w.heap.size n' c' _ a _ HD.out (by omega)).mono ?_
      rintro e w4 ⟨z, rfl, hzz, hg4, hd4⟩
      have HW4 := Lib.hid (HW.out.kept hg4 (by omega))
      have HG4 := Lib.hid (grown_trans HG.out hg4)
      have HD4 := Lib.hid hd4
      have hz5 := HG4.out.size
      obtain ⟨u, hu⟩ : ∃ u : Int, IntKind.i64.wrap ((z : Int) - 4) = u := ⟨_, rfl⟩
      clear hg4 hd4
      go_wp2_with (at_builtin; (refine wpList_append_own _ rfl _ _ 33 rfl w2.heap.size 3 i3 (.int .i64 0) 1 8 Try.underlying33 HJ.out.1 HJ.out.2.1 HJ.out.2.2.1 HJ.out.2.2.2 rfl (by decide) _ _ (x.map (Value.int .i64)) rfl (World.ownsRow.alloc HW4.out _) ⟨w4.heap.size, 0, none⟩ 1 1 [.int .i64 u] rfl rfl (cell_one_at _ _ _ rfl) (fun x hx => by simp at hx; subst hx; rfl) (by unfold maxLen; omega) (by omega) (by simp; omega) ?_); intro v' w5 hown' hgrow _)
      have HW5 := Lib.hid (show RW w2.heap.size w5 v' (x ++ [u]) by
        have := hown'
        unfold RW
        rw [List.length_append, List.map_append]
        exact this)
      have hge := fun i e => (World.ownsRow.lt HW4.out i e).1
      have HD5 := Lib.hid ((HD4.out.grown (World.grownBy_alloc w4 (.cells #[.int .i64 u] 3) none) (fun k e => by cases e)).grown hgrow (fun i e => by have := hge i e; omega))
      have HG5 := Lib.hid (grown_new (grown_alloc HG4.out _) hgrow hge)
      clear hown' hgrow hge
      go_roundg (N - (j + 1))
      case measure => omega
      case rel => exact ⟨j + 1, _, x ++ [u], by omega, rfl, by go_num, by rw [List.length_append, hxl]; rfl, HG5.out, HD5.out, by omega, HW5.out⟩
    · have hjj : j = N := by omega
      subst hjj
      have hs2 : w.Since w.heap.size w2 := HS1.out.trans (since_grown HG0.out (Nat.le_refl _) HS1.out.size)
      have hs3 := Lib.hid (hs2.trans (since_grown HG.out (Nat.le_refl _) hs2.size))
      have hzs := HS1.out.size
      obtain ⟨ax, cx, hv, hrr⟩ := HW.out.rowR hxl
      subst hv
      have HR := Lib.hid hrr
      clear hrr
      go_wp2
      go_ret2
      exact ⟨a', cap', l, ax, cx, x, by rw [HN.out, hxl]; rfl, hs3.out, ⟨by rw [HN.out]; exact h1, by rw [HN.out]; exact h5, HL.out, (HIT.out.kept HG.out hz1).mono hzs HG.out.size⟩, by omega, HR.out⟩

end Go.Proofs.Ytikjeaoapeaabaa
end

section
namespace Go.Proofs.Ytikjeaoapeaabaa
open Go.RowKit Go.Deep

def mv (r i : Nat) : Nat := if i = 0 then r else if i ≤ r then i - 1 else i
theorem mv_zero (i : Nat) : mv 0 i = i := by unfold mv; repeat (first | split | omega)
theorem mv_succ (r i : Nat) : ex r (r + 1) (mv r i) = mv (r + 1) i := by unfold mv ex; repeat (first | split | omega)
theorem mv_skip (r i : Nat) : mv r (i + 1) = skip r i := by unfold mv skip; repeat (first | split | omega)
theorem dt_mv {n : Nat} : ∀ (r : Nat) (f : Nat → Nat → Int), r < n → dt n (fun i j => f (mv r i) j) = sn r * dt n f
  | 0, f, _ => by
    rw [sn_zero, Int.one_mul]
    exact dt_congr n fun i j _ _ => by rw [mv_zero]
  | r + 1, f, h => by
    have e : (fun i j => f (mv (r + 1) i) j) = fun i j => (fun i j => f (ex r (r + 1) i) j) (mv r i) j := by
      funext i j
      show _ = f (ex r (r + 1) (mv r i)) j
      rw [mv_succ]
    rw [e, dt_mv r (fun i j => f (ex r (r + 1) i) j) (by omega), dt_exR f (by omega) (by omega) h, sn_succ]
    rw [Int.mul_neg, Int.neg_mul]
theorem dt_row {n r : Nat} (f : Nat → Nat → Int) (h : r < n + 1) : dt (n + 1) f = sumN (fun k => f r k * (sn (r + k) * dt n (fun i j => f (skip r i) (skip k j)))) (n + 1) := by
  have e := dt_mv r f h
  have e2 : sn r * (sn r * dt (n + 1) f) = dt (n + 1) f := by rw [← Int.mul_assoc, sn_sq, Int.one_mul]
  rw [← e2, ← e, dt_succ, ← sumN_mul]
  refine sumN_congr _ fun k _ => ?_
  have e3 : dr k (fun i j => f (mv r i) j) = fun i j => f (skip r i) (skip k j) := by
    funext i j
    show f (mv r (i + 1)) (skip k j) = _
    rw [mv_skip]
  rw [e3, sn_add]
  show sn r * (sn k * (f (mv r 0) k * _)) = _
  have e4 : mv r 0 = r := rfl
  rw [e4]
  grind
theorem dt_alien {n r s : Nat} (f : Nat → Nat → Int) (hr : r < n + 1) (hs : s < n + 1) : sumN (fun k => f s k * (sn (r + k) * dt n (fun i j => f (skip r i) (skip k j)))) (n + 1) = if s = r then dt (n + 1) f else 0 := by
  by_cases e : s = r
  · subst e
    rw [if_pos rfl, ← dt_row f hs]
  · rw [if_neg e, ← dt_sameR (n := n + 1) (setR f r (f s)) (p := s) (q := r) e hs hr (fun j _ => by unfold setR; rw [if_neg e, if_pos rfl]), dt_row _ hr]
    refine sumN_congr _ fun k _ => ?_
    have e3 : (fun i j => setR f r (f s) (skip r i) (skip k j)) = fun i j => f (skip r i) (skip k j) := by
      funext i j
      unfold setR
      rw [if_neg (by unfold skip; split <;> omega)]
    rw [e3]
    unfold setR
    rw [if_pos rfl]
theorem othF_dt {l : List (List Int)} {n i k : Nat} (hT : TabIn l) (hn : l.length = n) (hw : (l.getD 0 []).length = n) (hi : i < n) (hk : k < n) : othF l n i k = sn (k + i) * dt (n - 1) (fun a b => at2 l (skip k a) (skip i b)) := by
  have h6 := hT.2.1
  unfold othF
  rw [sg_sn, ordF_all _ (by omega), Nat.add_comm i k]
  congr 1
  exact dt_congr _ fun a b ha hb => partL_but hn hw (by omega) hk hi (by omega) (by omega)
theorem other_left {l : List (List Int)} {n i k : Nat} (hT : TabIn l) (hn : l.length = n) (hw : (l.getD 0 []).length = n) (hi : i < n) (hk : k < n) :
    sumN (fun j => at2 l i j * othF l n j k) n = if i = k then dt n (at2 l) else 0 := by
  obtain ⟨m, rfl⟩ : ∃ m, n = m + 1 := ⟨n - 1, by omega⟩
  rw [← dt_alien (at2 l) hk hi]
  exact sumN_congr _ fun j hj => by rw [othF_dt hT hn hw hj hk]; rfl
theorem other_right {l : List (List Int)} {n i k : Nat} (hT : TabIn l) (hn : l.length = n) (hw : (l.getD 0 []).length = n) (hi : i < n) (hk : k < n) :
    sumN (fun j => othF l n i j * at2 l j k) n = if i = k then dt n (at2 l) else 0 := by
  obtain ⟨m, rfl⟩ : ∃ m, n = m + 1 := ⟨n - 1, by omega⟩
  have h := dt_alien (fun a b => at2 l b a) (r := i) (s := k) hi hk
  rw [dt_turn] at h
  have e : (if i = k then dt (m + 1) (at2 l) else 0) = if k = i then dt (m + 1) (at2 l) else 0 := by
    by_cases e : i = k
    · rw [if_pos e, if_pos e.symm]
    · rw [if_neg e, if_neg (fun h => e h.symm)]
  rw [e, ← h]
  refine sumN_congr _ fun j hj => ?_
  rw [othF_dt hT hn hw hi hj, Nat.add_comm j i, Int.mul_comm]
  show at2 l j k * _ = at2 l j k * (sn (i + j) * dt m (fun a b => at2 l (skip j b) (skip i a)))
  rw [← dt_turn m (fun a b => at2 l (skip j b) (skip i a))]
  rfl
theorem othF_bd {l : List (List Int)} {n i k : Nat} (hT : TabIn l) (hn : l.length = n) (hw : (l.getD 0 []).length = n) (hi : i < n) (hk : k < n) : -10000000000 ≤ othF l n i k ∧ othF l n i k ≤ 10000000000 := by
  have h6 := hT.2.1
  rw [othF_dt hT hn hw hi hk, ← sg_sn]
  refine sg_bd ?_
  have hb := dt_bd (n - 1) (fun a b => at2 l (skip k a) (skip i b)) (by omega) (fun a b ha hb => hT.at (by have := skip_bd (k := k) ha; omega) (by have := skip_bd (k := i) hb; omega))
  have hB : bdN (n - 1) ≤ 10000000000 := by
    have : n - 1 ≤ 5 := by omega
    match n - 1, this with
    | 0, _ => decide
    | 1, _ => decide
    | 2, _ => decide
    | 3, _ => decide
    | 4, _ => decide
    | 5, _ => decide
  omega
theorem rec_tabF {n m : Nat} (f : Nat → Nat → Int) (hn : 1 ≤ n ∧ n ≤ 6) (hm : 1 ≤ m ∧ m ≤ 6) : Rec (tabF n m f) := by
  have h0 : ((tabF n m f).getD 0 []).length = m := tabF_len _ _ _ _ (by omega)
  exact ⟨by rw [tabF_length]; omega, by rw [tabF_length]; omega, by rw [h0]; exact hm, fun hr => by rw [h0]; rw [tabF_length] at hr; exact tabF_len _ _ _ _ hr⟩
structure OtherM (l M : List (List Int)) (n : Nat) (v : Int) : Prop where
  len : M.length = n
  wid : (M.getD 0 []).length = n
  rec1 : Rec M
  b1 : ∀ i j k, i < n → j < n → k < (M.getD 0 []).length → -1000000000000 ≤ at2 l i j * at2 M j k ∧ at2 l i j * at2 M j k ≤ 1000000000000
  b2 : ∀ i j k, i < n → j < n → k < (l.getD 0 []).length → -1000000000000 ≤ at2 M i j * at2 l j k ∧ at2 M i j * at2 l j k ≤ 1000000000000
  l1 : (makeL l M).length = n
  l2 : (makeL M l).length = n
  w1 : ((makeL l M).getD 0 []).length = n
  w2 : ((makeL M l).getD 0 []).length = n
  r1 : Rec (makeL l M)
  r2 : Rec (makeL M l)
  e1 : ∀ i k, i < n → k < n → at2 (makeL l M) i k = if i = k then v else 0
  e2 : ∀ i k, i < n → k < n → at2 (makeL M l) i k = if i = k then v else 0
theorem otherM_of {l : List (List Int)} {n : Nat} (h : sqB l = true) (hn : l.length = n) : OtherM l (tabF n n (othF l n)) n (ordF l n n 0) := by
  obtain ⟨hT, hw⟩ := sqB_of h
  have h1 := hT.1
  have h6 := hT.2.1
  have hwn : (l.getD 0 []).length = n := by omega
  have hl : (tabF n n (othF l n)).length = n := tabF_length _ _ _
  have hmw : ((tabF n n (othF l n)).getD 0 []).length = n := tabF_len _ _ _ _ (by omega)
  have hat : ∀ i j, i < n → j < n → at2 (tabF n n (othF l n)) i j = othF l n i j := fun i j hi hj => tabF_at _ _ _ i j hi hj
  have hp : ∀ i j k, i < n → j < n → k < n → -1000000000000 ≤ at2 l i j * othF l n j k ∧ at2 l i j * othF l n j k ≤ 1000000000000 := fun i j k hi hj hk => by
    have b := hT.at (i := i) (k := j) (by omega) (by omega)
    have c := othF_bd hT hn hwn hj hk
    have := mul_bdB b.1 b.2 c.1 c.2
    omega
  have hp2 : ∀ i j k, i < n → j < n → k < n → -1000000000000 ≤ othF l n i j * at2 l j k ∧ othF l n i j * at2 l j k ≤ 1000000000000 := fun i j k hi hj hk => by
    have b := hT.at (i := j) (k := k) (by omega) (by omega)
    have c := othF_bd hT hn hwn hi hj
    have := mul_bdB b.1 b.2 c.1 c.2
    rw [Int.mul_comm]
    omega
  have g1 : 1 ≤ n ∧ n ≤ 6 := by omega
  have q1 : makeL l (tabF n n (othF l n)) = tabF n n fun i k => sumN (dotF l (tabF n n (othF l n)) i k) n := by unfold makeL; rw [hn, hl, hmw]
  have q2 : makeL (tabF n n (othF l n)) l = tabF n n fun i k => sumN (dotF (tabF n n (othF l n)) l i k) n := by unfold makeL; rw [hn, hl, hwn]
  refine ⟨hl, hmw, rec_tabF _ g1 g1, fun i j k hi hj hk => ?_, fun i j k hi hj hk => ?_, by rw [q1, tabF_length], by rw [q2, tabF_length], by rw [q1]; exact tabF_len _ _ _ _ (by omega), by rw [q2]; exact tabF_len _ _ _ _ (by omega), by rw [q1]; exact rec_tabF _ g1 g1, by rw [q2]; exact rec_tabF _ g1 g1, fun i k hi hk => ?_, fun i k hi hk => ?_⟩
  · rw [hmw] at hk
    rw [hat j k hj hk]
    exact hp i j k hi hj hk
  · rw [hwn] at hk
    rw [hat i j hi hj]
    exact hp2 i j k hi hj hk
  · rw [q1, show at2 (tabF n n fun i k => sumN (dotF l (tabF n n (othF l n)) i k) n) i k = sumN (dotF l (tabF n n (othF l n)) i k) n from tabF_at _ _ _ i k hi hk, ordF_all _ (by omega), ← other_left hT hn hwn hi hk]
    exact sumN_congr _ fun j hj => by show at2 l i j * at2 _ j k = _; rw [hat j k hj hk]
  · rw [q2, show at2 (tabF n n fun i k => sumN (dotF (tabF n n (othF l n)) l i k) n) i k = sumN (dotF (tabF n n (othF l n)) l i k) n from tabF_at _ _ _ i k hi hk, ordF_all _ (by omega), ← other_right hT hn hwn hi hk]
    exact sumN_congr _ fun j hj => by show at2 _ i j * at2 l j k = _; rw [hat i j hi hj]

end Go.Proofs.Ytikjeaoapeaabaa
end

section
namespace Go.Proofs.Ytikjeaoapeaabaa
open Go.RowKit Go.Deep

def setC (f : Nat → Nat → Int) (k : Nat) (b : Nat → Int) (i j : Nat) : Int := if j = k then b i else f i j
theorem dt_setC {n k : Nat} (f : Nat → Nat → Int) (b : Nat → Int) (hk : k < n + 1) : dt (n + 1) (setC f k b) = sumN (fun j => b j * (sn (j + k) * dt n (fun a c => f (skip j a) (skip k c)))) (n + 1) := by
  rw [← dt_turn, dt_row _ hk]
  refine sumN_congr _ fun j _ => ?_
  have e1 : setC f k b j k = b j := if_pos rfl
  have e2 : (fun a c => setC f k b (skip j c) (skip k a)) = fun a c => f (skip j c) (skip k a) := by
    funext a c
    unfold setC
    rw [if_neg (by unfold skip; split <;> omega)]
  show setC f k b j k * (sn (k + j) * dt n (fun a c => setC f k b (skip j c) (skip k a))) = _
  rw [e1, e2, Nat.add_comm k j, ← dt_turn n (fun a c => f (skip j a) (skip k c))]
theorem dt_solve {n i : Nat} (f : Nat → Nat → Int) (b : Nat → Int) (hi : i < n) : sumN (fun k => f i k * dt n (setC f k b)) n = dt n f * b i := by
  obtain ⟨m, rfl⟩ : ∃ m, n = m + 1 := ⟨n - 1, by omega⟩
  have e1 : sumN (fun k => f i k * dt (m + 1) (setC f k b)) (m + 1) = sumN (fun k => sumN (fun j => b j * (f i k * (sn (j + k) * dt m (fun a c => f (skip j a) (skip k c))))) (m + 1)) (m + 1) :=
    sumN_congr _ fun k hk => by
      rw [dt_setC f b hk, ← sumN_mul]
      exact sumN_congr _ fun j _ => by grind
  rw [e1, sumN_comm]
  have e2 : sumN (fun j => sumN (fun k => b j * (f i k * (sn (j + k) * dt m (fun a c => f (skip j a) (skip k c))))) (m + 1)) (m + 1) = sumN (fun j => b j * (if i = j then dt (m + 1) f else 0)) (m + 1) :=
    sumN_congr _ fun j hj => by rw [sumN_mul, dt_alien f hj hi]
  rw [e2, sumN_one _ i (m + 1) hi (fun j _ hji => by rw [if_neg (fun h => hji h.symm), Int.mul_zero]), if_pos rfl, Int.mul_comm]

end Go.Proofs.Ytikjeaoapeaabaa
end

section
namespace Go.Proofs.Ytikjeaoapeaabaa
open Go.RowKit Go.Deep

def slvT (l : List (List Int)) (b : List Int) (n k : Nat) : List (List Int) := tabF n n (setC (at2 l) k (fun i => b.getD i 0))
def slvR (l : List (List Int)) (b : List Int) (n j : Nat) : List Int := (List.range j).map fun k => dt n (setC (at2 l) k (fun i => b.getD i 0))
theorem slvR_succ (l : List (List Int)) (b : List Int) (n j : Nat) : slvR l b n (j + 1) = slvR l b n j ++ [dt n (setC (at2 l) j (fun i => b.getD i 0))] := by simp [slvR, List.range_succ]
theorem slvR_length (l : List (List Int)) (b : List Int) (n j : Nat) : (slvR l b n j).length = j := by simp [slvR]
theorem slvR_get (l : List (List Int)) (b : List Int) (n j k : Nat) (h : k < j) : (slvR l b n j).getD k 0 = dt n (setC (at2 l) k (fun i => b.getD i 0)) := by simp [slvR, List.getD, h]
noncomputable def slvOk (l : List (List Int)) (b : List Int) (n : Nat) : Bool := sqB l && (b.length == n && (numsIn b && (dt n (at2 l) != 0)))

theorem slv_sq {l : List (List Int)} {b : List Int} {n k : Nat} (hs : sqB l = true) (hn : l.length = n) (hb : b.length = n) (hi : numsIn b = true) : SqD n (slvT l b n k) ∧ ordF (slvT l b n k) n n 0 = dt n (setC (at2 l) k (fun i => b.getD i 0)) ∧ TabIn (slvT l b n k) := by
  obtain ⟨hT, hw⟩ := sqB_of hs
  have h6 := hT.2.1
  have h1 := hT.1
  rw [hn] at h6 h1 hw
  have hN := numsIn_of hi
  have hlen : (slvT l b n k).length = n := tabF_length _ _ _
  have hrow : ∀ r, r < n → ((slvT l b n k).getD r []).length = n := fun r hr => tabF_len _ _ _ _ hr
  have hat : ∀ r c, r < n → c < n → ((slvT l b n k).getD r []).getD c 0 = setC (at2 l) k (fun i => b.getD i 0) r c := fun r c hr hc => tabF_at _ _ _ r c hr hc
  have hTT : TabIn (slvT l b n k) := by
    refine ⟨by rw [hlen]; exact h1, by rw [hlen]; exact h6, fun r hr => ?_⟩
    rw [hlen] at hr
    refine ⟨by rw [hrow r hr, hrow 0 (by omega)], by rw [hrow r hr]; exact h1, by rw [hrow r hr]; exact h6, fun c hc => ?_⟩
    rw [hrow r hr] at hc
    rw [hat r c hr hc]
    unfold setC
    split
    · have := hN r (by rw [hb]; exact hr)
      omega
    · exact hT.at (by omega) (by omega)
  refine ⟨⟨hlen, fun _ => ⟨hTT, hrow 0 (by omega)⟩⟩, ?_, hTT⟩
  rw [ordF_all _ h6]
  exact dt_congr n fun i j hi hj => hat i j hi hj

theorem slv_bd {l : List (List Int)} {b : List Int} {n k : Nat} (hs : sqB l = true) (hn : l.length = n) (hb : b.length = n) (hi : numsIn b = true) : -349920000000 ≤ dt n (setC (at2 l) k (fun i => b.getD i 0)) ∧ dt n (setC (at2 l) k (fun i => b.getD i 0)) ≤ 349920000000 := by
  obtain ⟨⟨h1, h2⟩, h3, h4⟩ := slv_sq (k := k) hs hn hb hi
  have h6 := h4.2.1
  have h0 := h4.1
  have hw := (h2 (by omega)).2
  rw [h1] at h6
  rw [← h3, ordF_all _ h6]
  have zb := dt_bd n (at2 (slvT l b n k)) h6 (fun i j hi hj => h4.at (by rw [h1]; exact hi) (by omega))
  have : bdN n ≤ 349920000000 := by
    have h : n = 0 ∨ n = 1 ∨ n = 2 ∨ n = 3 ∨ n = 4 ∨ n = 5 ∨ n = 6 := by omega
    rcases h with h | h | h | h | h | h | h <;> (subst h; decide)
  omega

def SpecS (w : World) (ok : Bool) (v : Int) (M : List Int) (e : Ending) (w' : World) : Prop :=
  ∃ a cap, e = .returned (.tuple #[.int .i64 (if ok then v else 0), .slice a (if ok then M else []).length cap, .bool ok]) ∧ w.Since w.heap.size w' ∧ InR w.heap.size w'.heap.size w' a (if ok then M else [])
def ImplS (w : World) (ok : Bool) (v : Int) (M : List Int) (e : Ending) (w' : World) : Prop :=
  ∃ a cap, e = .returned (.tuple #[.int .i64 (if ok then v else 0), .slice a (if ok then M else []).length cap, .bool ok]) ∧ w.Since w.heap.size w' ∧ OwnR w.heap.size w'.heap.size w' a (if ok then M else [])

theorem specS_no {w w' : World} {ok : Bool} {v : Int} {M : List Int} {e : Ending} (h : ok = false) (a : Option Addr) (cap : Nat) (he : e = .returned (.tuple #[.int .i64 0, .slice a 0 cap, .bool false])) (hs : w.Since w.heap.size w') : SpecS w ok v M e w' := by
  subst h; exact ⟨a, cap, he, hs, InR.nil _ _ _ _⟩
theorem implS_no {w w' : World} {ok : Bool} {v : Int} {M : List Int} {e : Ending} (h : ok = false) (a : Option Addr) (cap : Nat) (he : e = .returned (.tuple #[.int .i64 0, .slice a 0 cap, .bool false])) (hs : w.Since w.heap.size w') : ImplS w ok v M e w' := by
  subst h; exact ⟨a, cap, he, hs, OwnR.nil _ _ _ _⟩
theorem specS_yes {w w' : World} {ok : Bool} {v : Int} {M : List Int} {e : Ending} {q : Nat} (h : ok = true) (hM : M.length = q) (a : Option Addr) (cap : Nat) (he : e = .returned (.tuple #[.int .i64 v, .slice a q cap, .bool true])) (hs : w.Since w.heap.size w') (hr : InR w.heap.size w'.heap.size w' a M) : SpecS w ok v M e w' := by
  subst h; subst hM; exact ⟨a, cap, he, hs, hr⟩
theorem implS_yes {w w' : World} {ok : Bool} {v : Int} {M : List Int} {e : Ending} {q : Nat} (h : ok = true) (hM : M.length = q) (a : Option Addr) (cap : Nat) (he : e = .returned (.tuple #[.int .i64 v, .slice a q cap, .bool true])) (hs : w.Since w.heap.size w') (hr : OwnR w.heap.size w'.heap.size w' a M) : ImplS w ok v M e w' := by
  subst h; subst hM; exact ⟨a, cap, he, hs, hr⟩
theorem slvOk_sq {l : List (List Int)} {b : List Int} {n : Nat} (h : sqB l = false) : slvOk l b n = false := by unfold slvOk; rw [h]; rfl
theorem slvOk_len {l : List (List Int)} {b : List Int} {n : Nat} (h : b.length ≠ n) : slvOk l b n = false := by
  unfold slvOk
  have : (b.length == n) = false := by simpa using h
  rw [this]; simp
theorem slvOk_num {l : List (List Int)} {b : List Int} {n : Nat} (h : numsIn b = false) : slvOk l b n = false := by unfold slvOk; rw [h]; simp
theorem slvOk_val {l : List (List Int)} {b : List Int} {n : Nat} (h : dt n (at2 l) = 0) : slvOk l b n = false := by unfold slvOk; rw [h]; simp
theorem slvOk_yes {l : List (List Int)} {b : List Int} {n : Nat} (h1 : sqB l = true) (h2 : b.length = n) (h3 : numsIn b = true) (h4 : dt n (at2 l) ≠ 0) : slvOk l b n = true := by
  unfold slvOk
  rw [h1, h3, h2]; simpa using h4
theorem slvOk_of {l : List (List Int)} {b : List Int} {n : Nat} (h : slvOk l b n = true) : sqB l = true ∧ b.length = n ∧ numsIn b = true ∧ dt n (at2 l) ≠ 0 := by
  unfold slvOk at h
  simp only [Bool.and_eq_true] at h
  exact ⟨h.1, by simpa using h.2.1, h.2.2.1, by simpa using h.2.2.2⟩

structure SV (w1 wr : World) (b n : Nat) (A : Nat → Option Addr) (G C : Nat → Nat) (l : List (List Int)) (B : List Int) (k i hi : Nat) : Prop where
  since : w1.Since w1.heap.size wr
  size : hi ≤ wr.heap.size
  own : OwnD w1.heap.size hi wr b A G C n (fun _ => n) (fun r c => if c = k ∧ r < i then B.getD r 0 else at2 l r c)
theorem SV.start {w w1 : World} {a : Option Addr} {l : List (List Int)} {B : List Int} {n k : Nat} (h : OwnT w.heap.size w1.heap.size w1 a l) (hn : l.length = n) (h1 : 0 < n) (hm : ∀ r, r < n → (l.getD r []).length = n) (hs : w.Since w.heap.size w1) :
    ∃ b A G C, a = some ⟨b, 0, none⟩ ∧ (w.heap.size ≤ b ∧ b < w1.heap.size) ∧ SV w w1 b n A G C l B k 0 w1.heap.size := by
  obtain ⟨b, A, G, C, e, hb, hD⟩ := h.parts (by omega)
  rw [hn] at hD
  refine ⟨b, A, G, C, e, hb, hs, Nat.le_refl _, ⟨fun r hr => by rw [← hm r hr]; exact hD.top r hr, fun r hr h0 => hD.addr r hr (by rw [hm r hr]; exact h0), fun r hr h0 => hD.inside r hr (by rw [hm r hr]; exact h0), fun r hr i hi => ?_,
    fun r hr i hi => hD.free r hr i (by rw [hm r hr]; exact hi), fun r r' hr hr' h0 h0' e => hD.apart r r' hr hr' (by rw [hm r hr]; exact h0) (by rw [hm r' hr']; exact h0') e⟩⟩
  rw [hD.cell r hr i (by rw [hm r hr]; exact hi), if_neg (by omega)]
  rfl
theorem SV.store {w1 wr : World} {b n : Nat} {A : Nat → Option Addr} {G C : Nat → Nat} {l : List (List Int)} {B : List Int} {k i hi : Nat} (h : SV w1 wr b n A G C l B k i hi) (hi' : i < n) (hk : k < n) (q : Nat) :
    SV w1 ((wr.drewN q).setCell ⟨G i, k, none⟩ (.int .i64 (B.getD i 0))) b n A G C l B k (i + 1) hi := by
  have hin := h.own.inside i hi' (by omega)
  have ho : OwnD w1.heap.size hi (wr.drewN q) b A G C n (fun _ => n) (fun r c => if c = k ∧ r < i then B.getD r 0 else at2 l r c) := ⟨h.own.top, h.own.addr, h.own.inside, h.own.cell, h.own.free, h.own.apart⟩
  refine ⟨(since_drewN h.since q).setCell (by show w1.heap.size ≤ G i; omega) _, by simpa using h.size, (ho.store hi' hk _).congr fun r _ c _ => ?_⟩
  by_cases e : r = i ∧ c = k
  · rw [if_pos e, if_pos (by omega), e.1]
  · rw [if_neg e]
    by_cases h2 : c = k ∧ r < i
    · rw [if_pos h2, if_pos (by omega)]
    · rw [if_neg h2, if_neg (by omega)]
theorem SV.done {w1 wr : World} {b n : Nat} {A : Nat → Option Addr} {G C : Nat → Nat} {l : List (List Int)} {B : List Int} {k hi : Nat} (h : SV w1 wr b n A G C l B k n hi) (hb : w1.heap.size ≤ b ∧ b < hi) : MatR wr (some ⟨b, 0, none⟩) (slvT l B n k) :=
  (h.own.ownT hb (tabF_length _ _ _) (fun _ hr => tabF_len _ _ _ _ hr) (fun r hr c hc => by
    rw [tabF_at _ _ _ _ _ hr hc]
    unfold setC
    by_cases e : c = k
    · rw [if_pos e, if_pos ⟨e, hr⟩]
    · rw [if_neg e, if_neg (fun h => e h.1)])).matR

end Go.Proofs.Ytikjeaoapeaabaa
end

section
namespace Go.Proofs.Ytikjeaoapeaabaa
open Go.RowKit Go.Deep

set_option maxRecDepth 100000 in
set_option maxHeartbeats 4000000 in
theorem specValueSolve_yes (a a2 : Option Addr) (cap cap2 n : Nat) (l : List (List Int)) (x : List Int) (w : World) (hn : l.length = n) (hx : x.length = n) (hsz : szL l ≤ 1048576) (hs : sqB l = true) (hm : MatR w a l) (hr : RowR w a2 x) :
    Calls Try.prog 32 #[.slice a n cap, .slice a2 n cap2] w (SpecS w (slvOk l x n) (dt n (at2 l)) (slvR l x n n)) := by
  obtain ⟨i3, hi3⟩ := info3_parts
  have HJ := Lib.hid hi3
  have hmix : Try.prog.follows .mixedOrders = true := by kernel_rfl
  have E := fun (W : World) (hd : w.Since w.heap.size W) => l2Square_any a cap n l W hn hsz (hm.since hd)
  simp only [hs] at E
  replace E := Lib.hid E
  obtain ⟨hT, hw⟩ := sqB_of hs
  have h6 := hT.2.1
  have h1 := hT.1
  rw [hn] at h6 h1 hw
  have hrow : ∀ r, r < n → (l.getD r []).length = n := fun r hr => by rw [hT.row (by omega), ← hw]
  have hsq : SqD n l := ⟨hn, fun _ => ⟨hT, hw.symm⟩⟩
  have EV := fun (W : World) (hd : w.Since w.heap.size W) => l2Value_sq a cap n l hsq W (hm.since hd)
  rw [ordF_all l h6] at EV
  have E1 := Lib.hid (fun (W : World) (hd : w.Since w.heap.size W) => l1Copy_top a cap n l W hn hT (hm.since hd))
  have HSV := Lib.hid (fun (W W1 : World) (a' : Option Addr) (k : Nat) (h : OwnT W.heap.size W1.heap.size W1 a' l) (hs : W.Since W.heap.size W1) => SV.start (B := x) (k := k) h hn (by omega) hrow hs)
  have EU := Lib.hid (fun (hi : numsIn x = true) (k : Nat) (u : Option Addr) (c : Nat) (W : World) (h : MatR W u (slvT l x n k)) => by
    have q := slv_sq (k := k) hs hn hx hi
    have e := l2Value_sq u c n (slvT l x n k) q.1 W h
    rw [q.2.1] at e
    exact e)
  have HBD := Lib.hid (fun (hi : numsIn x = true) (k : Nat) => slv_bd (k := k) hs hn hx hi)
  have HNO := Lib.hid (fun (h : numsIn x = false) => slvOk_num (l := l) (n := n) h)
  have HZ := Lib.hid (fun (h : dt n (at2 l) = 0) => slvOk_val (b := x) h)
  have HYES := Lib.hid (fun (h : numsIn x = true) (h2 : dt n (at2 l) ≠ 0) => slvOk_yes hs hx h h2)
  have HR := Lib.hid (fun (W : World) (hd : w.Since w.heap.size W) => hr.since hd)
  have HX := Lib.hid hx
  obtain ⟨d, hd⟩ : ∃ d, dt n (at2 l) = d := ⟨_, rfl⟩
  simp only [hd] at EV
  rw [hd] at HZ HYES ⊢
  replace EV := Lib.hid EV
  clear hm hT hw hn hs hsz hrow hsq hr hx hd hi3
  go_enter Try.func32, Try.ntmps32
  go_wp2_with fail
  refine (E.out _ ?_).mono ?_
  · exact (World.Since.refl _ _).alloc (Nat.le_refl _) _
  rintro e w1 ⟨rfl, hdr⟩
  have HS1 := Lib.hid (((World.Since.refl w.heap.size w).alloc (Nat.le_refl _) (.cells #[] 3)).trans (hdr.since w.heap.size))
  have HRB := Lib.hid (RB.later (rb_start w #[] rfl) (hdr.since (w.alloc (.cells #[] 3)).heap.size))
  clear hdr
  go_wp2
  go_loopg [8] n (fun g i wr => ∃ k : Nat, k ≤ n ∧ g = n - k ∧ i = .int .i64 k ∧ w1 = wr ∧ NumsIn x k)
  case atStart => exact ⟨0, Nat.zero_le _, rfl, rfl, rfl, fun r hr => absurd hr (Nat.not_lt_zero _)⟩
  case round =>
    obtain ⟨k, hk, rfl, rfl, rfl, hN⟩ := hrel
    by_cases hlt : k < n
    · obtain ⟨b, o, rfl, hc⟩ := HR.out w1 HS1.out (by rw [HX.out]; omega)
      have cj := hc k (by rw [HX.out]; exact hlt)
      obtain ⟨y, hy⟩ : ∃ y, y = x.getD k 0 := ⟨_, rfl⟩
      rw [← hy] at cj
      have HY := Lib.hid hy
      clear hc hy
      cases hiy : inB y (-30) 30 with
      | true =>
        have E1' := Lib.hid (l6In_at y (-30) 30 true w1 hiy)
        have HI := Lib.hid hiy
        clear hiy
        go_wp2_with fail
        refine (E1'.out).mono ?_
        rintro e w' ⟨rfl, rfl⟩
        go_wp2
        go_roundg (n - (k + 1))
        case measure => omega
        case rel => exact ⟨k + 1, by omega, rfl, by go_num, rfl, hN.succ (by rw [← HY.out]; exact HI.out)⟩
      | false =>
        have E1' := Lib.hid (l6In_at y (-30) 30 false w1 hiy)
        have hno := Lib.hid (HNO.out (numsIn_false fun hT => by
          have := hT k (by rw [HX.out]; exact hlt)
          rw [← HY.out] at this
          simp [inB] at hiy
          omega))
        clear hiy
        go_wp2_with fail
        refine (E1'.out).mono ?_
        rintro e w' ⟨rfl, rfl⟩
        go_wp2
        go_ret3
        exact specS_no hno.out _ _ rfl (HS1.out.alloc HS1.out.size _)
    · have hkn : k = n := by omega
      subst hkn
      have hin : numsIn x = true := numsIn_true (by rw [HX.out]; exact hN)
      have EU2 := Lib.hid (EU.out hin)
      have HB2 := Lib.hid (HBD.out hin)
      have HY2 := Lib.hid (HYES.out hin)
      clear EU HBD HYES HNO hN hin
      go_wp2_with fail
      refine (EV.out w1 HS1.out).mono ?_
      rintro e w2 ⟨rfl, hdr⟩
      have HS2 := Lib.hid (HS1.out.trans (hdr.since w.heap.size))
      have HRB2 := Lib.hid (HRB.out.later (hdr.since w1.heap.size))
      clear hdr
      by_cases hd0 : d = 0
      · have hno := Lib.hid (HZ.out hd0)
        subst hd0
        go_wp2
        go_ret3
        exact specS_no hno.out _ _ rfl (HS2.out.alloc HS2.out.size _)
      · have hdb : (d == 0) = false := by simpa using hd0
        have hyes := Lib.hid (HY2.out hd0)
        clear HY2 HZ
        go_wp2
        go_loopg [7, 10, 11, 12] k (fun g v q _ _ wr => ∃ j : Nat, j ≤ k ∧ g = k - j ∧ q = .int .i64 j ∧ RB w wr v (slvR l x k j))
        case atStart => exact ⟨0, Nat.zero_le _, rfl, rfl, HRB2.out⟩
        case round =>
          obtain ⟨j, hj, rfl, rfl, hI⟩ := hrel
          clear HRB2
          have HII := Lib.hid hI
          have hle := slvR_length l x k j
          have hzi := hI.since.size
          clear hI
          by_cases hjn : j < k
          · have EC := Lib.hid (E1.out wr HII.out.since)
            go_wp2_with fail
            refine (EC.out).mono ?_
            rintro e w3 ⟨a3, c3, rfl, hs3, ho3, _⟩
            obtain ⟨b, A, G, C, rfl, hbb, hSV⟩ := HSV.out wr w3 a3 j ho3 hs3
            have HV := Lib.hid hSV
            have hz3 := hs3.size
            clear ho3 hSV
            have HS3 := Lib.hid hs3
            clear hs3
            go_wp2
            go_loopg [12] k (fun g i wi => ∃ r : Nat, r ≤ k ∧ g = k - r ∧ i = .int .i64 r ∧ SV wr wi b k A G C l x j r w3.heap.size)
            case atStart => exact ⟨0, Nat.zero_le _, rfl, rfl, HV.out⟩
            case round =>
              obtain ⟨r, hr, rfl, rfl, hV⟩ := hrel
              clear HV
              by_cases hrk : r < k
              · have hww : w.Since w.heap.size wr := HII.out.since.trans (since_mono hV.since hzi)
                obtain ⟨bx, ox, rfl, hcx⟩ := HR.out wr hww (by rw [HX.out]; omega)
                have cx := hcx r (by rw [HX.out]; exact hrk)
                obtain ⟨y, hy⟩ : ∃ y, y = x.getD r 0 := ⟨_, rfl⟩
                rw [← hy] at cx
                have c1 := hV.own.top r hrk
                have hA := hV.own.addr r hrk (by omega)
                rw [hA] at c1
                have c2 := hV.own.cell r hrk j hjn
                have c3' := hV.own.free r hrk j hjn
                obtain ⟨z, hz⟩ : ∃ z, z = (if j = j ∧ r < r then x.getD r 0 else at2 l r j) := ⟨_, rfl⟩
                rw [← hz] at c2
                have HN2 := Lib.hid (hV.store hrk hjn 1)
                rw [← hy] at HN2
                clear hy hz hcx hww hA hV
                go_wp2
                go_still_tail 10, hmix
                go_wp2
                go_roundg (k - (r + 1))
                case measure => omega
                case rel => exact ⟨r + 1, by omega, rfl, by go_num, HN2.out⟩
              · have hrk' : r = k := by omega
                subst hrk'
                have hM := hV.done hbb
                have HIV := Lib.hid (HII.out.later hV.since)
                have EUU := Lib.hid (EU2.out j (some ⟨b, 0, none⟩) c3 wr hM)
                have hb5 := HB2.out j
                obtain ⟨z, hz⟩ : ∃ z, dt r (setC (at2 l) j (fun i => x.getD i 0)) = z := ⟨_, rfl⟩
                rw [hz] at EUU hb5
                have HZV := Lib.hid hz
                clear hV hM hz
                go_wp2_with fail
                refine (EUU.out).mono ?_
                rintro e w5 ⟨rfl, hdr⟩
                have HI5 := Lib.hid (HIV.out.later (hdr.since wr.heap.size))
                have hz5 := HI5.out.since.size
                clear hdr
                go_wp2_with (at_builtin; (refine wpList_append_own _ rfl _ _ 33 rfl w.heap.size 3 i3 (.int .i64 0) 1 8 Try.underlying33 HJ.out.1 HJ.out.2.1 HJ.out.2.2.1 HJ.out.2.2.2 rfl (by decide) _ _ _ rfl (HI5.out.own.alloc _) ⟨w5.heap.size, 0, none⟩ 1 1 [.int .i64 z] rfl rfl (cell_one_at _ _ _ rfl) (fun x hx => by simp at hx; subst hx; rfl) (by unfold maxLen; omega) (by omega) (by simp; omega) ?_); intro v' w6 hown' hgrow _)
                have hP := HI5.out.push hown' hgrow
                rw [← HZV.out, ← slvR_succ] at hP
                have HP := Lib.hid hP
                clear hP hown' hgrow
                go_roundg (r - (j + 1))
                case measure => omega
                case rel => exact ⟨j + 1, by omega, rfl, by go_num, HP.out⟩
          · have hjk : j = k := by omega
            subst hjk
            obtain ⟨ra, rcp, hv, hrw⟩ := HII.out.slice
            rw [slvR_length] at hv
            subst hv
            have HRW := Lib.hid hrw
            clear hrw
            go_wp2
            go_ret3
            exact specS_yes hyes.out (slvR_length l x j j) ra rcp rfl HII.out.since (fun h0 => by
              obtain ⟨G, e, h2, h3⟩ := HRW.out h0
              exact ⟨G, 0, e, ⟨h2, h3.lt⟩, fun i hi => by rw [Nat.zero_add]; exact h3.cell hi⟩)

set_option maxHeartbeats 1000000 in
theorem specValueSolve_any (a a2 : Option Addr) (cap cap2 n n2 : Nat) (l : List (List Int)) (x : List Int) (w : World) (hn : l.length = n) (hx : x.length = n2) (_h63 : n2 ≤ 1048576) (hsz : szL l ≤ 1048576) (hm : MatR w a l) (hr : RowR w a2 x) :
    Calls Try.prog 32 #[.slice a n cap, .slice a2 n2 cap2] w (SpecS w (slvOk l x n) (dt n (at2 l)) (slvR l x n n)) := by
  by_cases hq : sqB l = true ∧ n2 = n
  · obtain ⟨hs, rfl⟩ := hq
    exact specValueSolve_yes a a2 cap cap2 n2 l x w hn hx hsz hs hm hr
  · have hno := Lib.hid (show slvOk l x n = false by
      cases hs : sqB l with
      | false => exact slvOk_sq hs
      | true => exact slvOk_len (fun h => hq ⟨hs, by omega⟩))
    have E := fun (W : World) (hd : w.Since w.heap.size W) => l2Square_any a cap n l W hn hsz (hm.since hd)
    have hnn : n ≤ 1048576 := by unfold szL at hsz; omega
    cases hs : sqB l with
    | false =>
      simp only [hs] at E
      replace E := Lib.hid E
      clear hs hm hn hsz hr hx hq
      go_enter Try.func32, Try.ntmps32
      go_wp2_with fail
      refine (E.out _ ?_).mono ?_
      · exact (World.Since.refl _ _).alloc (Nat.le_refl _) _
      rintro e w1 ⟨rfl, hdr⟩
      have HS1 := Lib.hid (((World.Since.refl w.heap.size w).alloc (Nat.le_refl _) (.cells #[] 3)).trans (hdr.since w.heap.size))
      clear hdr
      go_wp2
      go_ret3
      exact specS_no hno.out _ _ rfl HS1.out
    | true =>
      simp only [hs] at E
      replace E := Lib.hid E
      have hne : n2 ≠ n := fun h => hq ⟨hs, h⟩
      have hne' : ((n2 : Int) != (n : Int)) = true := by simp; omega
      clear hs hm hn hsz hr hx hq
      go_enter Try.func32, Try.ntmps32
      go_wp2_with fail
      refine (E.out _ ?_).mono ?_
      · exact (World.Since.refl _ _).alloc (Nat.le_refl _) _
      rintro e w1 ⟨rfl, hdr⟩
      have HS1 := Lib.hid (((World.Since.refl w.heap.size w).alloc (Nat.le_refl _) (.cells #[] 3)).trans (hdr.since w.heap.size))
      clear hdr
      go_wp2
      go_ret3
      exact specS_no hno.out _ _ rfl HS1.out

end Go.Proofs.Ytikjeaoapeaabaa
end

section
namespace Go.Proofs.Ytikjeaoapeaabaa
open Go.RowKit Go.Deep

set_option maxHeartbeats 1000000 in
theorem colEntry_any (pt pc pb i k c n cap cap2 : Nat) (a a2 : Option Addr) (l : List (List Int)) (x : List Int) (w : World) (hn : l.length = n) (hx : x.length = n) (h6 : n ≤ 6) (hrow : ∀ r, r < n → (l.getD r []).length = n) (hm : MatR w a l) (hr : RowR w a2 x)
    (ht : w.cell? ⟨pt, 0, none⟩ = some (.slice a n cap)) (hc : w.cell? ⟨pc, 0, none⟩ = some (.int .i64 c)) (hb : w.cell? ⟨pb, 0, none⟩ = some (.slice a2 n cap2)) (hi : i < n) (hk : k < n) :
    Calls Try.prog 96 #[.int .i64 i, .int .i64 k, .pointer (some ⟨pc, 0, none⟩), .pointer (some ⟨pb, 0, none⟩), .pointer (some ⟨pt, 0, none⟩)] w fun e w' => e = .returned (.int .i64 (setC (at2 l) c (fun i => x.getD i 0) i k)) ∧ w.Since w.heap.size w' := by
  by_cases e : k = c
  · have e' : ((k : Int) == (c : Int)) = true := by simp; omega
    have hv : setC (at2 l) c (fun i => x.getD i 0) i k = x.getD i 0 := by unfold setC; rw [if_pos e]
    rw [hv]
    obtain ⟨b, o, rfl, hcx⟩ := hr (by omega)
    have cx := hcx i (by omega)
    obtain ⟨y, hy⟩ : ∃ y, x.getD i 0 = y := ⟨_, rfl⟩
    rw [hy] at cx ⊢
    clear hcx hm hv hn hx hrow hy e
    go_enter Try.func96, Try.ntmps96
    go_wp2
    go_ret
    exact ⟨rfl, World.Since.refl _ _⟩
  · have e' : ((k : Int) == (c : Int)) = false := by simp; omega
    have hv : setC (at2 l) c (fun i => x.getD i 0) i k = at2 l i k := by unfold setC; rw [if_neg e]
    rw [hv]
    obtain ⟨b, o, A, C, rfl, h3⟩ := hm (by omega)
    obtain ⟨g1, g2⟩ := h3 i (by omega)
    have hri := hrow i hi
    obtain ⟨b', o', hA, g3⟩ := g2 (by omega)
    rw [hA, hri] at g1
    have g4 := g3 k (by omega)
    obtain ⟨y, hy⟩ : ∃ y, (l.getD i []).getD k 0 = y := ⟨_, rfl⟩
    rw [hy] at g4
    rw [show at2 l i k = y from hy]
    clear h3 g2 g3 hA hri hr hv hn hx hrow hy e
    go_enter Try.func96, Try.ntmps96
    go_wp2
    go_ret
    exact ⟨rfl, World.Since.refl _ _⟩

set_option maxRecDepth 100000 in
set_option maxHeartbeats 2000000 in
theorem withColumn_any (a a2 : Option Addr) (cap cap2 n c : Nat) (l : List (List Int)) (x : List Int) (w : World) (hn : l.length = n) (hx : x.length = n) (h1 : 1 ≤ n) (h6 : n ≤ 6) (hrow : ∀ r, r < n → (l.getD r []).length = n) (hm : MatR w a l) (hr : RowR w a2 x) :
    Calls Try.prog 75 #[.slice a n cap, .int .i64 c, .slice a2 n cap2] w fun e w' => e = .returned (.slice (some ⟨w.heap.size + 1 + 1 + 1, 0, none⟩) n n) ∧ w.Since w.heap.size w' ∧ OwnT w.heap.size w'.heap.size w' (some ⟨w.heap.size + 1 + 1 + 1, 0, none⟩) (slvT l x n c) := by
  have hwid := fun (W : World) (hs : w.Since w.heap.size W) => width_any a cap n l W hn (by omega) (by omega) (hm.since hs)
  rw [hrow 0 (by omega)] at hwid
  have hnt := fun (W : World) (hs : w.Since w.heap.size W) (hb0 : W.cell? ⟨w.heap.size, 0, none⟩ = some (.slice a n cap)) (hb1 : W.cell? ⟨w.heap.size + 1, 0, none⟩ = some (.int .i64 c)) (hb2 : W.cell? ⟨w.heap.size + 1 + 1, 0, none⟩ = some (.slice a2 n cap2)) =>
    newTable_any 96 #[.pointer (some ⟨w.heap.size + 1, 0, none⟩), .pointer (some ⟨w.heap.size + 1 + 1, 0, none⟩), .pointer (some ⟨w.heap.size, 0, none⟩)] n n (setC (at2 l) c (fun i => x.getD i 0)) W (by omega) (by omega) (enters_of Try.func96 (by kernel_rfl) rfl)
      (fun W' i k hs' hi hk => colEntry_any w.heap.size (w.heap.size + 1) (w.heap.size + 1 + 1) i k c n cap cap2 a a2 l x W' hn hx h6 hrow (hm.since (hs.trans (since_mono hs' hs.size))) (hr.since (hs.trans (since_mono hs' hs.size))) ((hs'.cell (a := ⟨w.heap.size, 0, none⟩) (World.block_lt_of_cell? _ _ hb0)).trans hb0) ((hs'.cell (a := ⟨w.heap.size + 1, 0, none⟩) (World.block_lt_of_cell? _ _ hb1)).trans hb1) ((hs'.cell (a := ⟨w.heap.size + 1 + 1, 0, none⟩) (World.block_lt_of_cell? _ _ hb2)).trans hb2) hi hk)
  have htl : slvT l x n c = tabF n n (setC (at2 l) c (fun i => x.getD i 0)) := rfl
  rw [htl]
  obtain ⟨F, hF⟩ : ∃ F, setC (at2 l) c (fun i => x.getD i 0) = F := ⟨_, rfl⟩
  rw [hF] at hnt ⊢
  have HW := Lib.hid hwid
  have HNT := Lib.hid hnt
  obtain ⟨W0, hW0⟩ : ∃ W0, W0 = (((w.alloc (.cells #[.slice a n cap] 54)).alloc (.cells #[.int .i64 c] 3)).alloc (.cells #[.slice a2 n cap2] 33)) := ⟨_, rfl⟩
  have HS1 := Lib.hid (show w.Since w.heap.size W0 from by rw [hW0]; exact (((World.Since.refl w.heap.size w).alloc (Nat.le_refl _) _).alloc (by simp) _).alloc (by simp; omega) _)
  have hc0 := cell_new_l w (.slice a n cap) 54
  have hc1 := cell_new_l (w.alloc (.cells #[.slice a n cap] 54)) (.int .i64 c) 3
  have hc2 := cell_new_l ((w.alloc (.cells #[.slice a n cap] 54)).alloc (.cells #[.int .i64 c] 3)) (.slice a2 n cap2) 33
  simp only [World.size_alloc] at hc1 hc2
  have hcb0 : W0.cell? ⟨w.heap.size, 0, none⟩ = some (.slice a n cap) := by rw [hW0]; exact cell_alloc_l _ (cell_alloc_l _ hc0.1)
  have hcb1 : W0.cell? ⟨w.heap.size + 1, 0, none⟩ = some (.int .i64 c) := by rw [hW0]; exact cell_alloc_l _ hc1.1
  have hcb2 : W0.cell? ⟨w.heap.size + 1 + 1, 0, none⟩ = some (.slice a2 n cap2) := by rw [hW0]; exact hc2.1
  have hz0 : W0.heap.size = w.heap.size + 1 + 1 + 1 := by rw [hW0]; simp
  have HZ := Lib.hid hz0
  clear hwid hnt hm hn hx hrow hr htl hc0 hc1 hc2 hF hz0
  go_enter Try.func75, Try.ntmps75
  go_wp2
  rw [← hW0]
  clear hW0
  go_region_held3 (fun w' => w'.cell? ⟨w.heap.size, 0, none⟩ = some (.slice a n cap)) (go_keep)
    (first
      | (go_at_call 61; refine (HW.out _ ?_).mono ?_; (exact World.Since.drew HS1.out); rintro e w1 ⟨rfl, rfl⟩)
      | (go_at_call 68; refine (HNT.out _ ?_ ?_ ?_ ?_).mono ?_; (exact World.Since.drew HS1.out); (exact hcb0); (exact hcb1); (exact hcb2); rintro e w1 ⟨rfl, hs2, ho⟩; have hcc := hs2.cell (a := ⟨w.heap.size, 0, none⟩) (World.block_lt_of_cell? _ _ hcb0); simp only [World.cell?_drew, hcb0] at hcc))
  all_goals
    go_wp2
    go_ret
    refine ⟨by rw [← HZ.out]; rfl, HS1.out.trans (since_mono (since_of_drew hs2) (by show w.heap.size ≤ W0.heap.size; have := HZ.out; omega)), ?_⟩
    rw [← HZ.out]
    exact ho.mono (by show w.heap.size ≤ W0.heap.size; have := HZ.out; omega) (Nat.le_refl _)

end Go.Proofs.Ytikjeaoapeaabaa
end

section
namespace Go.Proofs.Ytikjeaoapeaabaa
open Go.RowKit Go.Deep

theorem sn_tmod (k : Nat) (h : k < 64) : (Int.tmod (k : Int) 2 == 0) = !decide (k % 2 = 1) := by
  have h2 : ∀ k : Fin 64, (Int.tmod (k.val : Int) 2 == 0) = !decide (k.val % 2 = 1) := by decide +kernel
  exact h2 ⟨k, h⟩

set_option maxHeartbeats 400000 in
theorem signOf_any (k : Nat) (h : k < 64) (w : World) :
    Calls Try.prog 70 #[.int .i64 k] w fun e w' => e = .returned (.int .i64 (sn k)) ∧ w = w' := by
  have e := sn_tmod k h
  by_cases ho : k % 2 = 1
  · have e2 : sn k = -1 := if_pos ho
    rw [e2]
    have e3 : (Int.tmod (k : Int) 2 == 0) = false := by rw [e]; simp [ho]
    clear e h
    go_enter Try.func70, Try.ntmps70
    go_wp2
    go_ret
    exact ⟨rfl, rfl⟩
  · have e2 : sn k = 1 := if_neg ho
    rw [e2]
    have e3 : (Int.tmod (k : Int) 2 == 0) = true := by rw [e]; simp [ho]
    clear e h
    go_enter Try.func70, Try.ntmps70
    go_wp2
    go_ret
    exact ⟨rfl, rfl⟩

set_option maxHeartbeats 1000000 in
theorem isSquare_any (a : Option Addr) (cap n : Nat) (l : List (List Int)) (w : World) (hn : l.length = n) (hsz : szL l ≤ 1048576) (hm : MatR w a l) :
    Calls Try.prog 67 #[.slice a n cap] w fun e w' => e = .returned (.bool (sqB l)) ∧ w.Since w.heap.size w' := by
  have E := fits_any a cap n l w hn hsz hm
  cases hT : tabIn l with
  | false =>
    have hs : sqB l = false := by unfold sqB; rw [hT]; rfl
    rw [hs]
    rw [hT] at E
    replace E := Lib.hid E
    clear hs hT hn hsz hm
    go_enter Try.func67, Try.ntmps67
    go_wp2_with fail
    refine (E.out).mono ?_
    rintro e w1 ⟨rfl, hd⟩
    have HD := Lib.hid hd
    clear hd
    go_wp2
    go_ret
    exact ⟨rfl, HD.out⟩
  | true =>
    have hTT := tabIn_of hT
    have h1 := hTT.1
    have h6 := hTT.2.1
    rw [hn] at h1 h6
    obtain ⟨m, hmm⟩ : ∃ m, (l.getD 0 []).length = m := ⟨_, rfl⟩
    have hs : sqB l = (n == m) := by unfold sqB; rw [hT, hn, hmm]; rfl
    rw [hs]
    rw [hT] at E
    replace E := Lib.hid E
    have EW := fun (W : World) (h : w.Since w.heap.size W) => width_any a cap n l W hn (by omega) (by omega) (hm.since h)
    rw [hmm] at EW
    replace EW := Lib.hid EW
    clear hs hT hTT hn hsz hm hmm
    go_enter Try.func67, Try.ntmps67
    go_wp2_with fail
    refine (E.out).mono ?_
    rintro e w1 ⟨rfl, hd⟩
    have HD := Lib.hid hd
    clear hd
    go_wp2_with fail
    refine (EW.out w1 HD.out).mono ?_
    rintro e w2 ⟨rfl, rfl⟩
    have hb : ((n : Int) == (m : Int)) = (n == m) := by
      by_cases e : n = m
      · subst e; simp
      · rw [beq_eq_false_iff_ne.2 e, beq_eq_false_iff_ne.2 (by omega)]
    go_wp2
    go_ret
    refine ⟨?_, HD.out⟩
    rw [← hb]
    rfl

set_option maxHeartbeats 2000000 in
theorem without_any (a : Option Addr) (cap n r k : Nat) (l : List (List Int)) (w : World) (hn : l.length = n) (hT : TabIn l) (hw : (l.getD 0 []).length = n) (hr : r < n) (hk : k < n) (hm : MatR w a l) :
    Calls Try.prog 71 #[.slice a n cap, .int .i64 r, .int .i64 k] w fun e w' => ∃ a' cap', e = .returned (.slice a' (partL l (2 ^ n - 1 - 2 ^ r) (2 ^ n - 1 - 2 ^ k)).length cap') ∧ w.Since w.heap.size w' ∧ OwnT w.heap.size w'.heap.size w' a' (partL l (2 ^ n - 1 - 2 ^ r) (2 ^ n - 1 - 2 ^ k)) := by
  have h6 := hT.2.1
  rw [hn] at h6
  have E1 := fun (W : World) => allRows_any a cap n W h6
  have E2 := fun (W : World) (h : w.Since w.heap.size W) => width_any a cap n l W hn (by omega) (by omega) (hm.since h)
  rw [hw] at E2
  have E3 := fun (W : World) => fullSet_any n h6 W
  have e1 := andNot_fin ⟨n, by omega⟩ ⟨r, by omega⟩ hr
  have e2 := andNot_fin ⟨n, by omega⟩ ⟨k, by omega⟩ hk
  have e3 := pow63 ⟨n, by omega⟩
  have w1 := pow_in ⟨r, by omega⟩
  have w2 := pow_in ⟨k, by omega⟩
  simp only at e1 e2 e3 w1 w2
  have hm1 : min r 64 = r := by omega
  have hm2 : min k 64 = k := by omega
  have E4 := fun (W : World) (h : w.Since w.heap.size W) => part_any a cap n (2 ^ n - 1 - 2 ^ r) (2 ^ n - 1 - 2 ^ k) l W hn hT (Nat.le_trans (Nat.sub_le _ _) e3) (Nat.le_trans (Nat.sub_le _ _) e3) (hm.since h)
  obtain ⟨s, hs⟩ : ∃ s, s = 2 ^ n - 1 - 2 ^ r := ⟨_, rfl⟩
  obtain ⟨c, hc⟩ : ∃ s, s = 2 ^ n - 1 - 2 ^ k := ⟨_, rfl⟩
  obtain ⟨Aa, hA⟩ : ∃ s, s = 2 ^ n - 1 := ⟨_, rfl⟩
  rw [← hs, ← hA] at e1
  rw [← hc, ← hA] at e2
  simp only [← hs, ← hc] at E4 ⊢
  simp only [← hA] at E1 E3
  have H1 := Lib.hid E1
  have H2 := Lib.hid E2
  have H3 := Lib.hid E3
  have H4 := Lib.hid E4
  clear E1 E2 E3 E4 hs hc hA hT hm hn hw e3
  go_enter Try.func71, Try.ntmps71
  go_wp2
  go_region_held3 (fun _ => True) (exact trivial)
    (first
      | (go_at_call 93; refine (H1.out _).mono ?_; rintro e w3 ⟨rfl, rfl⟩)
      | (go_at_call 61; refine (H2.out _ ?_).mono ?_; (exact (World.Since.refl _ _).drew); rintro e w3 ⟨rfl, rfl⟩)
      | (go_at_call 89; refine (H3.out _).mono ?_; rintro e w3 ⟨rfl, rfl⟩)
      | (go_at_call 64; refine (H4.out _ ?_).mono ?_; (exact (World.Since.refl _ _).drew); rintro e w3 ⟨a', cap', rfl, hs2, ho⟩))
  all_goals
    go_wp2
    go_ret
    exact ⟨a', cap', rfl, since_of_drew hs2, ho⟩

end Go.Proofs.Ytikjeaoapeaabaa
end

section
namespace Go.Proofs.Ytikjeaoapeaabaa
open Go.RowKit Go.Deep

theorem since_of_map {W w' : World} {o : Obj} (hg : (W.alloc o).grownBy w' (some W.heap.size)) : W.Since W.heap.size w' := by
  have h0 := (World.Since.refl W.heap.size W).alloc (Nat.le_refl _) o
  have h1 := hg.size
  simp only [World.size_alloc] at h1
  exact ⟨hg.os.trans h0.os, hg.tape.trans h0.tape, hg.output.trans h0.output, by omega, fun k hk => (hg.block k (by simp; omega) (by intro e; injection e with e; omega)).trans (h0.block k hk)⟩

set_option maxHeartbeats 400000 in
theorem anyValue_of (rb : Nat) (a : Option Addr) (n cap : Nat) (x : Int) (W : World) (hr : RoadsAt W rb) (ht : ∀ W', W.grownBy W' (some rb) → Calls Try.prog 103 #[.slice a n cap] W' (fun e w' => e = .returned (.int .i64 x) ∧ W'.Since W'.heap.size w')) :
    Calls Try.prog 63 #[.map (some rb), .slice a n cap] W (fun e w' => e = .returned (.int .i64 x) ∧ W.grownBy w' (some rb) ∧ RoadsAt w' rb) := by
  have E := Lib.hid (roads_2 rb a n cap x W hr ht)
  clear hr ht
  go_enter Try.func63, Try.ntmps63
  go_wp2_with fail
  refine (E.out).mono ?_
  rintro e w' ⟨rfl, hg, hr⟩
  go_wp2
  go_ret
  exact ⟨rfl, hg, hr⟩

set_option maxHeartbeats 800000 in
theorem square_0 (a : Option Addr) (cap n : Nat) (l : List (List Int)) (x : Int) (w : World) (hn : l.length = n) (hsz : szL l ≤ 1048576) (hm : MatR w a l) (ht : sqB l = true → ∀ W', MatR W' a l → Calls Try.prog 101 #[.slice a n cap] W' (fun e w' => e = .returned (.int .i64 x) ∧ W'.Since W'.heap.size w')) :
    Calls Try.prog 51 #[.slice a n cap, .int .i64 0] w (SpecW w (sqB l) x) := by
  have E := isSquare_any a cap n l w hn hsz hm
  cases hs : sqB l with
  | false =>
    rw [hs] at E
    replace E := Lib.hid E
    clear hs hm hn hsz ht
    go_enter Try.func51, Try.ntmps51
    go_wp2_with fail
    refine (E.out).mono ?_
    rintro e w1 ⟨rfl, hd⟩
    have HD := Lib.hid hd
    clear hd
    go_wp2
    go_ret2
    exact ⟨rfl, HD.out⟩
  | true =>
    rw [hs] at E
    replace E := Lib.hid E
    have E2 := Lib.hid (fun (W : World) (hd : w.Since w.heap.size W) => roads_0 W.heap.size a n cap x (W.alloc (.map #[] 0)) (roads_made W) (fun W' hg => ht hs W' (hm.since (hd.trans (since_mono (since_of_map hg) hd.size)))))
    clear hs hm hn hsz ht
    have hmm := @run_makeMap Try.prog
    go_enter Try.func51, Try.ntmps51
    go_wp2_with fail
    refine (E.out).mono ?_
    rintro e w1 ⟨rfl, hd⟩
    have HD := Lib.hid hd
    clear hd
    go_wp2_with fail
    refine (E2.out w1 HD.out).mono ?_
    rintro e w2 ⟨rfl, hg, hr⟩
    have HS2 := Lib.hid (HD.out.trans (since_mono (since_of_map hg) HD.out.size))
    clear hg hr
    go_wp2
    go_ret2
    exact ⟨rfl, HS2.out⟩

set_option maxHeartbeats 400000 in
theorem implValueOrders_of (a : Option Addr) (cap n : Nat) (l : List (List Int)) (x : Int) (w : World) (hn : l.length = n) (hsz : szL l ≤ 1048576) (hm : MatR w a l) (ht : sqB l = true → ∀ W', MatR W' a l → Calls Try.prog 101 #[.slice a n cap] W' (fun e w' => e = .returned (.int .i64 x) ∧ W'.Since W'.heap.size w')) :
    Calls Try.prog 41 #[.slice a n cap] w (SpecW w (sqB l) x) := by
  have E := square_0 a cap n l x w hn hsz hm ht
  unfold SpecW at E ⊢
  generalize (if (sqB l) = true then x else 0) = y at E ⊢
  generalize (sqB l) = b at E ⊢
  replace E := Lib.hid E
  clear hn hsz hm ht
  go_enter Try.func41, Try.ntmps41
  go_wp2_with fail
  refine (E.out).mono ?_
  rintro e w1 ⟨rfl, hd⟩
  go_wp2
  go_ret2
  exact ⟨rfl, hd⟩

set_option maxHeartbeats 800000 in
theorem square_1 (a : Option Addr) (cap n : Nat) (l : List (List Int)) (x : Int) (w : World) (hn : l.length = n) (hsz : szL l ≤ 1048576) (hm : MatR w a l) (ht : sqB l = true → ∀ W', MatR W' a l → Calls Try.prog 102 #[.slice a n cap] W' (fun e w' => e = .returned (.int .i64 x) ∧ W'.Since W'.heap.size w')) :
    Calls Try.prog 51 #[.slice a n cap, .int .i64 1] w (SpecW w (sqB l) x) := by
  have E := isSquare_any a cap n l w hn hsz hm
  cases hs : sqB l with
  | false =>
    rw [hs] at E
    replace E := Lib.hid E
    clear hs hm hn hsz ht
    go_enter Try.func51, Try.ntmps51
    go_wp2_with fail
    refine (E.out).mono ?_
    rintro e w1 ⟨rfl, hd⟩
    have HD := Lib.hid hd
    clear hd
    go_wp2
    go_ret2
    exact ⟨rfl, HD.out⟩
  | true =>
    rw [hs] at E
    replace E := Lib.hid E
    have E2 := Lib.hid (fun (W : World) (hd : w.Since w.heap.size W) => roads_1 W.heap.size a n cap x (W.alloc (.map #[] 0)) (roads_made W) (fun W' hg => ht hs W' (hm.since (hd.trans (since_mono (since_of_map hg) hd.size)))))
    clear hs hm hn hsz ht
    have hmm := @run_makeMap Try.prog
    go_enter Try.func51, Try.ntmps51
    go_wp2_with fail
    refine (E.out).mono ?_
    rintro e w1 ⟨rfl, hd⟩
    have HD := Lib.hid hd
    clear hd
    go_wp2_with fail
    refine (E2.out w1 HD.out).mono ?_
    rintro e w2 ⟨rfl, hg, hr⟩
    have HS2 := Lib.hid (HD.out.trans (since_mono (since_of_map hg) HD.out.size))
    clear hg hr
    go_wp2
    go_ret2
    exact ⟨rfl, HS2.out⟩

set_option maxHeartbeats 400000 in
theorem implValueRows_of (a : Option Addr) (cap n : Nat) (l : List (List Int)) (x : Int) (w : World) (hn : l.length = n) (hsz : szL l ≤ 1048576) (hm : MatR w a l) (ht : sqB l = true → ∀ W', MatR W' a l → Calls Try.prog 102 #[.slice a n cap] W' (fun e w' => e = .returned (.int .i64 x) ∧ W'.Since W'.heap.size w')) :
    Calls Try.prog 18 #[.slice a n cap] w (SpecW w (sqB l) x) := by
  have E := square_1 a cap n l x w hn hsz hm ht
  unfold SpecW at E ⊢
  generalize (if (sqB l) = true then x else 0) = y at E ⊢
  generalize (sqB l) = b at E ⊢
  replace E := Lib.hid E
  clear hn hsz hm ht
  go_enter Try.func18, Try.ntmps18
  go_wp2_with fail
  refine (E.out).mono ?_
  rintro e w1 ⟨rfl, hd⟩
  go_wp2
  go_ret2
  exact ⟨rfl, hd⟩

set_option maxHeartbeats 800000 in
theorem square_2 (a : Option Addr) (cap n : Nat) (l : List (List Int)) (x : Int) (w : World) (hn : l.length = n) (hsz : szL l ≤ 1048576) (hm : MatR w a l) (ht : sqB l = true → ∀ W', MatR W' a l → Calls Try.prog 103 #[.slice a n cap] W' (fun e w' => e = .returned (.int .i64 x) ∧ W'.Since W'.heap.size w')) :
    Calls Try.prog 51 #[.slice a n cap, .int .i64 2] w (SpecW w (sqB l) x) := by
  have E := isSquare_any a cap n l w hn hsz hm
  cases hs : sqB l with
  | false =>
    rw [hs] at E
    replace E := Lib.hid E
    clear hs hm hn hsz ht
    go_enter Try.func51, Try.ntmps51
    go_wp2_with fail
    refine (E.out).mono ?_
    rintro e w1 ⟨rfl, hd⟩
    have HD := Lib.hid hd
    clear hd
    go_wp2
    go_ret2
    exact ⟨rfl, HD.out⟩
  | true =>
    rw [hs] at E
    replace E := Lib.hid E
    have E2 := Lib.hid (fun (W : World) (hd : w.Since w.heap.size W) => roads_2 W.heap.size a n cap x (W.alloc (.map #[] 0)) (roads_made W) (fun W' hg => ht hs W' (hm.since (hd.trans (since_mono (since_of_map hg) hd.size)))))
    clear hs hm hn hsz ht
    have hmm := @run_makeMap Try.prog
    go_enter Try.func51, Try.ntmps51
    go_wp2_with fail
    refine (E.out).mono ?_
    rintro e w1 ⟨rfl, hd⟩
    have HD := Lib.hid hd
    clear hd
    go_wp2_with fail
    refine (E2.out w1 HD.out).mono ?_
    rintro e w2 ⟨rfl, hg, hr⟩
    have HS2 := Lib.hid (HD.out.trans (since_mono (since_of_map hg) HD.out.size))
    clear hg hr
    go_wp2
    go_ret2
    exact ⟨rfl, HS2.out⟩

set_option maxHeartbeats 400000 in
theorem implValuePivots_of (a : Option Addr) (cap n : Nat) (l : List (List Int)) (x : Int) (w : World) (hn : l.length = n) (hsz : szL l ≤ 1048576) (hm : MatR w a l) (ht : sqB l = true → ∀ W', MatR W' a l → Calls Try.prog 103 #[.slice a n cap] W' (fun e w' => e = .returned (.int .i64 x) ∧ W'.Since W'.heap.size w')) :
    Calls Try.prog 21 #[.slice a n cap] w (SpecW w (sqB l) x) := by
  have E := square_2 a cap n l x w hn hsz hm ht
  unfold SpecW at E ⊢
  generalize (if (sqB l) = true then x else 0) = y at E ⊢
  generalize (sqB l) = b at E ⊢
  replace E := Lib.hid E
  clear hn hsz hm ht
  go_enter Try.func21, Try.ntmps21
  go_wp2_with fail
  refine (E.out).mono ?_
  rintro e w1 ⟨rfl, hd⟩
  go_wp2
  go_ret2
  exact ⟨rfl, hd⟩

set_option maxHeartbeats 800000 in
theorem square_3 (a : Option Addr) (cap n : Nat) (l : List (List Int)) (x : Int) (ok : Bool) (w : World) (hn : l.length = n) (hsz : szL l ≤ 1048576) (hm : MatR w a l) (ht : sqB l = true → ∀ W', MatR W' a l → Calls Try.prog 104 #[.slice a n cap] W' (fun e w' => e = .returned (.tuple #[.int .i64 (if ok then x else 0), .bool ok]) ∧ W'.Since W'.heap.size w')) :
    Calls Try.prog 51 #[.slice a n cap, .int .i64 3] w (SpecW w (sqB l && ok) x) := by
  have E := isSquare_any a cap n l w hn hsz hm
  cases hs : sqB l with
  | false =>
    rw [hs] at E
    replace E := Lib.hid E
    clear hs hm hn hsz ht
    go_enter Try.func51, Try.ntmps51
    go_wp2_with fail
    refine (E.out).mono ?_
    rintro e w1 ⟨rfl, hd⟩
    have HD := Lib.hid hd
    clear hd
    go_wp2
    go_ret2
    exact ⟨rfl, HD.out⟩
  | true =>
    rw [hs] at E
    replace E := Lib.hid E
    have E2 := Lib.hid (fun (W : World) (hd : w.Since w.heap.size W) => roads_3 W.heap.size a n cap (if ok then x else 0) ok (W.alloc (.map #[] 0)) (roads_made W) (fun W' hg => ht hs W' (hm.since (hd.trans (since_mono (since_of_map hg) hd.size)))))
    clear hs hm hn hsz ht
    generalize hy : (if ok = true then x else 0) = y at E2
    have hmm := @run_makeMap Try.prog
    go_enter Try.func51, Try.ntmps51
    go_wp2_with fail
    refine (E.out).mono ?_
    rintro e w1 ⟨rfl, hd⟩
    have HD := Lib.hid hd
    clear hd
    go_wp2_with fail
    refine (E2.out w1 HD.out).mono ?_
    rintro e w2 ⟨rfl, hg, hr⟩
    have HS2 := Lib.hid (HD.out.trans (since_mono (since_of_map hg) HD.out.size))
    clear hg hr
    go_wp2
    go_ret2
    exact ⟨by rw [← hy]; cases ok <;> rfl, HS2.out⟩

set_option maxHeartbeats 400000 in
theorem implValueCondense_of (a : Option Addr) (cap n : Nat) (l : List (List Int)) (x : Int) (ok : Bool) (w : World) (hn : l.length = n) (hsz : szL l ≤ 1048576) (hm : MatR w a l) (ht : sqB l = true → ∀ W', MatR W' a l → Calls Try.prog 104 #[.slice a n cap] W' (fun e w' => e = .returned (.tuple #[.int .i64 (if ok then x else 0), .bool ok]) ∧ W'.Since W'.heap.size w')) :
    Calls Try.prog 23 #[.slice a n cap] w (SpecW w (sqB l && ok) x) := by
  have E := square_3 a cap n l x ok w hn hsz hm ht
  unfold SpecW at E ⊢
  generalize (if (sqB l && ok) = true then x else 0) = y at E ⊢
  generalize (sqB l && ok) = b at E ⊢
  replace E := Lib.hid E
  clear hn hsz hm ht
  go_enter Try.func23, Try.ntmps23
  go_wp2_with fail
  refine (E.out).mono ?_
  rintro e w1 ⟨rfl, hd⟩
  go_wp2
  go_ret2
  exact ⟨rfl, hd⟩

end Go.Proofs.Ytikjeaoapeaabaa
end

section
namespace Go.Proofs.Ytikjeaoapeaabaa
open Go.RowKit Go.Deep

def oc1 (s : Int) : Int := IntKind.u64.wrap (bits BinOp.and IntKind.u64 (s / 2) 6148914691236517205 + bits BinOp.and IntKind.u64 s 6148914691236517205)
def oc2 (x : Int) : Int := IntKind.u64.wrap (bits BinOp.and IntKind.u64 (x / 4) 3689348814741910323 + bits BinOp.and IntKind.u64 x 3689348814741910323)
def oc3 (x : Int) : Int := bits BinOp.and IntKind.u64 (IntKind.u64.wrap (x / 16 + x)) 1085102592571150095
def oc4 (x : Int) : Int := IntKind.u64.wrap (x + x / 256)
def oc5 (x : Int) : Int := IntKind.u64.wrap (x + x / 65536)
def oc6 (x : Int) : Int := IntKind.u64.wrap (x + x / 4294967296)
def ocF (s : Int) : Int := bits BinOp.and IntKind.i64 (wrap64 (oc6 (oc5 (oc4 (oc3 (oc2 (oc1 s))))))) 127
theorem ocF_fin : ∀ s : Fin 64, ocF s.val = popcS s.val := by decide +kernel

set_option maxRecDepth 100000 in
set_option maxHeartbeats 1000000 in
theorem ones64_any (s : Nat) (h : s < 64) (w : World) :
    Calls Try.prog 106 #[.int .u64 s] w fun e w' => e = .returned (.int .i64 (popcS s)) ∧ w = w' := by
  go_enter Try.func106, Try.ntmps106
  go_wp2
  go_ret
  refine ⟨?_, rfl⟩
  have e := ocF_fin ⟨s, h⟩
  simp only [ocF, oc6, oc5, oc4, oc3, oc2, oc1] at e
  exact congrArg (fun z => Ending.returned (Value.int IntKind.i64 z)) e

set_option maxHeartbeats 400000 in
theorem ones_any (s : Nat) (h : s < 64) (w : World) :
    Calls Try.prog 90 #[.int .u64 s] w fun e w' => e = .returned (.int .i64 (popcS s)) ∧ w = w' := by
  have E := Lib.hid (ones64_any s h w)
  go_enter Try.func90, Try.ntmps90
  go_wp2_with fail
  refine (E.out).mono ?_
  rintro e w' ⟨rfl, rfl⟩
  go_wp2
  go_ret
  exact ⟨rfl, rfl⟩

set_option maxHeartbeats 400000 in
theorem members_any (s : Nat) (h : s < 64) (w : World) :
    Calls Try.prog 62 #[.int .i64 s] w fun e w' => e = .returned (.int .i64 (popcS s)) ∧ w = w' := by
  have E := Lib.hid (ones_any s h w)
  go_enter Try.func62, Try.ntmps62
  go_wp2_with fail
  refine (E.out).mono ?_
  rintro e w' ⟨rfl, rfl⟩
  go_wp2
  go_ret
  exact ⟨rfl, rfl⟩

set_option maxHeartbeats 400000 in
theorem isSet_any (x : Int) (n : Nat) (hn : n ≤ 6) (w : World) :
    Calls Try.prog 60 #[.int .i64 x, .int .i64 n] w fun e w' => e = .returned (.bool (inB x 0 (2 ^ n - 1 : Nat))) ∧ w = w' := by
  have E1 := Lib.hid (fullSet_any n hn w)
  have E2 := Lib.hid (inRange_any x 0 (2 ^ n - 1 : Nat) w)
  go_enter Try.func60, Try.ntmps60
  go_wp2_with fail
  refine (E1.out).mono ?_
  rintro e w' ⟨rfl, rfl⟩
  go_wp2_with fail
  refine (E2.out).mono ?_
  rintro e w' ⟨rfl, rfl⟩
  go_wp2
  go_ret
  exact ⟨rfl, rfl⟩

end Go.Proofs.Ytikjeaoapeaabaa
end

section
namespace Go.Proofs.Ytikjeaoapeaabaa
open Go.RowKit Go.Deep

theorem OwnT.but {lo hi rb : Nat} {w w' : World} {a : Option Addr} {l : List (List Int)} (h : OwnT lo hi w a l) (hb : rb < lo) (hg : w.grownBy w' (some rb)) : MatR w' a l := by
  intro h0
  obtain ⟨b, A, G, C, e, hbl, hr, _⟩ := h h0
  have hc : ∀ (x k : Nat) (v : Value), lo ≤ x → w.cell? ⟨x, k, none⟩ = some v → w'.cell? ⟨x, k, none⟩ = some v := fun x k v hx hv =>
    (World.cell?_of_block (a := ⟨x, k, none⟩) (hg.block x (World.block_lt_of_cell? _ _ hv) (by intro e; injection e with e; omega))).trans hv
  refine ⟨b, 0, A, C, e, fun r hrl => ?_⟩
  obtain ⟨c1, c2⟩ := hr r hrl
  rw [Nat.zero_add]
  refine ⟨hc _ _ _ hbl.1 c1, fun hp => ?_⟩
  obtain ⟨eA, hG, c3⟩ := c2 hp
  exact ⟨G r, 0, eA, fun i hi => by rw [Nat.zero_add]; exact hc _ _ _ hG.1 (c3 i hi).1⟩

theorem since_map (w : World) : w.Since w.heap.size (w.alloc (.map #[] 0)) := (World.Since.refl w.heap.size w).alloc (Nat.le_refl _) _

set_option maxRecDepth 100000 in
set_option maxHeartbeats 2000000 in
theorem implValueMinor_any (a : Option Addr) (cap n : Nat) (l : List (List Int)) (s c : Int) (w : World) (hn : l.length = n) (hsz : szL l ≤ 1048576) (hm : MatR w a l) :
    Calls Try.prog 25 #[.slice a n cap, .int .i64 s, .int .i64 c] w (SpecW w (minorOk l s c) (minorV l s c)) := by
  have E := Lib.hid (implTableIn_any a cap n l w hn hsz hm)
  cases hT : tabIn l with
  | false =>
    have hok : minorOk l s c = false := by unfold minorOk; rw [hT]; rfl
    rw [hT] at E
    rw [hok]
    clear hT hsz hm hn hok
    go_enter Try.func25, Try.ntmps25
    go_wp2_with fail
    refine (E.out).mono ?_
    rintro e w1 ⟨rfl, hd⟩
    have HS := Lib.hid hd
    clear hd
    go_wp2
    go_ret2
    exact ⟨rfl, HS.out⟩
  | true =>
    have hTT := tabIn_of hT
    rw [hT] at E
    have h6 := hTT.2.1
    have h1 := hTT.1
    have hw := hTT.width
    rw [hn] at h6 h1
    have EI := fun (W : World) => isSet_any s n h6 W
    cases hb : inB s 0 (2 ^ n - 1 : Nat) with
    | false =>
      have hok : minorOk l s c = false := by unfold minorOk; rw [hT, hn, hb]; rfl
      rw [hok]
      rw [hb] at EI
      replace EI := Lib.hid EI
      clear hT hsz hm hn hok hTT hb
      go_enter Try.func25, Try.ntmps25
      go_wp2_with fail
      refine (E.out).mono ?_
      rintro e w1 ⟨rfl, hd⟩
      have HS := Lib.hid hd
      clear hd
      go_wp2_with fail
      refine (EI.out w1).mono ?_
      rintro e w2 ⟨rfl, rfl⟩
      go_wp2
      go_ret2
      exact ⟨rfl, HS.out⟩
    | true =>
      have EW := fun (W : World) (h : w.Since w.heap.size W) => width_any a cap n l W hn (by omega) (by omega) (hm.since h)
      obtain ⟨m, hmm⟩ : ∃ m, (l.getD 0 []).length = m := ⟨_, rfl⟩
      rw [hmm] at hw EW
      have EC := fun (W : World) => isSet_any c m hw.2 W
      rw [hb] at EI
      cases hbc : inB c 0 (2 ^ m - 1 : Nat) with
      | false =>
        have hok : minorOk l s c = false := by unfold minorOk; rw [hT, hn, hb, hmm, hbc]; rfl
        rw [hok]
        rw [hbc] at EC
        replace EI := Lib.hid EI
        replace EC := Lib.hid EC
        replace EW := Lib.hid EW
        clear hT hsz hm hn hok hTT hb hbc hmm
        go_enter Try.func25, Try.ntmps25
        go_wp2_with fail
        refine (E.out).mono ?_
        rintro e w1 ⟨rfl, hd⟩
        have HS := Lib.hid hd
        clear hd
        go_wp2_with fail
        refine (EI.out w1).mono ?_
        rintro e w2 ⟨rfl, rfl⟩
        go_wp2_with fail
        refine (EW.out w1 HS.out).mono ?_
        rintro e w2 ⟨rfl, rfl⟩
        go_wp2_with fail
        refine (EC.out w1).mono ?_
        rintro e w2 ⟨rfl, rfl⟩
        go_wp2
        go_ret2
        exact ⟨rfl, HS.out⟩
      | true =>
        rw [hbc] at EC
        have hp6 : 2 ^ n ≤ 2 ^ 6 := Nat.pow_le_pow_right (by omega) h6
        have hp6' : 2 ^ m ≤ 2 ^ 6 := Nat.pow_le_pow_right (by omega) hw.2
        have hpn : 1 ≤ 2 ^ n := Nat.pow_pos (by omega)
        have hpm : 1 ≤ 2 ^ m := Nat.pow_pos (by omega)
        obtain ⟨s', hs', hsl⟩ : ∃ s' : Nat, s = s' ∧ s' < 2 ^ n := by
          simp [inB] at hb
          exact ⟨s.toNat, by omega, by omega⟩
        obtain ⟨c', hc', hcl⟩ : ∃ c' : Nat, c = c' ∧ c' < 2 ^ m := by
          simp [inB] at hbc
          exact ⟨c.toNat, by omega, by omega⟩
        subst hs' hc'
        have EM1 := fun (W : World) => members_any s' (by omega) W
        have EM2 := fun (W : World) => members_any c' (by omega) W
        replace EI := Lib.hid EI
        replace EC := Lib.hid EC
        replace EW := Lib.hid EW
        by_cases hpc : popcS s' = popcS c'
        · have hok : minorOk l s' c' = true := by unfold minorOk; rw [hT, hn, hb, hmm, hbc]; simp [hpc]
          rw [hok]
          have hsq := part_sq hTT (s := s') (c := c') (by rw [hn]; exact hsl) (by rw [hmm]; exact hcl) hpc
          have hv : minorV l s' c' = dt (popcS s') (at2 (partL l s' c')) := by
            unfold minorV
            simp only [Int.toNat_natCast]
            exact ordF_all _ (popcS_le s')
          rw [hv]
          have EP := fun (W : World) (h : w.Since w.heap.size W) => part_any a cap n s' c' l W hn hTT (by omega) (by omega) (hm.since h)
          rw [hsq.1] at EP
          have EV := fun (a2 : Option Addr) (c2 : Nat) (V : World) (h : MatR V a2 (partL l s' c')) => byPivots_any (popcS s') (partL l s' c') a2 c2 V hsq (popcS_le s') h
          rw [← hpc] at EM2
          have hk6 := popcS_le s'
          obtain ⟨L, hL⟩ : ∃ L, L = partL l s' c' := ⟨_, rfl⟩
          obtain ⟨k, hk⟩ : ∃ k, k = popcS s' := ⟨_, rfl⟩
          simp only [← hk] at EM1 EM2 EP EV hk6 ⊢
          simp only [← hL] at EP EV ⊢
          obtain ⟨x, hx⟩ : ∃ x, x = dt k (at2 L) := ⟨_, rfl⟩
          simp only [← hx] at EV ⊢
          replace EM1 := Lib.hid EM1
          replace EM2 := Lib.hid EM2
          replace EP := Lib.hid EP
          replace EV := Lib.hid EV
          have hmk := @run_makeMap Try.prog
          clear hT hsz hm hn hok hTT hb hbc hmm hpc hsq hv hk hL hx
          go_enter Try.func25, Try.ntmps25
          go_wp2_with fail
          refine (E.out).mono ?_
          rintro e w1 ⟨rfl, hd⟩
          have HS := Lib.hid hd
          clear hd
          go_wp2_with fail
          refine (EI.out w1).mono ?_
          rintro e w2 ⟨rfl, rfl⟩
          go_wp2_with fail
          refine (EW.out w1 HS.out).mono ?_
          rintro e w2 ⟨rfl, rfl⟩
          go_wp2_with fail
          refine (EC.out w1).mono ?_
          rintro e w2 ⟨rfl, rfl⟩
          go_wp2_with fail
          refine (EM1.out w1).mono ?_
          rintro e w2 ⟨rfl, rfl⟩
          go_wp2_with fail
          refine (EM2.out w1).mono ?_
          rintro e w2 ⟨rfl, rfl⟩
          go_wp2_with fail
          refine (EP.out _ (HS.out.trans (since_mono (since_map w1) HS.out.size))).mono ?_
          rintro e w3 ⟨a3, c3, rfl, hs3, ho3⟩
          have HR := Lib.hid ((roads_made w1).kept (grown_of_since (row := none) hs3) (by simp))
          have HS3 := Lib.hid (HS.out.trans (since_mono ((since_map w1).trans (since_mono hs3 (by simp))) HS.out.size))
          have HA := Lib.hid (anyValue_of w1.heap.size a3 k c3 x w3 HR.out (fun W' hg => EV.out a3 c3 W' (ho3.but (rb := w1.heap.size) (by simp) hg)))
          have hlt : w.heap.size ≤ w1.heap.size := HS.out.size
          have HSP := Lib.hid (fun (w4 : World) (hg : w3.grownBy w4 (some w1.heap.size)) => (show w.Since w.heap.size w4 from ⟨hg.os.trans HS3.out.os, hg.tape.trans HS3.out.tape, hg.output.trans HS3.out.output, Nat.le_trans HS3.out.size hg.size, fun j hj => (hg.block j (Nat.lt_of_lt_of_le hj HS3.out.size) (by intro e; injection e with e; omega)).trans (HS3.out.block j hj)⟩))
          clear hs3 ho3
          go_wp2_with fail
          refine (HA.out).mono ?_
          rintro e w4 ⟨rfl, hg, hr⟩
          have HS4 := Lib.hid (HSP.out w4 hg)
          clear hg hr
          go_wp2
          go_ret2
          exact ⟨rfl, HS4.out⟩
        · have hok : minorOk l s' c' = false := by unfold minorOk; rw [hT, hn, hb, hmm, hbc]; simp [hpc]
          rw [hok]
          obtain ⟨x1, hx1⟩ : ∃ x, x = popcS s' := ⟨_, rfl⟩
          obtain ⟨x2, hx2⟩ : ∃ x, x = popcS c' := ⟨_, rfl⟩
          have hne : ((x1 : Int) != (x2 : Int)) = true := by simp; omega
          simp only [← hx1] at EM1
          simp only [← hx2] at EM2
          replace EM1 := Lib.hid EM1
          replace EM2 := Lib.hid EM2
          clear hT hsz hm hn hok hTT hb hbc hmm hpc hx1 hx2
          go_enter Try.func25, Try.ntmps25
          go_wp2_with fail
          refine (E.out).mono ?_
          rintro e w1 ⟨rfl, hd⟩
          have HS := Lib.hid hd
          clear hd
          go_wp2_with fail
          refine (EI.out w1).mono ?_
          rintro e w2 ⟨rfl, rfl⟩
          go_wp2_with fail
          refine (EW.out w1 HS.out).mono ?_
          rintro e w2 ⟨rfl, rfl⟩
          go_wp2_with fail
          refine (EC.out w1).mono ?_
          rintro e w2 ⟨rfl, rfl⟩
          go_wp2_with fail
          refine (EM1.out w1).mono ?_
          rintro e w2 ⟨rfl, rfl⟩
          go_wp2_with fail
          refine (EM2.out w1).mono ?_
          rintro e w2 ⟨rfl, rfl⟩
          go_wp2
          go_ret2
          exact ⟨rfl, HS.out⟩

end Go.Proofs.Ytikjeaoapeaabaa
end

section
namespace Go.Proofs.Ytikjeaoapeaabaa
open Go.RowKit Go.Deep

theorem since_rb {w W W' : World} {rb : Nat} (h : w.Since w.heap.size W) (hg : W.grownBy W' (some rb)) (hb : w.heap.size ≤ rb) : w.Since w.heap.size W' :=
  h.grown hg h.size (fun k e => by cases e; exact hb)
theorem row_kept {W W' : World} {P n : Nat} {f : Nat → Value} {row : Option Nat} (h : W.rowIs P 3 n f) (hg : W.grownBy W' row) (hne : some P ≠ row) : W'.rowIs P 3 n f := h.of_block (hg.block _ h.lt hne)

set_option maxRecDepth 100000 in
set_option maxHeartbeats 4000000 in
theorem implValueSolve_yes (a a2 : Option Addr) (cap cap2 n : Nat) (l : List (List Int)) (x : List Int) (w : World) (hn : l.length = n) (hx : x.length = n) (hsz : szL l ≤ 1048576) (hs : sqB l = true) (hm : MatR w a l) (hr : RowR w a2 x) :
    Calls Try.prog 34 #[.slice a n cap, .slice a2 n cap2] w (ImplS w (slvOk l x n) (dt n (at2 l)) (slvR l x n n)) := by
  have E := fun (W : World) (hd : w.Since w.heap.size W) => isSquare_any a cap n l W hn hsz (hm.since hd)
  simp only [hs] at E
  replace E := Lib.hid E
  obtain ⟨hT, hw⟩ := sqB_of hs
  have h6 := hT.2.1
  have h1 := hT.1
  rw [hn] at h6 h1 hw
  have hrow : ∀ r, r < n → (l.getD r []).length = n := fun r hr => by rw [hT.row (by omega), ← hw]
  have hsq : SqD n l := ⟨hn, fun _ => ⟨hT, hw.symm⟩⟩
  have EN := Lib.hid (fun (W : World) (hd : w.Since w.heap.size W) => entriesIn_any a2 cap2 n x W hx (by omega) (hr.since hd))
  have EV := Lib.hid (fun (W : World) (hR : RoadsAt W w.heap.size) (hd : w.Since w.heap.size W) => anyValue_of w.heap.size a n cap (dt n (at2 l)) W hR (fun W' hg => byPivots_any n l a cap W' hsq h6 (hm.since (since_rb hd hg (Nat.le_refl _)))))
  have EC := Lib.hid (fun (c : Nat) (W : World) (hd : w.Since w.heap.size W) => withColumn_any a a2 cap cap2 n c l x W hn hx h1 h6 hrow (hm.since hd) (hr.since hd))
  have EU := Lib.hid (fun (hi : numsIn x = true) (k : Nat) (u : Option Addr) (c lo hi' : Nat) (W : World) (hlo : w.heap.size < lo) (hR : RoadsAt W w.heap.size) (h : OwnT lo hi' W u (slvT l x n k)) => by
    have q := slv_sq (k := k) hs hn hx hi
    have e := anyValue_of w.heap.size u n c (dt n (at2 (slvT l x n k))) W hR (fun W' hg => byPivots_any n (slvT l x n k) u c W' q.1 h6 (h.but hlo hg))
    rw [← ordF_all _ h6, q.2.1] at e
    exact e)
  have HBD := Lib.hid (fun (hi : numsIn x = true) (k : Nat) => slv_bd (k := k) hs hn hx hi)
  have HNO := Lib.hid (fun (h : numsIn x = false) => slvOk_num (l := l) (n := n) h)
  have HZ := Lib.hid (fun (h : dt n (at2 l) = 0) => slvOk_val (b := x) h)
  have HYES := Lib.hid (fun (h : numsIn x = true) (h2 : dt n (at2 l) ≠ 0) => slvOk_yes hs hx h h2)
  obtain ⟨d, hd⟩ : ∃ d, dt n (at2 l) = d := ⟨_, rfl⟩
  rw [hd] at EV HZ HYES ⊢
  obtain ⟨ni, hni⟩ : ∃ b, numsIn x = b := ⟨_, rfl⟩
  rw [hni] at EU HBD HNO HYES
  simp only [hni] at EN
  obtain ⟨W0, hW0⟩ : ∃ W0, W0 = w.alloc (.map #[] 0) := ⟨_, rfl⟩
  have HS0 := Lib.hid (show w.Since w.heap.size W0 by rw [hW0]; exact (World.Since.refl _ _).alloc (Nat.le_refl _) _)
  have HR0 := Lib.hid (show RoadsAt W0 w.heap.size by rw [hW0]; exact roads_made w)
  have HZ0 := Lib.hid (show W0.heap.size = w.heap.size + 1 by rw [hW0]; simp)
  have hmk := @run_makeMap Try.prog
  clear hm hT hw hn hs hsz hrow hsq hr hx hd hni
  go_enter Try.func34, Try.ntmps34
  go_wp2_with fail
  rw [← hW0]
  refine (E.out W0 HS0.out).mono ?_
  rintro e w1 ⟨rfl, hs1⟩
  have HS1 := Lib.hid (HS0.out.trans (since_mono hs1 HS0.out.size))
  have HR1 := Lib.hid (HR0.out.kept (grown_of_since (row := none) hs1) (by simp))
  have HZ1 := Lib.hid (show w.heap.size < w1.heap.size by have := HZ0.out; have := hs1.size; omega)
  clear hs1 hW0 hmk
  go_wp2_with fail
  refine (EN.out w1 HS1.out).mono ?_
  rintro e w2 ⟨rfl, rfl⟩
  cases ni with
  | false =>
    have hno := Lib.hid (HNO.out rfl)
    go_wp2
    go_ret3
    exact implS_no hno.out _ _ rfl HS1.out
  | true =>
    go_wp2_with fail
    refine (EV.out w1 HR1.out HS1.out).mono ?_
    rintro e w2 ⟨rfl, hg2, hr2⟩
    have HS2 := Lib.hid (since_rb HS1.out hg2 (Nat.le_refl _))
    have HR2 := Lib.hid hr2
    have HZ2 := Lib.hid (show w.heap.size < w2.heap.size by have := HZ1.out; have := hg2.size; omega)
    clear hg2 hr2
    by_cases hd0 : d = 0
    · have hno := Lib.hid (HZ.out hd0)
      subst hd0
      go_wp2
      go_ret3
      exact implS_no hno.out _ _ rfl HS2.out
    · have hdb : (d == 0) = false := by simpa using hd0
      have hyes := Lib.hid (HYES.out trivial hd0)
      have hmk := run_make_row' (P := Try.prog) 33 3 (.int .i64 0) 8 Try.underlying33 Try.info3 rfl .i64 .i64 n (by omega) (by omega)
      have HRW := Lib.hid ((World.rowIs_made w2 (.int .i64 0) n 3).congr (g := fun j => if j < 0 then .int .i64 ((slvR l x n n).getD j 0) else .int .i64 0) (fun j _ => by simp))
      have HS3 := Lib.hid (HS2.out.alloc HS2.out.size (.cells (madeCells #[.int .i64 0] n) 3))
      have HR3 := Lib.hid (HR2.out.kept (World.grownBy_alloc w2 (.cells (madeCells #[.int .i64 0] n) 3) none) (by simp))
      obtain ⟨P, hP⟩ : ∃ P, P = w2.heap.size := ⟨_, rfl⟩
      rw [← hP] at HRW HZ2
      clear HNO HZ HYES HS2 HR2
      go_wp2
      clear hmk
      rw [← hP]
      have hPz := Lib.hid hP
      clear hP
      go_loopg [11, 39] n (fun g _ i wr => ∃ j : Nat, j ≤ n ∧ g = n - j ∧ i = .int .i64 j ∧ w.Since w.heap.size wr ∧ RoadsAt wr w.heap.size ∧ wr.rowIs P 3 n (fun q => if q < j then .int .i64 ((slvR l x n n).getD q 0) else .int .i64 0))
      case atStart => exact ⟨0, Nat.zero_le _, rfl, rfl, HS3.out, HR3.out, HRW.out⟩
      case round =>
        obtain ⟨j, hj, rfl, rfl, hS, hR, hW⟩ := hrel
        clear HS3 HR3 HRW
        have HSS := Lib.hid hS
        have HRR := Lib.hid hR
        have HWW := Lib.hid hW
        have hPlt := hW.lt
        have hP2 := HZ2.out
        clear hS hR hW
        by_cases hjn : j < n
        · have ECC := Lib.hid (EC.out j wr HSS.out)
          have hzw := HSS.out.size
          obtain ⟨z, hz⟩ : ∃ z, dt n (setC (at2 l) j (fun i => x.getD i 0)) = z := ⟨_, rfl⟩
          have hzb := HBD.out trivial j
          have EU3 := fun (u : Option Addr) (c lo hi' : Nat) (W : World) (h1 : w.heap.size < lo) (h2 : RoadsAt W w.heap.size) (h3 : OwnT lo hi' W u (slvT l x n j)) => EU.out trivial j u c lo hi' W h1 h2 h3
          rw [hz] at hzb
          simp only [hz] at EU3
          replace EU3 := Lib.hid EU3
          have hzv : (slvR l x n n).getD j 0 = z := by rw [slvR_get l x n n j hjn, hz]
          have HZV := Lib.hid hzv
          clear hz hzv
          go_wp2_with fail
          refine (ECC.out).mono ?_
          rintro e w3 ⟨rfl, hs3, ho3⟩
          have HR4 := Lib.hid (HRR.out.kept (grown_of_since (row := none) hs3) (by simp))
          have HS4 := Lib.hid (HSS.out.trans (since_mono hs3 HSS.out.size))
          have HW4 := Lib.hid (row_kept HWW.out (grown_of_since (row := none) hs3) (by simp))
          have EVV := Lib.hid (EU3.out _ n wr.heap.size w3.heap.size w3 (by omega) HR4.out ho3)
          clear hs3 ho3
          go_wp2_with fail
          refine (EVV.out).mono ?_
          rintro e w4 ⟨rfl, hg4, hr4⟩
          have hW5 := row_kept HW4.out hg4 (by intro e; injection e with e; omega)
          have HS5 := Lib.hid (since_rb HS4.out hg4 (Nat.le_refl _))
          have HR5 := Lib.hid hr4
          have c1 := hW5.cell (i := j) hjn
          simp only [Nat.lt_irrefl, if_false] at c1
          have c2 := hW5.frozen j
          have HW5 := Lib.hid hW5
          clear hg4 hr4 hW5
          go_wp2
          have hN := HW5.out.set j (.int .i64 z)
          have HN := Lib.hid (hN.congr (g := fun q => if q < j + 1 then .int .i64 ((slvR l x n n).getD q 0) else .int .i64 0) (fun q hq => by
            by_cases e : q = j
            · subst e; rw [if_pos rfl, if_pos (by omega), HZV.out]
            · rw [if_neg e]
              by_cases h2 : q < j
              · rw [if_pos h2, if_pos (by omega)]
              · rw [if_neg h2, if_neg (by omega)]))
          clear hN c1 c2
          go_roundg (n - (j + 1))
          case measure => omega
          case rel => exact ⟨j + 1, by omega, rfl, by go_num, HS5.out.setCell (by show w.heap.size ≤ P; omega) _, HR5.out.kept (row := some P) ⟨rfl, rfl, rfl, by simp, fun k hk hne => Below.heap_setCell _ _ _ _ (fun e => hne (by rw [e]))⟩ (by intro e; injection e with e; omega), HN.out⟩
        · have hjn' : j = n := by omega
          subst hjn'
          go_wp2
          go_ret3
          refine implS_yes hyes.out (slvR_length l x j j) (some ⟨P, 0, none⟩) j rfl HSS.out (fun h0 => ⟨P, rfl, ⟨by omega, hPlt⟩, fun i hi => ?_⟩)
          rw [slvR_length] at hi
          have c1 := HWW.out.cell (i := i) hi
          rw [if_pos hi] at c1
          exact ⟨c1, HWW.out.frozen i⟩

set_option maxHeartbeats 1000000 in
theorem implValueSolve_any (a a2 : Option Addr) (cap cap2 n n2 : Nat) (l : List (List Int)) (x : List Int) (w : World) (hn : l.length = n) (hx : x.length = n2) (_h63 : n2 ≤ 1048576) (hsz : szL l ≤ 1048576) (hm : MatR w a l) (hr : RowR w a2 x) :
    Calls Try.prog 34 #[.slice a n cap, .slice a2 n2 cap2] w (ImplS w (slvOk l x n) (dt n (at2 l)) (slvR l x n n)) := by
  by_cases hq : sqB l = true ∧ n2 = n
  · obtain ⟨hs, rfl⟩ := hq
    exact implValueSolve_yes a a2 cap cap2 n2 l x w hn hx hsz hs hm hr
  · have hno := Lib.hid (show slvOk l x n = false by
      cases hs : sqB l with
      | false => exact slvOk_sq hs
      | true => exact slvOk_len (fun h => hq ⟨hs, by omega⟩))
    have E := fun (W : World) (hd : w.Since w.heap.size W) => isSquare_any a cap n l W hn hsz (hm.since hd)
    have hnn : n ≤ 1048576 := by unfold szL at hsz; omega
    obtain ⟨W0, hW0⟩ : ∃ W0, W0 = w.alloc (.map #[] 0) := ⟨_, rfl⟩
    have HS0 := Lib.hid (show w.Since w.heap.size W0 by rw [hW0]; exact (World.Since.refl _ _).alloc (Nat.le_refl _) _)
    have hmk := @run_makeMap Try.prog
    cases hs : sqB l with
    | false =>
      simp only [hs] at E
      replace E := Lib.hid E
      clear hs hm hn hsz hr hx hq
      go_enter Try.func34, Try.ntmps34
      go_wp2_with fail
      rw [← hW0]
      refine (E.out W0 HS0.out).mono ?_
      rintro e w1 ⟨rfl, hs1⟩
      have HS1 := Lib.hid (HS0.out.trans (since_mono hs1 HS0.out.size))
      clear hs1 hW0 hmk
      go_wp2
      go_ret3
      exact implS_no hno.out _ _ rfl HS1.out
    | true =>
      simp only [hs] at E
      replace E := Lib.hid E
      have hne : n2 ≠ n := fun h => hq ⟨hs, h⟩
      have hne' : ((n2 : Int) != (n : Int)) = true := by simp; omega
      clear hs hm hn hsz hr hx hq
      go_enter Try.func34, Try.ntmps34
      go_wp2_with fail
      rw [← hW0]
      refine (E.out W0 HS0.out).mono ?_
      rintro e w1 ⟨rfl, hs1⟩
      have HS1 := Lib.hid (HS0.out.trans (since_mono hs1 HS0.out.size))
      clear hs1 hW0 hmk
      go_wp2
      go_ret3
      exact implS_no hno.out _ _ rfl HS1.out

end Go.Proofs.Ytikjeaoapeaabaa
end

section
namespace Go.Proofs.Ytikjeaoapeaabaa
open Go.RowKit Go.Deep

set_option maxHeartbeats 1000000 in
theorem sameInts_same (a b : Option Addr) (ca cb n : Nat) (l : List Int) (w : World) (hn : l.length = n) (h63 : n ≤ 9223372036854775807) (ha : RowR w a l) (hb : RowR w b l) :
    Calls Try.prog 39 #[.slice a n ca, .slice b n cb] w fun e w' => e = .returned (.bool true) ∧ Drawn w w' := by
  have H := Lib.hid hn; clear hn
  go_enter Try.func39, Try.ntmps39
  go_wp2
  go_loopg [5] n (fun g i wr => ∃ k : Nat, k ≤ n ∧ g = n - k ∧ i = .int .i64 k ∧ Drawn w wr)
  case atStart => exact ⟨0, Nat.zero_le _, rfl, rfl, Drawn.refl w⟩
  case round =>
    obtain ⟨k, hk, rfl, rfl, hD⟩ := hrel
    by_cases hlt : k < n
    · obtain ⟨b1, o1, rfl, hc1⟩ := ha (by rw [H.out]; omega)
      obtain ⟨b2, o2, rfl, hc2⟩ := hb (by rw [H.out]; omega)
      have c1 := hc1 k (by rw [H.out]; exact hlt)
      have c2 := hc2 k (by rw [H.out]; exact hlt)
      obtain ⟨x, hx⟩ : ∃ x, x = l.getD k 0 := ⟨_, rfl⟩
      rw [← hx] at c1 c2
      rw [← hD.cell] at c1 c2
      clear hx hc1 hc2 ha hb
      go_wp2
      go_quiet (fail)
      go_wp2
      go_roundg (n - (k + 1))
      case measure => omega
      case rel => exact ⟨k + 1, by omega, rfl, by go_num, hD.trans (Drawn.mk _ _)⟩
    · go_wp2
      go_ret
      exact ⟨rfl, hD⟩

set_option maxHeartbeats 1000000 in
theorem sameRows_same (a b : Option Addr) (ca cb n : Nat) (l : List (List Int)) (w : World) (hn : l.length = n) (h63 : n ≤ 9223372036854775807) (hl : ∀ r, r < l.length → (l.getD r []).length ≤ 9223372036854775807)
    (ha : MatR w a l) (hb : MatR w b l) :
    Calls Try.prog 43 #[.slice a n ca, .slice b n cb] w fun e w' => e = .returned (.bool true) ∧ Drawn w w' := by
  have H := Lib.hid hn; clear hn
  go_enter Try.func43, Try.ntmps43
  go_wp2
  go_loopg [5] n (fun g i wr => ∃ k : Nat, k ≤ n ∧ g = n - k ∧ i = .int .i64 k ∧ Drawn w wr)
  case atStart => exact ⟨0, Nat.zero_le _, rfl, rfl, Drawn.refl w⟩
  case round =>
    obtain ⟨k, hk, rfl, rfl, hD⟩ := hrel
    by_cases hlt : k < n
    · obtain ⟨b1, o1, A1, C1, rfl, hc1⟩ := ha (by rw [H.out]; omega)
      obtain ⟨b2, o2, A2, C2, rfl, hc2⟩ := hb (by rw [H.out]; omega)
      obtain ⟨c1, r1⟩ := hc1 k (by rw [H.out]; exact hlt)
      obtain ⟨c2, r2⟩ := hc2 k (by rw [H.out]; exact hlt)
      have hlk := hl k (by rw [H.out]; exact hlt)
      obtain ⟨x, hx⟩ : ∃ x, x = l.getD k [] := ⟨_, rfl⟩
      rw [← hx] at c1 c2 r1 r2 hlk
      obtain ⟨m, hm⟩ : ∃ m, x.length = m := ⟨_, rfl⟩
      rw [hm] at c1 c2 hlk
      have HM := Lib.hid hm
      clear hx hc1 hc2 ha hb hl hm
      have r1 := r1.drawn hD
      have r2 := r2.drawn hD
      rw [← hD.cell] at c1 c2
      have e1 := fun (p : Nat) => sameInts_same (A1 k) (A2 k) (C1 k) (C2 k) m x (wr.drewN p) HM.out hlk r1 r2
      have E1 := Lib.hid e1; clear e1 r1 r2
      go_wp2
      go_quiet ((go_at_call 39; exact Calls.quiet_of (E1.out _)))
      go_wp2
      go_roundg (n - (k + 1))
      case measure => omega
      case rel => exact ⟨k + 1, by omega, rfl, by go_num, hD.trans (Drawn.mk _ _)⟩
    · go_wp2
      go_ret
      exact ⟨rfl, hD⟩

end Go.Proofs.Ytikjeaoapeaabaa
end

section
namespace Go.Proofs.Ytikjeaoapeaabaa
open Go.RowKit Go.Deep

theorem szL_of {l : List (List Int)} {n k : Nat} (h1 : l.length ≤ n) (h2 : ∀ j, j < l.length → (l.getD j []).length ≤ k) (hnk : n * k + n ≤ 1048576) : szL l ≤ 1048576 := by
  have h3 := sumTo_le_mul l k h2 l.length (Nat.le_refl _)
  have h4 : l.length * k ≤ n * k := Nat.mul_le_mul_right _ h1
  have h5 : k * l.length = l.length * k := Nat.mul_comm _ _
  unfold szL
  omega
theorem rows_le {l : List (List Int)} (h : szL l ≤ 1048576) : ∀ r, r < l.length → (l.getD r []).length ≤ 9223372036854775807 := fun r hr => by
  have := row_le l hr
  unfold szL at h
  omega

theorem tab_self {l : List (List Int)} {n m : Nat} (hn : l.length = n) (hm : ∀ r, r < n → (l.getD r []).length = m) : tabF n m (at2 l) = l := by
  refine List.ext_getElem (by rw [tabF_length, hn]) fun r h1 h2 => ?_
  have hr : r < n := by rw [tabF_length] at h1; exact h1
  have e1 : (tabF n m (at2 l))[r] = (tabF n m (at2 l)).getD r [] := by simp [List.getD, h1]
  have e2 : l[r] = l.getD r [] := by simp [List.getD, h2]
  rw [e1, e2, tabF_get _ _ _ _ hr]
  refine List.ext_getElem (by rw [List.length_map, List.length_range, hm r hr]) fun k h3 h4 => ?_
  rw [List.getElem_map, List.getElem_range]
  unfold at2
  obtain ⟨x, hx⟩ : ∃ x, x = l.getD r [] := ⟨_, rfl⟩
  subst hx
  generalize l.getD r [] = x at *
  simp [List.getD, h4]

theorem turnL_turnL {l : List (List Int)} (hT : TabIn l) : turnL (turnL l) = l := by
  have h1 := hT.1
  have hw := hT.width
  have e0 : ((turnL l).getD 0 []).length = l.length := tabF_len _ _ _ _ hw.1
  have e1 : turnL (turnL l) = tabF l.length (l.getD 0 []).length fun k i => at2 (turnL l) i k := by
    show tabF ((turnL l).getD 0 []).length (turnL l).length _ = _
    rw [e0, turnL_length]
  rw [e1]
  have e2 : tabF l.length (l.getD 0 []).length (fun k i => at2 (turnL l) i k) = tabF l.length (l.getD 0 []).length (at2 l) := by
    unfold tabF
    refine List.map_congr_left fun r hr => List.map_congr_left fun k hk => ?_
    exact tabF_at _ _ _ _ _ (List.mem_range.1 hk) (List.mem_range.1 hr)
  rw [e2]
  exact tab_self rfl (fun r hr => hT.row hr)

end Go.Proofs.Ytikjeaoapeaabaa
end

section
namespace Go.Proofs.Ytikjeaoapeaabaa
open Go.RowKit Go.Deep

def partF (f : Nat → Nat → Int) (n2 k j c : Nat) : Int := if c < k then sumN (f c) n2 else if c = k then sumN (f k) j else 0

structure MR (wo wr : World) (m2 : Nat) (f : Nat → Nat → Int) (n2 k j : Nat) : Prop where
  since : wo.Since wo.heap.size wr
  row : wr.rowIs wo.heap.size 3 m2 (fun c => .int .i64 (partF f n2 k j c))
theorem mr_start (wo : World) (m2 : Nat) (f : Nat → Nat → Int) (n2 : Nat) : MR wo (wo.alloc (.cells (madeCells #[.int .i64 0] m2) 3)) m2 f n2 0 0 :=
  ⟨(World.Since.refl _ _).alloc (Nat.le_refl _) _, (World.rowIs_made wo (.int .i64 0) m2 3).congr fun c _ => by
    unfold partF
    rw [if_neg (by omega)]
    by_cases e : c = 0
    · rw [if_pos e]; rfl
    · rw [if_neg e]⟩
theorem MR.facts {wo wr : World} {m2 n2 k j : Nat} {f : Nat → Nat → Int} (h : MR wo wr m2 f n2 k j) (hk : k < m2) : wr.cell? ⟨wo.heap.size, k, none⟩ = some (.int .i64 (sumN (f k) j)) ∧ wr.frozen? ⟨wo.heap.size, k, none⟩ = false := by
  refine ⟨?_, h.row.frozen k⟩
  have := h.row.cell hk
  unfold partF at this
  rw [if_neg (by omega), if_pos rfl] at this
  exact this
theorem MR.store {wo wr : World} {m2 n2 k j : Nat} {f : Nat → Nat → Int} (h : MR wo wr m2 f n2 k j) (q : Nat) (hk : k < m2) : MR wo ((wr.drewN q).setCell ⟨wo.heap.size, k, none⟩ (.int .i64 (sumN (f k) (j + 1)))) m2 f n2 k (j + 1) := by
  have hr : (wr.drewN q).rowIs wo.heap.size 3 m2 (fun c => .int .i64 (partF f n2 k j c)) := h.row
  refine ⟨(since_drewN h.since q).setCell (Nat.le_refl _) _, (hr.set k _).congr fun c _ => ?_⟩
  unfold partF
  by_cases e : c = k
  · subst e; simp
  · rw [if_neg e]
    by_cases e2 : c < k
    · rw [if_pos e2, if_pos e2]
    · rw [if_neg e2, if_neg e, if_neg e2, if_neg e]
theorem MR.next {wo wr : World} {m2 n2 k : Nat} {f : Nat → Nat → Int} (h : MR wo wr m2 f n2 k n2) : MR wo wr m2 f n2 (k + 1) 0 := by
  refine ⟨h.since, h.row.congr fun c _ => ?_⟩
  unfold partF
  by_cases e2 : c < k
  · rw [if_pos e2, if_pos (by omega)]
  · rw [if_neg e2]
    by_cases e : c = k
    · subst e; simp
    · rw [if_neg e, if_neg (by omega)]
      by_cases e3 : c = k + 1
      · rw [if_pos e3]; rfl
      · rw [if_neg e3]
theorem MR.rowB {wo wr : World} {m2 n2 : Nat} {f : Nat → Nat → Int} (h : MR wo wr m2 f n2 m2 0) : RowB wr wo.heap.size ((List.range m2).map fun c => sumN (f c) n2) :=
  RowB.of_rowIs h.row (by simp) fun i hi => by
    simp at hi
    unfold partF
    rw [if_pos hi]
    simp [List.getD, hi]

def makeTo (l u : List (List Int)) (m2 n2 i : Nat) : List (List Int) := tabF i m2 fun i k => sumN (dotF l u i k) n2
theorem makeTo_succ (l u : List (List Int)) (m2 n2 i : Nat) : makeTo l u m2 n2 (i + 1) = makeTo l u m2 n2 i ++ [(List.range m2).map fun k => sumN (dotF l u i k) n2] := by simp [makeTo, tabF, List.range_succ]
theorem makeTo_length (l u : List (List Int)) (m2 n2 i : Nat) : (makeTo l u m2 n2 i).length = i := tabF_length _ _ _
theorem sumN_bd (f : Nat → Int) : ∀ (n : Nat), (∀ j, j < n → -900 ≤ f j ∧ f j ≤ 900) → -(900 * (n : Int)) ≤ sumN f n ∧ sumN f n ≤ 900 * (n : Int)
  | 0, _ => by simp [sumN]
  | n + 1, h => by
    have h1 := sumN_bd f n (fun j hj => h j (by omega))
    have h2 := h n (by omega)
    unfold sumN
    omega

theorem szL_makeOk (l u : List (List Int)) (h : makeOk l u = true) : szL (makeL l u) ≤ 1048576 := by
  unfold makeOk at h
  rw [Bool.and_eq_true, Bool.and_eq_true] at h
  exact szL_make (tabIn_of h.1) (tabIn_of h.2.1)

end Go.Proofs.Ytikjeaoapeaabaa
end

section
namespace Go.Proofs.Ytikjeaoapeaabaa
open Go.RowKit Go.Deep

theorem MatR.gridR {w : World} {a : Option Addr} {l : List (List Int)} {n m : Nat} (h : MatR w a l) (hn : l.length = n) (hT : Rec l) (hm : (l.getD 0 []).length = m) :
    ∃ (b o : Nat) (A : Nat → Option Addr) (C : Nat → Nat), a = some ⟨b, o, none⟩ ∧ (∀ i, i < n → w.cell? ⟨b, o + i, none⟩ = some (.slice (A i) m (C i))) ∧
      ∀ i j, i < n → j < m → ∃ b' o', w.cell? ⟨b, o + i, none⟩ = some (.slice (some ⟨b', o', none⟩) m (C i)) ∧ w.cell? ⟨b', o' + j, none⟩ = some (.int .i64 (at2 l i j)) := by
  subst hn
  have hrow : ∀ r, r < l.length → (l.getD r []).length = m := fun r hr => by rw [hT.row hr, hm]
  obtain ⟨b, o, A, C, e, hc⟩ := h hT.low
  refine ⟨b, o, A, C, e, fun i hi => by rw [(hc i hi).1, hrow i hi], fun i j hi hj => ?_⟩
  obtain ⟨hc1, hc2⟩ := hc i hi
  have hrl := hrow i hi
  obtain ⟨b', o', e', h3⟩ := hc2 (by omega)
  rw [e', hrl] at hc1
  exact ⟨b', o', hc1, h3 j (by omega)⟩

end Go.Proofs.Ytikjeaoapeaabaa
end

section
namespace Go.Proofs.Ytikjeaoapeaabaa
open Go.RowKit Go.Deep

structure SolM (l : List (List Int)) (x M : List Int) (n : Nat) (v : Int) : Prop where
  t : ∀ i k, i < n → k < n → -30 ≤ at2 l i k ∧ at2 l i k ≤ 30
  m : ∀ k, k < n → -349920000000 ≤ M.getD k 0 ∧ M.getD k 0 ≤ 349920000000
  v0 : v ≠ 0
  eq : ∀ i, i < n → sumN (fun k => at2 l i k * M.getD k 0) n = v * x.getD i 0
  sq : Rec l ∧ (l.getD 0 []).length = n
theorem solM_of {l : List (List Int)} {x : List Int} {n : Nat} (h : slvOk l x n = true) (hn : l.length = n) : SolM l x (slvR l x n n) n (dt n (at2 l)) ∧ n ≤ 6 ∧ 1 ≤ n ∧ x.length = n := by
  obtain ⟨h1, h2, h3, h4⟩ := slvOk_of h
  obtain ⟨hT, hw⟩ := sqB_of h1
  have h6 := hT.2.1
  have h0 := hT.1
  rw [hn] at h6 h0 hw
  refine ⟨⟨fun i k hi hk => hT.at (by omega) (by omega), fun k hk => ?_, h4, fun i hi => ?_, hT.rec, hw.symm⟩, h6, h0, h2⟩
  · rw [slvR_get l x n n k hk]
    exact slv_bd h1 hn h2 h3
  · rw [sumN_congr n (g := fun k => at2 l i k * dt n (setC (at2 l) k (fun i => x.getD i 0))) (fun k hk => by rw [slvR_get l x n n k hk])]
    exact dt_solve (at2 l) (fun i => x.getD i 0) hi
theorem SolM.part {l : List (List Int)} {x M : List Int} {n : Nat} {v : Int} (h : SolM l x M n v) {i : Nat} (hi : i < n) : ∀ k, k ≤ n → -(10500000000000 * (k : Int)) ≤ sumN (fun k => at2 l i k * M.getD k 0) k ∧ sumN (fun k => at2 l i k * M.getD k 0) k ≤ 10500000000000 * (k : Int)
  | 0, _ => by simp [sumN]
  | k + 1, hk => by
    have h1 := h.part hi k (by omega)
    have h2 := h.t i k hi (by omega)
    have h3 := h.m k (by omega)
    have h4 := mul_bdB h2.1 h2.2 h3.1 h3.2
    have e : sumN (fun k => at2 l i k * M.getD k 0) (k + 1) = sumN (fun k => at2 l i k * M.getD k 0) k + at2 l i k * M.getD k 0 := rfl
    rw [e]
    omega

set_option maxRecDepth 100000 in
set_option maxHeartbeats 4000000 in
theorem fnSolve (a : Option Addr) (cap n : Nat) (w : World) (hc : n ≤ cap) (h63 : cap ≤ 9223372036854775807) (hb : BytR w a n) :
    Calls Try.prog 10 #[.slice a n cap] w fun e w' => e = .returned (.bool true) ∧ w.Since w.heap.size w' := by
  by_cases hlen : 1048576 < n
  · have hl' : decide ((1048576 : Int) < (n : Int)) = true := by simp; omega
    clear hb
    go_enter Try.func10, Try.ntmps10
    go_wp2
    go_ret
    exact ⟨rfl, World.Since.refl _ _⟩
  · have hl' : decide ((1048576 : Int) < (n : Int)) = false := by simp; omega
    have ED := Lib.hid (drawValueSolve_any a n cap w hc h63 hb)
    clear hb
    go_enter Try.func10, Try.ntmps10
    go_wp2_with fail
    refine (ED.out).mono ?_
    rintro e w1 ⟨a1, c1, l, a2, c2, x, rfl, hs1, ⟨h1, h5, hlens, hit⟩, hx5, hrx⟩
    have hsz : szL l ≤ 1048576 := szL_of h5 (fun j hj => (hlens j hj).2) (by decide)
    obtain ⟨nn, hn⟩ : ∃ nn, l.length = nn := ⟨_, rfl⟩
    obtain ⟨nx, hnx⟩ : ∃ nx, x.length = nx := ⟨_, rfl⟩
    rw [hn, hnx]
    have HN := Lib.hid hn
    have HM := Lib.hid (fun (W : World) (h : w1.Since w1.heap.size W) => hit.matR.since h)
    have HX := Lib.hid (fun (W : World) (h : w1.Since w1.heap.size W) => hrx.since h)
    have HS1 := Lib.hid hs1
    obtain ⟨ok, hok⟩ : ∃ ok, slvOk l x nn = ok := ⟨_, rfl⟩
    obtain ⟨v, hv⟩ : ∃ v, (if ok = true then dt nn (at2 l) else 0) = v := ⟨_, rfl⟩
    obtain ⟨M, hM⟩ : ∃ M, (if ok = true then slvR l x nn nn else []) = M := ⟨_, rfl⟩
    have E1 := implValueSolve_any a1 a2 c1 c2 nn nx l x w1 hn hnx (by omega) hsz hit.matR hrx
    have E2 := fun (W : World) (h : w1.Since w1.heap.size W) => specValueSolve_any a1 a2 c1 c2 nn nx l x W hn hnx (by omega) hsz (hit.matR.since h) (hrx.since h)
    unfold ImplS at E1
    unfold SpecS at E2
    rw [hok, hv, hM] at E1
    simp only [hok, hv, hM] at E2
    obtain ⟨q, hq⟩ : ∃ q, M.length = q := ⟨_, rfl⟩
    rw [hq] at E1
    simp only [hq] at E2
    have hq5 : q ≤ 6 := by
      rw [← hq, ← hM]
      cases ok with
      | false => simp
      | true => rw [if_pos rfl, slvR_length]; omega
    replace E1 := Lib.hid E1
    replace E2 := Lib.hid E2
    have HQ := Lib.hid hq
    have HOK := Lib.hid hok
    have HV := Lib.hid hv
    have HMM := Lib.hid hM
    have HNX := Lib.hid hnx
    clear hn hsz hit hs1 h1 h5 hlens hq hok hv hM hrx hnx
    go_wp2_with fail
    refine (E1.out).mono ?_
    rintro e w2 ⟨a3, c3, rfl, hs2, ho2⟩
    have HO := Lib.hid (fun (W : World) (h : w2.Since w2.heap.size W) => ho2.rowR.since h)
    have HS2 := Lib.hid hs2
    clear ho2 hs2
    go_wp2_with fail
    refine (E2.out w2 HS2.out).mono ?_
    rintro e w3 ⟨a4, c4, rfl, hs3, hi3⟩
    have ES := Lib.hid (fun (W : World) (h : w3.Since w3.heap.size W) => sameInts_same a3 a4 c3 c4 q M W HQ.out (by omega) (HO.out W (hs3.trans (since_mono h hs3.size))) (hi3.rowR.since h))
    have HS3 := Lib.hid (HS2.out.trans (since_mono hs3 HS2.out.size))
    have HS23 := Lib.hid hs3
    clear hi3 hs3
    cases ok with
    | false =>
      go_wp2_with fail
      refine (ES.out w3 (World.Since.refl _ _)).mono ?_
      rintro e w4 ⟨rfl, hd4⟩
      have HS4 := Lib.hid (hd4.since w3.heap.size)
      clear hd4
      go_wp2_with fail
      refine (ES.out w4 HS4.out).mono ?_
      rintro e w5 ⟨rfl, hd5⟩
      have HS5 := Lib.hid (HS4.out.trans (since_mono (hd5.since w4.heap.size) HS4.out.size))
      clear hd5
      go_wp2
      go_ret
      exact ⟨rfl, HS1.out.trans (since_mono (HS3.out.trans (since_mono HS5.out HS3.out.size)) HS1.out.size)⟩
    | true =>
      obtain ⟨hSM, hn6, hn1, hxn⟩ := solM_of HOK.out HN.out
      have hv := HV.out
      have hM := HMM.out
      rw [if_pos rfl] at hv hM
      rw [hv, hM] at hSM
      have hqn : q = nn := by rw [← HQ.out, ← hM, slvR_length]
      have hnn : nx = nn := by rw [← HNX.out]; exact hxn
      subst hqn
      subst hnn
      have HSM := Lib.hid hSM
      have hv0 := hSM.v0
      have hvb : (v != 0) = true := by simpa using hv0
      clear hv hM hSM hxn
      go_wp2_with fail
      refine (ES.out w3 (World.Since.refl _ _)).mono ?_
      rintro e w4 ⟨rfl, hd4⟩
      have HS4 := Lib.hid (HS3.out.trans (since_mono (hd4.since w3.heap.size) HS3.out.size))
      have HS24 := Lib.hid (HS23.out.trans (since_mono (hd4.since w3.heap.size) HS23.out.size))
      clear hd4
      obtain ⟨bt, ot, At, Ct, eat, hlen1, hcell⟩ := (HM.out w4 HS4.out).gridR HN.out HSM.out.sq.1 HSM.out.sq.2
      obtain ⟨bx, ox, eax, hcx⟩ := HX.out w4 HS4.out (by rw [HNX.out]; omega)
      obtain ⟨bm, om, eam, hcm⟩ := HO.out w4 HS24.out (by rw [HQ.out]; omega)
      subst eat
      subst eax
      subst eam
      have HC := Lib.hid hcell
      have HCX := Lib.hid hcx
      have HCM := Lib.hid hcm
      have hmix : Try.prog.follows .mixedOrders = true := by kernel_rfl
      clear hlen1 hcell hcx hcm
      go_wp2
      go_loopg [11, 12, 13] nx (fun g i _ _ wr => ∃ r : Nat, r ≤ nx ∧ g = nx - r ∧ i = .int .i64 r ∧ Drawn w4 wr)
      case atStart => exact ⟨0, Nat.zero_le _, rfl, rfl, Drawn.refl _⟩
      case round =>
        obtain ⟨r, hr, rfl, rfl, hD⟩ := hrel
        by_cases hlt : r < nx
        · obtain ⟨f, hf⟩ : ∃ f : Nat → Int, f = fun k => at2 l r k * M.getD k 0 := ⟨_, rfl⟩
          have hpart := fun (k : Nat) (hk : k ≤ nx) => HSM.out.part hlt k hk
          have heq := HSM.out.eq r hlt
          rw [← hf] at heq
          simp only [← hf] at hpart
          have HP := Lib.hid hpart
          have HE := Lib.hid heq
          have HF := Lib.hid hf
          clear hpart heq hf
          go_wp2
          go_loopg [12, 13] nx (fun g s j wi => ∃ c : Nat, c ≤ nx ∧ g = nx - c ∧ s = .int .i64 (sumN f c) ∧ j = .int .i64 c ∧ Drawn w4 wi)
          case atStart => exact ⟨0, Nat.zero_le _, rfl, rfl, rfl, hD⟩
          case round =>
            obtain ⟨c, hc', rfl, rfl, rfl, hDI⟩ := hrel
            clear hD
            by_cases hcm : c < nx
            · obtain ⟨b', o', e1, e2⟩ := HC.out r c hlt hcm
              have e3 := HCM.out c (by rw [HQ.out]; exact hcm)
              rw [← hDI.cell] at e1 e2 e3
              have hb1 := HP.out c (by omega)
              have hb2 := HP.out (c + 1) (by omega)
              have ht := HSM.out.t r c hlt hcm
              have hm := HSM.out.m c hcm
              have hfc : f c = at2 l r c * M.getD c 0 := by rw [HF.out]
              have hs : sumN f (c + 1) = sumN f c + f c := rfl
              obtain ⟨p, hp⟩ : ∃ p, at2 l r c = p := ⟨_, rfl⟩
              obtain ⟨m, hmm⟩ : ∃ m, M.getD c 0 = m := ⟨_, rfl⟩
              obtain ⟨s, hss⟩ : ∃ s, sumN f c = s := ⟨_, rfl⟩
              rw [hp] at e2 ht hfc
              rw [hmm] at e3 hm hfc
              rw [hss] at hs hb1
              rw [hs, hfc] at hb2
              rw [hfc] at hs
              rw [hss]
              have hmul := mul_bdB ht.1 ht.2 hm.1 hm.2
              have hw1 : IntKind.i64.wrap (p * m) = p * m := IntWalk.i64_in _ ⟨by omega, by omega⟩
              have hw2 : IntKind.i64.wrap (s + p * m) = s + p * m := IntWalk.i64_in _ ⟨by omega, by omega⟩
              have HSN := Lib.hid hs
              clear hp hmm hss hs hfc hb1 hb2 hmul ht hm
              go_wp2
              go_still_tail 14, hmix
              go_wp2
              go_roundg (nx - (c + 1))
              case measure => omega
              case rel => exact ⟨c + 1, by omega, rfl, by rw [HSN.out], by go_num, hDI.trans (Drawn.mk _ _)⟩
            · have : c = nx := by omega
              subst this
              have hcell := HCX.out r (by rw [HNX.out]; exact hlt)
              rw [← hDI.cell] at hcell
              have hb1 := HP.out c (Nat.le_refl _)
              have heq := HE.out
              obtain ⟨y, hy⟩ : ∃ y, x.getD r 0 = y := ⟨_, rfl⟩
              rw [hy] at hcell heq
              rw [heq] at hb1
              rw [heq]
              have hwy : IntKind.i64.wrap (v * y) = v * y := IntWalk.i64_in _ ⟨by omega, by omega⟩
              clear heq hy hb1
              go_wp2
              go_roundg (c - (r + 1))
              case measure => omega
              case rel => exact ⟨r + 1, by omega, rfl, by go_num, hDI⟩
        · have HD := Lib.hid (hD.since w4.heap.size)
          go_wp2
          go_ret
          exact ⟨rfl, HS1.out.trans (since_mono (HS4.out.trans (since_mono HD.out HS4.out.size)) HS1.out.size)⟩

end Go.Proofs.Ytikjeaoapeaabaa
end

section
namespace Go.Proofs.Ytikjeaoapeaabaa
open Go.ChangeShapes Go.WideShapes Go.ChangeAt Go.RowKit Go.Deep

theorem below_since' {B : Nat} {w w' : World} (h : Below B w w') : w.Since B w' := ⟨h.os, h.tape, h.output, h.size, h.block⟩
theorem since_below' {B : Nat} {w w' : World} (h : w.Since B w') : Below B w w' := ⟨h.os, h.tape, h.output, h.size, h.block⟩

section
variable {H : Type} {enc : TypeId × Value → H} {P : Program}
theorem post_of_below {f : Func} {s : ChangeSpec} {apart fresh handsOn again : Bool} {W W' : World} {args : Array Value} {v : Value} {ds gs : List (DataW H)} {before pa pv : List MemPlace}
    (hW : DataW.Whole enc P f.params.toList s.vars apart W args.toList ds gs before)
    (hres : ∀ (b : Nat) (sp : Nat → Bool) (hd : Bool), DataW.TrodAll enc P W' b sp hd f.resultTypes.toList (v.resultList f.resultTypes.size) (s.fn H (ds ++ gs)).results [])
    (hargs : ∀ sp : Nat → Bool, (∀ p ∈ before, sp p.block = true) → DataW.TrodAll enc P W' 0 sp true f.params.toList args.toList (s.fn H (ds ++ gs)).args pa)
    (hvars : ∀ sp : Nat → Bool, (∀ p ∈ before, sp p.block = true) → DataW.TrodVars enc P W' sp s.vars (s.fn H (ds ++ gs)).vars pv)
    (hps : before = pa ++ pv) (hb : Below W.heap.size W W') (hag : again = false) :
    s.post enc P f apart fresh handsOn again W args v W' := by
  have hlt : ∀ p ∈ before, p.block < W.heap.size := fun p hp => hW.lt p hp
  have hold : ∀ p ∈ before, (fun b => decide (b < W.heap.size)) p.block = true := fun p hp => by simpa using hlt p hp
  refine ⟨ds, gs, before, [], pa, pv, hW, hres _ _ _, hargs _ hold, hvars _ hold, World.keptBut_mono (fun p hp => ⟨hp, ?_⟩) (hb.frame (· ∈ before)), fun h => ?_⟩
  · rw [hps, List.mem_append] at hp
    exact Or.inr hp
  · rw [hag] at h; cases h

theorem open_mat {W : World} {t e q : TypeId} {a : Option Addr} {n cap : Nat} {d : DataW H} {p : List MemPlace} (ht : P.underlying t = some (.slice e)) (he : P.underlying e = some (.slice q)) (hq : P.underlying q = some (.int .i64))
    (ce : P.cellsOf e = 1) (cq : P.cellsOf q = 1) (h : DataW.Trod enc P W 0 (fun _ => true) true t (.slice a n cap) d p) :
    ∃ l : List (List Int), l.length = n ∧ MatR W a l ∧ n ≤ 9223372036854775807 ∧ ∀ r, r < l.length → (l.getD r []).length ≤ 9223372036854775807 := by
  obtain ⟨fuel, hf⟩ := h
  rcases open_int_rows ht he hq ce cq hf with ⟨hcs, _⟩ | ⟨a', len', cap', A, L, C, Z, hcs, _, hl, hm, _, hrows⟩
  · simp [Value.cells] at hcs
    obtain ⟨rfl, rfl, rfl⟩ := hcs
    exact ⟨[], rfl, (fun h => by simp at h), by omega, fun r hr => by simp at hr⟩
  · simp [Value.cells] at hcs
    obtain ⟨rfl, rfl, rfl⟩ := hcs
    have hmx : maxLen = 9223372036854775807 := rfl
    have hlen : ∀ r, r < n → ((Z r).take (L r)).length = L r := fun r hr => by
      obtain ⟨_, h1, _, h2, _⟩ := hrows r (by omega)
      rw [List.length_take]; omega
    have hget : ∀ r, r < n → ((List.range n).map fun r => (Z r).take (L r)).getD r [] = (Z r).take (L r) := fun r hr => by simp [List.getD, hr]
    refine ⟨(List.range n).map fun r => (Z r).take (L r), by simp, fun h => ?_, by omega, fun r hr => ?_⟩
    · obtain ⟨b, o, spot⟩ := a'
      simp at h
      have hspot : spot = none := by simpa [Addr.add] using World.cell?_spot (hrows 0 (by omega)).1
      subst hspot
      refine ⟨b, o, A, C, rfl, fun r hr => ?_⟩
      simp at hr
      rw [hget r hr, hlen r hr]
      obtain ⟨g1, g2, g3, g4, g5, g6, g7⟩ := hrows r (by omega)
      refine ⟨by rw [← add_plain]; exact g1, fun h0 => ?_⟩
      rw [hlen r hr] at h0
      cases hA : A r with
      | none => have := g6 hA; omega
      | some a'' =>
        obtain ⟨_, hcell⟩ := g7 a'' hA
        obtain ⟨b', o', sp⟩ := a''
        have hs : sp = none := by simpa [Addr.add] using World.cell?_spot (hcell 0 (by omega))
        subst hs
        refine ⟨b', o', rfl, fun i hi => ?_⟩
        rw [hlen r hr] at hi
        rw [← add_plain, hcell i (by omega)]
        congr 2
        simp [List.getD, hi]
    · simp at hr
      rw [hget r hr, hlen r hr]
      obtain ⟨_, h1, h2, _⟩ := hrows r (by omega)
      omega
end

theorem Try.own : ownKnob Try.prog.godebug = none := by kernel_rfl
theorem Try.laidOut : laidOutB Try.prog = true := by kernel_rfl
theorem Try.cellsR : Try.prog.cellsOf 33 = 1 := by kernel_rfl
theorem Try.cellsI : Try.prog.cellsOf 3 = 1 := by kernel_rfl

end Go.Proofs.Ytikjeaoapeaabaa
end

section
namespace Go.Proofs.Ytikjeaoapeaabaa
open Go.ChangeShapes Go.WideShapes Go.ChangeAt Go.RowKit Go.Deep

theorem wf_u8_of {n : Int} (h : (Lit.int .u8 n).wf = true) : 0 ≤ n ∧ n ≤ 255 := by
  have h2 : (0 : Int) ≤ n ∧ n ≤ 255 := by simpa [Lit.wf, IntKind.min, IntKind.max, IntKind.signed, IntKind.bits] using h
  exact h2

theorem open_bytes {H : Type} {enc : TypeId × Value → H} {P : Program} {W : World} {t e : TypeId} {a : Option Addr} {n cap : Nat} {d : DataW H} {p : List MemPlace} (ht : P.underlying t = some (.slice e)) (he : P.underlying e = some (.int .u8)) (ce : P.cellsOf e = 1)
    (h : DataW.Trod enc P W 0 (fun _ => true) true t (.slice a n cap) d p) : BytR W a n ∧ n ≤ cap ∧ cap ≤ 9223372036854775807 := by
  obtain ⟨fuel, hf⟩ := h
  rcases open_ints ht he ce hf with ⟨hcs, _⟩ | ⟨a', len, cap', zs, hcs, _, hl, hm, hlen, _, hcell, hwf⟩
  · simp [Value.cells] at hcs
    obtain ⟨rfl, rfl, rfl⟩ := hcs
    exact ⟨fun h => absurd h (by omega), by omega, by omega⟩
  · simp [Value.cells] at hcs
    obtain ⟨rfl, rfl, rfl⟩ := hcs
    have hmx : maxLen = 9223372036854775807 := rfl
    have hzl : zs.length = cap := by simpa using hlen
    refine ⟨fun h0 => ?_, by omega, by omega⟩
    obtain ⟨b, o, spot⟩ := a'
    have hspot : spot = none := by simpa [Addr.add] using World.cell?_spot (hcell 0 (by omega))
    subst hspot
    refine ⟨b, o, rfl, fun i hi => ?_⟩
    have hi' : i < zs.length := by omega
    have hw := wf_u8_of (hwf (zs.getD i 0) (by simp [List.getD, hi']))
    obtain ⟨z, hz⟩ := Int.eq_ofNat_of_zero_le hw.1
    refine ⟨z, by omega, ?_⟩
    rw [← add_plain, hcell i hi', hz]

theorem Try.cellsB : Try.prog.cellsOf 5 = 1 := by kernel_rfl

end Go.Proofs.Ytikjeaoapeaabaa
end
