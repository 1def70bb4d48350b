import Derived.Test.YtikjeaoapeaabaaTable
import Derived.Test.YtikjeaoapeaabaaHarn2
import Derived.Test.YtikjeaoapeaabaaDet
import Derived.Test.YtikjeaoapeaabaaNewTable
import Derived.Test.YtikjeaoapeaabaaRowsV
import Derived.Test.YtikjeaoapeaabaaPartImpl
import Derived.Test.YtikjeaoapeaabaaLSum
import Derived.RangeFuncFrom
import Derived.Maps.Own
import Derived.Maps.OwnOps
import Derived.Maps.AppendAt
import Derived.Test.YtikjeaoapeaabaaWR
import Derived.Deep.DeepCutAuto
import Derived.Test.YtikjeaoapeaabaaBar
import Derived.Test.YtikjeaoapeaabaaCondP
import Derived.Test.YtikjeaoapeaabaaCondV
import Derived.Test.YtikjeaoapeaabaaRows
import Derived.Test.YtikjeaoapeaabaaData
import Derived.ProofKit
import Derived.Deep.Matrix
import Derived.Test.YtikjeaoapeaabaaDraw0

section
namespace Go.Proofs.Ytikjeaoapeaabaa
open Go.RowKit Go.Deep

theorem BD.inT {B : Nat} {w : World} {v : Value} {l : List (List Int)} {A : Nat → Option Addr} {C : Nat → Nat} (h : BD B w v l A C) : ∃ a cap, v = .slice a l.length cap ∧ InT B w.heap.size w a l := by
  by_cases h0 : 0 < l.length
  · obtain ⟨b, cap, cur, e, hb, hg, hc⟩ := h.top h0
    refine ⟨_, cap, e, fun _ => ⟨b, 0, A, fun r => ((A r).getD default).block, fun _ => 0, C, rfl, ⟨hb, (Array.getElem?_eq_some_iff.1 hg).1⟩, fun r hr => ⟨?_, fun h1 => ?_⟩⟩⟩
    · rw [Nat.zero_add]; simp [World.cell?, hg, hc r hr]
    · obtain ⟨g, e, hB, hw⟩ := h.row hr
      have e' : ((A r).getD default).block = g := by rw [e]; rfl
      dsimp only
      rw [e']
      exact ⟨e, ⟨hB, hw.lt⟩, fun i hi => by rw [Nat.zero_add]; exact hw.cell hi⟩
  · rcases h.own.2 with ⟨hv, hn⟩ | ⟨g, cap, cur, e, _⟩
    · exact ⟨none, 0, by rw [hv, hn], fun h => absurd h h0⟩
    · exact ⟨_, cap, e, fun h => absurd h h0⟩

theorem BD.row_ne {B : Nat} {w : World} {l : List (List Int)} {A : Nat → Option Addr} {C : Nat → Nat} {b cap n : Nat} (h : BD B w (.slice (some ⟨b, 0, none⟩) n cap) l A C) {g : Nat} {x : List Int} (hw : RowB w g x) : g ≠ b := by
  rintro rfl
  obtain ⟨cs, hc, _⟩ := hw
  rcases h.own.2 with ⟨e, _⟩ | ⟨g', cap', cur, e, _, hgg, _⟩
  · cases e
  · injection e with e
    injection e with e
    injection e with e
    rw [← e, hc] at hgg
    injection hgg with hgg
    injection hgg with _ e2 _
    exact absurd e2 (by decide)

theorem BD.addr_ne {B : Nat} {w : World} {v : Value} {l : List (List Int)} {A : Nat → Option Addr} {C : Nat → Nat} (h : BD B w v l A C) {r j g g' : Nat} (hr : r < l.length) (hj : j < l.length) (hA : A r = some ⟨g, 0, none⟩) (hA' : A j = some ⟨g', 0, none⟩) (hne : j ≠ r) : g' ≠ g := by
  rintro rfl
  exact hne (h.apart j r hj hr (by rw [hA, hA']))

theorem BD.cellTop {B : Nat} {w : World} {l : List (List Int)} {A : Nat → Option Addr} {C : Nat → Nat} {b cap n : Nat} (h : BD B w (.slice (some ⟨b, 0, none⟩) n cap) l A C) {r : Nat} (hr : r < l.length) :
    w.cell? ⟨b, r, none⟩ = some (.slice (A r) (l.getD r []).length (C r)) ∧ w.frozen? ⟨b, r, none⟩ = false ∧ b < w.heap.size := by
  obtain ⟨b', cp', cur, hv, _, hcur, hc⟩ := h.top (by omega)
  injection hv with hv _ _
  injection hv with hv
  injection hv with hv
  subst hv
  exact ⟨by simp [World.cell?, hcur, hc r hr], by simp [World.frozen?, hcur], (Array.getElem?_eq_some_iff.1 hcur).1⟩

theorem BD.setRow {B : Nat} {w w5 : World} {l : List (List Int)} {A : Nat → Option Addr} {C : Nat → Nat} {b cap n : Nat} (h : BD B w (.slice (some ⟨b, 0, none⟩) n cap) l A C) {r g : Nat} (hr : r < l.length) (hA : A r = some ⟨g, 0, none⟩) (hg : w.grownBy w5 (some g)) {g2 cp k : Nat} {y : List Int}
    (hy : RW B w5 (.slice (some ⟨g2, 0, none⟩) k cp) y) (hk : y.length = k) (h0 : 0 < k) : InT B w5.heap.size (w5.setCell ⟨b, r, none⟩ (.slice (some ⟨g2, 0, none⟩) k cp)) (some ⟨b, 0, none⟩) (l.set r y) := by
  subst hk
  obtain ⟨b', cap', cur, e, hb, hcur, hc⟩ := h.top (by omega)
  injection e with e en _
  injection e with e
  injection e with e
  subst e
  obtain ⟨g', hA', hBg, hrb⟩ := h.row hr
  rw [hA] at hA'
  injection hA' with hA'
  injection hA' with hA'
  subst hA'
  have hgb := h.row_ne hrb
  have hbl : b < w.heap.size := (Array.getElem?_eq_some_iff.1 hcur).1
  have hcur5 : w5.heap[b]? = some (.cells cur 33 (0, 0)) := (hg.block b hbl (fun e => by injection e with e; omega)).trans hcur
  obtain ⟨hB2, hrb2⟩ := hy.rowB h0
  have hg2b : g2 ≠ b := by
    rintro rfl
    obtain ⟨cs, h1, _⟩ := hrb2
    rw [h1] at hcur5
    injection hcur5 with h2
    injection h2 with _ h2 _
    exact absurd h2 (by decide)
  have hbl5 : b < w5.heap.size := (Array.getElem?_eq_some_iff.1 hcur5).1
  intro _
  refine ⟨b, 0, fun j => if j = r then some ⟨g2, 0, none⟩ else A j, fun j => if j = r then g2 else ((A j).getD default).block, fun _ => 0, fun j => if j = r then cp else C j, rfl, ⟨hb, hbl5⟩, fun j hj => ?_⟩
  rw [List.length_set] at hj
  show (w5.setCell ⟨b, r, none⟩ _).cell? ⟨b, 0 + j, none⟩ = _ ∧ _
  rw [Nat.zero_add]
  by_cases ej : j = r
  · subst ej
    have e1 : (l.set j y).getD j [] = y := by simp [List.getD, hj]
    rw [e1]
    simp only [↓reduceIte]
    refine ⟨World.cell?_setCell_same' _ _ _ (by simp [World.cell?, hcur5, hc j hj]), fun _ => ⟨trivial, ⟨hB2, hrb2.lt⟩, fun i hi => ?_⟩⟩
    rw [Nat.zero_add]
    exact cell_set_far (hrb2.cell hi) hg2b
  · have e1 : (l.set r y).getD j [] = l.getD j [] := by simp [List.getD, List.getElem?_set_ne (Ne.symm ej)]
    rw [e1]
    simp only [if_neg ej]
    obtain ⟨gj, hAj, hBj, hrbj⟩ := h.row hj
    have hgj := h.addr_ne hr hj hA hAj ej
    have hrb5 : RowB w5 gj (l.getD j []) := hrbj.of_block (hg.block gj hrbj.lt (fun e => by injection e with e; omega))
    have hgjb := h.row_ne hrbj
    refine ⟨?_, fun _ => ?_⟩
    · rw [World.cell?_setCell_other _ _ _ _ (fun e => ej (by injection e with _ e; exact e.symm))]
      simp [World.cell?, hcur5, hc j hj]
    · have e' : ((A j).getD default).block = gj := by rw [hAj]; rfl
      rw [e']
      exact ⟨hAj, ⟨hBj, hrb5.lt⟩, fun i hi => by rw [Nat.zero_add]; exact cell_set_far (hrb5.cell hi) hgjb⟩

theorem BD.setNum {B : Nat} {w : World} {l : List (List Int)} {A : Nat → Option Addr} {C : Nat → Nat} {b cap n : Nat} (h : BD B w (.slice (some ⟨b, 0, none⟩) n cap) l A C) {r g k : Nat} (hr : r < l.length) (hA : A r = some ⟨g, 0, none⟩) (hk : k < (l.getD r []).length) (z : Int) :
    InT B w.heap.size (w.setCell ⟨g, k, none⟩ (.int .i64 z)) (some ⟨b, 0, none⟩) (l.set r ((l.getD r []).set k z)) := by
  obtain ⟨b', cap', cur, e, hb, hcur, hc⟩ := h.top (by omega)
  injection e with e en _
  injection e with e
  injection e with e
  subst e
  obtain ⟨g', hA', hBg, hrb⟩ := h.row hr
  rw [hA] at hA'
  injection hA' with hA'
  injection hA' with hA'
  subst hA'
  have hgb := h.row_ne hrb
  intro _
  refine ⟨b, 0, A, fun j => ((A j).getD default).block, fun _ => 0, C, rfl, ⟨hb, (Array.getElem?_eq_some_iff.1 hcur).1⟩, fun j hj => ?_⟩
  rw [List.length_set] at hj
  show (w.setCell ⟨g, k, none⟩ _).cell? ⟨b, 0 + j, none⟩ = _ ∧ _
  rw [Nat.zero_add]
  have hlen : ((l.set r ((l.getD r []).set k z)).getD j []).length = (l.getD j []).length := by
    by_cases ej : j = r
    · subst ej; simp [List.getD, hj]
    · simp [List.getD, List.getElem?_set_ne (Ne.symm ej)]
  rw [hlen]
  refine ⟨cell_set_far (by simp [World.cell?, hcur, hc j hj]) (Ne.symm hgb), fun _ => ?_⟩
  obtain ⟨gj, hAj, hBj, hrbj⟩ := h.row hj
  have e' : ((A j).getD default).block = gj := by rw [hAj]; rfl
  dsimp only
  rw [e']
  refine ⟨hAj, ⟨hBj, hrbj.lt⟩, fun i hi => ?_⟩
  rw [Nat.zero_add]
  by_cases ej : j = r
  · subst ej
    rw [hA] at hAj
    injection hAj with hAj
    injection hAj with hAj
    subst hAj
    have e1 : (l.set j ((l.getD j []).set k z)).getD j [] = (l.getD j []).set k z := by simp [List.getD, hj]
    rw [e1]
    by_cases ei : i = k
    · subst ei
      rw [World.cell?_setCell_same' _ _ _ (by rw [hrbj.cell hi]; rfl)]
      simp [List.getD] at hi ⊢
      simp [hi]
    · rw [World.cell?_setCell_other _ _ _ _ (fun e => ei (by injection e with _ e; exact e.symm)), hrbj.cell hi]
      simp [List.getD, List.getElem?_set_ne (Ne.symm ei)]
  · have hgj := h.addr_ne hr hj hA hAj ej
    have e1 : (l.set r ((l.getD r []).set k z)).getD j [] = l.getD j [] := by simp [List.getD, List.getElem?_set_ne (Ne.symm ej)]
    rw [e1]
    exact cell_set_far (hrbj.cell hi) hgj

theorem InT.kept {lo hi : Nat} {w w' : World} {a : Option Addr} {l : List (List Int)} {G : Nat} (h : InT lo hi w a l) (hg : w.grownBy w' (some G)) (hG : G < lo) : InT lo hi w' a l :=
  h.frame (lo' := G) (hi' := G + 1) ⟨hg.os, hg.tape, hg.output, hg.size, fun k hk ho => hg.block k hk (fun e => by injection e with e; omega)⟩ (.inr (by omega))

end Go.Proofs.Ytikjeaoapeaabaa
end

section
namespace Go.Proofs.Ytikjeaoapeaabaa
open Go.RowKit Go.Deep

def Drawn0 (w w' : World) (R K : Nat) (a : Option Addr) (l : List (List Int)) : Prop :=
  1 ≤ l.length ∧ l.length ≤ R ∧ (∀ j, j < l.length → 1 ≤ (l.getD j []).length ∧ (l.getD j []).length ≤ K + 1) ∧ InT w.heap.size w'.heap.size w' a l

theorem lens_set {l : List (List Int)} {r : Nat} {y : List Int} {n m K : Nat} (hl : l.length = n) (h : ∀ j, j < n → (l.getD j []).length = m) (hm : 1 ≤ m ∧ m ≤ K) (hy : 1 ≤ y.length ∧ y.length ≤ K + 1) : ∀ j, j < (l.set r y).length → 1 ≤ ((l.set r y).getD j []).length ∧ ((l.set r y).getD j []).length ≤ K + 1 := by
  intro j hj
  rw [List.length_set] at hj
  by_cases e : j = r
  · subst e
    rw [show (l.set j y).getD j [] = y by simp [List.getD, hj]]
    exact hy
  · rw [show (l.set r y).getD j [] = l.getD j [] by simp [List.getD, List.getElem?_set_ne (Ne.symm e)], h j (by omega)]
    omega

end Go.Proofs.Ytikjeaoapeaabaa
end

section
namespace Go.Proofs.Ytikjeaoapeaabaa
open Go.RowKit Go.Deep

set_option maxHeartbeats 1000000 in
theorem l6Open_any (a : Option Addr) (nb cb : Nat) (w : World) (hc : nb ≤ cb) (h63 : cb ≤ 9223372036854775807) (hb : BytR w a nb) :
    Calls Try.prog 76 #[.slice a nb cb] w fun e w' => ∃ n' c', e = .returned (.pointer (some ⟨w.heap.size, 0, none⟩)) ∧ w.Since w.heap.size w' ∧ w'.heap.size = w.heap.size + 1 ∧ RD w w' w.heap.size a n' c' 80 0 := by
  by_cases hl : 2000 < nb
  · have hl' : decide ((2000 : Int) < (nb : Int)) = true := by simp; omega
    have h2 : (2000 : Int) ≤ (cb : Int) := by omega
    obtain ⟨b, o, rfl, hcell⟩ := hb (by omega)
    go_enter Try.func76, Try.ntmps76
    go_wp2
    go_ret
    exact ⟨_, _, rfl, (World.Since.refl _ _).alloc (Nat.le_refl _) _, by simp, ⟨heap_alloc_new _ _, Nat.le_refl _, (World.Since.refl _ _).alloc (Nat.le_refl _) _, fun _ => ⟨b, o, rfl, fun i hi => hcell i (by omega)⟩, by omega⟩⟩
  · have hl' : decide ((2000 : Int) < (nb : Int)) = false := by simp; omega
    go_enter Try.func76, Try.ntmps76
    go_wp2
    go_ret
    exact ⟨_, _, rfl, (World.Since.refl _ _).alloc (Nat.le_refl _) _, by simp, ⟨heap_alloc_new _ _, Nat.le_refl _, (World.Since.refl _ _).alloc (Nat.le_refl _) _, hb, by omega⟩⟩

def DrawnT (w w' : World) (R K : Nat) (a : Option Addr) (l : List (List Int)) : Prop :=
  1 ≤ l.length ∧ l.length ≤ R ∧ (∀ j, j < l.length → 1 ≤ (l.getD j []).length ∧ (l.getD j []).length ≤ K + 1) ∧ InT w.heap.size w'.heap.size w' a l

end Go.Proofs.Ytikjeaoapeaabaa
end

section
namespace Go.Proofs.Ytikjeaoapeaabaa
open Go.RowKit Go.Deep

set_option maxRecDepth 100000 in
set_option maxHeartbeats 4000000 in
theorem l91Square_any (w0 w : World) (G nb c p R : Nat) (a : Option Addr) (h : RD w0 w G a nb c 80 p) (hR1 : 1 ≤ R) (hR : R ≤ 8) (hp : p ≤ 40000) :
    Calls Try.prog 77 #[.pointer (some ⟨G, 0, none⟩), .int .i64 R] w fun e w' => ∃ a' cap l p', e = .returned (.slice a' l.length cap) ∧ w.grownBy w' (some G) ∧ RD w0 w' G a nb c 80 p' ∧ p' ≤ p + 1200 ∧ Drawn0 w w' R R a' l := by
  have hG := h.lt
  have HRD := Lib.hid h
  clear h
  go_enter Try.func77, Try.ntmps77
  go_wp2_with fail
  refine (pick_any w0 _ G nb c _ a _ HRD.out (by omega)).mono ?_
  rintro e w1 ⟨y1, rfl, hy1, hg1, hd1⟩
  obtain ⟨n, hn, hnn⟩ : ∃ n : Nat, IntKind.i64.wrap (1 + (y1 : Int)) = n ∧ n = y1 + 1 := ⟨y1 + 1, (IntWalk.i64_in _ ⟨by omega, by omega⟩).trans (by omega), rfl⟩
  have hn1 : 1 ≤ n ∧ n ≤ R := by omega
  have HD2 := Lib.hid hd1
  have HG2 := Lib.hid hg1
  clear hd1 hg1 hnn hy1 HRD
  go_wp2_with fail
  refine (l91Table_any w0 _ G nb c _ n n a HD2.out (by omega) (by omega) (by omega) (by omega)).mono ?_
  rintro e w3 ⟨v, l, A, C, p3, rfl, hl, hlm, hg3, hd3, hp3, hB⟩
  obtain ⟨b, cp, cur, hv, hbb, hcur, hc⟩ := hB.top (by omega)
  rw [hl] at hv
  subst hv
  have hG2 := HG2.out.size
  have HD3 := Lib.hid hd3
  have HG3 := Lib.hid (grown_trans HG2.out hg3)
  have HB := Lib.hid hB
  clear hd3 hg3 hcur hc hB HD2
  go_wp2_with fail
  refine (pick_any w0 _ G nb c _ a _ HD3.out (by omega)).mono ?_
  rintro e w4 ⟨y4, rfl, hy4, hg4, hd4⟩
  have HG4 := Lib.hid (grown_trans HG3.out hg4)
  have HB4 := Lib.hid (HB.out.kept hg4 (by omega))
  have HD4 := Lib.hid hd4
  have hz4 := HG4.out.size
  clear hd4 hg4 HB HG3 HD3 hy4
  obtain ⟨g0, hA0, hg0, hrb0⟩ := HB4.out.row (r := 0) (by omega)
  by_cases hy0 : y4 = 0
  · subst hy0
    obtain ⟨t1, _, _⟩ := HB4.out.cellTop (r := 0) (by omega)
    rw [hlm 0 (by omega), hA0] at t1
    have t2 := hrb0.cell (i := 0) (by rw [hlm 0 (by omega)]; omega)
    have t3 := hrb0.frozen 0
    have hIT := HB4.out.setNum (r := 0) (k := 0) (by omega) hA0 (by rw [hlm 0 (by omega)]; omega) 31
    have hll : (l.set 0 ((l.getD 0 []).set 0 31)).length = n := by rw [List.length_set]; exact hl
    have hlens := lens_set (K := R) (r := 0) (y := (l.getD 0 []).set 0 31) hl hlm (by omega) (by rw [List.length_set, hlm 0 (by omega)]; omega)
    have HIT := Lib.hid hIT
    have HLL := Lib.hid hll
    have HLENS := Lib.hid hlens
    have HGS := Lib.hid (grown_set HG4.out (show w.heap.size ≤ g0 by omega) (k := 0) (.int .i64 31))
    have HDS := Lib.hid (HD4.out.grown (grown_set_any w4 g0 0 (.int .i64 31)) (fun i e => by cases e; omega))
    have p1 : 0 < n := by omega
    clear hrb0 hIT hll hlens hA0 hlm hl
    go_wp2
    go_ret
    exact ⟨_, _, l.set 0 ((l.getD 0 []).set 0 31), _, by rw [HLL.out]; rfl, HGS.out, HDS.out, by omega, by rw [HLL.out]; omega, by rw [HLL.out]; omega, HLENS.out, HIT.out.mono hG2 (by simp)⟩
  · clear hrb0 hA0 hg0
    by_cases hy1 : y4 = 1
    · subst hy1
      clear hlm hl HB4
      have hnp : IntKind.i64.wrap ((n : Int) + 1) = ((n + 1 : Nat) : Int) := (IntWalk.i64_in _ ⟨by omega, by omega⟩).trans (by omega)
      have E5 := l91Table_any w0 w4 G nb c _ n (n + 1) a HD4.out (by omega) (by omega) (by omega) (by omega)
      rw [show ((n + 1 : Nat) : Int) = (n : Int) + 1 by omega] at E5
      replace E5 := Lib.hid E5
      go_wp2_with fail
      refine (E5.out).mono ?_
      rintro e w5 ⟨v, l5, A5, C5, p5, rfl, hl, hlm, hg5, hd5, hp5, hB⟩
      obtain ⟨a', cap', hv, hIT⟩ := hB.inT
      rw [hl] at hv
      subst hv
      have HL := Lib.hid hl
      have HLM := Lib.hid hlm
      have HIT := Lib.hid hIT
      have HG5 := Lib.hid (grown_trans HG4.out hg5)
      have HD5 := Lib.hid hd5
      have hG4 := HG4.out.size
      clear hl hlm hIT hB hg5 hd5
      go_wp2
      go_ret
      exact ⟨_, _, l5, _, by rw [HL.out]; rfl, HG5.out, HD5.out, by omega, by rw [HL.out]; omega, by rw [HL.out]; omega, fun j hj => by rw [HLM.out j (by rw [← HL.out]; exact hj)]; omega, HIT.out.mono hG4 (Nat.le_refl _)⟩
    · have h1 : ((y4 : Int) == 0) = false := by simp; omega
      have h2 : ((y4 : Int) == 1) = false := by simp; omega
      obtain ⟨a', cap', hv, hIT⟩ := HB4.out.inT
      rw [hl] at hv
      injection hv with hv _ _
      subst hv
      have HL := Lib.hid hl
      have HLM := Lib.hid hlm
      have HIT := Lib.hid hIT
      clear hl hlm hIT
      go_wp2
      go_ret
      exact ⟨_, _, l, _, by rw [HL.out]; rfl, HG4.out, HD4.out, by omega, by rw [HL.out]; omega, by rw [HL.out]; omega, fun j hj => by rw [HLM.out j (by rw [← HL.out]; exact hj)]; omega, HIT.out.mono hG2 (Nat.le_refl _)⟩

set_option maxHeartbeats 1000000 in
theorem l91Squared_any (a : Option Addr) (nb cb : Nat) (w : World) (hc : nb ≤ cb) (h63 : cb ≤ 9223372036854775807) (hb : BytR w a nb) :
    Calls Try.prog 79 #[.slice a nb cb] w fun e w' => ∃ a' cap l, e = .returned (.slice a' l.length cap) ∧ w.Since w.heap.size w' ∧ DrawnT w w' 5 5 a' l := by
  have E := Lib.hid (l6Open_any a nb cb w hc h63 hb)
  clear hb
  go_enter Try.func79, Try.ntmps79
  go_wp2_with fail
  refine (E.out).mono ?_
  rintro e w1 ⟨n', c', rfl, hs, hz, hd⟩
  have HD := Lib.hid hd
  clear hd
  go_wp2_with fail
  refine (l91Square_any w w1 w.heap.size n' c' 0 5 a HD.out (by omega) (by omega) (by omega)).mono ?_
  rintro e w2 ⟨a', cap', l, p', rfl, hg, hd2, hp, h1, h5, hl, hit⟩
  go_wp2
  go_ret
  exact ⟨a', cap', l, rfl, hs.trans (since_grown hg (Nat.le_refl _) hs.size), h1, h5, hl, hit.mono hs.size (Nat.le_refl _)⟩

set_option maxHeartbeats 1000000 in
theorem drawValueOther_any (a : Option Addr) (nb cb : Nat) (w : World) (hc : nb ≤ cb) (h63 : cb ≤ 9223372036854775807) (hb : BytR w a nb) :
    Calls Try.prog 42 #[.slice a nb cb] w fun e w' => ∃ a' cap l, e = .returned (.slice a' l.length cap) ∧ w.Since w.heap.size w' ∧ DrawnT w w' 5 5 a' l := by
  have E := Lib.hid (l91Squared_any a nb cb w hc h63 hb)
  clear hb
  go_enter Try.func42, Try.ntmps42
  go_wp2_with fail
  refine (E.out).mono ?_
  rintro e w1 ⟨a', cap', l, rfl, hs, hd⟩
  go_wp2
  go_ret
  exact ⟨a', cap', l, rfl, hs, hd⟩

end Go.Proofs.Ytikjeaoapeaabaa
end

section
namespace Go.Proofs.Ytikjeaoapeaabaa
open Go.RowKit Go.Deep

theorem BD.num {B : Nat} {w : World} {l : List (List Int)} {A : Nat → Option Addr} {C : Nat → Nat} {b cap n : Nat} (h : BD B w (.slice (some ⟨b, 0, none⟩) n cap) l A C) {r g k : Nat} (hr : r < l.length) (hA : A r = some ⟨g, 0, none⟩) (hk : k < (l.getD r []).length) (z : Int) :
    BD B (w.setCell ⟨g, k, none⟩ (.int .i64 z)) (.slice (some ⟨b, 0, none⟩) n cap) (l.set r ((l.getD r []).set k z)) A C := by
  obtain ⟨g', hA', hBg, hrb⟩ := h.row hr
  rw [hA] at hA'
  injection hA' with hA'
  injection hA' with hA'
  subst hA'
  have hgb := h.row_ne hrb
  have hlen : ∀ j, j < l.length → ((l.set r ((l.getD r []).set k z)).getD j []).length = (l.getD j []).length := fun j hj => by
    by_cases ej : j = r
    · subst ej; simp [List.getD, hj]
    · simp [List.getD, List.getElem?_set_ne (Ne.symm ej)]
  refine ⟨?_, fun j hj => ?_, fun j j' h1 h2 e => h.apart j j' (by simpa using h1) (by simpa using h2) e⟩
  · rw [List.length_set]
    have e : ((List.range l.length).map fun j => Value.slice (A j) ((l.set r ((l.getD r []).set k z)).getD j []).length (C j)) = (List.range l.length).map fun j => Value.slice (A j) (l.getD j []).length (C j) :=
      List.map_congr_left fun j hj => by rw [hlen j (List.mem_range.1 hj)]
    rw [e]
    exact World.ownsRow.kept h.own (grown_set_any w g k (.int .i64 z)) (.inr (fun e => by simp [Value.ownBlock] at e; exact hgb e.symm))
  · rw [List.length_set] at hj
    refine ⟨by rw [hlen j hj]; exact (h.rows j hj).1, ?_⟩
    rw [hlen j hj]
    have hw := (h.rows j hj).2
    by_cases ej : j = r
    · subst ej
      have e1 : (l.set j ((l.getD j []).set k z)).getD j [] = (l.getD j []).set k z := by simp [List.getD, hj]
      rw [e1]
      rw [hA] at hw ⊢
      exact RW.set hw hk z
    · have e1 : (l.set r ((l.getD r []).set k z)).getD j [] = l.getD j [] := by simp [List.getD, List.getElem?_set_ne (Ne.symm ej)]
      rw [e1]
      obtain ⟨gj, hAj, hBj, hrbj⟩ := h.row hj
      have hgj := h.addr_ne hr hj hA hAj ej
      exact World.ownsRow.kept hw (grown_set_any w g k (.int .i64 z)) (.inr (fun e => by rw [hAj] at e; simp [Value.ownBlock] at e; exact hgj e))

set_option maxRecDepth 100000 in
set_option maxHeartbeats 4000000 in
theorem l91SquareB_any (w0 w : World) (G nb c p R : Nat) (a : Option Addr) (h : RD w0 w G a nb c 80 p) (hR1 : 1 ≤ R) (hR : R ≤ 8) (hp : p ≤ 40000) :
    Calls Try.prog 77 #[.pointer (some ⟨G, 0, none⟩), .int .i64 R] w fun e w' => ∃ v B A C l p', e = .returned v ∧ w.heap.size ≤ B ∧ BD B w' v l A C ∧ w.grownBy w' (some G) ∧ RD w0 w' G a nb c 80 p' ∧ p' ≤ p + 1200 ∧ 1 ≤ l.length ∧ l.length ≤ R ∧ ∀ j, j < l.length → 1 ≤ (l.getD j []).length ∧ (l.getD j []).length ≤ R + 1 := by
  have hG := h.lt
  have HRD := Lib.hid h
  clear h
  go_enter Try.func77, Try.ntmps77
  go_wp2_with fail
  refine (pick_any w0 _ G nb c _ a _ HRD.out (by omega)).mono ?_
  rintro e w1 ⟨y1, rfl, hy1, hg1, hd1⟩
  obtain ⟨n, hn, hnn⟩ : ∃ n : Nat, IntKind.i64.wrap (1 + (y1 : Int)) = n ∧ n = y1 + 1 := ⟨y1 + 1, (IntWalk.i64_in _ ⟨by omega, by omega⟩).trans (by omega), rfl⟩
  have hn1 : 1 ≤ n ∧ n ≤ R := by omega
  have HD2 := Lib.hid hd1
  have HG2 := Lib.hid hg1
  clear hd1 hg1 hnn hy1 HRD
  go_wp2_with fail
  refine (l91Table_any w0 _ G nb c _ n n a HD2.out (by omega) (by omega) (by omega) (by omega)).mono ?_
  rintro e w3 ⟨v, l, A, C, p3, rfl, hl, hlm, hg3, hd3, hp3, hB⟩
  obtain ⟨b, cp, cur, hv, hbb, hcur, hc⟩ := hB.top (by omega)
  rw [hl] at hv
  subst hv
  have hG2 := HG2.out.size
  have HD3 := Lib.hid hd3
  have HG3 := Lib.hid (grown_trans HG2.out hg3)
  have HB := Lib.hid hB
  clear hd3 hg3 hcur hc hB HD2
  go_wp2_with fail
  refine (pick_any w0 _ G nb c _ a _ HD3.out (by omega)).mono ?_
  rintro e w4 ⟨y4, rfl, hy4, hg4, hd4⟩
  have HG4 := Lib.hid (grown_trans HG3.out hg4)
  have HB4 := Lib.hid (HB.out.kept hg4 (by omega))
  have HD4 := Lib.hid hd4
  have hz4 := HG4.out.size
  clear hd4 hg4 HB HG3 HD3 hy4
  obtain ⟨g0, hA0, hg0, hrb0⟩ := HB4.out.row (r := 0) (by omega)
  by_cases hy0 : y4 = 0
  · subst hy0
    obtain ⟨t1, _, _⟩ := HB4.out.cellTop (r := 0) (by omega)
    rw [hlm 0 (by omega), hA0] at t1
    have t2 := hrb0.cell (i := 0) (by rw [hlm 0 (by omega)]; omega)
    have t3 := hrb0.frozen 0
    have hIT := HB4.out.num (r := 0) (k := 0) (by omega) hA0 (by rw [hlm 0 (by omega)]; omega) 31
    have hll : (l.set 0 ((l.getD 0 []).set 0 31)).length = n := by rw [List.length_set]; exact hl
    have hlens := lens_set (K := R) (r := 0) (y := (l.getD 0 []).set 0 31) hl hlm (by omega) (by rw [List.length_set, hlm 0 (by omega)]; omega)
    have HIT := Lib.hid hIT
    have HLL := Lib.hid hll
    have HLENS := Lib.hid hlens
    have HGS := Lib.hid (grown_set HG4.out (show w.heap.size ≤ g0 by omega) (k := 0) (.int .i64 31))
    have HDS := Lib.hid (HD4.out.grown (grown_set_any w4 g0 0 (.int .i64 31)) (fun i e => by cases e; omega))
    have p1 : 0 < n := by omega
    clear hrb0 hIT hll hlens hA0 hlm hl
    go_wp2
    go_ret
    exact ⟨_, _, A, C, l.set 0 ((l.getD 0 []).set 0 31), _, rfl, hG2, HIT.out, HGS.out, HDS.out, by omega, by rw [HLL.out]; omega, by rw [HLL.out]; omega, HLENS.out⟩
  · clear hrb0 hA0 hg0
    by_cases hy1 : y4 = 1
    · subst hy1
      clear hlm hl HB4
      have hnp : IntKind.i64.wrap ((n : Int) + 1) = ((n + 1 : Nat) : Int) := (IntWalk.i64_in _ ⟨by omega, by omega⟩).trans (by omega)
      have E5 := l91Table_any w0 w4 G nb c _ n (n + 1) a HD4.out (by omega) (by omega) (by omega) (by omega)
      rw [show ((n + 1 : Nat) : Int) = (n : Int) + 1 by omega] at E5
      replace E5 := Lib.hid E5
      go_wp2_with fail
      refine (E5.out).mono ?_
      rintro e w5 ⟨v, l5, A5, C5, p5, rfl, hl, hlm, hg5, hd5, hp5, hB⟩
      have HL := Lib.hid hl
      have HLM := Lib.hid hlm
      have HIT := Lib.hid hB
      have HG5 := Lib.hid (grown_trans HG4.out hg5)
      have HD5 := Lib.hid hd5
      have hG4 := HG4.out.size
      clear hl hlm hB hg5 hd5
      go_wp2
      go_ret
      exact ⟨_, _, A5, C5, l5, _, rfl, hG4, HIT.out, HG5.out, HD5.out, by omega, by rw [HL.out]; omega, by rw [HL.out]; omega, fun j hj => by rw [HLM.out j (by rw [← HL.out]; exact hj)]; omega⟩
    · have h1 : ((y4 : Int) == 0) = false := by simp; omega
      have h2 : ((y4 : Int) == 1) = false := by simp; omega
      have HL := Lib.hid hl
      have HLM := Lib.hid hlm
      clear hl hlm
      go_wp2
      go_ret
      exact ⟨_, _, A, C, l, _, rfl, hG2, HB4.out, HG4.out, HD4.out, by omega, by rw [HL.out]; omega, by rw [HL.out]; omega, fun j hj => by rw [HLM.out j (by rw [← HL.out]; exact hj)]; omega⟩

theorem len_num {l : List (List Int)} {r k : Nat} {z : Int} : ∀ j, j < l.length → ((l.set r ((l.getD r []).set k z)).getD j []).length = (l.getD j []).length := fun j hj => by
  by_cases ej : j = r
  · subst ej; simp [List.getD, hj]
  · simp [List.getD, List.getElem?_set_ne (Ne.symm ej)]

set_option maxRecDepth 100000 in
set_option maxHeartbeats 4000000 in
theorem drawValueCondense_any (a : Option Addr) (nb cb : Nat) (w : World) (hc : nb ≤ cb) (h63 : cb ≤ 9223372036854775807) (hb : BytR w a nb) :
    Calls Try.prog 40 #[.slice a nb cb] w fun e w' => ∃ a' cap l, e = .returned (.slice a' l.length cap) ∧ w.Since w.heap.size w' ∧ DrawnT w w' 5 5 a' l := by
  have E := Lib.hid (l6Open_any a nb cb w hc h63 hb)
  clear hb
  go_enter Try.func40, Try.ntmps40
  go_wp2_with fail
  refine (E.out).mono ?_
  rintro e w1 ⟨n', c', rfl, hs, hz, hd⟩
  have HD0 := Lib.hid hd
  have HS1 := Lib.hid hs
  have hz1 : w.heap.size < w1.heap.size := by omega
  clear hd hz hs
  go_wp2_with fail
  refine (l91SquareB_any w w1 w.heap.size n' c' 0 5 a HD0.out (by omega) (by omega) (by omega)).mono ?_
  rintro e w2 ⟨v, B, A, C, l, p0, rfl, hBw, hB, hg, hd2, hp, h1, h5, hl⟩
  obtain ⟨b, cp, cur, hv, hbb, _, _⟩ := hB.top (by omega)
  obtain ⟨n, hn⟩ : ∃ n, l.length = n := ⟨_, rfl⟩
  rw [hn] at hv h1 h5 hl
  subst hv
  obtain ⟨G, hG⟩ : ∃ G, w.heap.size = G := ⟨_, rfl⟩
  rw [hG] at hd2 hg ⊢
  have HGG := Lib.hid hG
  obtain ⟨W, hW⟩ : ∃ W : Nat → Nat, W = fun j => (l.getD j []).length := ⟨_, rfl⟩
  have HB := Lib.hid hB
  have HG0 := Lib.hid hg
  have HD := Lib.hid hd2
  have HN := Lib.hid hn
  have hWl : ∀ j, j < n → (l.getD j []).length = W j := fun j _ => by rw [hW]
  have hWb : ∀ j, j < n → 1 ≤ W j ∧ W j ≤ 6 := fun j hj => by rw [← hWl j hj]; exact hl j hj
  have HWL := Lib.hid hWl
  have HWB := Lib.hid hWb
  have hGB : G < B := by omega
  have hz2 := hg.size
  clear hB hg hd2 hn hl hWl hWb hW hG
  go_wp2
  go_loopg [5, 6] n (fun g i _ wr => ∃ j p L, j ≤ n ∧ g = n - j ∧ i = .int .i64 (j : Nat) ∧ List.length L = n ∧ (∀ q, q < n → (List.getD L q []).length = W q) ∧ BD B wr (.slice (some ⟨b, 0, none⟩) n cp) L A C ∧ w1.grownBy wr (some G) ∧ RD w wr G a n' c' 80 p ∧ p ≤ 1200 + 10 * j)
  case atStart => exact ⟨0, p0, l, Nat.zero_le _, rfl, rfl, HN.out, HWL.out, HB.out, HG0.out, HD.out, by omega⟩
  case round =>
    obtain ⟨j, p, L, hj, rfl, rfl, hL, hLW, hB, hg, hd, hpp⟩ := hrel
    clear HB HG0 HD HN HWL
    have HB := Lib.hid hB
    have HG0 := Lib.hid hg
    have HD := Lib.hid hd
    have HL := Lib.hid hL
    have HLW := Lib.hid hLW
    have hzr := hg.size
    clear hB hg hd hL hLW
    have HEND := Lib.hid (fun (W' : World) (L' : List (List Int)) (hL' : L'.length = n) (hW' : ∀ q, q < n → (L'.getD q []).length = W q) (hB' : BD B W' (.slice (some ⟨b, 0, none⟩) n cp) L' A C) (hg' : w1.grownBy W' (some G)) => show ∃ a' cap l, Ending.returned (Value.slice (some ⟨b, 0, none⟩) n cp) = .returned (.slice a' l.length cap) ∧ w.Since w.heap.size W' ∧ DrawnT w W' 5 5 a' l from by
      obtain ⟨a', cap', hv, hit⟩ := hB'.inT
      refine ⟨a', cap', L', by rw [hv], HS1.out.trans (since_grown hg' (by have := HGG.out; omega) HS1.out.size), ⟨by omega, by omega, fun q hq => ?_, hit.mono (by have := HS1.out.size; omega) (Nat.le_refl _)⟩⟩
      rw [hW' q (by omega)]
      exact HWB.out q (by omega))
    by_cases hjn : j < n
    · go_wp2_with fail
      refine (pick_any w _ G n' c' _ a _ HD.out (by omega)).mono ?_
      rintro e w3 ⟨y, rfl, hy, hg3, hd3⟩
      have HB3 := Lib.hid (HB.out.kept hg3 hGB)
      have HG3 := Lib.hid (grown_trans HG0.out hg3)
      have HD3 := Lib.hid hd3
      clear hg3 hd3
      by_cases hy0 : y = 0
      · subst hy0
        have HR := Lib.hid (HEND.out w3 L HL.out HLW.out HB3.out HG3.out)
        go_wp2
        go_ret
        exact HR.out
      · have hpos : 0 < y := by omega
        obtain ⟨m, hm⟩ : ∃ m, W j = m := ⟨_, rfl⟩
        have hmb := HWB.out j hjn
        rw [hm] at hmb
        have HM := Lib.hid hm
        clear hm HEND
        go_wp2
        go_loopg [6] m (fun g k wi => ∃ q p' L', q ≤ m ∧ g = m - q ∧ k = .int .i64 (q : Nat) ∧ List.length L' = n ∧ (∀ q, q < n → (List.getD L' q []).length = W q) ∧ BD B wi (.slice (some ⟨b, 0, none⟩) n cp) L' A C ∧ w1.grownBy wi (some G) ∧ RD w wi G a n' c' 80 p' ∧ p' ≤ p + 1 + q)
        case atStart => exact ⟨0, p + 1, L, Nat.zero_le _, rfl, rfl, HL.out, HLW.out, HB3.out, HG3.out, HD3.out, by omega⟩
        case round =>
          obtain ⟨q, p', L', hq, rfl, rfl, hL', hLW', hB', hg', hd', hpp'⟩ := hrel
          clear HB3 HG3 HD3 HB HG0 HD
          have HL' := Lib.hid hL'
          have HLW' := Lib.hid hLW'
          have HB := Lib.hid hB'
          have HG := Lib.hid hg'
          have HD := Lib.hid hd'
          obtain ⟨c1, c2, c3⟩ := hB'.cellTop (r := j) (by rw [hL']; exact hjn)
          obtain ⟨g, hA, hge, hrb⟩ := hB'.row (r := j) (by rw [hL']; exact hjn)
          have hlm : (L'.getD j []).length = m := by rw [hLW' j hjn, HM.out]
          rw [hA, hlm] at c1
          have hbne : b ≠ g := fun e => hB'.row_ne hrb e.symm
          have hz5 := hg'.size
          clear hL' hLW' hB' hg' hd' c2 c3
          by_cases hqm : q < m
          · have s1 := hrb.cell (i := q) (by rw [hlm]; exact hqm)
            have s2 := hrb.frozen q
            have hNum := Lib.hid (fun (W' : World) (z : Int) (h : BD B W' (.slice (some ⟨b, 0, none⟩) n cp) L' A C) => h.num (r := j) (g := g) (k := q) (by rw [HL'.out]; exact hjn) hA (by rw [hlm]; exact hqm) z)
            have hgB : G ≠ g := by omega
            have hGb : G ≠ b := by omega
            obtain ⟨z, hz⟩ : ∃ z, (L'.getD j []).getD q 0 = z := ⟨_, rfl⟩
            rw [hz] at s1
            clear hrb hlm hz
            by_cases hz0 : z = 0
            · subst hz0
              go_wp2
              go_region_held3 (fun w' => w'.cell? ⟨b, j, none⟩ = some (.slice (some ⟨g, 0, none⟩) m (C j)))
                (first | exact c1 | exact q1 | exact cell_set_far q1 (by show b ≠ g; omega))
                (first
                  | (go_at_call 78; refine (pick_any w _ G n' c' _ a _ (HD.out.later (World.Since.refl _ _).drew) (by omega)).mono ?_; rintro e w4 ⟨y4, rfl, hy4, hg4, hd4⟩; have hg4 := grown_undrew' hg4; have HB := Lib.hid (HB.out.kept hg4 hGB); have HG := Lib.hid (grown_trans HG.out hg4); have HD := Lib.hid hd4; have q1 := cell_grown c1 hg4 (show b ≠ G by omega); have k1 := cell_grown s1 hg4 (show g ≠ G by omega); have k2 : w4.frozen? ⟨g, q, none⟩ = false := (World.frozen?_of_block (hg4.block g (World.block_lt_of_cell? _ _ s1) (fun e => by injection e with e; omega))).trans s2; clear hg4 hd4))
              go_wp2
              have hlens := fun (z : Int) (x : Nat) (hx : x < n) => (len_num (l := L') (r := j) (k := q) (z := z) x (by rw [HL'.out]; exact hx)).trans (HLW'.out x hx)
              go_roundg (m - (q + 1))
              case measure => omega
              case rel => exact ⟨q + 1, _, L'.set j ((L'.getD j []).set q _), by omega, rfl, by go_num, by rw [List.length_set]; exact HL'.out, hlens _, hNum.out w4 _ HB.out, grown_set HG.out (show w1.heap.size ≤ g by omega) _, HD.out.grown (row := some g) (grown_set_any _ _ _ _) (fun i e => by cases e; omega), by omega⟩
            · have hzb : (z == 0) = false := by simpa using hz0
              go_wp2
              go_roundg (m - (q + 1))
              case measure => omega
              case rel => exact ⟨q + 1, p', L', by omega, rfl, by go_num, HL'.out, HLW'.out, HB.out, HG.out, HD.out, by omega⟩
          · have hqq : q = m := by omega
            subst hqq
            go_wp2
            go_roundg (n - (j + 1))
            case measure => omega
            case rel => exact ⟨j + 1, p', L', by omega, rfl, by go_num, HL'.out, HLW'.out, HB.out, HG.out, HD.out, by omega⟩
    · have hjj : j = n := by omega
      subst hjj
      have HR := Lib.hid (HEND.out wr L HL.out HLW.out HB.out HG0.out)
      go_wp2
      go_ret
      exact HR.out

end Go.Proofs.Ytikjeaoapeaabaa
end

section
namespace Go.Proofs.Ytikjeaoapeaabaa
open Go.RowKit Go.Deep

set_option maxHeartbeats 1000000 in
theorem sameInts_same (a b : Option Addr) (ca cb n : Nat) (l : List Int) (w : World) (hn : l.length = n) (h63 : n ≤ 9223372036854775807) (ha : RowR w a l) (hb : RowR w b l) :
    Calls Try.prog 39 #[.slice a n ca, .slice b n cb] w fun e w' => e = .returned (.bool true) ∧ Drawn w w' := by
  have H := Lib.hid hn; clear hn
  go_enter Try.func39, Try.ntmps39
  go_wp2
  go_loopg [5] n (fun g i wr => ∃ k : Nat, k ≤ n ∧ g = n - k ∧ i = .int .i64 k ∧ Drawn w wr)
  case atStart => exact ⟨0, Nat.zero_le _, rfl, rfl, Drawn.refl w⟩
  case round =>
    obtain ⟨k, hk, rfl, rfl, hD⟩ := hrel
    by_cases hlt : k < n
    · obtain ⟨b1, o1, rfl, hc1⟩ := ha (by rw [H.out]; omega)
      obtain ⟨b2, o2, rfl, hc2⟩ := hb (by rw [H.out]; omega)
      have c1 := hc1 k (by rw [H.out]; exact hlt)
      have c2 := hc2 k (by rw [H.out]; exact hlt)
      obtain ⟨x, hx⟩ : ∃ x, x = l.getD k 0 := ⟨_, rfl⟩
      rw [← hx] at c1 c2
      rw [← hD.cell] at c1 c2
      clear hx hc1 hc2 ha hb
      go_wp2
      go_quiet (fail)
      go_wp2
      go_roundg (n - (k + 1))
      case measure => omega
      case rel => exact ⟨k + 1, by omega, rfl, by go_num, hD.trans (Drawn.mk _ _)⟩
    · go_wp2
      go_ret
      exact ⟨rfl, hD⟩

set_option maxHeartbeats 1000000 in
theorem sameRows_same (a b : Option Addr) (ca cb n : Nat) (l : List (List Int)) (w : World) (hn : l.length = n) (h63 : n ≤ 9223372036854775807) (hl : ∀ r, r < l.length → (l.getD r []).length ≤ 9223372036854775807)
    (ha : MatR w a l) (hb : MatR w b l) :
    Calls Try.prog 43 #[.slice a n ca, .slice b n cb] w fun e w' => e = .returned (.bool true) ∧ Drawn w w' := by
  have H := Lib.hid hn; clear hn
  go_enter Try.func43, Try.ntmps43
  go_wp2
  go_loopg [5] n (fun g i wr => ∃ k : Nat, k ≤ n ∧ g = n - k ∧ i = .int .i64 k ∧ Drawn w wr)
  case atStart => exact ⟨0, Nat.zero_le _, rfl, rfl, Drawn.refl w⟩
  case round =>
    obtain ⟨k, hk, rfl, rfl, hD⟩ := hrel
    by_cases hlt : k < n
    · obtain ⟨b1, o1, A1, C1, rfl, hc1⟩ := ha (by rw [H.out]; omega)
      obtain ⟨b2, o2, A2, C2, rfl, hc2⟩ := hb (by rw [H.out]; omega)
      obtain ⟨c1, r1⟩ := hc1 k (by rw [H.out]; exact hlt)
      obtain ⟨c2, r2⟩ := hc2 k (by rw [H.out]; exact hlt)
      have hlk := hl k (by rw [H.out]; exact hlt)
      obtain ⟨x, hx⟩ : ∃ x, x = l.getD k [] := ⟨_, rfl⟩
      rw [← hx] at c1 c2 r1 r2 hlk
      obtain ⟨m, hm⟩ : ∃ m, x.length = m := ⟨_, rfl⟩
      rw [hm] at c1 c2 hlk
      have HM := Lib.hid hm
      clear hx hc1 hc2 ha hb hl hm
      have r1 := r1.drawn hD
      have r2 := r2.drawn hD
      rw [← hD.cell] at c1 c2
      have e1 := fun (p : Nat) => sameInts_same (A1 k) (A2 k) (C1 k) (C2 k) m x (wr.drewN p) HM.out hlk r1 r2
      have E1 := Lib.hid e1; clear e1 r1 r2
      go_wp2
      go_quiet ((go_at_call 39; exact Calls.quiet_of (E1.out _)))
      go_wp2
      go_roundg (n - (k + 1))
      case measure => omega
      case rel => exact ⟨k + 1, by omega, rfl, by go_num, hD.trans (Drawn.mk _ _)⟩
    · go_wp2
      go_ret
      exact ⟨rfl, hD⟩

end Go.Proofs.Ytikjeaoapeaabaa
end

section
namespace Go.Proofs.Ytikjeaoapeaabaa
open Go.RowKit Go.Deep

theorem szL_of {l : List (List Int)} {n k : Nat} (h1 : l.length ≤ n) (h2 : ∀ j, j < l.length → (l.getD j []).length ≤ k) (hnk : n * k + n ≤ 1048576) : szL l ≤ 1048576 := by
  have h3 := sumTo_le_mul l k h2 l.length (Nat.le_refl _)
  have h4 : l.length * k ≤ n * k := Nat.mul_le_mul_right _ h1
  have h5 : k * l.length = l.length * k := Nat.mul_comm _ _
  unfold szL
  omega
theorem rows_le {l : List (List Int)} (h : szL l ≤ 1048576) : ∀ r, r < l.length → (l.getD r []).length ≤ 9223372036854775807 := fun r hr => by
  have := row_le l hr
  unfold szL at h
  omega

theorem tab_self {l : List (List Int)} {n m : Nat} (hn : l.length = n) (hm : ∀ r, r < n → (l.getD r []).length = m) : tabF n m (at2 l) = l := by
  refine List.ext_getElem (by rw [tabF_length, hn]) fun r h1 h2 => ?_
  have hr : r < n := by rw [tabF_length] at h1; exact h1
  have e1 : (tabF n m (at2 l))[r] = (tabF n m (at2 l)).getD r [] := by simp [List.getD, h1]
  have e2 : l[r] = l.getD r [] := by simp [List.getD, h2]
  rw [e1, e2, tabF_get _ _ _ _ hr]
  refine List.ext_getElem (by rw [List.length_map, List.length_range, hm r hr]) fun k h3 h4 => ?_
  rw [List.getElem_map, List.getElem_range]
  unfold at2
  obtain ⟨x, hx⟩ : ∃ x, x = l.getD r [] := ⟨_, rfl⟩
  subst hx
  generalize l.getD r [] = x at *
  simp [List.getD, h4]

theorem turnL_turnL {l : List (List Int)} (hT : TabIn l) : turnL (turnL l) = l := by
  have h1 := hT.1
  have hw := hT.width
  have e0 : ((turnL l).getD 0 []).length = l.length := tabF_len _ _ _ _ hw.1
  have e1 : turnL (turnL l) = tabF l.length (l.getD 0 []).length fun k i => at2 (turnL l) i k := by
    show tabF ((turnL l).getD 0 []).length (turnL l).length _ = _
    rw [e0, turnL_length]
  rw [e1]
  have e2 : tabF l.length (l.getD 0 []).length (fun k i => at2 (turnL l) i k) = tabF l.length (l.getD 0 []).length (at2 l) := by
    unfold tabF
    refine List.map_congr_left fun r hr => List.map_congr_left fun k hk => ?_
    exact tabF_at _ _ _ _ _ (List.mem_range.1 hk) (List.mem_range.1 hr)
  rw [e2]
  exact tab_self rfl (fun r hr => hT.row hr)

end Go.Proofs.Ytikjeaoapeaabaa
end

section
namespace Go.Proofs.Ytikjeaoapeaabaa
open Go.RowKit Go.Deep

def cnt (y : Nat) : List Nat → Nat
  | [] => 0
  | x :: xs => (if y < x then 1 else 0) + cnt y xs
theorem cnt_snoc (y : Nat) : ∀ (xs : List Nat) (z : Nat), cnt y (xs ++ [z]) = cnt y xs + (if y < z then 1 else 0)
  | [], z => by simp [cnt]
  | x :: xs, z => by simp only [List.cons_append, cnt, cnt_snoc y xs z]; omega
theorem cnt_le (y : Nat) : ∀ xs : List Nat, cnt y xs ≤ xs.length
  | [] => by simp [cnt]
  | x :: xs => by have := cnt_le y xs; simp only [cnt, List.length_cons]; split <;> omega
def invTo (cs : List Nat) : Nat → Nat
  | 0 => 0
  | i + 1 => invTo cs i + cnt (cs.getD i 0) (cs.take i)
def inv (cs : List Nat) : Nat := invTo cs cs.length
theorem invTo_le (cs : List Nat) : ∀ i, i ≤ cs.length → invTo cs i ≤ i * cs.length
  | 0, _ => by simp [invTo]
  | i + 1, h => by
    have h1 := invTo_le cs i (by omega)
    have h2 := cnt_le (cs.getD i 0) (cs.take i)
    have h3 : (cs.take i).length ≤ cs.length := by simp; omega
    unfold invTo
    rw [Nat.add_mul]
    omega
theorem invTo_snoc (cs : List Nat) (k : Nat) : ∀ i, i ≤ cs.length → invTo (cs ++ [k]) i = invTo cs i
  | 0, _ => rfl
  | i + 1, h => by
    unfold invTo
    rw [invTo_snoc cs k i (by omega), List.take_append_of_le_length (by omega)]
    congr 2
    simp [List.getD, List.getElem?_append, show i < cs.length by omega]
theorem inv_snoc (cs : List Nat) (k : Nat) : inv (cs ++ [k]) = inv cs + cnt k cs := by
  unfold inv
  rw [List.length_append, List.length_singleton]
  show invTo (cs ++ [k]) cs.length + _ = _
  rw [invTo_snoc cs k _ (Nat.le_refl _)]
  congr 2
  · simp [List.getD]
  · simp
def prodN (s : Int) (f : Nat → Int) : Nat → Int
  | 0 => s
  | n + 1 => prodN s f n * f n
theorem prodN_congr {s : Int} {f g : Nat → Int} : ∀ n, (∀ j, j < n → f j = g j) → prodN s f n = prodN s g n
  | 0, _ => rfl
  | n + 1, h => by unfold prodN; rw [prodN_congr n (fun j hj => h j (by omega)), h n (by omega)]
theorem prodN_neg (s c : Int) (f : Nat → Int) : ∀ n, prodN (c * s) f n = c * prodN s f n
  | 0 => rfl
  | n + 1 => by unfold prodN; rw [prodN_neg s c f n, Int.mul_assoc]
def setOf (cs : List Nat) : Nat := cs.foldl (fun s c => s ||| 2 ^ c) 0
theorem setOf_snoc (cs : List Nat) (k : Nat) : setOf (cs ++ [k]) = setOf cs ||| 2 ^ k := by simp [setOf]

theorem popcS_or : ∀ s : Fin 64, ∀ c k : Fin 6, s.val.testBit c.val = false → popcS ((s.val ||| 2 ^ c.val) / 2 ^ k.val) = popcS (s.val / 2 ^ k.val) + (if k.val ≤ c.val then 1 else 0) := by decide +kernel
theorem setFrom_bit (k : Nat) : ∀ (cs : List Nat) (s : Nat), (cs.foldl (fun s c => s ||| 2 ^ c) s).testBit k = (s.testBit k || decide (k ∈ cs))
  | [], s => by simp
  | c :: cs, s => by
    rw [List.foldl_cons, setFrom_bit k cs, Nat.testBit_or, Nat.testBit_two_pow, Bool.or_assoc]
    congr 1
    by_cases h1 : c = k
    · subst h1; simp
    · have h2 : ¬ k = c := fun e => h1 e.symm
      simp [h1, h2]
theorem setOf_bit (cs : List Nat) (k : Nat) : (setOf cs).testBit k = decide (k ∈ cs) := by
  unfold setOf; rw [setFrom_bit]; simp
theorem setFrom_lt : ∀ (cs : List Nat) (s : Nat), s < 2 ^ 6 → (∀ c ∈ cs, c < 6) → cs.foldl (fun s c => s ||| 2 ^ c) s < 2 ^ 6
  | [], s, h, _ => h
  | c :: cs, s, h, hc => by
    rw [List.foldl_cons]
    exact setFrom_lt cs _ (Nat.or_lt_two_pow h (Nat.pow_lt_pow_right (by omega) (hc c (by simp)))) (fun x hx => hc x (by simp [hx]))
theorem setOf_lt {cs : List Nat} (h : ∀ c ∈ cs, c < 6) : setOf cs < 64 := setFrom_lt cs 0 (by decide) h
theorem setFrom_cnt (k : Nat) (hk : k < 6) : ∀ (cs : List Nat) (s : Nat), s < 2 ^ 6 → (∀ c ∈ cs, c < 6) → cs.Nodup → (∀ c ∈ cs, s.testBit c = false) → k ∉ cs → popcS (cs.foldl (fun s c => s ||| 2 ^ c) s / 2 ^ k) = popcS (s / 2 ^ k) + cnt k cs
  | [], s, _, _, _, _, _ => rfl
  | c :: cs, s, h, hc, hn, hb, hkn => by
    have hc6 := hc c (by simp)
    have hn' := List.nodup_cons.1 hn
    have e := popcS_or ⟨s, h⟩ ⟨c, hc6⟩ ⟨k, hk⟩ (hb c (by simp))
    simp only at e
    rw [List.foldl_cons, setFrom_cnt k hk cs _ (Nat.or_lt_two_pow h (Nat.pow_lt_pow_right (by omega) hc6)) (fun x hx => hc x (by simp [hx])) hn'.2 (fun x hx => by
      rw [Nat.testBit_or, hb x (by simp [hx]), Nat.testBit_two_pow]
      have : c ≠ x := fun e => hn'.1 (e ▸ hx)
      simp [this]) (fun hx => hkn (by simp [hx])), e]
    have hne : k ≠ c := fun e => hkn (by simp [e])
    simp only [cnt]
    by_cases h1 : k < c
    · rw [if_pos h1, if_pos (by omega)]; omega
    · rw [if_neg h1, if_neg (by omega)]; omega
theorem setOf_cnt {cs : List Nat} {k : Nat} (hk : k < 6) (hc : ∀ c ∈ cs, c < 6) (hn : cs.Nodup) (hkn : k ∉ cs) : popcS (setOf cs / 2 ^ k) = cnt k cs := by
  have e := setFrom_cnt k hk cs 0 (by decide) hc hn (by simp) hkn
  have e0 : popcS (0 / 2 ^ k) = 0 := by rw [Nat.zero_div]; decide
  unfold setOf
  rw [e, e0]; omega

def ordS (l : List (List Int)) (n : Nat) : Nat → List Nat → Int
  | 0, cs => prodN (sn (inv cs)) (fun i => at2 l i (cs.getD i 0)) cs.length
  | m + 1, cs => sumN (fun k => if k ∈ cs then 0 else ordS l n m (cs ++ [k])) n
theorem ordS_succ (l : List (List Int)) (n m : Nat) (cs : List Nat) : ordS l n (m + 1) cs = sumN (fun k => if k ∈ cs then 0 else ordS l n m (cs ++ [k])) n := rfl
theorem ordS_eq (l : List (List Int)) (n : Nat) (hn : n ≤ 6) : ∀ (m : Nat) (cs : List Nat), cs.length + m = n → cs.Nodup → (∀ c ∈ cs, c < n) → ordS l n m cs = prodN (sn (inv cs)) (fun i => at2 l i (cs.getD i 0)) cs.length * ordF l n m (setOf cs)
  | 0, cs, _, _, _ => by rw [ordF_zero, Int.mul_one]; rfl
  | m + 1, cs, hl, hd, hc => by
    rw [ordS_succ, ordF_succ, ← sumN_mul]
    refine sumN_congr _ fun k hk => ?_
    by_cases hm : k ∈ cs
    · rw [if_pos hm, ordT_yes _ (by rw [setOf_bit]; simpa using hm), Int.mul_zero]
    · rw [if_neg hm, ordT_no _ (by rw [setOf_bit]; simpa using hm), setOf_cnt (by omega) (fun c h => by have := hc c h; omega) hd hm,
        ordS_eq l n hn m (cs ++ [k]) (by simp; omega) (by rw [List.nodup_append]; exact ⟨hd, by simp, fun a ha b hb => by simp at hb; subst hb; exact fun e => hm (e ▸ ha)⟩) (fun c h => by
          rcases List.mem_append.1 h with h | h
          · exact hc c h
          · simp at h; omega), setOf_snoc, inv_snoc, List.length_append, List.length_singleton]
      show prodN _ _ cs.length * at2 l cs.length ((cs ++ [k]).getD cs.length 0) * _ = _
      rw [show (cs ++ [k]).getD cs.length 0 = k by simp [List.getD], sn_add, Int.mul_comm (sn (inv cs)) (sn (cnt k cs)), prodN_neg,
        prodN_congr (g := fun i => at2 l i (cs.getD i 0)) cs.length (fun j hj => by simp [List.getD, List.getElem?_append, hj]), show n - (m + 1) = cs.length by omega, sg_sn]
      grind
theorem ordS_all (l : List (List Int)) (n : Nat) (hn : n ≤ 6) : ordS l n n [] = ordF l n n 0 := by
  rw [ordS_eq l n hn n [] (by simp) (by simp) (by simp)]
  show 1 * ordF l n n 0 = _
  omega

theorem prodN_bd {f : Nat → Int} {s : Int} (hs : -1 ≤ s ∧ s ≤ 1) : ∀ i : Nat, (∀ j, j < i → -30 ≤ f j ∧ f j ≤ 30) → -(p180 i) ≤ prodN s f i ∧ prodN s f i ≤ p180 i
  | 0, _ => by simp only [prodN, p180]; omega
  | i + 1, h => by
    have h1 := prodN_bd hs i (fun j hj => h j (by omega))
    have h2 := h i (by omega)
    have h3 := mul_bdB h2.1 h2.2 h1.1 h1.2
    have := p180_pos i
    unfold prodN p180
    rw [Int.mul_comm (prodN s f i)]
    omega
theorem sn_bd (p : Nat) : -1 ≤ sn p ∧ sn p ≤ 1 := by unfold sn; split <;> omega
def b6 : Nat → Int
  | 0 => 34012224000000
  | m + 1 => 6 * b6 m
theorem b6_pos : ∀ m, 1 ≤ b6 m
  | 0 => by simp [b6]
  | m + 1 => by have := b6_pos m; unfold b6; omega
theorem b6_le (m : Nat) (h : m ≤ 6) : b6 m ≤ 1586874322944000000 := by
  have h : m = 0 ∨ m = 1 ∨ m = 2 ∨ m = 3 ∨ m = 4 ∨ m = 5 ∨ m = 6 := by omega
  rcases h with rfl | rfl | rfl | rfl | rfl | rfl | rfl <;> decide
theorem ordS_bd {l : List (List Int)} {n : Nat} (hn : n ≤ 6) (hA : ∀ i j, i < n → j < n → -30 ≤ at2 l i j ∧ at2 l i j ≤ 30) : ∀ (m : Nat) (cs : List Nat), cs.length + m = n → (∀ c ∈ cs, c < n) → -(b6 m) ≤ ordS l n m cs ∧ ordS l n m cs ≤ b6 m
  | 0, cs, hl, hc => by
    have h1 := prodN_bd (sn_bd (inv cs)) (f := fun i => at2 l i (cs.getD i 0)) cs.length (fun j hj => hA j _ (by omega) (by
      have : cs.getD j 0 = cs[j] := by simp [List.getD, hj]
      rw [this]; exact hc _ (List.getElem_mem _)))
    have h2 := p180_le cs.length (by omega)
    show -(34012224000000 : Int) ≤ prodN _ _ _ ∧ prodN _ _ _ ≤ 34012224000000
    omega
  | m + 1, cs, hl, hc => by
    have h1 := sumN_bdB (f := fun k => if k ∈ cs then 0 else ordS l n m (cs ++ [k])) (B := b6 m) n (fun k hk => by
      have := b6_pos m
      split
      · omega
      · exact ordS_bd hn hA m (cs ++ [k]) (by simp; omega) (fun c h => by
          rcases List.mem_append.1 h with h | h
          · exact hc c h
          · simp at h; omega))
    have hp := b6_pos m
    have h2 : (n : Int) * b6 m ≤ 6 * b6 m := Int.mul_le_mul_of_nonneg_right (by omega) (by omega)
    rw [ordS_succ]
    unfold b6
    omega
theorem ordP_bd {l : List (List Int)} {n m : Nat} {cs : List Nat} (hn : n ≤ 6) (hA : ∀ i j, i < n → j < n → -30 ≤ at2 l i j ∧ at2 l i j ≤ 30) (hl : cs.length + (m + 1) = n) (hc : ∀ c ∈ cs, c < n) {q : Nat} (hq : q ≤ n) :
    -(6 * b6 m) ≤ sumN (fun k => if k ∈ cs then 0 else ordS l n m (cs ++ [k])) q ∧ sumN (fun k => if k ∈ cs then 0 else ordS l n m (cs ++ [k])) q ≤ 6 * b6 m := by
  have h1 := sumN_bdB (f := fun k => if k ∈ cs then 0 else ordS l n m (cs ++ [k])) (B := b6 m) q (fun k hk => by
    have := b6_pos m
    split
    · omega
    · exact ordS_bd hn hA m (cs ++ [k]) (by simp; omega) (fun c h => by
        rcases List.mem_append.1 h with h | h
        · exact hc c h
        · simp at h; omega))
  have hp := b6_pos m
  have h2 : (q : Int) * b6 m ≤ 6 * b6 m := Int.mul_le_mul_of_nonneg_right (by omega) (by omega)
  omega

end Go.Proofs.Ytikjeaoapeaabaa
end

section
namespace Go.Proofs.Ytikjeaoapeaabaa
open Go.RowKit Go.Deep

def FirstAt (p : Nat → Bool) (m : Nat) (r : Int) : Prop := (∃ i : Nat, i < m ∧ r = i ∧ p i = true ∧ ∀ j, j < i → p j = false) ∨ (r = -1 ∧ ∀ j, j < m → p j = false)

set_option maxHeartbeats 1000000 in
theorem index_any (a : Option Addr) (cap m : Nat) (x : List Int) (v : Int) (w : World) (hx : x.length = m) (hm : m ≤ 1048576) (ha : RowR w a x) :
    Calls Try.prog 130 #[.slice a m cap, .int .i64 v] w fun e w' => ∃ r, e = .returned (.int .i64 r) ∧ FirstAt (fun j => v == x.getD j 0) m r ∧ w = w' := by
  have HX := Lib.hid hx
  clear hx
  go_enter Try.func130, Try.ntmps130
  go_wp2
  go_loopg [5, 8] m (fun g _ i wr => ∃ k : Nat, k ≤ m ∧ g = m - k ∧ i = .int .i64 k ∧ w = wr ∧ ∀ j, j < k → (v == x.getD j 0) = false)
  case atStart => exact ⟨0, Nat.zero_le _, rfl, rfl, rfl, fun j hj => absurd hj (Nat.not_lt_zero _)⟩
  case round =>
    obtain ⟨k, hk, rfl, rfl, rfl, hN⟩ := hrel
    by_cases hlt : k < m
    · obtain ⟨b, o, rfl, hc⟩ := ha (by rw [HX.out]; omega)
      have cj := hc k (by rw [HX.out]; exact hlt)
      obtain ⟨y, hy⟩ : ∃ y, y = x.getD k 0 := ⟨_, rfl⟩
      rw [← hy] at cj
      have HY := Lib.hid hy
      clear hc hy
      cases hb : (v == y) with
      | true =>
        go_wp2
        go_ret
        exact ⟨_, rfl, Or.inl ⟨k, hlt, rfl, by show (v == x.getD k 0) = true; rw [← HY.out]; exact hb, hN⟩, rfl⟩
      | false =>
        go_wp2
        go_roundg (m - (k + 1))
        case measure => omega
        case rel => exact ⟨k + 1, by omega, rfl, by go_num, rfl, fun j hj => by
          by_cases e : j = k
          · subst e; rw [← HY.out]; exact hb
          · exact hN j (by omega)⟩
    · have : m = k := by omega
      subst this
      go_wp2
      go_ret
      exact ⟨_, rfl, Or.inr ⟨rfl, hN⟩, rfl⟩

set_option maxHeartbeats 400000 in
theorem contains_any (a : Option Addr) (cap m : Nat) (x : List Int) (v : Int) (w : World) (hx : x.length = m) (hm : m ≤ 1048576) (ha : RowR w a x) :
    Calls Try.prog 121 #[.slice a m cap, .int .i64 v] w fun e w' => e = .returned (.bool (decide (v ∈ x))) ∧ w = w' := by
  have E := Lib.hid (index_any a cap m x v w hx hm ha)
  by_cases h : v ∈ x
  · rw [decide_eq_true h]
    have E2' : ∀ r : Int, FirstAt (fun j => v == x.getD j 0) m r → 0 ≤ r := fun r hr => by
      rcases hr with ⟨i, _, rfl, _⟩ | ⟨rfl, hno⟩
      · omega
      · obtain ⟨i, hi, e⟩ := List.mem_iff_getElem.1 h
        have := hno i (by omega)
        simp [List.getD, hi, e] at this
    have E2 := Lib.hid E2'
    clear hx ha h E2'
    go_enter Try.func121, Try.ntmps121
    go_wp2_with fail
    refine (E.out).mono ?_
    rintro e w' ⟨r, rfl, hr, rfl⟩
    have h0 := E2.out r hr
    clear hr
    go_wp2
    go_ret
    exact ⟨ret_bool (by simp), rfl⟩
  · rw [decide_eq_false h]
    have E2' : ∀ r : Int, FirstAt (fun j => v == x.getD j 0) m r → r = -1 := fun r hr => by
      rcases hr with ⟨i, hi, rfl, hp, _⟩ | ⟨rfl, hno⟩
      · exfalso
        have e : v = x[i]'(by omega) := by simpa [List.getD, show i < x.length by omega] using hp
        exact h (e ▸ List.getElem_mem _)
      · rfl
    have E2 := Lib.hid E2'
    clear hx ha h E2'
    go_enter Try.func121, Try.ntmps121
    go_wp2_with fail
    refine (E.out).mono ?_
    rintro e w' ⟨r, rfl, hr, rfl⟩
    have h0 := E2.out r hr
    clear hr
    subst h0
    go_wp2
    go_ret
    exact ⟨rfl, rfl⟩

set_option maxHeartbeats 1000000 in
theorem indexFunc_any (K : Nat) (p : Nat → Bool) (a : Option Addr) (cap n : Nat) (l : List (List Int)) (w : World) (hn : l.length = n) (hm : MatR w a l) (eg : ∀ args w, (callFunc K args).run Try.prog w = .ok (.enter K args) w) (h63 : n ≤ 1048576)
    (hp : ∀ (i : Nat) (r : Option Addr) (c : Nat), i < n → RowR w r (l.getD i []) → Calls Try.prog K #[.slice r (l.getD i []).length c] w fun e w' => e = .returned (.bool (p i)) ∧ w = w') :
    Calls Try.prog 122 #[.slice a n cap, .func (.func K) #[] #[]] w fun e w' => ∃ r, e = .returned (.int .i64 r) ∧ FirstAt p n r ∧ w = w' := by
  have HN := Lib.hid hn
  have HP := Lib.hid hp
  clear hn hp
  go_enter Try.func122, Try.ntmps122
  go_wp2
  go_loopg [5, 8] n (fun g _ i wr => ∃ k : Nat, k ≤ n ∧ g = n - k ∧ i = .int .i64 k ∧ w = wr ∧ ∀ j, j < k → p j = false)
  case atStart => exact ⟨0, Nat.zero_le _, rfl, rfl, rfl, fun j hj => absurd hj (Nat.not_lt_zero _)⟩
  case round =>
    obtain ⟨k, hk, rfl, rfl, rfl, hF⟩ := hrel
    by_cases hlt : k < n
    · obtain ⟨b, o, A, C, rfl, hc⟩ := hm (by rw [HN.out]; omega)
      obtain ⟨c1, c2⟩ := hc k (by rw [HN.out]; exact hlt)
      have E := HP.out k (A k) (C k) hlt c2
      obtain ⟨y, hy⟩ : ∃ y, (l.getD k []).length = y := ⟨_, rfl⟩
      rw [hy] at c1 E
      cases hb : p k with
      | true =>
        rw [hb] at E
        replace E := Lib.hid E
        clear c2 hc hy
        go_wp2_with fail
        refine (E.out).mono ?_
        rintro e w' ⟨rfl, rfl⟩
        go_wp2
        go_ret
        exact ⟨_, rfl, Or.inl ⟨k, hlt, rfl, hb, hF⟩, rfl⟩
      | false =>
        rw [hb] at E
        replace E := Lib.hid E
        clear c2 hc hy
        go_wp2_with fail
        refine (E.out).mono ?_
        rintro e w' ⟨rfl, rfl⟩
        go_wp2
        go_roundg (n - (k + 1))
        case measure => omega
        case rel => exact ⟨k + 1, by omega, rfl, by go_num, rfl, fun j hj => by
          by_cases e : j = k
          · subst e; exact hb
          · exact hF j (by omega)⟩
    · have : n = k := by omega
      subst this
      go_wp2
      go_ret
      exact ⟨_, rfl, Or.inr ⟨rfl, hF⟩, rfl⟩

end Go.Proofs.Ytikjeaoapeaabaa
end

section
namespace Go.Proofs.Ytikjeaoapeaabaa
open Go.RowKit Go.Deep

theorem sn_tmod (k : Nat) (h : k < 64) : (Int.tmod (k : Int) 2 == 0) = !decide (k % 2 = 1) := by
  have h2 : ∀ k : Fin 64, (Int.tmod (k.val : Int) 2 == 0) = !decide (k.val % 2 = 1) := by decide +kernel
  exact h2 ⟨k, h⟩

set_option maxHeartbeats 400000 in
theorem signOf_any (k : Nat) (h : k < 64) (w : World) :
    Calls Try.prog 70 #[.int .i64 k] w fun e w' => e = .returned (.int .i64 (sn k)) ∧ w = w' := by
  have e := sn_tmod k h
  by_cases ho : k % 2 = 1
  · have e2 : sn k = -1 := if_pos ho
    rw [e2]
    have e3 : (Int.tmod (k : Int) 2 == 0) = false := by rw [e]; simp [ho]
    clear e h
    go_enter Try.func70, Try.ntmps70
    go_wp2
    go_ret
    exact ⟨rfl, rfl⟩
  · have e2 : sn k = 1 := if_neg ho
    rw [e2]
    have e3 : (Int.tmod (k : Int) 2 == 0) = true := by rw [e]; simp [ho]
    clear e h
    go_enter Try.func70, Try.ntmps70
    go_wp2
    go_ret
    exact ⟨rfl, rfl⟩

set_option maxHeartbeats 1000000 in
theorem isSquare_any (a : Option Addr) (cap n : Nat) (l : List (List Int)) (w : World) (hn : l.length = n) (hsz : szL l ≤ 1048576) (hm : MatR w a l) :
    Calls Try.prog 67 #[.slice a n cap] w fun e w' => e = .returned (.bool (sqB l)) ∧ w.Since w.heap.size w' := by
  have E := fits_any a cap n l w hn hsz hm
  cases hT : tabIn l with
  | false =>
    have hs : sqB l = false := by unfold sqB; rw [hT]; rfl
    rw [hs]
    rw [hT] at E
    replace E := Lib.hid E
    clear hs hT hn hsz hm
    go_enter Try.func67, Try.ntmps67
    go_wp2_with fail
    refine (E.out).mono ?_
    rintro e w1 ⟨rfl, hd⟩
    have HD := Lib.hid hd
    clear hd
    go_wp2
    go_ret
    exact ⟨rfl, HD.out⟩
  | true =>
    have hTT := tabIn_of hT
    have h1 := hTT.1
    have h6 := hTT.2.1
    rw [hn] at h1 h6
    obtain ⟨m, hmm⟩ : ∃ m, (l.getD 0 []).length = m := ⟨_, rfl⟩
    have hs : sqB l = (n == m) := by unfold sqB; rw [hT, hn, hmm]; rfl
    rw [hs]
    rw [hT] at E
    replace E := Lib.hid E
    have EW := fun (W : World) (h : w.Since w.heap.size W) => width_any a cap n l W hn (by omega) (by omega) (hm.since h)
    rw [hmm] at EW
    replace EW := Lib.hid EW
    clear hs hT hTT hn hsz hm hmm
    go_enter Try.func67, Try.ntmps67
    go_wp2_with fail
    refine (E.out).mono ?_
    rintro e w1 ⟨rfl, hd⟩
    have HD := Lib.hid hd
    clear hd
    go_wp2_with fail
    refine (EW.out w1 HD.out).mono ?_
    rintro e w2 ⟨rfl, rfl⟩
    have hb : ((n : Int) == (m : Int)) = (n == m) := by
      by_cases e : n = m
      · subst e; simp
      · rw [beq_eq_false_iff_ne.2 e, beq_eq_false_iff_ne.2 (by omega)]
    go_wp2
    go_ret
    refine ⟨?_, HD.out⟩
    rw [← hb]
    rfl

set_option maxHeartbeats 2000000 in
theorem without_any (a : Option Addr) (cap n r k : Nat) (l : List (List Int)) (w : World) (hn : l.length = n) (hT : TabIn l) (hw : (l.getD 0 []).length = n) (hr : r < n) (hk : k < n) (hm : MatR w a l) :
    Calls Try.prog 71 #[.slice a n cap, .int .i64 r, .int .i64 k] w fun e w' => ∃ a' cap', e = .returned (.slice a' (partL l (2 ^ n - 1 - 2 ^ r) (2 ^ n - 1 - 2 ^ k)).length cap') ∧ w.Since w.heap.size w' ∧ OwnT w.heap.size w'.heap.size w' a' (partL l (2 ^ n - 1 - 2 ^ r) (2 ^ n - 1 - 2 ^ k)) := by
  have h6 := hT.2.1
  rw [hn] at h6
  have E1 := fun (W : World) => allRows_any a cap n W h6
  have E2 := fun (W : World) (h : w.Since w.heap.size W) => width_any a cap n l W hn (by omega) (by omega) (hm.since h)
  rw [hw] at E2
  have E3 := fun (W : World) => fullSet_any n h6 W
  have e1 := andNot_fin ⟨n, by omega⟩ ⟨r, by omega⟩ hr
  have e2 := andNot_fin ⟨n, by omega⟩ ⟨k, by omega⟩ hk
  have e3 := pow63 ⟨n, by omega⟩
  have w1 := pow_in ⟨r, by omega⟩
  have w2 := pow_in ⟨k, by omega⟩
  simp only at e1 e2 e3 w1 w2
  have hm1 : min r 64 = r := by omega
  have hm2 : min k 64 = k := by omega
  have E4 := fun (W : World) (h : w.Since w.heap.size W) => part_any a cap n (2 ^ n - 1 - 2 ^ r) (2 ^ n - 1 - 2 ^ k) l W hn hT (Nat.le_trans (Nat.sub_le _ _) e3) (Nat.le_trans (Nat.sub_le _ _) e3) (hm.since h)
  obtain ⟨s, hs⟩ : ∃ s, s = 2 ^ n - 1 - 2 ^ r := ⟨_, rfl⟩
  obtain ⟨c, hc⟩ : ∃ s, s = 2 ^ n - 1 - 2 ^ k := ⟨_, rfl⟩
  obtain ⟨Aa, hA⟩ : ∃ s, s = 2 ^ n - 1 := ⟨_, rfl⟩
  rw [← hs, ← hA] at e1
  rw [← hc, ← hA] at e2
  simp only [← hs, ← hc] at E4 ⊢
  simp only [← hA] at E1 E3
  have H1 := Lib.hid E1
  have H2 := Lib.hid E2
  have H3 := Lib.hid E3
  have H4 := Lib.hid E4
  clear E1 E2 E3 E4 hs hc hA hT hm hn hw e3
  go_enter Try.func71, Try.ntmps71
  go_wp2
  go_region_held3 (fun _ => True) (exact trivial)
    (first
      | (go_at_call 93; refine (H1.out _).mono ?_; rintro e w3 ⟨rfl, rfl⟩)
      | (go_at_call 61; refine (H2.out _ ?_).mono ?_; (exact (World.Since.refl _ _).drew); rintro e w3 ⟨rfl, rfl⟩)
      | (go_at_call 89; refine (H3.out _).mono ?_; rintro e w3 ⟨rfl, rfl⟩)
      | (go_at_call 64; refine (H4.out _ ?_).mono ?_; (exact (World.Since.refl _ _).drew); rintro e w3 ⟨a', cap', rfl, hs2, ho⟩))
  all_goals
    go_wp2
    go_ret
    exact ⟨a', cap', rfl, since_of_drew hs2, ho⟩

end Go.Proofs.Ytikjeaoapeaabaa
end

section
namespace Go.Proofs.Ytikjeaoapeaabaa
open Go.RowKit Go.Deep Go.Shelf
attribute [local go_sem] Oper.semAt_some

def ints (cs : List Nat) : List Int := cs.map fun c : Nat => (c : Int)
theorem ints_length (cs : List Nat) : (ints cs).length = cs.length := by simp [ints]
theorem ints_getD (cs : List Nat) (i : Nat) : (ints cs).getD i 0 = (cs.getD i 0 : Nat) := by
  simp only [ints, List.getD, List.getElem?_map]
  cases cs[i]? <;> rfl
theorem take_succ_getD (cs : List Nat) {i : Nat} (h : i < cs.length) : cs.take (i + 1) = cs.take i ++ [cs.getD i 0] := by
  rw [List.take_add_one]; simp [List.getD, h]

set_option maxRecDepth 100000 in
set_option maxHeartbeats 1000000 in
theorem pairsTurned_any (a : Option Addr) (cap m : Nat) (cs : List Nat) (w : World) (hx : cs.length = m) (hm : m ≤ 6) (hcap : m ≤ cap) (hc63 : cap ≤ 9223372036854775807) (ha : RowR w a (ints cs)) :
    Calls Try.prog 128 #[.slice a m cap] w fun e w' => e = .returned (.int .i64 (inv cs)) ∧ w = w' := by
  have HX := Lib.hid hx
  have hinv : inv cs = invTo cs m := by unfold inv; rw [hx]
  rw [hinv]
  have HB := Lib.hid (fun i (h : i ≤ m) => invTo_le cs i (by omega))
  clear hx hinv
  go_enter Try.func128, Try.ntmps128
  go_wp2
  go_loopg [3, 4, 5, 7, 10] m (fun g s _ _ _ i wr => ∃ k : Nat, k ≤ m ∧ g = m - k ∧ i = .int .i64 k ∧ s = .int .i64 (invTo cs k) ∧ w = wr)
  case atStart => exact ⟨0, Nat.zero_le _, rfl, rfl, rfl, rfl⟩
  case round =>
    obtain ⟨k, hk, rfl, rfl, rfl, rfl⟩ := hrel
    by_cases hlt : k < m
    · obtain ⟨b, o, rfl, hc⟩ := ha (by rw [ints_length, HX.out]; omega)
      have cj := hc k (by rw [ints_length, HX.out]; exact hlt)
      have HC := Lib.hid hc
      rw [ints_getD] at cj
      obtain ⟨y, hy⟩ : ∃ y, y = cs.getD k 0 := ⟨_, rfl⟩
      rw [← hy] at cj
      have HY := Lib.hid hy
      have hib := HB.out k (by omega)
      rw [HX.out] at hib
      obtain ⟨I, hI⟩ : ∃ I, I = invTo cs k := ⟨_, rfl⟩
      rw [← hI] at hib
      have hib2 : k * m ≤ 6 * 6 := Nat.mul_le_mul (by omega) hm
      have HI := Lib.hid hI
      clear hc hy
      rw [← hI]
      clear hI
      go_wp2
      go_loopg [3, 7, 19] k (fun g s _ i wi => ∃ j : Nat, j ≤ k ∧ g = k - j ∧ i = .int .i64 j ∧ s = .int .i64 ((I + cnt y (cs.take j) : Nat) : Int) ∧ w = wi)
      case atStart => exact ⟨0, Nat.zero_le _, rfl, rfl, by simp [cnt], rfl⟩
      case round =>
        obtain ⟨j, hj, rfl, rfl, rfl, rfl⟩ := hrel
        by_cases hjk : j < k
        · have cz := HC.out j (by rw [ints_length, HX.out]; omega)
          rw [ints_getD] at cz
          have hts := take_succ_getD cs (i := j) (by rw [HX.out]; omega)
          obtain ⟨z, hz⟩ : ∃ z, z = cs.getD j 0 := ⟨_, rfl⟩
          rw [← hz] at cz hts
          have hcn := cnt_snoc y (cs.take j) z
          rw [← hts] at hcn
          have hcl := cnt_le y (cs.take j)
          have hcl2 : (cs.take j).length ≤ j := by simp; omega
          obtain ⟨S, hS⟩ : ∃ S, S = I + cnt y (cs.take j) := ⟨_, rfl⟩
          rw [← hS]
          have HS : S ≤ 100 := by omega
          have HN : (I + cnt y (cs.take (j + 1)) : Nat) = S + (if y < z then 1 else 0) := by rw [hcn]; omega
          have HNN := Lib.hid HN
          clear hcn hcl hcl2 hS hts hz HN
          by_cases hyz : y < z
          · have hg : ((y : Int) < (z : Int)) := by omega
            go_wp2
            go_roundg (k - (j + 1))
            case measure => omega
            case rel => exact ⟨j + 1, by omega, rfl, by go_num, by rw [HNN.out, if_pos hyz]; go_num, rfl⟩
          · have hg : ¬ ((y : Int) < (z : Int)) := by omega
            go_wp2
            go_roundg (k - (j + 1))
            case measure => omega
            case rel => exact ⟨j + 1, by omega, rfl, by go_num, by rw [HNN.out, if_neg hyz]; go_num, rfl⟩
        · have : k = j := by omega
          subst this
          have e : I + cnt y (cs.take k) = invTo cs (k + 1) := by rw [HI.out, HY.out]; rfl
          rw [e]
          go_wp2
          go_roundg (m - (k + 1))
          case measure => omega
          case rel => exact ⟨k + 1, by omega, rfl, by go_num, rfl, rfl⟩
    · have : m = k := by omega
      subst this
      go_wp2
      go_ret
      exact ⟨rfl, rfl⟩

def lprod {n : Nat} (s : Int) (f : Nat → Int) (pre : List {i : Nat // i < n}) : Int := pre.foldl (fun s x => s * f x.1) s
theorem lprod_snoc {n : Nat} (s : Int) (f : Nat → Int) (pre : List {i : Nat // i < n}) (x : {i : Nat // i < n}) : lprod s f (pre ++ [x]) = lprod s f pre * f x.1 := by simp [lprod]
theorem lprod_sel (s0 : Int) (f : Nat → Int) (s n : Nat) (hs : ∀ i, i < n → s.testBit i = true) : ∀ k, k ≤ n → lprod s0 f (sel s n k) = prodN s0 f k
  | 0, _ => rfl
  | k + 1, hk => by
    rw [sel_yes s n k (by omega) (hs k (by omega)), lprod_snoc, lprod_sel s0 f s n hs k (by omega)]; rfl
theorem lprod_bd {n : Nat} {s : Int} (hs : -1 ≤ s ∧ s ≤ 1) (f : Nat → Int) (hf : ∀ j, j < n → -30 ≤ f j ∧ f j ≤ 30) (pre : List {i : Nat // i < n}) : -(p180 pre.length) ≤ lprod s f pre ∧ lprod s f pre ≤ p180 pre.length := by
  have H : ∀ (pre : List {i : Nat // i < n}) (s B : Int), -B ≤ s → s ≤ B → 1 ≤ B → -(B * p180 pre.length) ≤ pre.foldl (fun s x => s * f x.1) s ∧ pre.foldl (fun s x => s * f x.1) s ≤ B * p180 pre.length := by
    intro pre
    induction pre with
    | nil => intro s B h1 h2 h3; simp only [List.length_nil, p180, List.foldl_nil]; omega
    | cons x xs ih =>
      intro s B h1 h2 h3
      have h4 := hf x.1 x.2
      have h5 := mul_bdB h4.1 h4.2 h1 h2
      have hc := Int.mul_comm s (f x.1)
      have h6 := ih (s * f x.1) (180 * B) (by omega) (by omega) (by omega)
      simp only [List.foldl_cons, List.length_cons, p180]
      rw [show B * (180 * p180 xs.length) = 180 * B * p180 xs.length by rw [← Int.mul_assoc, Int.mul_comm B 180]]
      exact h6
  have := H pre s 1 (by omega) (by omega) (by omega)
  rw [Int.one_mul] at this
  exact this

theorem prodO_world (w : World) (v0 v1 v2 v3 : Value) (t t' : TypeId) (W0 : World) (h : W0 = ((((w.alloc (.cells #[v0] t')).alloc (.cells #[v1] 3)).alloc (.cells #[v2] t)).alloc (.cells #[v3] 3))) :
    W0.heap.size = w.heap.size + 1 + 1 + 1 + 1 ∧ Below w.heap.size w W0 ∧ W0.cell? ⟨w.heap.size, 0, none⟩ = some v0 ∧ W0.cell? ⟨w.heap.size + 1, 0, none⟩ = some v1 ∧ W0.frozen? ⟨w.heap.size + 1, 0, none⟩ = false ∧ W0.cell? ⟨w.heap.size + 1 + 1, 0, none⟩ = some v2 ∧ W0.cell? ⟨w.heap.size + 1 + 1 + 1, 0, none⟩ = some v3 := by
  have c0 := cell_new_l w v0 t'
  have c1 := cell_new_l (w.alloc (.cells #[v0] t')) v1 3
  have c2 := cell_new_l ((w.alloc (.cells #[v0] t')).alloc (.cells #[v1] 3)) v2 t
  have c3 := cell_new_l (((w.alloc (.cells #[v0] t')).alloc (.cells #[v1] 3)).alloc (.cells #[v2] t)) v3 3
  simp only [World.size_alloc] at c1 c2 c3
  refine ⟨by rw [h]; simp, ?_, ?_, ?_, ?_, ?_, ?_⟩
  · rw [h]; exact ((((Below.refl _ w).alloc (Nat.le_refl _) _).alloc (by simp) _).alloc (by simp; omega) _).alloc (by simp; omega) _
  · rw [h]; exact cell_alloc_l _ (cell_alloc_l _ (cell_alloc_l _ c0.1))
  · rw [h]; exact cell_alloc_l _ (cell_alloc_l _ c1.1)
  · rw [h]; exact frozen_alloc_l _ (cell_alloc_l _ c1.1) (frozen_alloc_l _ c1.1 c1.2)
  · rw [h]; exact cell_alloc_l _ c2.1
  · rw [h]; exact c3.1

set_option maxRecDepth 100000 in
set_option maxHeartbeats 2000000 in
theorem plainProduct_any (a : Option Addr) (cap n : Nat) (l : List (List Int)) (g ccap : Nat) (cs : List Nat) (w : World) (hn : l.length = n) (hT : TabIn l) (hw : (l.getD 0 []).length = n) (hm : MatR w a l) (hx : cs.length = n) (hcs : ∀ c ∈ cs, c < n) (hr : RowR w (some ⟨g, 0, none⟩) (ints cs)) :
    Calls Try.prog 129 #[.slice a n cap, .slice (some ⟨g, 0, none⟩) n ccap] w fun e w' => e = .returned (.int .i64 (prodN 1 (fun i => at2 l i (cs.getD i 0)) n)) ∧ w.Since w.heap.size w' := by
  have h6 := hT.2.1
  have h1 := hT.1
  rw [hn] at h6 h1
  obtain ⟨b, o, A, C, rfl, hlen, hcell⟩ := hm.grid hn hT hw
  have hbl : b < w.heap.size := World.block_lt_of_cell? _ _ (hlen 0 (by omega))
  have hpow : 2 ^ n - 1 ≤ 63 := by have : 2 ^ n ≤ 2 ^ 6 := Nat.pow_le_pow_right (by omega) h6; omega
  have hrow : ∀ j, j < n → w.cell? ⟨g, j, none⟩ = some (.int .i64 (cs.getD j 0 : Nat)) := fun j hj => by
    obtain ⟨b2, o2, e, hc⟩ := hr (by rw [ints_length]; omega)
    injection e with e
    injection e with e1 e2 _
    subst e1 e2
    have := hc j (by rw [ints_length]; omega)
    rw [ints_getD, Nat.zero_add] at this
    exact this
  have hgl : g < w.heap.size := World.block_lt_of_cell? _ _ (hrow 0 (by omega))
  have hcj : ∀ j, j < n → cs.getD j 0 < n := fun j hj => by
    have : cs.getD j 0 = cs[j]'(by omega) := by simp [List.getD, show j < cs.length by omega]
    rw [this]; exact hcs _ (List.getElem_mem _)
  have HC := Lib.hid hcell
  have HL := Lib.hid hlen
  have HROW := Lib.hid hrow
  have HCJ := Lib.hid hcj
  obtain ⟨f, hf⟩ : ∃ f : Nat → Int, f = fun i => at2 l i (cs.getD i 0) := ⟨_, rfl⟩
  rw [← hf]
  have hsb : -1 ≤ (1 : Int) ∧ (1 : Int) ≤ 1 := by omega
  have HSB := Lib.hid hsb
  have HF := Lib.hid hf
  have hmix : Try.prog.follows .mixedOrders = true := by kernel_rfl
  clear hm hn hT hw hlen hcell hf hsb hr hrow hcj hcs hx
  refine (callsIn_wide (n := 9)).1 ?_
  refine callsIn_of_wp_marks Try.func129 rfl trivial ?_ rfl
  simp only [Try.ntmps129, List.size_toArray, List.length_cons, List.length_nil, Nat.reduceAdd, Nat.reduceSub, Array.replicate_succ, Array.replicate_zero, List.push_toArray, List.append_toArray, List.nil_append, List.cons_append]
  gi_wp2_with (first
    | (refine ⟨trivial, ?_⟩; gi_at_call 93; refine (callsIn_wide.2 (allRows_any _ _ _ _ h6)).mono ?_; rintro e w' ⟨rfl, rfl⟩)
    | (refine ⟨trivial, ?_⟩; gi_at_call 91; refine (callsIn_wide.2 (rows_any _ _ _ _ _)).mono ?_; rintro e w' ⟨rfl, rfl⟩))
  obtain ⟨W0, hW0⟩ : ∃ W0, W0 = ((((w.alloc (.cells #[.slice (some ⟨g, 0, none⟩) n ccap] 33)).alloc (.cells #[.int .i64 1] 3)).alloc (.cells #[.slice (some ⟨b, o, none⟩) n cap] 54)).alloc (.cells #[.int .i64 (2 ^ n - 1 : Nat)] 3)) := ⟨_, rfl⟩
  rw [← hW0]
  obtain ⟨hsz0, hB0, d0, d1, d1f, d2, d3⟩ := prodO_world w (.slice (some ⟨g, 0, none⟩) n ccap) (.int .i64 1) (.slice (some ⟨b, o, none⟩) n cap) (.int .i64 (2 ^ n - 1 : Nat)) 54 33 W0 hW0
  have hc0' : ∀ j, j < n → W0.cell? ⟨b, o + j, none⟩ = some (.slice (A j) n (C j)) := fun j hj => (hB0.cell (p := ⟨b, o + j, none⟩) hbl).trans (HL.out j hj)
  have hstops := rows_stopsB 8 (by omega) (w.heap.size + 1) W0.heap.size (w.heap.size + 1 + 1) (w.heap.size + 1 + 1 + 1) b o n cap (2 ^ n - 1) (by omega) hpow A (fun _ => n) C W0 (Nat.le_refl _) (by omega) (by omega) (by omega) (by omega) (by omega) d2 d3 hc0'
  clear hc0' d2 d3 hW0
  refine wpIn_rangeFunc_ownF (F := Fence.wide) (n := 9) rfl (by omega) (gf := 107) (lb := #[.pointer (some ⟨w.heap.size + 1 + 1, 0, none⟩), .pointer (some ⟨w.heap.size + 1 + 1 + 1, 0, none⟩)]) rfl trivial (enters_of Try.func107 (by kernel_rfl) rfl)
    hstops kpB_t (kpB_b (Nat.le_refl _)) (Below.refl _ _) (fun _ => rfl)
    (fun pre W => (W.cell? ⟨w.heap.size, 0, none⟩ = some (.slice (some ⟨g, 0, none⟩) n ccap) ∧ W.cell? ⟨w.heap.size + 1, 0, none⟩ = some (.int .i64 (lprod 1 f pre)) ∧ W.frozen? ⟨w.heap.size + 1, 0, none⟩ = false) ∧ Below w.heap.size w W)
    (fun _ _ _ => False)
    (OwnFrom.and (Own.from (fun s A B row hs hg hr => ⟨cell_kept hs.1 hg hr, cell_kept hs.2.1 hg hr, (frozen_kept hs.2.1 hg hr).trans hs.2.2⟩) _) (ownFrom_below (Nat.le_refl _) (by omega)))
    (fun c => fun s A B row hs hg hr => hs)
    ⟨⟨d0, d1, d1f⟩, hB0⟩
    (fun x => { tmps := #[.slice (some ⟨b, o, none⟩) n cap, .slice (some ⟨g, 0, none⟩) n ccap, undef, .pointer (some ⟨w.heap.size, 0, none⟩), .int .i64 0, .pointer (some ⟨w.heap.size + 1, 0, none⟩), .int .i64 x.1, .slice (A x.1) n (C x.1),
        .slice (some ⟨b, o, none⟩) n cap, .slice (some ⟨b, o, none⟩) n cap, .int .i64 (2 ^ n - 1 : Nat),
        .func (.func 107) #[] #[.pointer (some ⟨w.heap.size + 1 + 1, 0, none⟩), .pointer (some ⟨w.heap.size + 1 + 1 + 1, 0, none⟩)],
        .int .i64 x.1, .slice (A x.1) n (C x.1), undef, undef, undef, undef, undef, undef, undef, undef, undef, undef], defers := [] }) ?assign ?body ?done ?stop
  case assign =>
    intro lp x W K hK
    gi_wp2
    exact hK
  case body =>
    rintro lp pre x W ⟨⟨q0, q1, q1f⟩, gB⟩ hlen
    have hx2 := x.2
    obtain ⟨j, hj⟩ : ∃ j, x.1 = j := ⟨_, rfl⟩
    rw [hj] at hx2 ⊢
    have hcj := HCJ.out j hx2
    have hgj := HROW.out j hx2
    obtain ⟨c, hc⟩ : ∃ c, cs.getD j 0 = c := ⟨_, rfl⟩
    obtain ⟨bj, oj, e1, e2, e3⟩ := HC.out j (cs.getD j 0) hx2 hcj
    have hA : A j = some ⟨bj, oj, none⟩ := by
      have := (HL.out j hx2).symm.trans e1
      simp at this
      exact this
    rw [hA]
    have hsn := lprod_snoc 1 f pre x
    rw [hj] at hsn
    have hfj : f j = at2 l j (cs.getD j 0) := by rw [HF.out]
    have hlb := lprod_bd HSB.out f (fun j hj => by
      obtain ⟨_, _, _, _, b1⟩ := HC.out j (cs.getD j 0) hj (HCJ.out j hj)
      rw [HF.out]; exact b1) pre
    have hp6 := p180_le pre.length (by omega)
    obtain ⟨p, hp⟩ : ∃ p, at2 l j (cs.getD j 0) = p := ⟨_, rfl⟩
    obtain ⟨s, hs⟩ : ∃ s, lprod 1 f pre = s := ⟨_, rfl⟩
    rw [hp] at e2 e3 hfj
    rw [hs] at q1 hsn hlb
    rw [hc] at e2 hcj hgj
    have hmb := mul_bdB e3.1 e3.2 hlb.1 hlb.2
    have hcm := Int.mul_comm p s
    have hw2 : IntKind.i64.wrap (s * p) = s * p := IntWalk.i64_in _ ⟨by omega, by omega⟩
    rw [hfj] at hsn
    have HSN := Lib.hid hsn
    have hbj : bj < w.heap.size := World.block_lt_of_cell? _ _ e2
    have E2 := (gB.cell (p := ⟨bj, oj + c, none⟩) hbj).trans e2
    have E3 := (gB.cell (p := ⟨g, j, none⟩) hgl).trans hgj
    clear hj hp hs hsn hlb hfj e1 e2 hA hmb hcm hc hgj
    gi_wp2
    refine round_still_tail 9 hmix (by kernel_rfl) (by kernel_rfl) ?hno ?_
    case hno =>
      rintro ⟨a, w, h⟩
      exact h
    simp only [List.take_succ_cons, List.take_zero, List.drop_succ_cons, List.drop_zero]
    repeat still_step
    refine wpStill_nil ?_
    go_wp2
    rw [← HSN.out] at hw2 ⊢
    refine ⟨(KeepsOthers.setCell _ _ _).trans (KeepsOthers.drew _), ⟨?_, fun b h1 _ => ?_⟩, ⟨?_, ?_, ?_⟩, (gB.setCell (p := ⟨w.heap.size + 1, 0, none⟩) (by simp) _).drew⟩
    · simp
    · exact Below.heap_setCell _ _ _ _ h1
    · exact (World.cell?_setCell_other _ _ _ _ (fun e => by injection e with e1; omega)).trans q0
    · exact World.cell?_setCell_same' _ _ _ (by rw [q1]; rfl)
    · exact (World.frozen?_setCell _ _ _ _).trans q1f
  case done =>
    rintro D ys W hD rfl ⟨⟨q0, q1, q1f⟩, gB⟩ hK
    gi_wp2
    refine ⟨by simp, .inl ⟨_, _, rfl, run_takeDeferred hK, ?_⟩⟩
    have hls := lprod_sel 1 f (2 ^ n - 1) n (fun i hi => by rw [Nat.testBit_two_pow_sub_one]; simpa using hi) n (Nat.le_refl _)
    refine ⟨.int .i64 (prodN 1 f n), ?_, rfl, below_since (gB.trans (belowK_b (w := w) (Nat.le_refl _) W D _ _ (by omega) hK rfl rfl))⟩
    simp [results, Try.f129, go_sem, hls]
  case stop =>
    rintro D c pre W hD hpre hF hK
    exact hF.elim

theorem ordS_plain (l : List (List Int)) (n : Nat) {cs : List Nat} (hx : cs.length = n) : ordS l n 0 cs = sn (inv cs) * prodN 1 (fun i => at2 l i (cs.getD i 0)) n := by
  show prodN (sn (inv cs)) _ cs.length = _
  rw [hx, ← prodN_neg, Int.mul_one]

set_option maxRecDepth 100000 in
set_option maxHeartbeats 2000000 in
theorem orderedProduct_any (a : Option Addr) (cap n : Nat) (l : List (List Int)) (g ccap : Nat) (cs : List Nat) (w : World) (hn : l.length = n) (hT : TabIn l) (hw : (l.getD 0 []).length = n) (hm : MatR w a l) (hx : cs.length = n) (hcs : ∀ c ∈ cs, c < n) (hcap : n ≤ ccap) (hc63 : ccap ≤ 9223372036854775807) (hr : RowR w (some ⟨g, 0, none⟩) (ints cs)) :
    Calls Try.prog 120 #[.slice a n cap, .slice (some ⟨g, 0, none⟩) n ccap] w fun e w' => e = .returned (.int .i64 (ordS l n 0 cs)) ∧ w.Since w.heap.size w' := by
  have h6 := hT.2.1
  rw [hn] at h6
  have hib := invTo_le cs n (by omega)
  rw [hx] at hib
  have hib2 : n * n ≤ 6 * 6 := Nat.mul_le_mul h6 h6
  have hi64 : inv cs < 64 := by unfold inv; rw [hx]; omega
  have EP := Lib.hid (pairsTurned_any (some ⟨g, 0, none⟩) ccap n cs w hx h6 hcap hc63 hr)
  have ES := fun (W : World) => signOf_any (inv cs) hi64 W
  have EQ := plainProduct_any a cap n l g ccap cs w hn hT hw hm hx hcs hr
  have hsb := sn_bd (inv cs)
  have hob := ordS_bd (l := l) (n := n) h6 (fun i j hi hj => hT.at (by omega) (by omega)) 0 cs (by omega) hcs
  have hb0 : b6 0 = 34012224000000 := rfl
  rw [ordS_plain l n hx] at hob ⊢
  obtain ⟨s0, hs0⟩ : ∃ s, s = sn (inv cs) := ⟨_, rfl⟩
  obtain ⟨p, hp⟩ : ∃ p, p = prodN 1 (fun i => at2 l i (cs.getD i 0)) n := ⟨_, rfl⟩
  rw [← hs0, ← hp] at hob ⊢
  rw [← hp] at EQ
  simp only [← hs0] at ES
  replace ES := Lib.hid ES
  replace EQ := Lib.hid EQ
  have hwr : IntKind.i64.wrap (s0 * p) = s0 * p := IntWalk.i64_in _ ⟨by omega, by omega⟩
  obtain ⟨I, hI⟩ : ∃ I, I = inv cs := ⟨_, rfl⟩
  simp only [← hI] at EP ES
  clear hm hn hT hw hr hcs hx hib hib2 hi64 hI hs0 hp hob hsb
  go_enter Try.func120, Try.ntmps120
  go_wp2_with (first
    | (go_at_call 128; refine (EP.out).mono ?_; rintro e w' ⟨rfl, rfl⟩)
    | (go_at_call 70; refine (ES.out _).mono ?_; rintro e w' ⟨rfl, rfl⟩)
    | (go_at_call 129; refine (EQ.out).mono ?_; rintro e w' ⟨rfl, hs⟩; have HS := Lib.hid hs; clear hs))
  go_ret
  exact ⟨rfl, HS.out⟩

end Go.Proofs.Ytikjeaoapeaabaa
end

section
namespace Go.Proofs.Ytikjeaoapeaabaa
open Go.RowKit Go.Deep Go.Maps Go.MapKept Go.ChangeMaps

def fnE (v : Value) : Option (DataW Value × List MemPlace) := some (.held v, [])
theorem way_keyed : Keyed Try.prog 49 := int_keyed Try.underlying49
def RoadsAt (w : World) (b : Nat) : Prop := ∃ n D, n ≤ 6 ∧ w.ownsMap Try.prog 49 fnE b n D
theorem RoadsAt.kept {w w' : World} {b : Nat} {row : Option Nat} (h : RoadsAt w b) (hg : w.grownBy w' row) (hne : some b ≠ row) : RoadsAt w' b := by
  obtain ⟨n, D, h1, h2⟩ := h; exact ⟨n, D, h1, h2.kept hg hne⟩
theorem RoadsAt.lt {w : World} {b : Nat} (h : RoadsAt w b) : b < w.heap.size := by obtain ⟨_, _, _, h2⟩ := h; exact h2.lt
theorem roads_made (w : World) : RoadsAt (w.alloc (.map #[] 0)) w.heap.size := ⟨0, _, by omega, World.ownsMap_made _ _ _ _⟩
theorem grown_of_since {w w' : World} {row : Option Nat} (h : w.Since w.heap.size w') : w.grownBy w' row := ⟨h.os, h.tape, h.output, h.size, fun k hk _ => h.block k hk⟩

theorem ownsMap_clear {H : Type} {P : Program} {k e t : TypeId} {R : Value → Option (DataW H × List MemPlace)} {w : World} {b n : Nat} {D : DataW H} (h : w.ownsMap P k R b n D) (ht : P.underlying t = some (.map k e)) (ty : TypeId) :
    ∃ w', (Builtin.clear_ #[t] ty #[.map (some b)]).run P w = .ok (.tuple #[]) w' ∧ w'.ownsMap P k R b 0 (.map []) ∧ w.grownBy w' (some b) := by
  obtain ⟨es, clock, hb, F, _, _⟩ := h
  refine ⟨setBlock w b (.map #[] clock), ?_, ⟨#[], clock, heap_setBlock_same hb _, ⟨by simp, stamped_empty clock, by simp⟩, Nat.le_refl _, rfl⟩, ⟨rfl, rfl, rfl, by simp [setBlock], fun i _ hi => heap_setBlock_other hb _ (fun e => hi (by rw [e]))⟩⟩
  simp [Builtin.clear_, underlying, Sem.run, ht, getObj, setObj, hb, Result.andThen, setBlock]

theorem wpList_clear_own {H : Type} {P : Program} (w : World) {ops : Array Oper} {rest : List Oper} {o : Oper} {a : Act} {Q : Exit → Act → World → Prop}
    (hg : o.guard = none) (m : Operand) (t : TypeId) (hop : o.op = Op.call { callee := Callee.builtin Builtin.clear, args := #[m], argTypes := #[t] })
    (k e : TypeId) (ht : P.underlying t = some (.map k e)) (R : Value → Option (DataW H × List MemPlace)) (b n : Nat) (D : DataW H) (hm : a.eval m = .map (some b)) (hown : w.ownsMap P k R b n D)
    (hK : ∀ w', w'.ownsMap P k R b 0 (.map []) → w.grownBy w' (some b) → wpList P ops Q rest (a.put o.dst (.tuple #[])) w') :
    wpList P ops Q (o :: rest) a w := by
  refine wpList_plain hg fun K' hK' => ?_
  obtain ⟨w', hrun, r1, r2⟩ := ownsMap_clear hown ht o.type
  unfold Oper.wp
  simp [execOp, hop, resolve, invoke, builtin, hm, hrun, Result.andThen]
  exact hK' _ _ (hK w' r1 r2)

theorem wpList_lookup_fn {P : Program} (w : World) {ops : Array Oper} {rest : List Oper} {o : Oper} {a : Act} {Q : Exit → Act → World → Prop}
    (hg : o.guard = none) (m x : Operand) (t : TypeId) (hop : o.op = Op.lookup t m x false)
    (k e : TypeId) (K : Keyed P k) (ht : P.underlying t = some (.map k e)) (z : Value) (hz : (zeroValue e).run P w = .ok z w) (b n : Nat) (D : DataW Value)
    (hm : a.eval m = .map (some b)) (hown : w.ownsMap P k fnE b n D) (key : Value) (kl : Lit) (hx : a.eval x = key) (hkey : keyOf P k key = some kl) (v : Value) (hv : D.atKey kl (.held z) = .held v)
    (hK : wpList P ops Q rest (a.put o.dst v) w) :
    wpList P ops Q (o :: rest) a w := by
  refine wpList_plain hg fun K' hK' => ?_
  obtain ⟨u, ps, hrun, hu⟩ := hown.lookup K ht hz (zd := .held z) (zp := []) rfl hkey
  rw [hv] at hu
  have e : u = v := by injection hu with hu; injection hu with hu _; injection hu
  subst e
  unfold Oper.wp
  simp [execOp, hop, hm, hx, hrun, Result.andThen]
  exact hK' _ _ hK

theorem zero_road (w : World) : (zeroValue 83).run Try.prog w = .ok .nilFunc w := by kernel_rfl

set_option maxHeartbeats 400000 in
theorem sure1_any (p K : Nat) (tv : Value) (x : Int) (w : World) (hp : w.cell? ⟨p, 0, none⟩ = some (.func (.func K) #[tv] #[])) (eg : ∀ args w, (callFunc K args).run Try.prog w = .ok (.enter K args) w)
    (hc : Calls Try.prog K #[tv] w fun e w' => e = .returned (.int .i64 x) ∧ w.Since w.heap.size w') :
    Calls Try.prog 110 #[.pointer (some ⟨p, 0, none⟩)] w fun e w' => e = .returned (.tuple #[.int .i64 x, .bool true]) ∧ w.Since w.heap.size w' := by
  have E := Lib.hid hc
  clear hc
  go_enter Try.func110, Try.ntmps110
  go_wp2_with fail
  refine (E.out).mono ?_
  rintro e w' ⟨rfl, hs⟩
  go_wp2
  go_ret2
  exact ⟨rfl, hs⟩

set_option maxHeartbeats 400000 in
theorem sure_any (K : Nat) (tv : Value) (w : World) :
    Calls Try.prog 100 #[.func (.func K) #[tv] #[]] w fun e w' => e = .returned (.func (.func 110) #[] #[.pointer (some ⟨w.heap.size, 0, none⟩)]) ∧ w' = w.alloc (.cells #[.func (.func K) #[tv] #[]] 55) := by
  go_enter Try.func100, Try.ntmps100
  go_wp2
  go_ret
  exact ⟨rfl, rfl⟩

set_option maxRecDepth 100000 in
set_option maxHeartbeats 2000000 in
theorem roads_0 (rb : Nat) (a : Option Addr) (n cap : Nat) (x : Int) (W : World) (hr : RoadsAt W rb) (ht : ∀ W', W.grownBy W' (some rb) → Calls Try.prog 101 #[.slice a n cap] W' (fun e w' => e = .returned (.int .i64 x) ∧ W'.Since W'.heap.size w')) :
    Calls Try.prog 86 #[.map (some rb), .slice a n cap, .int .i64 0] W (fun e w' => e = .returned (.tuple #[.int .i64 x, .bool true]) ∧ W.grownBy w' (some rb) ∧ RoadsAt w' rb) := by
  obtain ⟨n0, D0, _, hown⟩ := hr
  have hlt := hown.lt
  have HT := Lib.hid ht
  clear ht
  obtain ⟨w0, hrun, o0, g0⟩ := ownsMap_clear hown Try.underlying57 0
  go_enter Try.func86, Try.ntmps86
  have G0 := g0
  go_wp2_with (first
    | (at_mapUpdate; refine wpList_mapUpdate_own _ rfl _ _ _ 57 rfl 49 83 way_keyed Try.underlying57 fnE rb 0 _ rfl (o0.alloc _) (by decide) _ _ (.int .i64 0) rfl rfl (keyOf_int_mk Try.underlying49 (by decide)) _ _ rfl ?_; intro w1 o1 g1; have G1 := G0.trans ((World.grownBy_alloc w0 _ _).trans g1); have cb := (World.cell?_of_block (a := ⟨w0.heap.size, 0, none⟩) (g1.block _ (by simp) (by intro e; injection e with e; have := G0.size; simp only at e; omega))).trans (cell_new_l w0 (.func (.func 101) #[.slice a n cap] #[]) 55).1; have hpb : w0.heap.size < w1.heap.size := by (have := g1.size; simp at this; omega))
    | (at_mapUpdate; refine wpList_mapUpdate_own _ rfl _ _ _ 57 rfl 49 83 way_keyed Try.underlying57 fnE rb 1 _ rfl (o1.alloc _) (by decide) _ _ (.int .i64 1) rfl rfl (keyOf_int_mk Try.underlying49 (by decide)) _ _ rfl ?_; intro w2 o2 g2; have G2 := G1.trans ((World.grownBy_alloc w1 _ _).trans g2); have cb := (World.cell?_of_block (a := ⟨w0.heap.size, 0, none⟩) (g2.block _ (by simp; omega) (by intro e; injection e with e; have := G0.size; simp only at e; omega))).trans (cell_alloc_l _ cb); have hpb : w0.heap.size < w2.heap.size := by (have := g2.size; simp at this; omega))
    | (at_mapUpdate; refine wpList_mapUpdate_own _ rfl _ _ _ 57 rfl 49 83 way_keyed Try.underlying57 fnE rb 2 _ rfl (o2.alloc _) (by decide) _ _ (.int .i64 2) rfl rfl (keyOf_int_mk Try.underlying49 (by decide)) _ _ rfl ?_; intro w3 o3 g3; have G3 := G2.trans ((World.grownBy_alloc w2 _ _).trans g3); have cb := (World.cell?_of_block (a := ⟨w0.heap.size, 0, none⟩) (g3.block _ (by simp; omega) (by intro e; injection e with e; have := G0.size; simp only at e; omega))).trans (cell_alloc_l _ cb); have hpb : w0.heap.size < w3.heap.size := by (have := g3.size; simp at this; omega))
    | (at_mapUpdate; refine wpList_mapUpdate_own _ rfl _ _ _ 57 rfl 49 83 way_keyed Try.underlying57 fnE rb 3 _ rfl o3 (by decide) _ _ (.int .i64 3) rfl rfl (keyOf_int_mk Try.underlying49 (by decide)) _ _ rfl ?_; intro w4 o4 g4; have G4 := G3.trans g4; have cb := (World.cell?_of_block (a := ⟨w0.heap.size, 0, none⟩) (g4.block _ (by omega) (by intro e; injection e with e; have := G0.size; simp only at e; omega))).trans cb)
    | (at_lookup; refine wpList_lookup_fn _ rfl _ _ 57 rfl 49 83 way_keyed Try.underlying57 .nilFunc (zero_road _) rb 4 _ rfl o4 (.int .i64 0) _ rfl (keyOf_int_mk Try.underlying49 (by decide)) ((.func (.func 110) #[] #[.pointer (some ⟨w0.heap.size, 0, none⟩)])) rfl ?_)
    | (go_at_call 100; refine (sure_any _ _ _).mono ?_; rintro e w' ⟨rfl, rfl⟩)
    | (go_at_call 110; refine (sure1_any w0.heap.size 101 (.slice a n cap) x w4 cb (enters_of Try.func101 (by kernel_rfl) rfl) (HT.out w4 G4)).mono ?_; rintro e w5 ⟨rfl, hs5⟩))
  go_ret2
  exact ⟨rfl, G4.trans (grown_of_since hs5), ⟨4, _, by omega, o4.kept (grown_of_since (row := none) hs5) (by simp)⟩⟩

set_option maxRecDepth 100000 in
set_option maxHeartbeats 2000000 in
theorem roads_1 (rb : Nat) (a : Option Addr) (n cap : Nat) (x : Int) (W : World) (hr : RoadsAt W rb) (ht : ∀ W', W.grownBy W' (some rb) → Calls Try.prog 102 #[.slice a n cap] W' (fun e w' => e = .returned (.int .i64 x) ∧ W'.Since W'.heap.size w')) :
    Calls Try.prog 86 #[.map (some rb), .slice a n cap, .int .i64 1] W (fun e w' => e = .returned (.tuple #[.int .i64 x, .bool true]) ∧ W.grownBy w' (some rb) ∧ RoadsAt w' rb) := by
  obtain ⟨n0, D0, _, hown⟩ := hr
  have hlt := hown.lt
  have HT := Lib.hid ht
  clear ht
  obtain ⟨w0, hrun, o0, g0⟩ := ownsMap_clear hown Try.underlying57 0
  go_enter Try.func86, Try.ntmps86
  have G0 := g0
  go_wp2_with (first
    | (at_mapUpdate; refine wpList_mapUpdate_own _ rfl _ _ _ 57 rfl 49 83 way_keyed Try.underlying57 fnE rb 0 _ rfl (o0.alloc _) (by decide) _ _ (.int .i64 0) rfl rfl (keyOf_int_mk Try.underlying49 (by decide)) _ _ rfl ?_; intro w1 o1 g1; have G1 := G0.trans ((World.grownBy_alloc w0 _ _).trans g1))
    | (at_mapUpdate; refine wpList_mapUpdate_own _ rfl _ _ _ 57 rfl 49 83 way_keyed Try.underlying57 fnE rb 1 _ rfl (o1.alloc _) (by decide) _ _ (.int .i64 1) rfl rfl (keyOf_int_mk Try.underlying49 (by decide)) _ _ rfl ?_; intro w2 o2 g2; have G2 := G1.trans ((World.grownBy_alloc w1 _ _).trans g2); have cb := (World.cell?_of_block (a := ⟨w1.heap.size, 0, none⟩) (g2.block _ (by simp) (by intro e; injection e with e; have := G1.size; simp only at e; omega))).trans (cell_new_l w1 (.func (.func 102) #[.slice a n cap] #[]) 55).1; have hpb : w1.heap.size < w2.heap.size := by (have := g2.size; simp at this; omega))
    | (at_mapUpdate; refine wpList_mapUpdate_own _ rfl _ _ _ 57 rfl 49 83 way_keyed Try.underlying57 fnE rb 2 _ rfl (o2.alloc _) (by decide) _ _ (.int .i64 2) rfl rfl (keyOf_int_mk Try.underlying49 (by decide)) _ _ rfl ?_; intro w3 o3 g3; have G3 := G2.trans ((World.grownBy_alloc w2 _ _).trans g3); have cb := (World.cell?_of_block (a := ⟨w1.heap.size, 0, none⟩) (g3.block _ (by simp; omega) (by intro e; injection e with e; have := G1.size; simp only at e; omega))).trans (cell_alloc_l _ cb); have hpb : w1.heap.size < w3.heap.size := by (have := g3.size; simp at this; omega))
    | (at_mapUpdate; refine wpList_mapUpdate_own _ rfl _ _ _ 57 rfl 49 83 way_keyed Try.underlying57 fnE rb 3 _ rfl o3 (by decide) _ _ (.int .i64 3) rfl rfl (keyOf_int_mk Try.underlying49 (by decide)) _ _ rfl ?_; intro w4 o4 g4; have G4 := G3.trans g4; have cb := (World.cell?_of_block (a := ⟨w1.heap.size, 0, none⟩) (g4.block _ (by omega) (by intro e; injection e with e; have := G1.size; simp only at e; omega))).trans cb)
    | (at_lookup; refine wpList_lookup_fn _ rfl _ _ 57 rfl 49 83 way_keyed Try.underlying57 .nilFunc (zero_road _) rb 4 _ rfl o4 (.int .i64 1) _ rfl (keyOf_int_mk Try.underlying49 (by decide)) ((.func (.func 110) #[] #[.pointer (some ⟨w1.heap.size, 0, none⟩)])) rfl ?_)
    | (go_at_call 100; refine (sure_any _ _ _).mono ?_; rintro e w' ⟨rfl, rfl⟩)
    | (go_at_call 110; refine (sure1_any w1.heap.size 102 (.slice a n cap) x w4 cb (enters_of Try.func102 (by kernel_rfl) rfl) (HT.out w4 G4)).mono ?_; rintro e w5 ⟨rfl, hs5⟩))
  go_ret2
  exact ⟨rfl, G4.trans (grown_of_since hs5), ⟨4, _, by omega, o4.kept (grown_of_since (row := none) hs5) (by simp)⟩⟩

set_option maxRecDepth 100000 in
set_option maxHeartbeats 2000000 in
theorem roads_2 (rb : Nat) (a : Option Addr) (n cap : Nat) (x : Int) (W : World) (hr : RoadsAt W rb) (ht : ∀ W', W.grownBy W' (some rb) → Calls Try.prog 103 #[.slice a n cap] W' (fun e w' => e = .returned (.int .i64 x) ∧ W'.Since W'.heap.size w')) :
    Calls Try.prog 86 #[.map (some rb), .slice a n cap, .int .i64 2] W (fun e w' => e = .returned (.tuple #[.int .i64 x, .bool true]) ∧ W.grownBy w' (some rb) ∧ RoadsAt w' rb) := by
  obtain ⟨n0, D0, _, hown⟩ := hr
  have hlt := hown.lt
  have HT := Lib.hid ht
  clear ht
  obtain ⟨w0, hrun, o0, g0⟩ := ownsMap_clear hown Try.underlying57 0
  go_enter Try.func86, Try.ntmps86
  have G0 := g0
  go_wp2_with (first
    | (at_mapUpdate; refine wpList_mapUpdate_own _ rfl _ _ _ 57 rfl 49 83 way_keyed Try.underlying57 fnE rb 0 _ rfl (o0.alloc _) (by decide) _ _ (.int .i64 0) rfl rfl (keyOf_int_mk Try.underlying49 (by decide)) _ _ rfl ?_; intro w1 o1 g1; have G1 := G0.trans ((World.grownBy_alloc w0 _ _).trans g1))
    | (at_mapUpdate; refine wpList_mapUpdate_own _ rfl _ _ _ 57 rfl 49 83 way_keyed Try.underlying57 fnE rb 1 _ rfl (o1.alloc _) (by decide) _ _ (.int .i64 1) rfl rfl (keyOf_int_mk Try.underlying49 (by decide)) _ _ rfl ?_; intro w2 o2 g2; have G2 := G1.trans ((World.grownBy_alloc w1 _ _).trans g2))
    | (at_mapUpdate; refine wpList_mapUpdate_own _ rfl _ _ _ 57 rfl 49 83 way_keyed Try.underlying57 fnE rb 2 _ rfl (o2.alloc _) (by decide) _ _ (.int .i64 2) rfl rfl (keyOf_int_mk Try.underlying49 (by decide)) _ _ rfl ?_; intro w3 o3 g3; have G3 := G2.trans ((World.grownBy_alloc w2 _ _).trans g3); have cb := (World.cell?_of_block (a := ⟨w2.heap.size, 0, none⟩) (g3.block _ (by simp) (by intro e; injection e with e; have := G2.size; simp only at e; omega))).trans (cell_new_l w2 (.func (.func 103) #[.slice a n cap] #[]) 55).1; have hpb : w2.heap.size < w3.heap.size := by (have := g3.size; simp at this; omega))
    | (at_mapUpdate; refine wpList_mapUpdate_own _ rfl _ _ _ 57 rfl 49 83 way_keyed Try.underlying57 fnE rb 3 _ rfl o3 (by decide) _ _ (.int .i64 3) rfl rfl (keyOf_int_mk Try.underlying49 (by decide)) _ _ rfl ?_; intro w4 o4 g4; have G4 := G3.trans g4; have cb := (World.cell?_of_block (a := ⟨w2.heap.size, 0, none⟩) (g4.block _ (by omega) (by intro e; injection e with e; have := G2.size; simp only at e; omega))).trans cb)
    | (at_lookup; refine wpList_lookup_fn _ rfl _ _ 57 rfl 49 83 way_keyed Try.underlying57 .nilFunc (zero_road _) rb 4 _ rfl o4 (.int .i64 2) _ rfl (keyOf_int_mk Try.underlying49 (by decide)) ((.func (.func 110) #[] #[.pointer (some ⟨w2.heap.size, 0, none⟩)])) rfl ?_)
    | (go_at_call 100; refine (sure_any _ _ _).mono ?_; rintro e w' ⟨rfl, rfl⟩)
    | (go_at_call 110; refine (sure1_any w2.heap.size 103 (.slice a n cap) x w4 cb (enters_of Try.func103 (by kernel_rfl) rfl) (HT.out w4 G4)).mono ?_; rintro e w5 ⟨rfl, hs5⟩))
  go_ret2
  exact ⟨rfl, G4.trans (grown_of_since hs5), ⟨4, _, by omega, o4.kept (grown_of_since (row := none) hs5) (by simp)⟩⟩

set_option maxRecDepth 100000 in
set_option maxHeartbeats 2000000 in
theorem roads_3 (rb : Nat) (a : Option Addr) (n cap : Nat) (x : Int) (ok : Bool) (W : World) (hr : RoadsAt W rb) (ht : ∀ W', W.grownBy W' (some rb) → Calls Try.prog 104 #[.slice a n cap] W' (fun e w' => e = .returned (.tuple #[.int .i64 x, .bool ok]) ∧ W'.Since W'.heap.size w')) :
    Calls Try.prog 86 #[.map (some rb), .slice a n cap, .int .i64 3] W (fun e w' => e = .returned (.tuple #[.int .i64 x, .bool ok]) ∧ W.grownBy w' (some rb) ∧ RoadsAt w' rb) := by
  obtain ⟨n0, D0, _, hown⟩ := hr
  have hlt := hown.lt
  have HT := Lib.hid ht
  clear ht
  obtain ⟨w0, hrun, o0, g0⟩ := ownsMap_clear hown Try.underlying57 0
  go_enter Try.func86, Try.ntmps86
  have G0 := g0
  go_wp2_with (first
    | (at_mapUpdate; refine wpList_mapUpdate_own _ rfl _ _ _ 57 rfl 49 83 way_keyed Try.underlying57 fnE rb 0 _ rfl (o0.alloc _) (by decide) _ _ (.int .i64 0) rfl rfl (keyOf_int_mk Try.underlying49 (by decide)) _ _ rfl ?_; intro w1 o1 g1; have G1 := G0.trans ((World.grownBy_alloc w0 _ _).trans g1))
    | (at_mapUpdate; refine wpList_mapUpdate_own _ rfl _ _ _ 57 rfl 49 83 way_keyed Try.underlying57 fnE rb 1 _ rfl (o1.alloc _) (by decide) _ _ (.int .i64 1) rfl rfl (keyOf_int_mk Try.underlying49 (by decide)) _ _ rfl ?_; intro w2 o2 g2; have G2 := G1.trans ((World.grownBy_alloc w1 _ _).trans g2))
    | (at_mapUpdate; refine wpList_mapUpdate_own _ rfl _ _ _ 57 rfl 49 83 way_keyed Try.underlying57 fnE rb 2 _ rfl (o2.alloc _) (by decide) _ _ (.int .i64 2) rfl rfl (keyOf_int_mk Try.underlying49 (by decide)) _ _ rfl ?_; intro w3 o3 g3; have G3 := G2.trans ((World.grownBy_alloc w2 _ _).trans g3))
    | (at_mapUpdate; refine wpList_mapUpdate_own _ rfl _ _ _ 57 rfl 49 83 way_keyed Try.underlying57 fnE rb 3 _ rfl o3 (by decide) _ _ (.int .i64 3) rfl rfl (keyOf_int_mk Try.underlying49 (by decide)) _ _ rfl ?_; intro w4 o4 g4; have G4 := G3.trans g4)
    | (at_lookup; refine wpList_lookup_fn _ rfl _ _ 57 rfl 49 83 way_keyed Try.underlying57 .nilFunc (zero_road _) rb 4 _ rfl o4 (.int .i64 3) _ rfl (keyOf_int_mk Try.underlying49 (by decide)) ((.func (.func 104) #[.slice a n cap] #[])) rfl ?_)
    | (go_at_call 100; refine (sure_any _ _ _).mono ?_; rintro e w' ⟨rfl, rfl⟩)
    | (go_at_call 104; refine (HT.out w4 G4).mono ?_; rintro e w5 ⟨rfl, hs5⟩))
  go_ret2
  exact ⟨rfl, G4.trans (grown_of_since hs5), ⟨4, _, by omega, o4.kept (grown_of_since (row := none) hs5) (by simp)⟩⟩

end Go.Proofs.Ytikjeaoapeaabaa
end

section
namespace Go.Proofs.Ytikjeaoapeaabaa
open Go.RowKit Go.Deep

theorem since_of_map {W w' : World} {o : Obj} (hg : (W.alloc o).grownBy w' (some W.heap.size)) : W.Since W.heap.size w' := by
  have h0 := (World.Since.refl W.heap.size W).alloc (Nat.le_refl _) o
  have h1 := hg.size
  simp only [World.size_alloc] at h1
  exact ⟨hg.os.trans h0.os, hg.tape.trans h0.tape, hg.output.trans h0.output, by omega, fun k hk => (hg.block k (by simp; omega) (by intro e; injection e with e; omega)).trans (h0.block k hk)⟩

set_option maxHeartbeats 400000 in
theorem anyValue_of (rb : Nat) (a : Option Addr) (n cap : Nat) (x : Int) (W : World) (hr : RoadsAt W rb) (ht : ∀ W', W.grownBy W' (some rb) → Calls Try.prog 103 #[.slice a n cap] W' (fun e w' => e = .returned (.int .i64 x) ∧ W'.Since W'.heap.size w')) :
    Calls Try.prog 63 #[.map (some rb), .slice a n cap] W (fun e w' => e = .returned (.int .i64 x) ∧ W.grownBy w' (some rb) ∧ RoadsAt w' rb) := by
  have E := Lib.hid (roads_2 rb a n cap x W hr ht)
  clear hr ht
  go_enter Try.func63, Try.ntmps63
  go_wp2_with fail
  refine (E.out).mono ?_
  rintro e w' ⟨rfl, hg, hr⟩
  go_wp2
  go_ret
  exact ⟨rfl, hg, hr⟩

set_option maxHeartbeats 800000 in
theorem square_0 (a : Option Addr) (cap n : Nat) (l : List (List Int)) (x : Int) (w : World) (hn : l.length = n) (hsz : szL l ≤ 1048576) (hm : MatR w a l) (ht : sqB l = true → ∀ W', MatR W' a l → Calls Try.prog 101 #[.slice a n cap] W' (fun e w' => e = .returned (.int .i64 x) ∧ W'.Since W'.heap.size w')) :
    Calls Try.prog 51 #[.slice a n cap, .int .i64 0] w (SpecW w (sqB l) x) := by
  have E := isSquare_any a cap n l w hn hsz hm
  cases hs : sqB l with
  | false =>
    rw [hs] at E
    replace E := Lib.hid E
    clear hs hm hn hsz ht
    go_enter Try.func51, Try.ntmps51
    go_wp2_with fail
    refine (E.out).mono ?_
    rintro e w1 ⟨rfl, hd⟩
    have HD := Lib.hid hd
    clear hd
    go_wp2
    go_ret2
    exact ⟨rfl, HD.out⟩
  | true =>
    rw [hs] at E
    replace E := Lib.hid E
    have E2 := Lib.hid (fun (W : World) (hd : w.Since w.heap.size W) => roads_0 W.heap.size a n cap x (W.alloc (.map #[] 0)) (roads_made W) (fun W' hg => ht hs W' (hm.since (hd.trans (since_mono (since_of_map hg) hd.size)))))
    clear hs hm hn hsz ht
    have hmm := @run_makeMap Try.prog
    go_enter Try.func51, Try.ntmps51
    go_wp2_with fail
    refine (E.out).mono ?_
    rintro e w1 ⟨rfl, hd⟩
    have HD := Lib.hid hd
    clear hd
    go_wp2_with fail
    refine (E2.out w1 HD.out).mono ?_
    rintro e w2 ⟨rfl, hg, hr⟩
    have HS2 := Lib.hid (HD.out.trans (since_mono (since_of_map hg) HD.out.size))
    clear hg hr
    go_wp2
    go_ret2
    exact ⟨rfl, HS2.out⟩

set_option maxHeartbeats 400000 in
theorem implValueOrders_of (a : Option Addr) (cap n : Nat) (l : List (List Int)) (x : Int) (w : World) (hn : l.length = n) (hsz : szL l ≤ 1048576) (hm : MatR w a l) (ht : sqB l = true → ∀ W', MatR W' a l → Calls Try.prog 101 #[.slice a n cap] W' (fun e w' => e = .returned (.int .i64 x) ∧ W'.Since W'.heap.size w')) :
    Calls Try.prog 41 #[.slice a n cap] w (SpecW w (sqB l) x) := by
  have E := square_0 a cap n l x w hn hsz hm ht
  unfold SpecW at E ⊢
  generalize (if (sqB l) = true then x else 0) = y at E ⊢
  generalize (sqB l) = b at E ⊢
  replace E := Lib.hid E
  clear hn hsz hm ht
  go_enter Try.func41, Try.ntmps41
  go_wp2_with fail
  refine (E.out).mono ?_
  rintro e w1 ⟨rfl, hd⟩
  go_wp2
  go_ret2
  exact ⟨rfl, hd⟩

set_option maxHeartbeats 800000 in
theorem square_1 (a : Option Addr) (cap n : Nat) (l : List (List Int)) (x : Int) (w : World) (hn : l.length = n) (hsz : szL l ≤ 1048576) (hm : MatR w a l) (ht : sqB l = true → ∀ W', MatR W' a l → Calls Try.prog 102 #[.slice a n cap] W' (fun e w' => e = .returned (.int .i64 x) ∧ W'.Since W'.heap.size w')) :
    Calls Try.prog 51 #[.slice a n cap, .int .i64 1] w (SpecW w (sqB l) x) := by
  have E := isSquare_any a cap n l w hn hsz hm
  cases hs : sqB l with
  | false =>
    rw [hs] at E
    replace E := Lib.hid E
    clear hs hm hn hsz ht
    go_enter Try.func51, Try.ntmps51
    go_wp2_with fail
    refine (E.out).mono ?_
    rintro e w1 ⟨rfl, hd⟩
    have HD := Lib.hid hd
    clear hd
    go_wp2
    go_ret2
    exact ⟨rfl, HD.out⟩
  | true =>
    rw [hs] at E
    replace E := Lib.hid E
    have E2 := Lib.hid (fun (W : World) (hd : w.Since w.heap.size W) => roads_1 W.heap.size a n cap x (W.alloc (.map #[] 0)) (roads_made W) (fun W' hg => ht hs W' (hm.since (hd.trans (since_mono (since_of_map hg) hd.size)))))
    clear hs hm hn hsz ht
    have hmm := @run_makeMap Try.prog
    go_enter Try.func51, Try.ntmps51
    go_wp2_with fail
    refine (E.out).mono ?_
    rintro e w1 ⟨rfl, hd⟩
    have HD := Lib.hid hd
    clear hd
    go_wp2_with fail
    refine (E2.out w1 HD.out).mono ?_
    rintro e w2 ⟨rfl, hg, hr⟩
    have HS2 := Lib.hid (HD.out.trans (since_mono (since_of_map hg) HD.out.size))
    clear hg hr
    go_wp2
    go_ret2
    exact ⟨rfl, HS2.out⟩

set_option maxHeartbeats 400000 in
theorem implValueRows_of (a : Option Addr) (cap n : Nat) (l : List (List Int)) (x : Int) (w : World) (hn : l.length = n) (hsz : szL l ≤ 1048576) (hm : MatR w a l) (ht : sqB l = true → ∀ W', MatR W' a l → Calls Try.prog 102 #[.slice a n cap] W' (fun e w' => e = .returned (.int .i64 x) ∧ W'.Since W'.heap.size w')) :
    Calls Try.prog 18 #[.slice a n cap] w (SpecW w (sqB l) x) := by
  have E := square_1 a cap n l x w hn hsz hm ht
  unfold SpecW at E ⊢
  generalize (if (sqB l) = true then x else 0) = y at E ⊢
  generalize (sqB l) = b at E ⊢
  replace E := Lib.hid E
  clear hn hsz hm ht
  go_enter Try.func18, Try.ntmps18
  go_wp2_with fail
  refine (E.out).mono ?_
  rintro e w1 ⟨rfl, hd⟩
  go_wp2
  go_ret2
  exact ⟨rfl, hd⟩

set_option maxHeartbeats 800000 in
theorem square_2 (a : Option Addr) (cap n : Nat) (l : List (List Int)) (x : Int) (w : World) (hn : l.length = n) (hsz : szL l ≤ 1048576) (hm : MatR w a l) (ht : sqB l = true → ∀ W', MatR W' a l → Calls Try.prog 103 #[.slice a n cap] W' (fun e w' => e = .returned (.int .i64 x) ∧ W'.Since W'.heap.size w')) :
    Calls Try.prog 51 #[.slice a n cap, .int .i64 2] w (SpecW w (sqB l) x) := by
  have E := isSquare_any a cap n l w hn hsz hm
  cases hs : sqB l with
  | false =>
    rw [hs] at E
    replace E := Lib.hid E
    clear hs hm hn hsz ht
    go_enter Try.func51, Try.ntmps51
    go_wp2_with fail
    refine (E.out).mono ?_
    rintro e w1 ⟨rfl, hd⟩
    have HD := Lib.hid hd
    clear hd
    go_wp2
    go_ret2
    exact ⟨rfl, HD.out⟩
  | true =>
    rw [hs] at E
    replace E := Lib.hid E
    have E2 := Lib.hid (fun (W : World) (hd : w.Since w.heap.size W) => roads_2 W.heap.size a n cap x (W.alloc (.map #[] 0)) (roads_made W) (fun W' hg => ht hs W' (hm.since (hd.trans (since_mono (since_of_map hg) hd.size)))))
    clear hs hm hn hsz ht
    have hmm := @run_makeMap Try.prog
    go_enter Try.func51, Try.ntmps51
    go_wp2_with fail
    refine (E.out).mono ?_
    rintro e w1 ⟨rfl, hd⟩
    have HD := Lib.hid hd
    clear hd
    go_wp2_with fail
    refine (E2.out w1 HD.out).mono ?_
    rintro e w2 ⟨rfl, hg, hr⟩
    have HS2 := Lib.hid (HD.out.trans (since_mono (since_of_map hg) HD.out.size))
    clear hg hr
    go_wp2
    go_ret2
    exact ⟨rfl, HS2.out⟩

set_option maxHeartbeats 400000 in
theorem implValuePivots_of (a : Option Addr) (cap n : Nat) (l : List (List Int)) (x : Int) (w : World) (hn : l.length = n) (hsz : szL l ≤ 1048576) (hm : MatR w a l) (ht : sqB l = true → ∀ W', MatR W' a l → Calls Try.prog 103 #[.slice a n cap] W' (fun e w' => e = .returned (.int .i64 x) ∧ W'.Since W'.heap.size w')) :
    Calls Try.prog 21 #[.slice a n cap] w (SpecW w (sqB l) x) := by
  have E := square_2 a cap n l x w hn hsz hm ht
  unfold SpecW at E ⊢
  generalize (if (sqB l) = true then x else 0) = y at E ⊢
  generalize (sqB l) = b at E ⊢
  replace E := Lib.hid E
  clear hn hsz hm ht
  go_enter Try.func21, Try.ntmps21
  go_wp2_with fail
  refine (E.out).mono ?_
  rintro e w1 ⟨rfl, hd⟩
  go_wp2
  go_ret2
  exact ⟨rfl, hd⟩

set_option maxHeartbeats 800000 in
theorem square_3 (a : Option Addr) (cap n : Nat) (l : List (List Int)) (x : Int) (ok : Bool) (w : World) (hn : l.length = n) (hsz : szL l ≤ 1048576) (hm : MatR w a l) (ht : sqB l = true → ∀ W', MatR W' a l → Calls Try.prog 104 #[.slice a n cap] W' (fun e w' => e = .returned (.tuple #[.int .i64 (if ok then x else 0), .bool ok]) ∧ W'.Since W'.heap.size w')) :
    Calls Try.prog 51 #[.slice a n cap, .int .i64 3] w (SpecW w (sqB l && ok) x) := by
  have E := isSquare_any a cap n l w hn hsz hm
  cases hs : sqB l with
  | false =>
    rw [hs] at E
    replace E := Lib.hid E
    clear hs hm hn hsz ht
    go_enter Try.func51, Try.ntmps51
    go_wp2_with fail
    refine (E.out).mono ?_
    rintro e w1 ⟨rfl, hd⟩
    have HD := Lib.hid hd
    clear hd
    go_wp2
    go_ret2
    exact ⟨rfl, HD.out⟩
  | true =>
    rw [hs] at E
    replace E := Lib.hid E
    have E2 := Lib.hid (fun (W : World) (hd : w.Since w.heap.size W) => roads_3 W.heap.size a n cap (if ok then x else 0) ok (W.alloc (.map #[] 0)) (roads_made W) (fun W' hg => ht hs W' (hm.since (hd.trans (since_mono (since_of_map hg) hd.size)))))
    clear hs hm hn hsz ht
    generalize hy : (if ok = true then x else 0) = y at E2
    have hmm := @run_makeMap Try.prog
    go_enter Try.func51, Try.ntmps51
    go_wp2_with fail
    refine (E.out).mono ?_
    rintro e w1 ⟨rfl, hd⟩
    have HD := Lib.hid hd
    clear hd
    go_wp2_with fail
    refine (E2.out w1 HD.out).mono ?_
    rintro e w2 ⟨rfl, hg, hr⟩
    have HS2 := Lib.hid (HD.out.trans (since_mono (since_of_map hg) HD.out.size))
    clear hg hr
    go_wp2
    go_ret2
    exact ⟨by rw [← hy]; cases ok <;> rfl, HS2.out⟩

set_option maxHeartbeats 400000 in
theorem implValueCondense_of (a : Option Addr) (cap n : Nat) (l : List (List Int)) (x : Int) (ok : Bool) (w : World) (hn : l.length = n) (hsz : szL l ≤ 1048576) (hm : MatR w a l) (ht : sqB l = true → ∀ W', MatR W' a l → Calls Try.prog 104 #[.slice a n cap] W' (fun e w' => e = .returned (.tuple #[.int .i64 (if ok then x else 0), .bool ok]) ∧ W'.Since W'.heap.size w')) :
    Calls Try.prog 23 #[.slice a n cap] w (SpecW w (sqB l && ok) x) := by
  have E := square_3 a cap n l x ok w hn hsz hm ht
  unfold SpecW at E ⊢
  generalize (if (sqB l && ok) = true then x else 0) = y at E ⊢
  generalize (sqB l && ok) = b at E ⊢
  replace E := Lib.hid E
  clear hn hsz hm ht
  go_enter Try.func23, Try.ntmps23
  go_wp2_with fail
  refine (E.out).mono ?_
  rintro e w1 ⟨rfl, hd⟩
  go_wp2
  go_ret2
  exact ⟨rfl, hd⟩

end Go.Proofs.Ytikjeaoapeaabaa
end

section
namespace Go.Proofs.Ytikjeaoapeaabaa
open Go.RowKit Go.Deep

def ColsAt (w : World) (g n : Nat) (cs : List Nat) : Prop := w.ownsRow 0 3 1 (.slice (some ⟨g, 0, none⟩) cs.length n) cs.length ((ints cs).map (Value.int .i64))
theorem ColsAt.init {w : World} {g n : Nat} {cs : List Nat} {k : Nat} (h : ColsAt w g n (cs ++ [k])) : ColsAt w g n cs := by
  unfold ColsAt at h ⊢
  rw [show (cs ++ [k]).length = cs.length + 1 by simp] at h
  refine ⟨by simp [ints], ?_⟩
  rcases h.2 with ⟨h', _⟩ | ⟨g', cap', cur, h', hb, hg, hle, hm, hs, ht⟩
  · simp at h'
  · simp only [Value.slice.injEq, Option.some.injEq, Addr.mk.injEq, and_true, true_and] at h'
    obtain ⟨rfl, rfl⟩ := h'
    refine .inr ⟨g, n, cur, rfl, hb, hg, by omega, hm, hs, ?_⟩
    have e := congrArg (List.take cs.length) ht
    rw [List.take_take, Nat.min_eq_left (by omega)] at e
    rw [Nat.mul_one, e]
    simp [ints]
theorem ColsAt.row {w : World} {g n : Nat} {cs : List Nat} (h : ColsAt w g n cs) : RowR w (some ⟨g, 0, none⟩) (ints cs) := fun _ =>
  ⟨g, 0, rfl, fun i hi => by
    have e := World.ownsRow.cellAt h i (by rw [ints_length] at hi; omega)
    rw [Nat.zero_add, e, List.getElem?_map]
    simp [List.getD, hi]⟩
theorem ColsAt.kept {w w' : World} {g n : Nat} {cs : List Nat} (h : ColsAt w g n cs) (hs : w.Since w.heap.size w') : ColsAt w' g n cs := World.ownsRow.kept h (grown_of_since (row := none) hs) (by simp [Value.ownBlock])
theorem ints_snoc (cs : List Nat) (k : Nat) : (ints (cs ++ [k])).map (Value.int .i64) = (ints cs).map (Value.int .i64) ++ [.int .i64 (k : Int)] := by simp [ints]

set_option maxRecDepth 100000 in
set_option maxHeartbeats 4000000 in
theorem sumOfOrders_any (a : Option Addr) (cap n : Nat) (l : List (List Int)) (g : Nat) (hn : l.length = n) (hT : TabIn l) (hw : (l.getD 0 []).length = n) : ∀ (m : Nat) (cs : List Nat) (W : World), cs.length + m = n → (∀ c ∈ cs, c < n) → ColsAt W g n cs → (∀ W', W.grownBy W' (some g) → MatR W' a l) →
    Calls Try.prog 111 #[.slice a n cap, .slice (some ⟨g, 0, none⟩) cs.length n] W fun e w' => e = .returned (.int .i64 (ordS l n m cs)) ∧ W.grownBy w' (some g) ∧ ColsAt w' g n cs := by
  have h6 := hT.2.1
  rw [hn] at h6
  intro m
  induction m with
  | zero =>
    intro cs W hl hc hcols hmat
    have hx : cs.length = n := by omega
    have E := orderedProduct_any a cap n l g n cs W hn hT hw (hmat W (World.grownBy.refl _ _)) hx hc (Nat.le_refl _) (by omega) hcols.row
    rw [hx]
    replace E := Lib.hid E
    have HC := Lib.hid hcols
    clear hmat hcols hl hc hx
    go_enter Try.func111, Try.ntmps111
    go_wp2_with fail
    refine (E.out).mono ?_
    rintro e w1 ⟨rfl, hs⟩
    have HK := HC.out.kept hs
    go_wp2
    go_ret
    exact ⟨rfl, grown_of_since hs, HK⟩
  | succ m ih =>
    intro cs W hl hc hcols hmat
    obtain ⟨i3, hi3⟩ := info3_parts
    have HJ := Lib.hid hi3
    have hbd := fun q (hq : q ≤ n) => ordP_bd (l := l) (n := n) (m := m) (cs := cs) h6 (fun i j hi hj => hT.at (by omega) (by omega)) hl hc hq
    have hb6 := b6_le (m + 1) (by omega)
    have hb6' : b6 (m + 1) = 6 * b6 m := rfl
    rw [ordS_succ]
    obtain ⟨F, hF⟩ : ∃ F : Nat → Int, F = fun k => if k ∈ cs then 0 else ordS l n m (cs ++ [k]) := ⟨_, rfl⟩
    simp only [← hF] at hbd ⊢
    have hd : cs.length < n := by omega
    have hne : ((cs.length : Int) == (n : Int)) = false := by simp; omega
    have HIH := Lib.hid (fun (k : Nat) (hk : k < n) (V : World) (h1 : ColsAt V g n (cs ++ [k])) (h2 : ∀ W', V.grownBy W' (some g) → MatR W' a l) => ih (cs ++ [k]) V (by simp; omega) (fun c h => by
      rcases List.mem_append.1 h with h | h
      · exact hc c h
      · simp at h; omega) h1 h2)
    have HIN := Lib.hid (fun (k : Nat) (V : World) (h1 : ColsAt V g n cs) => contains_any (some ⟨g, 0, none⟩) n cs.length (ints cs) k V (ints_length cs) (by omega) h1.row)
    have HM := Lib.hid hmat
    have HC := Lib.hid hcols
    have HF := Lib.hid hF
    have HB := Lib.hid hbd
    have HMEM : ∀ k : Nat, ((k : Int) ∈ ints cs) ↔ k ∈ cs := fun k => by
      simp only [ints, List.mem_map]
      constructor
      · rintro ⟨c, h1, h2⟩
        have : c = k := by omega
        exact this ▸ h1
      · exact fun h => ⟨k, h, rfl⟩
    have HME := Lib.hid HMEM
    obtain ⟨d, hdd⟩ : ∃ d, d = cs.length := ⟨_, rfl⟩
    have HD := Lib.hid hdd
    rw [← hdd] at hd hne ⊢
    simp only [← hdd] at HIN
    clear ih hmat hcols hF hbd hc hi3 HMEM hdd hT hw hn
    go_enter Try.func111, Try.ntmps111
    go_wp2
    go_loopg [5, 6, 17] n (fun q s _ i wr => ∃ k : Nat, k ≤ n ∧ q = n - k ∧ i = .int .i64 k ∧ s = .int .i64 (sumN F k) ∧ W.grownBy wr (some g) ∧ ColsAt wr g n cs)
    case atStart => exact ⟨0, Nat.zero_le _, rfl, rfl, rfl, World.grownBy.refl _ _, HC.out⟩
    case round =>
      obtain ⟨k, hk, rfl, rfl, rfl, hG, hCo⟩ := hrel
      obtain ⟨s0, hs0⟩ : ∃ s, s = sumN F k := ⟨_, rfl⟩
      have e : sumN F (k + 1) = s0 + F k := by rw [hs0]; rfl
      rw [← hs0]
      by_cases hlt : k < n
      · have hsb := HB.out (k + 1) (by omega)
        rw [e] at hsb
        have E1 := HIN.out k wr hCo
        have HE := Lib.hid e
        have HG := Lib.hid hG
        have HCo := Lib.hid hCo
        clear e hs0 hG
        by_cases hmem : k ∈ cs
        · rw [decide_eq_true ((HME.out k).2 hmem)] at E1
          replace E1 := Lib.hid E1
          have hF0 : F k = 0 := by rw [HF.out]; exact if_pos hmem
          clear hCo
          go_wp2_with fail
          refine (E1.out).mono ?_
          rintro e w' ⟨rfl, rfl⟩
          go_wp2
          go_roundg (n - (k + 1))
          case measure => omega
          case rel => exact ⟨k + 1, by omega, rfl, by go_num, by rw [HE.out, hF0]; simp, HG.out, HCo.out⟩
        · rw [decide_eq_false (fun h => hmem ((HME.out k).1 h))] at E1
          replace E1 := Lib.hid E1
          obtain ⟨f2, hf2⟩ : ∃ f, f = F k := ⟨_, rfl⟩
          rw [← hf2] at hsb
          have hF0 : f2 = ordS l n m (cs ++ [k]) := by rw [hf2, HF.out]; exact if_neg hmem
          have hws : IntKind.i64.wrap (s0 + f2) = s0 + f2 := IntWalk.i64_in _ ⟨by omega, by omega⟩
          have HH := Lib.hid hf2
          have EI := fun (V : World) (h1 : ColsAt V g n (cs ++ [k])) (h2 : V.heap.size ≥ 0 ∧ W.grownBy V (some g)) => HIH.out k hlt V h1 (fun W' hW' => HM.out W' (h2.2.trans hW'))
          rw [show (cs ++ [k]).length = d + 1 by rw [HD.out]; simp, ← hF0] at EI
          replace EI := Lib.hid EI
          have hown : wr.ownsRow 0 3 1 (.slice (some ⟨g, 0, none⟩) d n) d ((ints cs).map (Value.int .i64)) := by rw [HD.out]; exact hCo
          have HOWN := Lib.hid hown
          clear hf2 hsb hF0 hCo hown
          go_wp2_with (first
            | (go_at_call 121; refine (E1.out).mono ?_; rintro e w' ⟨rfl, rfl⟩)
            | (at_builtin; (refine wpList_append_fits _ rfl _ _ 33 rfl 0 3 i3 1 Try.underlying33 HJ.out.1 HJ.out.2.2.1 g d n ((ints cs).map (Value.int .i64)) rfl (HOWN.out.alloc _) ⟨wr.heap.size, 0, none⟩ 1 1 [.int .i64 k] rfl rfl (cell_one_at _ _ _ rfl) (fun x hx => by simp at hx; subst hx; rfl) (by omega) ?_); intro w1 hown' hgrow; have hc1 : ColsAt w1 g n (cs ++ [k]) := (by unfold ColsAt; rw [ints_snoc, show (cs ++ [k]).length = d + 1 by rw [HD.out]; simp]; exact hown'); have hg1 : W.grownBy w1 (some g) := HG.out.trans ((World.grownBy_alloc wr _ _).trans hgrow); clear hown' hgrow; have HC1 := Lib.hid hc1; have HG1 := Lib.hid hg1; clear hc1 hg1)
            | (go_at_call 111; refine (EI.out w1 HC1.out ⟨Nat.zero_le _, HG1.out⟩).mono ?_; rintro e w2 ⟨rfl, hg2, hc2⟩; have HG2 := Lib.hid (HG1.out.trans hg2); have HC2 := Lib.hid hc2.init; clear hg2 hc2))
          go_roundg (n - (k + 1))
          case measure => omega
          case rel => exact ⟨k + 1, by omega, rfl, by go_num, by rw [HE.out, ← HH.out], HG2.out, HC2.out⟩
      · have hqn : n = k := by omega
        subst hqn
        go_wp2
        go_ret
        exact ⟨by rw [hs0]; rfl, hG, hCo⟩

theorem since_fresh {W w1 w2 : World} (h : W.grownBy w1 none) (h2 : w1.grownBy w2 (some W.heap.size)) : W.Since W.heap.size w2 :=
  ⟨h2.os.trans h.os, h2.tape.trans h.tape, h2.output.trans h.output, Nat.le_trans h.size h2.size, fun k hk => (h2.block k (by have := h.size; omega) (by intro e; injection e with e; omega)).trans (h.block k hk (by simp))⟩

set_option maxRecDepth 100000 in
set_option maxHeartbeats 1000000 in
theorem byOrders_any (a : Option Addr) (cap n : Nat) (l : List (List Int)) (w : World) (hn : l.length = n) (hT : TabIn l) (hw : (l.getD 0 []).length = n) (hm : MatR w a l) :
    Calls Try.prog 101 #[.slice a n cap] w fun e w' => e = .returned (.int .i64 (ordF l n n 0)) ∧ w.Since w.heap.size w' := by
  have h6 := hT.2.1
  rw [hn] at h6
  obtain ⟨i3, hi3⟩ := info3_parts
  have HJ := Lib.hid hi3
  have E := fun (V : World) (hc : ColsAt V w.heap.size n []) (hg : w.grownBy V none) => sumOfOrders_any a cap n l w.heap.size hn hT hw n [] V (by simp) (by simp) hc (fun W' hW' => hm.since (since_fresh hg hW'))
  rw [ordS_all l n h6] at E
  replace E := Lib.hid E
  clear hi3 hn hT hw hm
  go_enter Try.func101, Try.ntmps101
  go_wp2_with (first
    | (at_make; (refine wpList_make_own _ rfl _ _ 33 rfl 0 3 i3 (.int .i64 0) 1 Try.underlying33 HJ.out.1 HJ.out.2.1 HJ.out.2.2.1 .i64 .i64 n n rfl rfl rfl (by rw [HJ.out.2.2.2]; omega) (by unfold maxLen; omega) (Nat.zero_le _) ?_); intro w1 hown hgrow; have HO := Lib.hid (show ColsAt w1 w.heap.size n [] from hown); have HG := Lib.hid hgrow; clear hown hgrow)
    | (go_at_call 111; refine (E.out w1 HO.out HG.out).mono ?_; rintro e w2 ⟨rfl, hg2, hc2⟩; have HS := Lib.hid (since_fresh HG.out hg2); clear hg2 hc2))
  go_ret
  exact ⟨rfl, HS.out⟩

theorem implValueOrders_any (a : Option Addr) (cap n : Nat) (l : List (List Int)) (w : World) (hn : l.length = n) (hsz : szL l ≤ 1048576) (hm : MatR w a l) :
    Calls Try.prog 41 #[.slice a n cap] w (SpecW w (sqB l) (ordF l n n 0)) :=
  implValueOrders_of a cap n l (ordF l n n 0) w hn hsz hm fun hs W' hm' => by
    obtain ⟨hT, hw⟩ := sqB_of hs
    exact byOrders_any a cap n l W' hn hT (by rw [← hw, hn]) hm'

end Go.Proofs.Ytikjeaoapeaabaa
end

section
namespace Go.Proofs.Ytikjeaoapeaabaa
open Go.RowKit Go.Deep

def sw (i k r : Nat) : Nat := if r = k then i else if r = i then k else r
def swapL (l : List (List Int)) (i k : Nat) : List (List Int) := (List.range l.length).map fun r => l.getD (sw i k r) []
theorem swapL_length (l : List (List Int)) (i k : Nat) : (swapL l i k).length = l.length := by simp [swapL]
theorem swapL_get (l : List (List Int)) (i k : Nat) {r : Nat} (h : r < l.length) : (swapL l i k).getD r [] = l.getD (sw i k r) [] := by simp [swapL, List.getD, h]
theorem sw_lt {i k r n : Nat} (hi : i < n) (hk : k < n) (hr : r < n) : sw i k r < n := by unfold sw; split <;> (try split) <;> omega
theorem sw_sw (i k r : Nat) : sw i k (sw i k r) = r := by
  unfold sw
  by_cases h1 : r = k
  · subst h1
    by_cases h2 : i = r
    · subst h2; simp
    · simp [h2]
  · by_cases h2 : r = i
    · subst h2; simp
    · simp [h1, h2]
theorem sw_inj {i k r r' : Nat} (h : sw i k r = sw i k r') : r = r' := by
  have := congrArg (sw i k) h
  rwa [sw_sw, sw_sw] at this
theorem swapL_tab {l : List (List Int)} {i k : Nat} (hT : TabIn l) (hi : i < l.length) (hk : k < l.length) : TabIn (swapL l i k) := by
  have h1 := hT.1
  have h2 := hT.2.1
  refine ⟨by rw [swapL_length]; exact h1, by rw [swapL_length]; exact h2, fun r hr => ?_⟩
  rw [swapL_length] at hr
  rw [swapL_get l i k (show 0 < l.length by omega), swapL_get l i k hr]
  have h3 := hT.2.2 _ (sw_lt hi hk hr)
  rw [hT.row (sw_lt hi hk (show 0 < l.length by omega))]
  exact h3

theorem sel_full (n k : Nat) (hk : k ≤ n) : (sel (2 ^ n - 1) n k).map (·.1) = List.range k := by
  induction k with
  | zero => rfl
  | succ k ih =>
    rw [sel_yes _ _ _ (by omega) (by rw [Nat.testBit_two_pow_sub_one]; simp; omega), List.map_append, ih (by omega), List.range_succ]
    rfl
theorem range_getD {α : Type} (x : List α) (d : α) : (List.range x.length).map (fun j => x.getD j d) = x := by
  refine List.ext_getElem (by simp) fun i h1 h2 => ?_
  simp [List.getD, h2]
theorem pickTo_full (x : List Int) (m : Nat) (h : x.length = m) : pickTo (2 ^ m - 1) x m m = x := by
  have e : pickTo (2 ^ m - 1) x m m = ((sel (2 ^ m - 1) m m).map (·.1)).map (fun j => x.getD j 0) := by rw [List.map_map]; rfl
  rw [e, sel_full m m (Nat.le_refl _), ← h, range_getD]
theorem partL_full {l : List (List Int)} (hT : Rec l) : partL l (2 ^ l.length - 1) (2 ^ (l.getD 0 []).length - 1) = l := by
  have e : partL l (2 ^ l.length - 1) (2 ^ (l.getD 0 []).length - 1) = ((sel (2 ^ l.length - 1) l.length l.length).map (·.1)).map (fun r => pickTo (2 ^ (l.getD 0 []).length - 1) (l.getD r []) (l.getD 0 []).length (l.getD 0 []).length) := by rw [List.map_map]; rfl
  rw [e, sel_full _ _ (Nat.le_refl _)]
  have h : (List.range l.length).map (fun r => pickTo (2 ^ (l.getD 0 []).length - 1) (l.getD r []) (l.getD 0 []).length (l.getD 0 []).length) = (List.range l.length).map (fun r => l.getD r []) :=
    List.map_congr_left fun r hr => pickTo_full _ _ (hT.row (List.mem_range.1 hr))
  rw [h, range_getD]

theorem OwnD.swap {lo hi : Nat} {w : World} {b : Nat} {A : Nat → Option Addr} {G C : Nat → Nat} {n m : Nat} {Z : Nat → Nat → Int} (h : OwnD lo hi w b A G C n (fun _ => m) Z) {i k : Nat} (hi' : i < n) (hk : k < n) :
    OwnD lo hi ((w.setCell ⟨b, i, none⟩ (.slice (A k) m (C k))).setCell ⟨b, k, none⟩ (.slice (A i) m (C i))) b (fun r => A (sw i k r)) (fun r => G (sw i k r)) (fun r => C (sw i k r)) n (fun _ => m) (fun r c => Z (sw i k r) c) := by
  refine ⟨fun r hr => ?_, fun r hr h0 => h.addr _ (sw_lt hi' hk hr) h0, fun r hr h0 => h.inside _ (sw_lt hi' hk hr) h0, fun r hr c hc => ?_, fun r hr c hc => by rw [World.frozen?_setCell, World.frozen?_setCell]; exact h.free _ (sw_lt hi' hk hr) c hc, fun r r' hr hr' h0 h0' e => sw_inj (h.apart _ _ (sw_lt hi' hk hr) (sw_lt hi' hk hr') h0 h0' e)⟩
  · by_cases e1 : r = k
    · subst e1
      have : sw i r r = i := by simp [sw]
      rw [this]
      refine World.cell?_setCell_same' _ _ _ ?_
      by_cases e2 : i = r
      · subst e2
        rw [World.cell?_setCell_same' _ _ _ (by rw [h.top i hi']; rfl)]; rfl
      · rw [World.cell?_setCell_other _ _ _ _ (fun e => e2 (by injection e)), h.top r hk]; rfl
    · rw [World.cell?_setCell_other _ _ _ _ (fun e => e1 (by injection e with _ e; exact e.symm))]
      by_cases e2 : r = i
      · subst e2
        have : sw r k r = k := by simp [sw, e1]
        rw [this]
        exact World.cell?_setCell_same' _ _ _ (by rw [h.top r hr]; rfl)
      · have : sw i k r = r := by simp [sw, e1, e2]
        rw [this, World.cell?_setCell_other _ _ _ _ (fun e => e2 (by injection e with _ e; exact e.symm))]
        exact h.top r hr
  · have hl := sw_lt hi' hk hr
    have hin := h.inside _ hl (by omega)
    rw [World.cell?_setCell_other _ _ _ _ (fun e => hin.2.2 (by injection e with e; exact e.symm)), World.cell?_setCell_other _ _ _ _ (fun e => hin.2.2 (by injection e with e; exact e.symm))]
    exact h.cell _ hl c hc
theorem OwnD.swapT {lo hi : Nat} {w : World} {b : Nat} {A : Nat → Option Addr} {G C : Nat → Nat} {n m : Nat} {Z : Nat → Nat → Int} {l : List (List Int)} (h : OwnD lo hi w b A G C n (fun _ => m) Z) {i k : Nat} (hi' : i < n) (hk : k < n) (hb : lo ≤ b ∧ b < hi)
    (hn : l.length = n) (hm : ∀ r, r < n → (l.getD r []).length = m) (hZ : ∀ r c, r < n → c < m → Z r c = at2 l r c) : OwnT lo hi ((w.setCell ⟨b, i, none⟩ (.slice (A k) m (C k))).setCell ⟨b, k, none⟩ (.slice (A i) m (C i))) (some ⟨b, 0, none⟩) (swapL l i k) :=
  (h.swap hi' hk).ownT hb ((swapL_length _ _ _).trans hn) (fun r hr => by rw [swapL_get l i k (by omega)]; exact hm _ (sw_lt hi' hk hr)) (fun r hr c hc => by rw [swapL_get l i k (by omega)]; exact (hZ _ c (sw_lt hi' hk hr) hc).symm)

set_option maxRecDepth 100000 in
set_option maxHeartbeats 2000000 in
theorem swapped_any (a : Option Addr) (cap n i k : Nat) (l : List (List Int)) (w : World) (hn : l.length = n) (hT : Rec l) (hi : i < n) (hk : k < n) (hm : MatR w a l) :
    Calls Try.prog 113 #[.slice a n cap, .int .i64 i, .int .i64 k] w fun e w' => ∃ a' cap', e = .returned (.slice a' n cap') ∧ w.Since w.heap.size w' ∧ OwnT w.heap.size w'.heap.size w' a' (swapL l i k) := by
  have h6 := hT.high
  have h1 := hT.low
  have hw := hT.width
  rw [hn] at h6 h1
  obtain ⟨m, hmm⟩ : ∃ m, (l.getD 0 []).length = m := ⟨_, rfl⟩
  have E1 := Lib.hid (allRows_any a cap n w h6)
  have E2 := width_any a cap n l w hn (by omega) (by omega) hm
  rw [hmm] at E2 hw
  replace E2 := Lib.hid E2
  have E3 := Lib.hid (fullSet_any m hw.2 w)
  have p1 : 2 ^ n ≤ 2 ^ 6 := Nat.pow_le_pow_right (by omega) h6
  have p2 : 2 ^ m ≤ 2 ^ 6 := Nat.pow_le_pow_right (by omega) hw.2
  have E4 := part_rec a cap n (2 ^ n - 1) (2 ^ m - 1) l w hn hT (by omega) (by omega) hm
  have hfull := partL_full hT
  rw [hn, hmm] at hfull
  rw [hfull, hn] at E4
  replace E4 := Lib.hid E4
  have hrow : ∀ r, r < n → (l.getD r []).length = m := fun r hr => by rw [hT.row (by omega), hmm]
  have HN := Lib.hid hn
  have HROW := Lib.hid hrow
  clear hm hT hfull hrow hmm hn p1 p2
  go_enter Try.func113, Try.ntmps113
  go_wp2_with fail
  refine (E1.out).mono ?_
  rintro e w1 ⟨rfl, rfl⟩
  go_wp2_with fail
  refine (E2.out).mono ?_
  rintro e w1 ⟨rfl, rfl⟩
  go_wp2_with fail
  refine (E3.out).mono ?_
  rintro e w1 ⟨rfl, rfl⟩
  go_wp2_with fail
  refine (E4.out).mono ?_
  rintro e w2 ⟨a2, cap2, rfl, hs2, ho2, hfr⟩
  obtain ⟨b, A, G, C, rfl, hb, hWR⟩ := ho2.wr HN.out (by omega) HROW.out hs2 (fun _ _ => 0)
  have hO := hWR.own
  have c1 := hO.top i hi
  have c2 := hO.top k hk
  have HF := Lib.hid (hO.swapT hi hk hb HN.out HROW.out (fun r c _ _ => by unfold updF; rw [if_neg (by omega)]))
  have f1 := hfr b i rfl hi
  have f2 := hfr b k rfl hk
  have HS := Lib.hid (show w.Since w.heap.size ((w2.setCell ⟨b, i, none⟩ (.slice (A k) m (C k))).setCell ⟨b, k, none⟩ (.slice (A i) m (C i))) from (hs2.setCell hb.1 _).setCell hb.1 _)
  have HZ := Lib.hid (show ((w2.setCell ⟨b, i, none⟩ (.slice (A k) m (C k))).setCell ⟨b, k, none⟩ (.slice (A i) m (C i))).heap.size = w2.heap.size by simp)
  obtain ⟨y1, hy1⟩ : ∃ y, y = A i := ⟨_, rfl⟩
  obtain ⟨y2, hy2⟩ : ∃ y, y = A k := ⟨_, rfl⟩
  obtain ⟨z1, hz1⟩ : ∃ y, y = C i := ⟨_, rfl⟩
  obtain ⟨z2, hz2⟩ : ∃ y, y = C k := ⟨_, rfl⟩
  rw [← hy1, ← hy2, ← hz1, ← hz2] at HF HS HZ
  rw [← hy1, ← hz1] at c1
  rw [← hy2, ← hz2] at c2
  obtain ⟨Y, hY⟩ : ∃ Y, (w2.setCell ⟨b, i, none⟩ (.slice y2 m z2)).cell? ⟨b, k, none⟩ = some Y := by
    by_cases e : i = k
    · subst e; exact ⟨_, World.cell?_setCell_same' _ _ _ (by rw [c1]; rfl)⟩
    · exact ⟨_, (World.cell?_setCell_other _ _ _ _ (fun e' => e (by injection e'))).trans c2⟩
  clear hWR hO ho2 hfr hs2 hy1 hy2 hz1 hz2
  go_wp2
  go_region
  go_wp2
  go_ret
  exact ⟨_, _, rfl, HS.out.drew, (HF.out.mono (Nat.le_refl _) (by rw [World.size_drew, HZ.out]; exact Nat.le_refl _))⟩

end Go.Proofs.Ytikjeaoapeaabaa
end

section
namespace Go.Proofs.Ytikjeaoapeaabaa
open Go.RowKit Go.Deep

set_option maxHeartbeats 400000 in
theorem filled1_any (r : Option Addr) (c m : Nat) (x : List Int) (w : World) (hx : x.length = m) (h1 : 1 ≤ m) (hr : RowR w r x) :
    Calls Try.prog 123 #[.slice r m c] w fun e w' => e = .returned (.bool (x.getD 0 0 != 0)) ∧ w = w' := by
  obtain ⟨b, o, rfl, hc⟩ := hr (by omega)
  have c0 := hc 0 (by omega)
  rw [Nat.add_zero] at c0
  obtain ⟨y, hy⟩ : ∃ y, y = x.getD 0 0 := ⟨_, rfl⟩
  rw [← hy] at c0 ⊢
  clear hc hr hx hy
  go_enter Try.func123, Try.ntmps123
  go_wp2
  go_ret
  exact ⟨rfl, rfl⟩

set_option maxHeartbeats 400000 in
theorem firstFilled_any (a : Option Addr) (cap n : Nat) (l : List (List Int)) (w : World) (hn : l.length = n) (hT : Rec l) (hm : MatR w a l) :
    Calls Try.prog 112 #[.slice a n cap] w fun e w' => ∃ r, e = .returned (.int .i64 r) ∧ FirstAt (fun i => at2 l i 0 != 0) n r ∧ w = w' := by
  have h6 := hT.high
  rw [hn] at h6
  have E := Lib.hid (indexFunc_any 123 (fun i => at2 l i 0 != 0) a cap n l w hn hm (enters_of Try.func123 (by kernel_rfl) rfl) (by omega)
    (fun i r c hi hr => filled1_any r c _ (l.getD i []) w rfl (by rw [hT.row (by omega)]; exact hT.width.1) hr))
  clear hn hT hm h6
  go_enter Try.func112, Try.ntmps112
  go_wp2_with fail
  refine (E.out).mono ?_
  rintro e w' ⟨r, rfl, hr, rfl⟩
  go_wp2
  go_ret
  exact ⟨r, rfl, hr, rfl⟩

theorem mul_bdQ {x y B : Int} (hx : -B ≤ x ∧ x ≤ B) (hy : -B ≤ y ∧ y ≤ B) : -(B * B) ≤ x * y ∧ x * y ≤ B * B := by
  have hB : 0 ≤ B := by omega
  have e1 : (B - x) * (B - y) ≥ 0 := Int.mul_nonneg (by omega) (by omega)
  have e2 : (B + x) * (B + y) ≥ 0 := Int.mul_nonneg (by omega) (by omega)
  have e3 : (B - x) * (B + y) ≥ 0 := Int.mul_nonneg (by omega) (by omega)
  have e4 : (B + x) * (B - y) ≥ 0 := Int.mul_nonneg (by omega) (by omega)
  simp only [Int.sub_mul, Int.add_mul, Int.mul_sub, Int.mul_add] at e1 e2 e3 e4
  have c1 := Int.mul_comm B y
  have c2 := Int.mul_comm x B
  omega

set_option maxHeartbeats 2000000 in
theorem behindEntry_any (p r i k n cap : Nat) (q X : Int) (a : Option Addr) (l : List (List Int)) (w : World) (hn : l.length = n) (hT : Rec l) (hw : (l.getD 0 []).length = n) (hq : q ≠ 0) (hX : chio (at2 l) i k = q * X) (hXb : -4611686018427387904 ≤ X ∧ X ≤ 4611686018427387904) (hb : ∀ i j, i < n → j < n → -1944000000 ≤ at2 l i j ∧ at2 l i j ≤ 1944000000)
    (hbox : w.cell? ⟨p, 0, none⟩ = some (.slice a n cap)) (hbox2 : w.cell? ⟨r, 0, none⟩ = some (.int .i64 q)) (hm : MatR w a l) (hi : i + 1 < n) (hk : k + 1 < n) :
    Calls Try.prog 124 #[.int .i64 i, .int .i64 k, .pointer (some ⟨p, 0, none⟩), .pointer (some ⟨r, 0, none⟩)] w fun e w' => e = .returned (.int .i64 X) ∧ w.Since w.heap.size w' := by
  have h6 := hT.high
  rw [hn] at h6
  have hr1 : (l.getD (i + 1) []).length = n := by rw [hT.row (by omega), hw]
  obtain ⟨b, o, A, C, rfl, hc⟩ := hm (by omega)
  obtain ⟨r1, s1⟩ := hc (i + 1) (by omega)
  obtain ⟨r0, s0⟩ := hc 0 (by omega)
  obtain ⟨b1, o1, e1, t1⟩ := s1 (by omega)
  obtain ⟨b0, o0, e0, t0⟩ := s0 (by omega)
  have x11 := t1 (k + 1) (by omega)
  have x10 := t1 0 (by omega)
  have x01 := t0 (k + 1) (by omega)
  have x00 := t0 0 (by omega)
  rw [e1, hr1] at r1
  rw [e0, hw, Nat.add_zero] at r0
  rw [Nat.add_zero] at x10 x00
  have b11 := hb (i + 1) (k + 1) (by omega) (by omega)
  have b10 := hb (i + 1) 0 (by omega) (by omega)
  have b01 := hb 0 (k + 1) (by omega) (by omega)
  have b00 := hb 0 0 (by omega) (by omega)
  have hX' : at2 l (i + 1) (k + 1) * at2 l 0 0 - at2 l 0 (k + 1) * at2 l (i + 1) 0 = q * X := hX
  obtain ⟨y11, h11⟩ : ∃ y, at2 l (i + 1) (k + 1) = y := ⟨_, rfl⟩
  obtain ⟨y10, h10⟩ : ∃ y, at2 l (i + 1) 0 = y := ⟨_, rfl⟩
  obtain ⟨y01, h01⟩ : ∃ y, at2 l 0 (k + 1) = y := ⟨_, rfl⟩
  obtain ⟨y00, h00⟩ : ∃ y, at2 l 0 0 = y := ⟨_, rfl⟩
  rw [h11, h00, h01, h10] at hX'
  rw [h11] at b11
  rw [h10] at b10
  rw [h01] at b01
  rw [h00] at b00
  rw [show (l.getD (i + 1) []).getD (k + 1) 0 = y11 from h11] at x11
  rw [show (l.getD (i + 1) []).getD 0 0 = y10 from h10] at x10
  rw [show (l.getD 0 []).getD (k + 1) 0 = y01 from h01] at x01
  rw [show (l.getD 0 []).getD 0 0 = y00 from h00] at x00
  have m1 := mul_bdQ b11 b00
  have m2 := mul_bdQ b01 b10
  have w1 : IntKind.i64.wrap (y11 * y00) = y11 * y00 := IntWalk.i64_in _ ⟨by omega, by omega⟩
  have w2 : IntKind.i64.wrap (y01 * y10) = y01 * y10 := IntWalk.i64_in _ ⟨by omega, by omega⟩
  have w3 : IntKind.i64.wrap (y11 * y00 - y01 * y10) = q * X := (IntWalk.i64_in _ ⟨by omega, by omega⟩).trans hX'
  have w4 : Int.tdiv (q * X) q = X := Int.mul_tdiv_cancel_left _ hq
  have w5 : IntKind.i64.wrap X = X := IntWalk.i64_in _ ⟨by omega, by omega⟩
  have hq0 : (q == 0) = false := by simpa using hq
  clear hX hX' hb hm hc s1 s0 t1 t0 e1 e0 h11 h10 h01 h00 hT hn hw hr1 b11 b10 b01 b00 m1 m2 hXb
  go_enter Try.func124, Try.ntmps124
  go_wp2
  go_quiet (fail)
  go_wp2
  go_ret
  exact ⟨rfl, since_drewN (World.Since.refl _ _) _⟩

set_option maxRecDepth 100000 in
set_option maxHeartbeats 2000000 in
theorem behind_any (n cap : Nat) (q : Int) (X : Nat → Nat → Int) (a : Option Addr) (l : List (List Int)) (w : World) (hn : l.length = n) (hT : Rec l) (hw : (l.getD 0 []).length = n) (hq : q ≠ 0) (hX : ∀ i k, i + 1 < n → k + 1 < n → chio (at2 l) i k = q * X i k) (hXb : ∀ i k, i + 1 < n → k + 1 < n → -4611686018427387904 ≤ X i k ∧ X i k ≤ 4611686018427387904)
    (hb : 2 ≤ n → ∀ i j, i < n → j < n → -1944000000 ≤ at2 l i j ∧ at2 l i j ≤ 1944000000) (hm : MatR w a l) :
    Calls Try.prog 114 #[.slice a n cap, .int .i64 q] w fun e w' => e = .returned (.slice (some ⟨w.heap.size + 1 + 1, 0, none⟩) (n - 1) (n - 1)) ∧ w.Since w.heap.size w' ∧ OwnT w.heap.size w'.heap.size w' (some ⟨w.heap.size + 1 + 1, 0, none⟩) (tabF (n - 1) (n - 1) X) := by
  have h6 := hT.high
  have h1 := hT.low
  rw [hn] at h6 h1
  have hnt := fun (W : World) (hs : w.Since w.heap.size W) (hb0 : W.cell? ⟨w.heap.size, 0, none⟩ = some (.slice a n cap)) (hb1 : W.cell? ⟨w.heap.size + 1, 0, none⟩ = some (.int .i64 q)) =>
    newTable_any 124 #[.pointer (some ⟨w.heap.size, 0, none⟩), .pointer (some ⟨w.heap.size + 1, 0, none⟩)] (n - 1) (n - 1) X W (by omega) (by omega) (enters_of Try.func124 (by kernel_rfl) rfl)
      (fun W' i k hs' hi hk => behindEntry_any w.heap.size (w.heap.size + 1) i k n cap q (X i k) a l W' hn hT hw hq (hX i k (by omega) (by omega)) (hXb i k (by omega) (by omega)) (hb (by omega)) ((hs'.cell (a := ⟨w.heap.size, 0, none⟩) (World.block_lt_of_cell? _ _ hb0)).trans hb0) ((hs'.cell (a := ⟨w.heap.size + 1, 0, none⟩) (World.block_lt_of_cell? _ _ hb1)).trans hb1) (hm.since (hs.trans (since_mono hs' hs.size))) (by omega) (by omega))
  have HS1 := Lib.hid (show w.Since w.heap.size ((w.alloc (.cells #[.slice a n cap] 54)).alloc (.cells #[.int .i64 q] 3)) from (((World.Since.refl _ _).alloc (Nat.le_refl _) _).alloc (by simp) _))
  have hc0 := cell_new_l w (.slice a n cap) 54
  have hc1 := cell_new_l (w.alloc (.cells #[.slice a n cap] 54)) (.int .i64 q) 3
  simp only [World.size_alloc] at hc1
  have hcb0 : ((w.alloc (.cells #[.slice a n cap] 54)).alloc (.cells #[.int .i64 q] 3)).cell? ⟨w.heap.size, 0, none⟩ = some (.slice a n cap) := cell_alloc_l _ hc0.1
  have hcb1 := hc1.1
  have E := hnt _ HS1.out hcb0 hcb1
  have hz : ((w.alloc (.cells #[.slice a n cap] 54)).alloc (.cells #[.int .i64 q] 3)).heap.size = w.heap.size + 1 + 1 := by simp
  rw [hz] at E
  obtain ⟨m, hmm⟩ : ∃ m, n - 1 = m := ⟨_, rfl⟩
  have hnm : (n : Int) - 1 = (m : Int) := by omega
  rw [hmm] at E ⊢
  replace E := Lib.hid E
  clear hnt hm hT hn hc0 hc1 hw hq hX hXb hb hcb0 hcb1 hmm hz
  go_enter Try.func114, Try.ntmps114
  go_wp2_with fail
  refine (E.out).mono ?_
  rintro e w1 ⟨rfl, hs2, ho⟩
  go_wp2
  go_ret
  exact ⟨rfl, HS1.out.trans (since_mono hs2 (by omega)), ho.mono (by omega) (Nat.le_refl _)⟩

end Go.Proofs.Ytikjeaoapeaabaa
end

section
namespace Go.Proofs.Ytikjeaoapeaabaa
open Go.RowKit Go.Deep

theorem sel_mid : ∀ m : Fin 7, 1 ≤ m.val → (sel (2 ^ m.val - 2) (m.val + 1) (m.val + 1)).map (·.1) = (List.range (m.val - 1)).map (· + 1) := by decide +kernel
theorem mid_wrap : ∀ m : Fin 7, 1 ≤ m.val → IntKind.i64.wrap (((2 ^ (m.val - 1) - 1 : Nat) : Int) * 2) = ((2 ^ m.val - 2 : Nat) : Int) ∧ 2 ^ m.val - 2 ≤ 63 := by decide +kernel
theorem tabF_rec7 {m : Nat} (h1 : 1 ≤ m) (h6 : m ≤ 7) (X : Nat → Nat → Int) : Rec7 (tabF m m X) := by
  refine ⟨by rw [tabF_length]; exact h1, by rw [tabF_length]; exact h6, by rw [tabF_len _ _ _ _ (by omega)]; omega, fun {r} hr => ?_⟩
  rw [tabF_length] at hr
  rw [tabF_len _ _ _ _ hr, tabF_len _ _ _ _ (by omega)]
theorem partL_mid {m : Nat} (h1 : 1 ≤ m) (h6 : m ≤ 6) (f : Nat → Nat → Int) : partL (tabF (m + 1) (m + 1) f) (2 ^ m - 2) (2 ^ m - 2) = tabF (m - 1) (m - 1) (fun i k => f (i + 1) (k + 1)) := by
  have e := sel_mid ⟨m, by omega⟩ h1
  simp only at e
  have hl : (tabF (m + 1) (m + 1) f).length = m + 1 := tabF_length _ _ _
  have hw : ((tabF (m + 1) (m + 1) f).getD 0 []).length = m + 1 := tabF_len _ _ _ _ (by omega)
  have hp : ∀ x : List Int, pickTo (2 ^ m - 2) x (m + 1) (m + 1) = (List.range (m - 1)).map (fun k => x.getD (k + 1) 0) := fun x => by
    have e2 : pickTo (2 ^ m - 2) x (m + 1) (m + 1) = ((sel (2 ^ m - 2) (m + 1) (m + 1)).map (·.1)).map (fun j => x.getD j 0) := by rw [List.map_map]; rfl
    rw [e2, e, List.map_map]; rfl
  have e3 : partL (tabF (m + 1) (m + 1) f) (2 ^ m - 2) (2 ^ m - 2) = ((sel (2 ^ m - 2) (m + 1) (m + 1)).map (·.1)).map (fun r => pickTo (2 ^ m - 2) ((tabF (m + 1) (m + 1) f).getD r []) (m + 1) (m + 1)) := by
    unfold partL partRows
    rw [hl, hw, List.map_map]; rfl
  rw [e3, e, List.map_map]
  unfold tabF
  refine List.map_congr_left fun i hi => ?_
  have hi' := List.mem_range.1 hi
  show pickTo _ ((tabF (m + 1) (m + 1) f).getD (i + 1) []) _ _ = _
  rw [hp]
  refine List.map_congr_left fun k hk => ?_
  have hk' := List.mem_range.1 hk
  exact tabF_at _ _ _ (i + 1) (k + 1) (by omega) (by omega)

set_option maxRecDepth 100000 in
set_option maxHeartbeats 1000000 in
theorem middle_any (a : Option Addr) (cap m M : Nat) (f : Nat → Nat → Int) (w : World) (h2 : 2 ≤ m) (h6 : m ≤ 6) (hM : M = m + 1) (hm : MatR w a (tabF M M f)) :
    Calls Try.prog 116 #[.slice a M cap] w fun e w' => ∃ a' cap', e = .returned (.slice a' (m - 1) cap') ∧ w.Since w.heap.size w' ∧ MatR w' a' (tabF (m - 1) (m - 1) (fun i k => f (i + 1) (k + 1))) := by
  obtain ⟨e1, e2⟩ := mid_wrap ⟨m, by omega⟩ (by show 1 ≤ m; omega)
  simp only at e1 e2
  have E1 := fullSet_any (m - 1) (by omega) w
  have hpm := partL_mid (m := m) (by omega) h6 f
  subst hM
  have E2 := part_rec7 a cap (m + 1) (2 ^ m - 2) (2 ^ m - 2) (tabF (m + 1) (m + 1) f) w (tabF_length _ _ _) (tabF_rec7 (by omega) (by omega) f) e2 e2 hm
  rw [hpm, tabF_length] at E2
  obtain ⟨M, hM⟩ : ∃ M, m + 1 = M := ⟨_, rfl⟩
  have hsub : IntKind.i64.wrap ((M : Int) - 2) = ((m - 1 : Nat) : Int) := (IntWalk.i64_in _ ⟨by omega, by omega⟩).trans (by omega)
  rw [hM] at E2 ⊢
  obtain ⟨S, hS⟩ : ∃ S, 2 ^ m - 2 = S := ⟨_, rfl⟩
  obtain ⟨q, hq⟩ : ∃ q, m - 1 = q := ⟨_, rfl⟩
  obtain ⟨B, hB⟩ : ∃ B, 2 ^ q - 1 = B := ⟨_, rfl⟩
  rw [hS] at E2 e1
  rw [hq] at E1 E2 e1 hsub ⊢
  rw [hB] at E1 e1
  replace E1 := Lib.hid E1
  replace E2 := Lib.hid E2
  clear hm hpm hS e2 hB hM hq
  go_enter Try.func116, Try.ntmps116
  go_wp2_with fail
  refine (E1.out).mono ?_
  rintro e w' ⟨rfl, rfl⟩
  go_wp2_with fail
  refine (E2.out).mono ?_
  rintro e w2 ⟨a', c', rfl, hs, ho, _⟩
  go_wp2
  go_ret
  exact ⟨a', c', rfl, hs, ho.matR⟩

set_option maxHeartbeats 400000 in
theorem hasZero1_any (r : Option Addr) (c m : Nat) (x : List Int) (w : World) (hx : x.length = m) (hm : m ≤ 1048576) (hr : RowR w r x) :
    Calls Try.prog 126 #[.slice r m c] w fun e w' => e = .returned (.bool (decide ((0 : Int) ∈ x))) ∧ w = w' := by
  have E := Lib.hid (contains_any r c m x 0 w hx hm hr)
  clear hx hr
  go_enter Try.func126, Try.ntmps126
  go_wp2_with fail
  refine (E.out).mono ?_
  rintro e w' ⟨rfl, rfl⟩
  go_wp2
  go_ret
  exact ⟨rfl, rfl⟩

set_option maxHeartbeats 400000 in
theorem containsFunc_any (K : Nat) (p : Nat → Bool) (a : Option Addr) (cap n : Nat) (l : List (List Int)) (w : World) (hn : l.length = n) (hm : MatR w a l) (eg : ∀ args w, (callFunc K args).run Try.prog w = .ok (.enter K args) w) (h63 : n ≤ 1048576)
    (hp : ∀ (i : Nat) (r : Option Addr) (c : Nat), i < n → RowR w r (l.getD i []) → Calls Try.prog K #[.slice r (l.getD i []).length c] w fun e w' => e = .returned (.bool (p i)) ∧ w = w') :
    Calls Try.prog 125 #[.slice a n cap, .func (.func K) #[] #[]] w fun e w' => w = w' ∧ ((e = .returned (.bool true) ∧ ∃ i, i < n ∧ p i = true) ∨ (e = .returned (.bool false) ∧ ∀ i, i < n → p i = false)) := by
  have E := Lib.hid (indexFunc_any K p a cap n l w hn hm eg h63 hp)
  clear hn hm hp
  go_enter Try.func125, Try.ntmps125
  go_wp2_with fail
  refine (E.out).mono ?_
  rintro e w' ⟨r, rfl, hr, rfl⟩
  rcases hr with ⟨i, hi, rfl, hpi, _⟩ | ⟨rfl, hno⟩
  · have hge : (i : Int) ≥ 0 := by omega
    have HP := Lib.hid hpi
    clear hpi
    go_wp2
    go_ret
    exact ⟨rfl, .inl ⟨by first | rfl | simp, i, hi, HP.out⟩⟩
  · have HP := Lib.hid hno
    clear hno
    go_wp2
    go_ret
    exact ⟨rfl, .inr ⟨by first | rfl | simp, HP.out⟩⟩

theorem mem_tabF {q : Nat} {f : Nat → Nat → Int} {i : Nat} (hi : i < q) : ((0 : Int) ∈ (tabF q q f).getD i []) ↔ ∃ k, k < q ∧ f i k = 0 := by
  rw [tabF_get _ _ _ _ hi]
  simp only [List.mem_map, List.mem_range]

set_option maxHeartbeats 400000 in
theorem hasZero_any (a : Option Addr) (cap q : Nat) (f : Nat → Nat → Int) (w : World) (h6 : q ≤ 6) (hm : MatR w a (tabF q q f)) :
    Calls Try.prog 117 #[.slice a q cap] w fun e w' => w = w' ∧ ((e = .returned (.bool true) ∧ ∃ i k, i < q ∧ k < q ∧ f i k = 0) ∨ (e = .returned (.bool false) ∧ ∀ i k, i < q → k < q → f i k ≠ 0)) := by
  have E := Lib.hid (containsFunc_any 126 (fun i => decide ((0 : Int) ∈ (tabF q q f).getD i [])) a cap q (tabF q q f) w (tabF_length _ _ _) hm (enters_of Try.func126 (by kernel_rfl) rfl) (by omega)
    (fun i r c hi hr => hasZero1_any r c _ _ w rfl (by rw [tabF_len _ _ _ _ hi]; omega) hr))
  clear hm
  go_enter Try.func117, Try.ntmps117
  go_wp2_with fail
  refine (E.out).mono ?_
  rintro e w' ⟨rfl, ⟨rfl, i, hi, hp⟩ | ⟨rfl, hno⟩⟩
  · have HP := Lib.hid ((mem_tabF hi).1 (of_decide_eq_true hp))
    clear hp
    go_wp2
    go_ret
    obtain ⟨k, hk, h0⟩ := HP.out
    exact ⟨rfl, .inl ⟨rfl, i, k, hi, hk, h0⟩⟩
  · have HP := Lib.hid hno
    clear hno
    go_wp2
    go_ret
    exact ⟨rfl, .inr ⟨rfl, fun i k hi hk h0 => of_decide_eq_false (HP.out i hi) ((mem_tabF hi).2 ⟨k, hk, h0⟩)⟩⟩

structure CNum (y1 y2 y3 y4 v z : Int) : Prop where
  ne : v ≠ 0
  w1 : IntKind.i64.wrap (y1 * y2) = y1 * y2
  w2 : IntKind.i64.wrap (y3 * y4) = y3 * y4
  w3 : IntKind.i64.wrap (y1 * y2 - y3 * y4) = v * z
  w4 : IntKind.i64.wrap z = z
  w5 : Int.tdiv (v * z) v = z

set_option maxHeartbeats 2000000 in
theorem condEntry_any (p r i k m q cap cap2 : Nat) (a a2 : Option Addr) (T G X : Nat → Nat → Int) (w : World) (hq : q + 1 = m) (h6 : m ≤ 6) (hT : GR w a m T) (hG : GR w a2 q G) (hX : CNum (T i k) (T (i + 1) (k + 1)) (T i (k + 1)) (T (i + 1) k) (G i k) (X i k))
    (hbox : w.cell? ⟨p, 0, none⟩ = some (.slice a m cap)) (hbox2 : w.cell? ⟨r, 0, none⟩ = some (.slice a2 q cap2)) (hi : i < q) (hk : k < q) :
    Calls Try.prog 127 #[.int .i64 i, .int .i64 k, .pointer (some ⟨p, 0, none⟩), .pointer (some ⟨r, 0, none⟩)] w fun e w' => e = .returned (.int .i64 (X i k)) ∧ w.Since w.heap.size w' := by
  obtain ⟨ip, hip⟩ : ∃ x, i + 1 = x := ⟨_, rfl⟩
  obtain ⟨kp, hkp⟩ : ∃ x, k + 1 = x := ⟨_, rfl⟩
  rw [hip, hkp] at hX
  obtain ⟨b, o, A, C, rfl, gtop, gc⟩ := hT
  obtain ⟨d, s, A2, C2, rfl, htop, hc⟩ := hG
  obtain ⟨b1, o1, t1, c1⟩ := gc i k (by omega) (by omega)
  obtain ⟨b2, o2, t2, c2⟩ := gc ip kp (by omega) (by omega)
  obtain ⟨b3, o3, t3, c3⟩ := gc i kp (by omega) (by omega)
  obtain ⟨b4, o4, t4, c4⟩ := gc ip k (by omega) (by omega)
  have e13 := t1.symm.trans t3
  have e24 := t2.symm.trans t4
  simp only [Option.some.injEq, Value.slice.injEq, Addr.mk.injEq, and_true] at e13 e24
  obtain ⟨rfl, rfl⟩ := e13
  obtain ⟨rfl, rfl⟩ := e24
  obtain ⟨b5, o5, t5, c5⟩ := hc i k hi hk
  obtain ⟨h0, w1, w2, w3, w4, w5⟩ := hX
  have hv0 : (G i k == 0) = false := by simpa using h0
  have hvn : G i k ≠ 0 := h0
  obtain ⟨y1, h1'⟩ : ∃ y, T i k = y := ⟨_, rfl⟩
  obtain ⟨y2, h2'⟩ : ∃ y, T ip kp = y := ⟨_, rfl⟩
  obtain ⟨y3, h3'⟩ : ∃ y, T i kp = y := ⟨_, rfl⟩
  obtain ⟨y4, h4'⟩ : ∃ y, T ip k = y := ⟨_, rfl⟩
  obtain ⟨z, hz'⟩ : ∃ z, X i k = z := ⟨_, rfl⟩
  obtain ⟨v, hv'⟩ : ∃ v, G i k = v := ⟨_, rfl⟩
  rw [h1'] at c1 w1 w3
  rw [h2'] at c2 w1 w3
  rw [h3'] at c3 w2 w3
  rw [h4'] at c4 w2 w3
  rw [hz'] at w3 w4 w5 ⊢
  rw [hv'] at c5 w3 w5 hv0 hvn
  have hi6 : i ≤ 5 := by omega
  have wi' : IntKind.i64.wrap ((i : Int) + 1) = (ip : Int) := (IntWalk.i64_in _ ⟨by omega, by omega⟩).trans (by omega)
  have wk' : IntKind.i64.wrap ((k : Int) + 1) = (kp : Int) := (IntWalk.i64_in _ ⟨by omega, by omega⟩).trans (by omega)
  have hk6 : k ≤ 5 := by omega
  have hi1 : i < m := by omega
  have hk1 : k < m := by omega
  have hi2 : ip < m := by omega
  have hk2 : kp < m := by omega
  clear hip hkp gc hc gtop htop h0 h1' h2' h3' h4' hz' hv' hq
  go_enter Try.func127, Try.ntmps127
  go_wp2
  go_quiet (fail)
  go_wp2
  go_ret
  exact ⟨rfl, since_drewN (World.Since.refl _ _) _⟩

set_option maxRecDepth 100000 in
set_option maxHeartbeats 2000000 in
theorem condensed_any (m q cap cap2 : Nat) (a a2 : Option Addr) (T G X : Nat → Nat → Int) (w : World) (hq : q + 1 = m) (h6 : m ≤ 6) (hT : GR w a m T) (hG : GR w a2 q G) (hX : ∀ i k, i < q → k < q → CNum (T i k) (T (i + 1) (k + 1)) (T i (k + 1)) (T (i + 1) k) (G i k) (X i k)) :
    Calls Try.prog 118 #[.slice a m cap, .slice a2 q cap2] w fun e w' => e = .returned (.slice (some ⟨w.heap.size + 1 + 1, 0, none⟩) q q) ∧ w.Since w.heap.size w' ∧ OwnT w.heap.size w'.heap.size w' (some ⟨w.heap.size + 1 + 1, 0, none⟩) (tabF q q X) := by
  have hnt := fun (W : World) (hs : w.Since w.heap.size W) (hb0 : W.cell? ⟨w.heap.size, 0, none⟩ = some (.slice a m cap)) (hb1 : W.cell? ⟨w.heap.size + 1, 0, none⟩ = some (.slice a2 q cap2)) =>
    newTable_any 127 #[.pointer (some ⟨w.heap.size, 0, none⟩), .pointer (some ⟨w.heap.size + 1, 0, none⟩)] q q X W (by omega) (by omega) (enters_of Try.func127 (by kernel_rfl) rfl)
      (fun W' i k hs' hi hk => condEntry_any w.heap.size (w.heap.size + 1) i k m q cap cap2 a a2 T G X W' hq h6 (hT.since (hs.trans (since_mono hs' hs.size))) (hG.since (hs.trans (since_mono hs' hs.size))) (hX i k hi hk) ((hs'.cell (a := ⟨w.heap.size, 0, none⟩) (World.block_lt_of_cell? _ _ hb0)).trans hb0) ((hs'.cell (a := ⟨w.heap.size + 1, 0, none⟩) (World.block_lt_of_cell? _ _ hb1)).trans hb1) hi hk)
  have HS1 := Lib.hid (show w.Since w.heap.size ((w.alloc (.cells #[.slice a m cap] 54)).alloc (.cells #[.slice a2 q cap2] 54)) from (((World.Since.refl _ _).alloc (Nat.le_refl _) _).alloc (by simp) _))
  have hc0 := cell_new_l w (.slice a m cap) 54
  have hc1 := cell_new_l (w.alloc (.cells #[.slice a m cap] 54)) (.slice a2 q cap2) 54
  simp only [World.size_alloc] at hc1
  have hcb0 : ((w.alloc (.cells #[.slice a m cap] 54)).alloc (.cells #[.slice a2 q cap2] 54)).cell? ⟨w.heap.size, 0, none⟩ = some (.slice a m cap) := cell_alloc_l _ hc0.1
  have hcb1 := hc1.1
  have E := hnt _ HS1.out hcb0 hcb1
  have hz : ((w.alloc (.cells #[.slice a m cap] 54)).alloc (.cells #[.slice a2 q cap2] 54)).heap.size = w.heap.size + 1 + 1 := by simp
  rw [hz] at E
  replace E := Lib.hid E
  clear hnt hT hG hX hc0 hc1 hz hcb0
  go_enter Try.func118, Try.ntmps118
  go_wp2_with fail
  refine (E.out).mono ?_
  rintro e w1 ⟨rfl, hs2, ho⟩
  go_wp2
  go_ret
  exact ⟨rfl, HS1.out.trans (since_mono hs2 (by omega)), ho.mono (by omega) (Nat.le_refl _)⟩

set_option maxHeartbeats 400000 in
theorem ones1_any (i k : Nat) (w : World) : Calls Try.prog 115 #[.int .i64 i, .int .i64 k] w fun e w' => e = .returned (.int .i64 1) ∧ w.Since w.heap.size w' := by
  go_enter Try.func115, Try.ntmps115
  go_wp2
  go_ret
  exact ⟨rfl, World.Since.refl _ _⟩

theorem ones_any (M : Nat) (hM : M ≤ 1000) (w : World) : Calls Try.prog 68 #[.int .i64 M, .int .i64 M, .func (.func 115) #[] #[]] w fun e w' => e = .returned (.slice (some ⟨w.heap.size, 0, none⟩) M M) ∧ w.Since w.heap.size w' ∧ OwnT w.heap.size w'.heap.size w' (some ⟨w.heap.size, 0, none⟩) (tabF M M (fun _ _ => 1)) :=
  newTable_any 115 #[] M M (fun _ _ => 1) w hM hM (enters_of Try.func115 (by kernel_rfl) rfl) (fun W i k _ _ _ => ones1_any i k W)

end Go.Proofs.Ytikjeaoapeaabaa
end

section
namespace Go.Proofs.Ytikjeaoapeaabaa
open Go.RowKit Go.Deep

theorem tabF_self {l : List (List Int)} {n : Nat} (hn : l.length = n) (hrow : ∀ r, r < n → (l.getD r []).length = n) : tabF n n (at2 l) = l := by
  have h : (List.range n).map (fun r => (List.range n).map (at2 l r)) = (List.range n).map (fun r => l.getD r []) :=
    List.map_congr_left fun r hr => by
      have hr' := hrow r (List.mem_range.1 hr)
      have e := range_getD (l.getD r []) (0 : Int)
      rw [hr'] at e
      exact e
  show (List.range n).map (fun r => (List.range n).map (at2 l r)) = l
  rw [h, ← hn, range_getD]

set_option maxRecDepth 100000 in
set_option maxHeartbeats 1500000 in
theorem byCondensing_any (n : Nat) (l : List (List Int)) (a : Option Addr) (cap : Nat) (w : World) (hn : l.length = n) (hT : TabIn l) (hw : (l.getD 0 []).length = n) (hm : MatR w a l) :
    Calls Try.prog 104 #[.slice a n cap] w fun e w' => e = .returned (.tuple #[.int .i64 (if conB n (at2 l) = true then dt n (at2 l) else 0), .bool (conB n (at2 l))]) ∧ w.Since w.heap.size w' := by
  have h6 := hT.2.1
  have h1 := hT.1
  rw [hn] at h6 h1
  have hA : ∀ i j, i < n → j < n → -30 ≤ at2 l i j ∧ at2 l i j ≤ 30 := fun i j hi hj => hT.at (by omega) (by omega)
  have hrow : ∀ r, r < n → (l.getD r []).length = n := fun r hr => by rw [hT.row (by omega), hw]
  have hmt : MatR w a (tabF n n (cn (at2 l) 1)) := by
    have e : cn (at2 l) 1 = at2 l := by funext i k; exact cn_one _ i k
    rw [e, tabF_self hn hrow]; exact hm
  have HG := Lib.hid hmt
  clear hmt
  obtain ⟨F, hFF⟩ : ∃ F, F = at2 l := ⟨_, rfl⟩
  rw [← hFF] at hA HG ⊢
  have HA := Lib.hid hA
  obtain ⟨b, hb⟩ : ∃ b, conB n F = b := ⟨_, rfl⟩
  obtain ⟨y, hy⟩ : ∃ y, (if conB n F = true then dt n F else 0) = y := ⟨_, rfl⟩
  rw [hy, hb]
  have HNO := Lib.hid (fun (h : conB n F = false) => show b = false ∧ y = 0 from ⟨by rw [← hb, h], by rw [← hy, h]; rfl⟩)
  have HYES := Lib.hid (fun (h : conB n F = true) => show b = true ∧ y = dt n F from ⟨by rw [← hb, h], by rw [← hy, h, if_pos rfl]⟩)
  clear hb hy
  have EO := Lib.hid (ones_any (n + 1) (by omega) w)
  clear hA hrow hm hT hw hn hFF
  go_enter Try.func104, Try.ntmps104
  go_wp2_with fail
  refine (EO.out).mono ?_
  rintro e w1 ⟨rfl, hs1, ho1⟩
  have HM1 := Lib.hid ho1.matR
  have HS1 := Lib.hid hs1
  have HG1 := Lib.hid (HG.out.since hs1)
  clear ho1 hs1
  go_wp2
  go_loopg [0, 4, 5] n (fun g t ah _ wr => ∃ (d M ca ct : Nat) (aa ta : Option Addr), d < n ∧ g = n - d ∧ M = n - d + 1 ∧ t = .slice ta (n - d) ct ∧ ah = .slice aa M ca ∧ MatR wr ta (tabF (n - d) (n - d) (cn F (d + 1))) ∧ MatR wr aa (tabF M M (cn F d)) ∧ ConTo n F d ∧ w.Since w.heap.size wr)
  case atStart => exact ⟨0, n + 1, _, _, _, _, by omega, rfl, rfl, rfl, rfl, HG1.out, HM1.out, ConTo.start n F, HS1.out⟩
  case round =>
    obtain ⟨d, M, ca, ct, aa, ta, hd, rfl, hM, rfl, rfl, hG, hP, hC, hS⟩ := hrel
    clear HG1 HM1 HS1
    have HGT := Lib.hid hG
    have HGG := Lib.hid (GR.of_tab hG (by omega))
    have HC := Lib.hid hC
    have HS := Lib.hid hS
    obtain ⟨m, hm⟩ : ∃ m, n - d = m := ⟨_, rfl⟩
    have HM := Lib.hid hm
    rw [hm] at hM ⊢
    rw [hm] at HGG HGT
    clear hG hC hS
    by_cases hgt : 1 < m
    · have hgt' : decide ((1 : Int) < (m : Int)) = true := by simp; omega
      have EM := Lib.hid (middle_any aa ca m M (cn F d) wr (by omega) (by omega) hM hP)
      clear hP hM
      go_wp2_with fail
      refine (EM.out).mono ?_
      rintro e w2 ⟨am, cm, rfl, hs2, hm2⟩
      have EZ := Lib.hid (hasZero_any am cm (m - 1) (fun i k => cn F d (i + 1) (k + 1)) w2 (by omega) hm2)
      have HGM := Lib.hid (GR.of_tab hm2 (by omega))
      have HS2 := Lib.hid (HS.out.trans (since_mono hs2 HS.out.size))
      have HG2 := Lib.hid (HGG.out.since hs2)
      obtain ⟨q, hq⟩ : ∃ q, m - 1 = q := ⟨_, rfl⟩
      rw [hq] at EZ HGM ⊢
      have HQ := Lib.hid hq
      have HS22 := Lib.hid hs2
      clear hm2 hs2
      go_wp2_with fail
      refine (EZ.out).mono ?_
      rintro e w3 ⟨rfl, ⟨rfl, i, k, hi, hk, h0⟩ | ⟨rfl, hno⟩⟩
      · obtain ⟨rfl, rfl⟩ := HNO.out (conB_false (n := n) (F := F) (d := d) (i := i) (k := k) (by omega) (by omega) h0)
        clear h0 hq HNO HYES
        go_wp2
        go_ret2
        exact ⟨rfl, HS2.out⟩
      · have hnum : ∀ i k, i < q → k < q → CNum (cn F (d + 1) i k) (cn F (d + 1) (i + 1) (k + 1)) (cn F (d + 1) i (k + 1)) (cn F (d + 1) (i + 1) k) ((fun i k => cn F d (i + 1) (k + 1)) i k) (cn F (d + 2) i k) := fun i k hi hk => by
          obtain ⟨y1, y2, y3, y4, y5⟩ := cn_num h6 HA.out (d := d) (i := i) (k := k) (by omega) (by omega) (hno i k hi hk)
          exact ⟨hno i k hi hk, y1, y2, y3, y4, y5⟩
        have EC := Lib.hid (condensed_any m q ct cm ta am (cn F (d + 1)) (fun i k => cn F d (i + 1) (k + 1)) (cn F (d + 2)) w2 (by omega) (by omega) HG2.out HGM.out hnum)
        have hCN := Lib.hid (HC.out.next (fun i k hi hk => hno i k (by omega) (by omega)))
        clear hno hnum hq
        go_wp2_with fail
        refine (EC.out).mono ?_
        rintro e w4 ⟨rfl, hs4, ho4⟩
        have HG4 := Lib.hid ho4.matR
        have HS4 := Lib.hid (HS2.out.trans (since_mono hs4 HS2.out.size))
        have HT4 := Lib.hid (HGT.out.since (HS22.out.trans (since_mono hs4 HS22.out.size)))
        clear hs4 ho4
        go_wp2
        go_roundg (n - (d + 1))
        case measure => omega
        case rel =>
          have e1 : n - (d + 1) = q := by have := HQ.out; omega
          have e2 : m = q + 1 := by have := HQ.out; omega
          exact ⟨d + 1, m, ct, q, ta, _, by omega, rfl, by rw [e1]; exact e2, by rw [e1], rfl, by rw [e1]; exact HG4.out, HT4.out, hCN.out, HS4.out⟩
    · have hm1 : m = 1 := by omega
      have hdn : d + 1 = n := by omega
      obtain ⟨bn, on, An, Cn, ean, gtop, gcell⟩ := HGG.out
      obtain ⟨b1, o1, t1, c1⟩ := gcell 0 0 (by omega) (by omega)
      rw [hdn, cn_all] at c1
      rw [Nat.add_zero] at t1 c1
      obtain ⟨rfl, hyd⟩ := HYES.out (conB_true (HC.out.all (by omega)))
      rw [← hyd] at c1
      subst ean
      have hgt' : decide ((1 : Int) < (m : Int)) = false := by simp; omega
      clear gtop gcell hm hM hP HYES HNO hyd
      subst hm1
      go_wp2
      go_ret2
      exact ⟨rfl, HS.out⟩

theorem implValueCondense_any (a : Option Addr) (cap n : Nat) (l : List (List Int)) (w : World) (hn : l.length = n) (hsz : szL l ≤ 1048576) (hm : MatR w a l) :
    Calls Try.prog 23 #[.slice a n cap] w (SpecW w (conOk l n) (conV l n)) := by
  unfold conOk conV
  exact implValueCondense_of a cap n l (dt n (at2 l)) (conB n (at2 l)) w hn hsz hm fun hs W' hm' => by
    obtain ⟨hT, hw⟩ := sqB_of hs
    exact byCondensing_any n l a cap W' hn hT (by rw [← hw, hn]) hm'

end Go.Proofs.Ytikjeaoapeaabaa
end

section
namespace Go.Proofs.Ytikjeaoapeaabaa
open Go.RowKit Go.Deep

set_option maxRecDepth 100000 in
set_option maxHeartbeats 4000000 in
theorem fnCondense (a : Option Addr) (cap n : Nat) (w : World) (hc : n ≤ cap) (h63 : cap ≤ 9223372036854775807) (hb : BytR w a n) :
    Calls Try.prog 11 #[.slice a n cap] w fun e w' => e = .returned (.bool true) ∧ w.Since w.heap.size w' := by
  by_cases hlen : 1048576 < n
  · have hl' : decide ((1048576 : Int) < (n : Int)) = true := by simp; omega
    clear hb
    go_enter Try.func11, Try.ntmps11
    go_wp2
    go_ret
    exact ⟨rfl, World.Since.refl _ _⟩
  · have hl' : decide ((1048576 : Int) < (n : Int)) = false := by simp; omega
    have ED := Lib.hid (drawValueCondense_any a n cap w hc h63 hb)
    clear hb
    go_enter Try.func11, Try.ntmps11
    go_wp2_with fail
    refine (ED.out).mono ?_
    rintro e w1 ⟨a1, c1, l, rfl, hs1, h1, h5, hlens, hit⟩
    have hsz : szL l ≤ 1048576 := szL_of h5 (fun j hj => (hlens j hj).2) (by decide)
    obtain ⟨nn, hn⟩ : ∃ nn, l.length = nn := ⟨_, rfl⟩
    rw [hn]
    have HN := Lib.hid hn
    have HSZ := Lib.hid hsz
    have HM := Lib.hid (fun (W : World) (h : w1.Since w1.heap.size W) => hit.matR.since h)
    have HS1 := Lib.hid hs1
    obtain ⟨ok, hok⟩ : ∃ ok, conOk l nn = ok := ⟨_, rfl⟩
    obtain ⟨v, hv⟩ : ∃ v, (if ok = true then conV l nn else 0) = v := ⟨_, rfl⟩
    have E1 := implValueCondense_any a1 c1 nn l w1 hn hsz hit.matR
    have E2 := fun (W : World) (h : w1.Since w1.heap.size W) => specValueCondense_any a1 c1 nn l W hn hsz (hit.matR.since h)
    unfold SpecW at E1
    unfold SpecW at E2
    rw [hok, hv] at E1
    simp only [hok, hv] at E2
    replace E1 := Lib.hid E1
    replace E2 := Lib.hid E2
    have HOK := Lib.hid hok
    have HV := Lib.hid hv
    clear hn hsz hit hs1 h1 h5 hlens hok hv
    go_wp2_with fail
    refine (E1.out).mono ?_
    rintro e w2 ⟨rfl, hs2⟩
    have HS2 := Lib.hid hs2
    clear hs2
    go_wp2_with fail
    refine (E2.out w2 HS2.out).mono ?_
    rintro e w3 ⟨rfl, hd3⟩
    have HS3 := Lib.hid (HS2.out.trans (since_mono (hd3) HS2.out.size))
    clear hd3
    cases ok with
    | false =>
      go_wp2
      go_ret
      exact ⟨rfl, HS1.out.trans (since_mono HS3.out HS1.out.size)⟩
    | true =>
      have hv := HV.out
      rw [if_pos rfl] at hv
      obtain ⟨hsq, hd⟩ : sqB l = true ∧ ordF l nn nn 0 = v := by
        have h := HOK.out
        unfold conOk at h
        rw [Bool.and_eq_true] at h
        obtain ⟨hT, _⟩ := sqB_of h.1
        have h6 := hT.2.1
        have hn := HN.out
        exact ⟨h.1, by rw [← hv, ordF_all l (by omega)]; rfl⟩
      clear hv
      have E5 := implValueOrders_any a1 c1 nn l w3 HN.out HSZ.out (HM.out w3 HS3.out)
      unfold SpecW at E5
      rw [hsq, if_pos rfl, hd] at E5
      replace E5 := Lib.hid E5
      go_wp2_with fail
      refine (E5.out).mono ?_
      rintro e w5 ⟨rfl, hs5⟩
      have HS5 := Lib.hid (HS3.out.trans (since_mono hs5 HS3.out.size))
      clear hs5
      go_wp2
      go_ret
      exact ⟨rfl, HS1.out.trans (since_mono HS5.out HS1.out.size)⟩

end Go.Proofs.Ytikjeaoapeaabaa
end

section
namespace Go.Proofs.Ytikjeaoapeaabaa
open Go.ChangeShapes Go.WideShapes Go.ChangeAt Go.RowKit Go.Deep

theorem below_since' {B : Nat} {w w' : World} (h : Below B w w') : w.Since B w' := ⟨h.os, h.tape, h.output, h.size, h.block⟩
theorem since_below' {B : Nat} {w w' : World} (h : w.Since B w') : Below B w w' := ⟨h.os, h.tape, h.output, h.size, h.block⟩

section
variable {H : Type} {enc : TypeId × Value → H} {P : Program}
theorem post_of_below {f : Func} {s : ChangeSpec} {apart fresh handsOn again : Bool} {W W' : World} {args : Array Value} {v : Value} {ds gs : List (DataW H)} {before pa pv : List MemPlace}
    (hW : DataW.Whole enc P f.params.toList s.vars apart W args.toList ds gs before)
    (hres : ∀ (b : Nat) (sp : Nat → Bool) (hd : Bool), DataW.TrodAll enc P W' b sp hd f.resultTypes.toList (v.resultList f.resultTypes.size) (s.fn H (ds ++ gs)).results [])
    (hargs : ∀ sp : Nat → Bool, (∀ p ∈ before, sp p.block = true) → DataW.TrodAll enc P W' 0 sp true f.params.toList args.toList (s.fn H (ds ++ gs)).args pa)
    (hvars : ∀ sp : Nat → Bool, (∀ p ∈ before, sp p.block = true) → DataW.TrodVars enc P W' sp s.vars (s.fn H (ds ++ gs)).vars pv)
    (hps : before = pa ++ pv) (hb : Below W.heap.size W W') (hag : again = false) :
    s.post enc P f apart fresh handsOn again W args v W' := by
  have hlt : ∀ p ∈ before, p.block < W.heap.size := fun p hp => hW.lt p hp
  have hold : ∀ p ∈ before, (fun b => decide (b < W.heap.size)) p.block = true := fun p hp => by simpa using hlt p hp
  refine ⟨ds, gs, before, [], pa, pv, hW, hres _ _ _, hargs _ hold, hvars _ hold, World.keptBut_mono (fun p hp => ⟨hp, ?_⟩) (hb.frame (· ∈ before)), fun h => ?_⟩
  · rw [hps, List.mem_append] at hp
    exact Or.inr hp
  · rw [hag] at h; cases h

theorem open_mat {W : World} {t e q : TypeId} {a : Option Addr} {n cap : Nat} {d : DataW H} {p : List MemPlace} (ht : P.underlying t = some (.slice e)) (he : P.underlying e = some (.slice q)) (hq : P.underlying q = some (.int .i64))
    (ce : P.cellsOf e = 1) (cq : P.cellsOf q = 1) (h : DataW.Trod enc P W 0 (fun _ => true) true t (.slice a n cap) d p) :
    ∃ l : List (List Int), l.length = n ∧ MatR W a l ∧ n ≤ 9223372036854775807 ∧ ∀ r, r < l.length → (l.getD r []).length ≤ 9223372036854775807 := by
  obtain ⟨fuel, hf⟩ := h
  rcases open_int_rows ht he hq ce cq hf with ⟨hcs, _⟩ | ⟨a', len', cap', A, L, C, Z, hcs, _, hl, hm, _, hrows⟩
  · simp [Value.cells] at hcs
    obtain ⟨rfl, rfl, rfl⟩ := hcs
    exact ⟨[], rfl, (fun h => by simp at h), by omega, fun r hr => by simp at hr⟩
  · simp [Value.cells] at hcs
    obtain ⟨rfl, rfl, rfl⟩ := hcs
    have hmx : maxLen = 9223372036854775807 := rfl
    have hlen : ∀ r, r < n → ((Z r).take (L r)).length = L r := fun r hr => by
      obtain ⟨_, h1, _, h2, _⟩ := hrows r (by omega)
      rw [List.length_take]; omega
    have hget : ∀ r, r < n → ((List.range n).map fun r => (Z r).take (L r)).getD r [] = (Z r).take (L r) := fun r hr => by simp [List.getD, hr]
    refine ⟨(List.range n).map fun r => (Z r).take (L r), by simp, fun h => ?_, by omega, fun r hr => ?_⟩
    · obtain ⟨b, o, spot⟩ := a'
      simp at h
      have hspot : spot = none := by simpa [Addr.add] using World.cell?_spot (hrows 0 (by omega)).1
      subst hspot
      refine ⟨b, o, A, C, rfl, fun r hr => ?_⟩
      simp at hr
      rw [hget r hr, hlen r hr]
      obtain ⟨g1, g2, g3, g4, g5, g6, g7⟩ := hrows r (by omega)
      refine ⟨by rw [← add_plain]; exact g1, fun h0 => ?_⟩
      rw [hlen r hr] at h0
      cases hA : A r with
      | none => have := g6 hA; omega
      | some a'' =>
        obtain ⟨_, hcell⟩ := g7 a'' hA
        obtain ⟨b', o', sp⟩ := a''
        have hs : sp = none := by simpa [Addr.add] using World.cell?_spot (hcell 0 (by omega))
        subst hs
        refine ⟨b', o', rfl, fun i hi => ?_⟩
        rw [hlen r hr] at hi
        rw [← add_plain, hcell i (by omega)]
        congr 2
        simp [List.getD, hi]
    · simp at hr
      rw [hget r hr, hlen r hr]
      obtain ⟨_, h1, h2, _⟩ := hrows r (by omega)
      omega
end

theorem Try.own : ownKnob Try.prog.godebug = none := by kernel_rfl
theorem Try.laidOut : laidOutB Try.prog = true := by kernel_rfl
theorem Try.cellsR : Try.prog.cellsOf 33 = 1 := by kernel_rfl
theorem Try.cellsI : Try.prog.cellsOf 3 = 1 := by kernel_rfl

end Go.Proofs.Ytikjeaoapeaabaa
end

section
namespace Go.Proofs.Ytikjeaoapeaabaa
open Go.ChangeShapes Go.WideShapes Go.ChangeAt Go.RowKit Go.Deep

theorem wf_u8_of {n : Int} (h : (Lit.int .u8 n).wf = true) : 0 ≤ n ∧ n ≤ 255 := by
  have h2 : (0 : Int) ≤ n ∧ n ≤ 255 := by simpa [Lit.wf, IntKind.min, IntKind.max, IntKind.signed, IntKind.bits] using h
  exact h2

theorem open_bytes {H : Type} {enc : TypeId × Value → H} {P : Program} {W : World} {t e : TypeId} {a : Option Addr} {n cap : Nat} {d : DataW H} {p : List MemPlace} (ht : P.underlying t = some (.slice e)) (he : P.underlying e = some (.int .u8)) (ce : P.cellsOf e = 1)
    (h : DataW.Trod enc P W 0 (fun _ => true) true t (.slice a n cap) d p) : BytR W a n ∧ n ≤ cap ∧ cap ≤ 9223372036854775807 := by
  obtain ⟨fuel, hf⟩ := h
  rcases open_ints ht he ce hf with ⟨hcs, _⟩ | ⟨a', len, cap', zs, hcs, _, hl, hm, hlen, _, hcell, hwf⟩
  · simp [Value.cells] at hcs
    obtain ⟨rfl, rfl, rfl⟩ := hcs
    exact ⟨fun h => absurd h (by omega), by omega, by omega⟩
  · simp [Value.cells] at hcs
    obtain ⟨rfl, rfl, rfl⟩ := hcs
    have hmx : maxLen = 9223372036854775807 := rfl
    have hzl : zs.length = cap := by simpa using hlen
    refine ⟨fun h0 => ?_, by omega, by omega⟩
    obtain ⟨b, o, spot⟩ := a'
    have hspot : spot = none := by simpa [Addr.add] using World.cell?_spot (hcell 0 (by omega))
    subst hspot
    refine ⟨b, o, rfl, fun i hi => ?_⟩
    have hi' : i < zs.length := by omega
    have hw := wf_u8_of (hwf (zs.getD i 0) (by simp [List.getD, hi']))
    obtain ⟨z, hz⟩ := Int.eq_ofNat_of_zero_le hw.1
    refine ⟨z, by omega, ?_⟩
    rw [← add_plain, hcell i hi', hz]

theorem Try.cellsB : Try.prog.cellsOf 5 = 1 := by kernel_rfl

end Go.Proofs.Ytikjeaoapeaabaa
end
