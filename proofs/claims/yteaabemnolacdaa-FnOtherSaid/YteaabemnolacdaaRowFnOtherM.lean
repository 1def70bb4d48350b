import Derived.Test.YteaabemnolacdaaTable
import Derived.Test.YteaabemnolacdaaDet
import Derived.Test.YteaabemnolacdaaRowsF
import Derived.Test.YteaabemnolacdaaBar
import Derived.Test.YteaabemnolacdaaMinorV
import Derived.Test.YteaabemnolacdaaL2Square
import Derived.Test.YteaabemnolacdaaMakeImpl
import Derived.Test.YteaabemnolacdaaOrdF
import Derived.Test.YteaabemnolacdaaPartImpl
import Derived.Maps.AppendAt
import Derived.Test.YteaabemnolacdaaNewTable
import Derived.Test.YteaabemnolacdaaSig
import Derived.Test.YteaabemnolacdaaRoads
import Derived.Test.YteaabemnolacdaaPivotsI
import Derived.Test.YteaabemnolacdaaMakeSpec
import Derived.Test.YteaabemnolacdaaHarn2
import Derived.Test.YteaabemnolacdaaOrdersI
import Derived.Test.YteaabemnolacdaaRows
import Derived.Test.YteaabemnolacdaaData
import Derived.ProofKit
import Derived.Deep.Matrix
import Derived.Test.YteaabemnolacdaaDraw0

section
namespace Go.Proofs.Yteaabemnolacdaa
open Go.RowKit Go.Deep

theorem BD.inT {B : Nat} {w : World} {v : Value} {l : List (List Int)} {A : Nat → Option Addr} {C : Nat → Nat} (h : BD B w v l A C) : ∃ a cap, v = .slice a l.length cap ∧ InT B w.heap.size w a l := by
  by_cases h0 : 0 < l.length
  · obtain ⟨b, cap, cur, e, hb, hg, hc⟩ := h.top h0
    refine ⟨_, cap, e, fun _ => ⟨b, 0, A, fun r => ((A r).getD default).block, fun _ => 0, C, rfl, ⟨hb, (Array.getElem?_eq_some_iff.1 hg).1⟩, fun r hr => ⟨?_, fun h1 => ?_⟩⟩⟩
    · rw [Nat.zero_add]; simp [World.cell?, hg, hc r hr]
    · obtain ⟨g, e, hB, hw⟩ := h.row hr
      have e' : ((A r).getD default).block = g := by rw [e]; rfl
      dsimp only
      rw [e']
      exact ⟨e, ⟨hB, hw.lt⟩, fun i hi => by rw [Nat.zero_add]; exact hw.cell hi⟩
  · rcases h.own.2 with ⟨hv, hn⟩ | ⟨g, cap, cur, e, _⟩
    · exact ⟨none, 0, by rw [hv, hn], fun h => absurd h h0⟩
    · exact ⟨_, cap, e, fun h => absurd h h0⟩

theorem BD.row_ne {B : Nat} {w : World} {l : List (List Int)} {A : Nat → Option Addr} {C : Nat → Nat} {b cap n : Nat} (h : BD B w (.slice (some ⟨b, 0, none⟩) n cap) l A C) {g : Nat} {x : List Int} (hw : RowB w g x) : g ≠ b := by
  rintro rfl
  obtain ⟨cs, hc, _⟩ := hw
  rcases h.own.2 with ⟨e, _⟩ | ⟨g', cap', cur, e, _, hgg, _⟩
  · cases e
  · injection e with e
    injection e with e
    injection e with e
    rw [← e, hc] at hgg
    injection hgg with hgg
    injection hgg with _ e2 _
    exact absurd e2 (by decide)

theorem BD.addr_ne {B : Nat} {w : World} {v : Value} {l : List (List Int)} {A : Nat → Option Addr} {C : Nat → Nat} (h : BD B w v l A C) {r j g g' : Nat} (hr : r < l.length) (hj : j < l.length) (hA : A r = some ⟨g, 0, none⟩) (hA' : A j = some ⟨g', 0, none⟩) (hne : j ≠ r) : g' ≠ g := by
  rintro rfl
  exact hne (h.apart j r hj hr (by rw [hA, hA']))

theorem BD.cellTop {B : Nat} {w : World} {l : List (List Int)} {A : Nat → Option Addr} {C : Nat → Nat} {b cap n : Nat} (h : BD B w (.slice (some ⟨b, 0, none⟩) n cap) l A C) {r : Nat} (hr : r < l.length) :
    w.cell? ⟨b, r, none⟩ = some (.slice (A r) (l.getD r []).length (C r)) ∧ w.frozen? ⟨b, r, none⟩ = false ∧ b < w.heap.size := by
  obtain ⟨b', cp', cur, hv, _, hcur, hc⟩ := h.top (by omega)
  injection hv with hv _ _
  injection hv with hv
  injection hv with hv
  subst hv
  exact ⟨by simp [World.cell?, hcur, hc r hr], by simp [World.frozen?, hcur], (Array.getElem?_eq_some_iff.1 hcur).1⟩

theorem BD.setRow {B : Nat} {w w5 : World} {l : List (List Int)} {A : Nat → Option Addr} {C : Nat → Nat} {b cap n : Nat} (h : BD B w (.slice (some ⟨b, 0, none⟩) n cap) l A C) {r g : Nat} (hr : r < l.length) (hA : A r = some ⟨g, 0, none⟩) (hg : w.grownBy w5 (some g)) {g2 cp k : Nat} {y : List Int}
    (hy : RW B w5 (.slice (some ⟨g2, 0, none⟩) k cp) y) (hk : y.length = k) (h0 : 0 < k) : InT B w5.heap.size (w5.setCell ⟨b, r, none⟩ (.slice (some ⟨g2, 0, none⟩) k cp)) (some ⟨b, 0, none⟩) (l.set r y) := by
  subst hk
  obtain ⟨b', cap', cur, e, hb, hcur, hc⟩ := h.top (by omega)
  injection e with e en _
  injection e with e
  injection e with e
  subst e
  obtain ⟨g', hA', hBg, hrb⟩ := h.row hr
  rw [hA] at hA'
  injection hA' with hA'
  injection hA' with hA'
  subst hA'
  have hgb := h.row_ne hrb
  have hbl : b < w.heap.size := (Array.getElem?_eq_some_iff.1 hcur).1
  have hcur5 : w5.heap[b]? = some (.cells cur 36 (0, 0)) := (hg.block b hbl (fun e => by injection e with e; omega)).trans hcur
  obtain ⟨hB2, hrb2⟩ := hy.rowB h0
  have hg2b : g2 ≠ b := by
    rintro rfl
    obtain ⟨cs, h1, _⟩ := hrb2
    rw [h1] at hcur5
    injection hcur5 with h2
    injection h2 with _ h2 _
    exact absurd h2 (by decide)
  have hbl5 : b < w5.heap.size := (Array.getElem?_eq_some_iff.1 hcur5).1
  intro _
  refine ⟨b, 0, fun j => if j = r then some ⟨g2, 0, none⟩ else A j, fun j => if j = r then g2 else ((A j).getD default).block, fun _ => 0, fun j => if j = r then cp else C j, rfl, ⟨hb, hbl5⟩, fun j hj => ?_⟩
  rw [List.length_set] at hj
  show (w5.setCell ⟨b, r, none⟩ _).cell? ⟨b, 0 + j, none⟩ = _ ∧ _
  rw [Nat.zero_add]
  by_cases ej : j = r
  · subst ej
    have e1 : (l.set j y).getD j [] = y := by simp [List.getD, hj]
    rw [e1]
    simp only [↓reduceIte]
    refine ⟨World.cell?_setCell_same' _ _ _ (by simp [World.cell?, hcur5, hc j hj]), fun _ => ⟨trivial, ⟨hB2, hrb2.lt⟩, fun i hi => ?_⟩⟩
    rw [Nat.zero_add]
    exact cell_set_far (hrb2.cell hi) hg2b
  · have e1 : (l.set r y).getD j [] = l.getD j [] := by simp [List.getD, List.getElem?_set_ne (Ne.symm ej)]
    rw [e1]
    simp only [if_neg ej]
    obtain ⟨gj, hAj, hBj, hrbj⟩ := h.row hj
    have hgj := h.addr_ne hr hj hA hAj ej
    have hrb5 : RowB w5 gj (l.getD j []) := hrbj.of_block (hg.block gj hrbj.lt (fun e => by injection e with e; omega))
    have hgjb := h.row_ne hrbj
    refine ⟨?_, fun _ => ?_⟩
    · rw [World.cell?_setCell_other _ _ _ _ (fun e => ej (by injection e with _ e; exact e.symm))]
      simp [World.cell?, hcur5, hc j hj]
    · have e' : ((A j).getD default).block = gj := by rw [hAj]; rfl
      rw [e']
      exact ⟨hAj, ⟨hBj, hrb5.lt⟩, fun i hi => by rw [Nat.zero_add]; exact cell_set_far (hrb5.cell hi) hgjb⟩

theorem BD.setNum {B : Nat} {w : World} {l : List (List Int)} {A : Nat → Option Addr} {C : Nat → Nat} {b cap n : Nat} (h : BD B w (.slice (some ⟨b, 0, none⟩) n cap) l A C) {r g k : Nat} (hr : r < l.length) (hA : A r = some ⟨g, 0, none⟩) (hk : k < (l.getD r []).length) (z : Int) :
    InT B w.heap.size (w.setCell ⟨g, k, none⟩ (.int .i64 z)) (some ⟨b, 0, none⟩) (l.set r ((l.getD r []).set k z)) := by
  obtain ⟨b', cap', cur, e, hb, hcur, hc⟩ := h.top (by omega)
  injection e with e en _
  injection e with e
  injection e with e
  subst e
  obtain ⟨g', hA', hBg, hrb⟩ := h.row hr
  rw [hA] at hA'
  injection hA' with hA'
  injection hA' with hA'
  subst hA'
  have hgb := h.row_ne hrb
  intro _
  refine ⟨b, 0, A, fun j => ((A j).getD default).block, fun _ => 0, C, rfl, ⟨hb, (Array.getElem?_eq_some_iff.1 hcur).1⟩, fun j hj => ?_⟩
  rw [List.length_set] at hj
  show (w.setCell ⟨g, k, none⟩ _).cell? ⟨b, 0 + j, none⟩ = _ ∧ _
  rw [Nat.zero_add]
  have hlen : ((l.set r ((l.getD r []).set k z)).getD j []).length = (l.getD j []).length := by
    by_cases ej : j = r
    · subst ej; simp [List.getD, hj]
    · simp [List.getD, List.getElem?_set_ne (Ne.symm ej)]
  rw [hlen]
  refine ⟨cell_set_far (by simp [World.cell?, hcur, hc j hj]) (Ne.symm hgb), fun _ => ?_⟩
  obtain ⟨gj, hAj, hBj, hrbj⟩ := h.row hj
  have e' : ((A j).getD default).block = gj := by rw [hAj]; rfl
  dsimp only
  rw [e']
  refine ⟨hAj, ⟨hBj, hrbj.lt⟩, fun i hi => ?_⟩
  rw [Nat.zero_add]
  by_cases ej : j = r
  · subst ej
    rw [hA] at hAj
    injection hAj with hAj
    injection hAj with hAj
    subst hAj
    have e1 : (l.set j ((l.getD j []).set k z)).getD j [] = (l.getD j []).set k z := by simp [List.getD, hj]
    rw [e1]
    by_cases ei : i = k
    · subst ei
      rw [World.cell?_setCell_same' _ _ _ (by rw [hrbj.cell hi]; rfl)]
      simp [List.getD] at hi ⊢
      simp [hi]
    · rw [World.cell?_setCell_other _ _ _ _ (fun e => ei (by injection e with _ e; exact e.symm)), hrbj.cell hi]
      simp [List.getD, List.getElem?_set_ne (Ne.symm ei)]
  · have hgj := h.addr_ne hr hj hA hAj ej
    have e1 : (l.set r ((l.getD r []).set k z)).getD j [] = l.getD j [] := by simp [List.getD, List.getElem?_set_ne (Ne.symm ej)]
    rw [e1]
    exact cell_set_far (hrbj.cell hi) hgj

theorem InT.kept {lo hi : Nat} {w w' : World} {a : Option Addr} {l : List (List Int)} {G : Nat} (h : InT lo hi w a l) (hg : w.grownBy w' (some G)) (hG : G < lo) : InT lo hi w' a l :=
  h.frame (lo' := G) (hi' := G + 1) ⟨hg.os, hg.tape, hg.output, hg.size, fun k hk ho => hg.block k hk (fun e => by injection e with e; omega)⟩ (.inr (by omega))

end Go.Proofs.Yteaabemnolacdaa
end

section
namespace Go.Proofs.Yteaabemnolacdaa
open Go.RowKit Go.Deep

def Drawn0 (w w' : World) (R K : Nat) (a : Option Addr) (l : List (List Int)) : Prop :=
  1 ≤ l.length ∧ l.length ≤ R ∧ (∀ j, j < l.length → 1 ≤ (l.getD j []).length ∧ (l.getD j []).length ≤ K + 1) ∧ InT w.heap.size w'.heap.size w' a l

theorem lens_set {l : List (List Int)} {r : Nat} {y : List Int} {n m K : Nat} (hl : l.length = n) (h : ∀ j, j < n → (l.getD j []).length = m) (hm : 1 ≤ m ∧ m ≤ K) (hy : 1 ≤ y.length ∧ y.length ≤ K + 1) : ∀ j, j < (l.set r y).length → 1 ≤ ((l.set r y).getD j []).length ∧ ((l.set r y).getD j []).length ≤ K + 1 := by
  intro j hj
  rw [List.length_set] at hj
  by_cases e : j = r
  · subst e
    rw [show (l.set j y).getD j [] = y by simp [List.getD, hj]]
    exact hy
  · rw [show (l.set r y).getD j [] = l.getD j [] by simp [List.getD, List.getElem?_set_ne (Ne.symm e)], h j (by omega)]
    omega

set_option maxRecDepth 100000 in
set_option maxHeartbeats 4000000 in
theorem l91Some_any (w0 w : World) (G nb c p R K : Nat) (a : Option Addr) (h : RD w0 w G a nb c 80 p) (hR1 : 1 ≤ R) (hR : R ≤ 8) (hK1 : 1 ≤ K) (hK : K ≤ 8) (hp : p ≤ 40000) :
    Calls Try.prog 72 #[.pointer (some ⟨G, 0, none⟩), .int .i64 R, .int .i64 K] w fun e w' => ∃ a' cap l p', e = .returned (.slice a' l.length cap) ∧ w.grownBy w' (some G) ∧ RD w0 w' G a nb c 80 p' ∧ p' ≤ p + 600 ∧ Drawn0 w w' R K a' l := by
  obtain ⟨i3, hi3⟩ := info3_parts
  have HJ := Lib.hid hi3
  have hG := h.lt
  have HRD := Lib.hid h
  clear h hi3
  go_enter Try.func72, Try.ntmps72
  go_wp2_with fail
  refine (pick_any w0 _ G nb c _ a _ HRD.out (by omega)).mono ?_
  rintro e w1 ⟨y1, rfl, hy1, hg1, hd1⟩
  obtain ⟨n, hn, hnn⟩ : ∃ n : Nat, IntKind.i64.wrap (1 + (y1 : Int)) = n ∧ n = y1 + 1 := ⟨y1 + 1, (IntWalk.i64_in _ ⟨by omega, by omega⟩).trans (by omega), rfl⟩
  have hn1 : 1 ≤ n ∧ n ≤ R := by omega
  have HD1 := Lib.hid hd1
  have HG1 := Lib.hid hg1
  clear hd1 hg1 hnn hy1 HRD
  go_wp2_with fail
  refine (pick_any w0 _ G nb c _ a _ HD1.out (by omega)).mono ?_
  rintro e w2 ⟨y2, rfl, hy2, hg2, hd2⟩
  obtain ⟨m, hm, hmm⟩ : ∃ m : Nat, IntKind.i64.wrap (1 + (y2 : Int)) = m ∧ m = y2 + 1 := ⟨y2 + 1, (IntWalk.i64_in _ ⟨by omega, by omega⟩).trans (by omega), rfl⟩
  have hm1 : 1 ≤ m ∧ m ≤ K := by omega
  have HD2 := Lib.hid hd2
  have HG2 := Lib.hid (grown_trans HG1.out hg2)
  clear hd2 hg2 hmm hy2 HD1 HG1
  go_wp2_with fail
  refine (l91Table_any w0 _ G nb c _ n m a HD2.out (by omega) (by omega) (by omega) (by omega)).mono ?_
  rintro e w3 ⟨v, l, A, C, p3, rfl, hl, hlm, hg3, hd3, hp3, hB⟩
  obtain ⟨b, cp, cur, hv, hbb, hcur, hc⟩ := hB.top (by omega)
  rw [hl] at hv
  subst hv
  have hG2 := HG2.out.size
  have HD3 := Lib.hid hd3
  have HG3 := Lib.hid (grown_trans HG2.out hg3)
  have HB := Lib.hid hB
  clear hd3 hg3 hcur hc hB HD2
  go_wp2_with fail
  refine (pick_any w0 _ G nb c _ a _ HD3.out (by omega)).mono ?_
  rintro e w4 ⟨y4, rfl, hy4, hg4, hd4⟩
  have HG4 := Lib.hid (grown_trans HG3.out hg4)
  have HB4 := Lib.hid (HB.out.kept hg4 (by omega))
  have HD4 := Lib.hid hd4
  have hz4 := HG4.out.size
  clear hd4 hg4 HB HG3 HD3 hy4
  obtain ⟨g0, hA0, hg0, hrb0⟩ := HB4.out.row (r := 0) (by omega)
  by_cases hy0 : y4 = 0
  · subst hy0
    obtain ⟨t1, _, _⟩ := HB4.out.cellTop (r := 0) (by omega)
    rw [hlm 0 (by omega), hA0] at t1
    have t2 := hrb0.cell (i := 0) (by rw [hlm 0 (by omega)]; omega)
    have t3 := hrb0.frozen 0
    have hIT := HB4.out.setNum (r := 0) (k := 0) (by omega) hA0 (by rw [hlm 0 (by omega)]; omega) 31
    have hll : (l.set 0 ((l.getD 0 []).set 0 31)).length = n := by rw [List.length_set]; exact hl
    have hlens := lens_set (r := 0) (y := (l.getD 0 []).set 0 31) hl hlm hm1 (by rw [List.length_set, hlm 0 (by omega)]; omega)
    have HIT := Lib.hid hIT
    have HLL := Lib.hid hll
    have HLENS := Lib.hid hlens
    have HGS := Lib.hid (grown_set HG4.out (show w.heap.size ≤ g0 by omega) (k := 0) (.int .i64 31))
    have HDS := Lib.hid (HD4.out.grown (grown_set_any w4 g0 0 (.int .i64 31)) (fun i e => by cases e; omega))
    have p1 : 0 < n := by omega
    have p2 : 0 < m := by omega
    clear hrb0 hIT hll hlens hA0 hlm hl
    go_wp2
    go_ret
    exact ⟨_, _, l.set 0 ((l.getD 0 []).set 0 31), _, by rw [HLL.out]; rfl, HGS.out, HDS.out, by omega, by rw [HLL.out]; omega, by rw [HLL.out]; omega, HLENS.out, HIT.out.mono hG2 (by simp)⟩
  · clear hrb0 hA0 hg0
    by_cases hy1 : y4 = 1
    · subst hy1
      obtain ⟨s, hs⟩ : ∃ s, n = s + 1 := ⟨n - 1, by omega⟩
      have hr1 : IntKind.i64.wrap ((n : Int) - 1) = (s : Int) := by rw [show (n : Int) - 1 = s by omega]; exact IntWalk.i64_in _ ⟨by omega, by omega⟩
      have hsr : s < n := by omega
      clear hs
      obtain ⟨g1, hA, hg1, hrb⟩ := HB4.out.row (r := s) (by omega)
      obtain ⟨t1, t2, lb⟩ := HB4.out.cellTop (r := s) (by omega)
      have hRW := (HB4.out.rows s (by omega)).2
      have hls := hlm s hsr
      rw [hls, hA] at t1 hRW
      have hgb := HB4.out.row_ne hrb
      obtain ⟨x, hx⟩ : ∃ x, x = l.getD s [] := ⟨_, rfl⟩
      rw [← hx] at hRW hls
      have HRW := Lib.hid hRW
      have HA := Lib.hid hA
      have HL := Lib.hid hl
      have HLM := Lib.hid hlm
      have t1a := fun ob => cell_alloc_l ob t1
      clear hRW hrb hA hl hlm hx
      go_wp2_with (first
        | (at_builtin; (refine wpList_append_int _ rfl (.tmp 37) (.tmp 38) 36 rfl w2.heap.size i3 Try.underlying36 HJ.out.1 HJ.out.2.1 HJ.out.2.2.1 HJ.out.2.2.2 _ x rfl HRW.out 0 rfl (by omega) (by omega) ?_); intro v' w5 hrw hgr; have hgr : w4.grownBy w5 (some g1) := hgr; obtain ⟨g2, cp2, hv2, hg2b, hrb2⟩ := hrw.form (by simp); rw [show (x ++ [(0 : Int)]).length = m + 1 by rw [List.length_append, hls]; rfl] at hv2; subst hv2; have k1 := hgr.cell t1 (fun e => hgb (by injection e with e; exact e.symm)); have k2 : w5.frozen? ⟨b, s, none⟩ = false := (World.frozen?_of_block (hgr.block b lb (fun e => hgb (by injection e with e; exact e.symm)))).trans t2; have HRW2 := Lib.hid hrw; have HGR := Lib.hid hgr; clear hrw hgr hrb2))
      have hl2 : (x ++ [(0 : Int)]).length = m + 1 := by rw [List.length_append, hls]; rfl
      have hIT := HB4.out.setRow (r := s) (by rw [HL.out]; exact hsr) HA.out HGR.out HRW2.out hl2 (by omega)
      have hll : (l.set s (x ++ [0])).length = n := by rw [List.length_set]; exact HL.out
      have hlens := lens_set (r := s) (y := x ++ [0]) HL.out HLM.out hm1 (by rw [hl2]; omega)
      have hgs := grown_set (grown_new HG4.out HGR.out (fun i e => by cases e; omega)) (show w.heap.size ≤ b by omega) (k := s) (.slice (some ⟨g2, 0, none⟩) (m + 1) cp2)
      have hds := (HD4.out.grown HGR.out (fun i e => by cases e; omega)).grown (grown_set_any w5 b s (.slice (some ⟨g2, 0, none⟩) (m + 1) cp2)) (fun i e => by cases e; omega)
      go_ret
      exact ⟨_, _, l.set s (x ++ [0]), _, by rw [hll]; rfl, hgs, hds, by omega, by rw [hll]; omega, by rw [hll]; omega, hlens, hIT.mono hG2 (by simp)⟩
    · have h1 : ((y4 : Int) == 0) = false := by simp; omega
      have h2 : ((y4 : Int) == 1) = false := by simp; omega
      obtain ⟨a', cap', hv, hIT⟩ := HB4.out.inT
      rw [hl] at hv
      injection hv with hv _ _
      subst hv
      have HL := Lib.hid hl
      have HLM := Lib.hid hlm
      have HIT := Lib.hid hIT
      clear hl hlm hIT
      go_wp2
      go_ret
      exact ⟨_, _, l, _, by rw [HL.out]; rfl, HG4.out, HD4.out, by omega, by rw [HL.out]; omega, by rw [HL.out]; omega, fun j hj => by rw [HLM.out j (by rw [← HL.out]; exact hj)]; omega, HIT.out.mono hG2 (Nat.le_refl _)⟩

end Go.Proofs.Yteaabemnolacdaa
end

section
namespace Go.Proofs.Yteaabemnolacdaa
open Go.RowKit Go.Deep

set_option maxHeartbeats 1000000 in
theorem l6Open_any (a : Option Addr) (nb cb : Nat) (w : World) (hc : nb ≤ cb) (h63 : cb ≤ 9223372036854775807) (hb : BytR w a nb) :
    Calls Try.prog 59 #[.slice a nb cb] w fun e w' => ∃ n' c', e = .returned (.pointer (some ⟨w.heap.size, 0, none⟩)) ∧ w.Since w.heap.size w' ∧ w'.heap.size = w.heap.size + 1 ∧ RD w w' w.heap.size a n' c' 80 0 := by
  by_cases hl : 2000 < nb
  · have hl' : decide ((2000 : Int) < (nb : Int)) = true := by simp; omega
    have h2 : (2000 : Int) ≤ (cb : Int) := by omega
    obtain ⟨b, o, rfl, hcell⟩ := hb (by omega)
    go_enter Try.func59, Try.ntmps59
    go_wp2
    go_ret
    exact ⟨_, _, rfl, (World.Since.refl _ _).alloc (Nat.le_refl _) _, by simp, ⟨heap_alloc_new _ _, Nat.le_refl _, (World.Since.refl _ _).alloc (Nat.le_refl _) _, fun _ => ⟨b, o, rfl, fun i hi => hcell i (by omega)⟩, by omega⟩⟩
  · have hl' : decide ((2000 : Int) < (nb : Int)) = false := by simp; omega
    go_enter Try.func59, Try.ntmps59
    go_wp2
    go_ret
    exact ⟨_, _, rfl, (World.Since.refl _ _).alloc (Nat.le_refl _) _, by simp, ⟨heap_alloc_new _ _, Nat.le_refl _, (World.Since.refl _ _).alloc (Nat.le_refl _) _, hb, by omega⟩⟩

def DrawnT (w w' : World) (R K : Nat) (a : Option Addr) (l : List (List Int)) : Prop :=
  1 ≤ l.length ∧ l.length ≤ R ∧ (∀ j, j < l.length → 1 ≤ (l.getD j []).length ∧ (l.getD j []).length ≤ K + 1) ∧ InT w.heap.size w'.heap.size w' a l

set_option maxHeartbeats 1000000 in
theorem l91One_any (a : Option Addr) (nb cb : Nat) (w : World) (hc : nb ≤ cb) (h63 : cb ≤ 9223372036854775807) (hb : BytR w a nb) :
    Calls Try.prog 100 #[.slice a nb cb] w fun e w' => ∃ a' cap l, e = .returned (.slice a' l.length cap) ∧ w.Since w.heap.size w' ∧ DrawnT w w' 5 5 a' l := by
  have E := Lib.hid (l6Open_any a nb cb w hc h63 hb)
  clear hb
  go_enter Try.func100, Try.ntmps100
  go_wp2_with fail
  refine (E.out).mono ?_
  rintro e w1 ⟨n', c', rfl, hs, hz, hd⟩
  have HD := Lib.hid hd
  clear hd
  go_wp2_with fail
  refine (l91Some_any w w1 w.heap.size n' c' 0 5 5 a HD.out (by omega) (by omega) (by omega) (by omega) (by omega)).mono ?_
  rintro e w2 ⟨a', cap', l, p', rfl, hg, hd2, hp, h1, h5, hl, hit⟩
  go_wp2
  go_ret
  exact ⟨a', cap', l, rfl, hs.trans (since_grown hg (Nat.le_refl _) hs.size), h1, h5, hl, hit.mono hs.size (Nat.le_refl _)⟩

end Go.Proofs.Yteaabemnolacdaa
end

section
namespace Go.Proofs.Yteaabemnolacdaa
open Go.RowKit Go.Deep

set_option maxRecDepth 100000 in
set_option maxHeartbeats 4000000 in
theorem l91Square_any (w0 w : World) (G nb c p R : Nat) (a : Option Addr) (h : RD w0 w G a nb c 80 p) (hR1 : 1 ≤ R) (hR : R ≤ 8) (hp : p ≤ 40000) :
    Calls Try.prog 81 #[.pointer (some ⟨G, 0, none⟩), .int .i64 R] w fun e w' => ∃ a' cap l p', e = .returned (.slice a' l.length cap) ∧ w.grownBy w' (some G) ∧ RD w0 w' G a nb c 80 p' ∧ p' ≤ p + 1200 ∧ Drawn0 w w' R R a' l := by
  have hG := h.lt
  have HRD := Lib.hid h
  clear h
  go_enter Try.func81, Try.ntmps81
  go_wp2_with fail
  refine (pick_any w0 _ G nb c _ a _ HRD.out (by omega)).mono ?_
  rintro e w1 ⟨y1, rfl, hy1, hg1, hd1⟩
  obtain ⟨n, hn, hnn⟩ : ∃ n : Nat, IntKind.i64.wrap (1 + (y1 : Int)) = n ∧ n = y1 + 1 := ⟨y1 + 1, (IntWalk.i64_in _ ⟨by omega, by omega⟩).trans (by omega), rfl⟩
  have hn1 : 1 ≤ n ∧ n ≤ R := by omega
  have HD2 := Lib.hid hd1
  have HG2 := Lib.hid hg1
  clear hd1 hg1 hnn hy1 HRD
  go_wp2_with fail
  refine (l91Table_any w0 _ G nb c _ n n a HD2.out (by omega) (by omega) (by omega) (by omega)).mono ?_
  rintro e w3 ⟨v, l, A, C, p3, rfl, hl, hlm, hg3, hd3, hp3, hB⟩
  obtain ⟨b, cp, cur, hv, hbb, hcur, hc⟩ := hB.top (by omega)
  rw [hl] at hv
  subst hv
  have hG2 := HG2.out.size
  have HD3 := Lib.hid hd3
  have HG3 := Lib.hid (grown_trans HG2.out hg3)
  have HB := Lib.hid hB
  clear hd3 hg3 hcur hc hB HD2
  go_wp2_with fail
  refine (pick_any w0 _ G nb c _ a _ HD3.out (by omega)).mono ?_
  rintro e w4 ⟨y4, rfl, hy4, hg4, hd4⟩
  have HG4 := Lib.hid (grown_trans HG3.out hg4)
  have HB4 := Lib.hid (HB.out.kept hg4 (by omega))
  have HD4 := Lib.hid hd4
  have hz4 := HG4.out.size
  clear hd4 hg4 HB HG3 HD3 hy4
  obtain ⟨g0, hA0, hg0, hrb0⟩ := HB4.out.row (r := 0) (by omega)
  by_cases hy0 : y4 = 0
  · subst hy0
    obtain ⟨t1, _, _⟩ := HB4.out.cellTop (r := 0) (by omega)
    rw [hlm 0 (by omega), hA0] at t1
    have t2 := hrb0.cell (i := 0) (by rw [hlm 0 (by omega)]; omega)
    have t3 := hrb0.frozen 0
    have hIT := HB4.out.setNum (r := 0) (k := 0) (by omega) hA0 (by rw [hlm 0 (by omega)]; omega) 31
    have hll : (l.set 0 ((l.getD 0 []).set 0 31)).length = n := by rw [List.length_set]; exact hl
    have hlens := lens_set (K := R) (r := 0) (y := (l.getD 0 []).set 0 31) hl hlm (by omega) (by rw [List.length_set, hlm 0 (by omega)]; omega)
    have HIT := Lib.hid hIT
    have HLL := Lib.hid hll
    have HLENS := Lib.hid hlens
    have HGS := Lib.hid (grown_set HG4.out (show w.heap.size ≤ g0 by omega) (k := 0) (.int .i64 31))
    have HDS := Lib.hid (HD4.out.grown (grown_set_any w4 g0 0 (.int .i64 31)) (fun i e => by cases e; omega))
    have p1 : 0 < n := by omega
    clear hrb0 hIT hll hlens hA0 hlm hl
    go_wp2
    go_ret
    exact ⟨_, _, l.set 0 ((l.getD 0 []).set 0 31), _, by rw [HLL.out]; rfl, HGS.out, HDS.out, by omega, by rw [HLL.out]; omega, by rw [HLL.out]; omega, HLENS.out, HIT.out.mono hG2 (by simp)⟩
  · clear hrb0 hA0 hg0
    by_cases hy1 : y4 = 1
    · subst hy1
      clear hlm hl HB4
      have hnp : IntKind.i64.wrap ((n : Int) + 1) = ((n + 1 : Nat) : Int) := (IntWalk.i64_in _ ⟨by omega, by omega⟩).trans (by omega)
      have E5 := l91Table_any w0 w4 G nb c _ n (n + 1) a HD4.out (by omega) (by omega) (by omega) (by omega)
      rw [show ((n + 1 : Nat) : Int) = (n : Int) + 1 by omega] at E5
      replace E5 := Lib.hid E5
      go_wp2_with fail
      refine (E5.out).mono ?_
      rintro e w5 ⟨v, l5, A5, C5, p5, rfl, hl, hlm, hg5, hd5, hp5, hB⟩
      obtain ⟨a', cap', hv, hIT⟩ := hB.inT
      rw [hl] at hv
      subst hv
      have HL := Lib.hid hl
      have HLM := Lib.hid hlm
      have HIT := Lib.hid hIT
      have HG5 := Lib.hid (grown_trans HG4.out hg5)
      have HD5 := Lib.hid hd5
      have hG4 := HG4.out.size
      clear hl hlm hIT hB hg5 hd5
      go_wp2
      go_ret
      exact ⟨_, _, l5, _, by rw [HL.out]; rfl, HG5.out, HD5.out, by omega, by rw [HL.out]; omega, by rw [HL.out]; omega, fun j hj => by rw [HLM.out j (by rw [← HL.out]; exact hj)]; omega, HIT.out.mono hG4 (Nat.le_refl _)⟩
    · have h1 : ((y4 : Int) == 0) = false := by simp; omega
      have h2 : ((y4 : Int) == 1) = false := by simp; omega
      obtain ⟨a', cap', hv, hIT⟩ := HB4.out.inT
      rw [hl] at hv
      injection hv with hv _ _
      subst hv
      have HL := Lib.hid hl
      have HLM := Lib.hid hlm
      have HIT := Lib.hid hIT
      clear hl hlm hIT
      go_wp2
      go_ret
      exact ⟨_, _, l, _, by rw [HL.out]; rfl, HG4.out, HD4.out, by omega, by rw [HL.out]; omega, by rw [HL.out]; omega, fun j hj => by rw [HLM.out j (by rw [← HL.out]; exact hj)]; omega, HIT.out.mono hG2 (Nat.le_refl _)⟩

set_option maxHeartbeats 1000000 in
theorem l91Squared_any (a : Option Addr) (nb cb : Nat) (w : World) (hc : nb ≤ cb) (h63 : cb ≤ 9223372036854775807) (hb : BytR w a nb) :
    Calls Try.prog 78 #[.slice a nb cb] w fun e w' => ∃ a' cap l, e = .returned (.slice a' l.length cap) ∧ w.Since w.heap.size w' ∧ DrawnT w w' 5 5 a' l := by
  have E := Lib.hid (l6Open_any a nb cb w hc h63 hb)
  clear hb
  go_enter Try.func78, Try.ntmps78
  go_wp2_with fail
  refine (E.out).mono ?_
  rintro e w1 ⟨n', c', rfl, hs, hz, hd⟩
  have HD := Lib.hid hd
  clear hd
  go_wp2_with fail
  refine (l91Square_any w w1 w.heap.size n' c' 0 5 a HD.out (by omega) (by omega) (by omega)).mono ?_
  rintro e w2 ⟨a', cap', l, p', rfl, hg, hd2, hp, h1, h5, hl, hit⟩
  go_wp2
  go_ret
  exact ⟨a', cap', l, rfl, hs.trans (since_grown hg (Nat.le_refl _) hs.size), h1, h5, hl, hit.mono hs.size (Nat.le_refl _)⟩

set_option maxHeartbeats 1000000 in
theorem drawValueRows_any (a : Option Addr) (nb cb : Nat) (w : World) (hc : nb ≤ cb) (h63 : cb ≤ 9223372036854775807) (hb : BytR w a nb) :
    Calls Try.prog 26 #[.slice a nb cb] w fun e w' => ∃ a' cap l, e = .returned (.slice a' l.length cap) ∧ w.Since w.heap.size w' ∧ DrawnT w w' 5 5 a' l := by
  have E := Lib.hid (l91Squared_any a nb cb w hc h63 hb)
  clear hb
  go_enter Try.func26, Try.ntmps26
  go_wp2_with fail
  refine (E.out).mono ?_
  rintro e w1 ⟨a', cap', l, rfl, hs, hd⟩
  go_wp2
  go_ret
  exact ⟨a', cap', l, rfl, hs, hd⟩

set_option maxHeartbeats 1000000 in
theorem drawValueOther_any (a : Option Addr) (nb cb : Nat) (w : World) (hc : nb ≤ cb) (h63 : cb ≤ 9223372036854775807) (hb : BytR w a nb) :
    Calls Try.prog 38 #[.slice a nb cb] w fun e w' => ∃ a' cap l, e = .returned (.slice a' l.length cap) ∧ w.Since w.heap.size w' ∧ DrawnT w w' 5 5 a' l := by
  have E := Lib.hid (l91Squared_any a nb cb w hc h63 hb)
  clear hb
  go_enter Try.func38, Try.ntmps38
  go_wp2_with fail
  refine (E.out).mono ?_
  rintro e w1 ⟨a', cap', l, rfl, hs, hd⟩
  go_wp2
  go_ret
  exact ⟨a', cap', l, rfl, hs, hd⟩

end Go.Proofs.Yteaabemnolacdaa
end

section
namespace Go.Proofs.Yteaabemnolacdaa
open Go.RowKit Go.Deep

def lacks (n U : Nat) : List Nat := (List.range n).filter fun k => !U.testBit k
def gam (U j : Nat) : Nat := (lacks 6 U).getD j 0
def sgU (U : Nat) : Int := sn (((List.range 6).filter fun k => U.testBit k).foldl (· + ·) 0 + popcS U * (popcS U - 1) / 2)

theorem lacks_len : ∀ n : Fin 7, ∀ U : Fin 64, U.val < 2 ^ n.val → (lacks n.val U.val).length + popcS U.val = n.val := by decide +kernel
theorem lacks_get : ∀ n : Fin 7, ∀ U : Fin 64, ∀ j : Fin 6, U.val < 2 ^ n.val → j.val + popcS U.val < n.val → (lacks n.val U.val).getD j.val 0 = gam U.val j.val ∧ gam U.val j.val < n.val ∧ U.val.testBit (gam U.val j.val) = false := by decide +kernel
theorem gam_or : ∀ U : Fin 64, ∀ j j' : Fin 6, j.val + popcS U.val < 6 → j'.val + popcS U.val + 1 < 6 → gam (U.val ||| 2 ^ gam U.val j.val) j'.val = gam U.val (skip j.val j'.val) := by decide +kernel
theorem sgU_or : ∀ U : Fin 64, ∀ j : Fin 6, j.val + popcS U.val < 6 → sn (popcS (U.val / 2 ^ gam U.val j.val)) * sgU (U.val ||| 2 ^ gam U.val j.val) = sgU U.val * sn j.val := by decide +kernel
theorem popcS_add : ∀ U : Fin 64, ∀ k : Fin 6, U.val.testBit k.val = false → popcS (U.val ||| 2 ^ k.val) = popcS U.val + 1 := by decide +kernel

theorem sumL_get (F : Nat → Int) : ∀ l : List Nat, (l.map F).foldr (· + ·) 0 = sumN (fun j => F (l.getD j 0)) l.length
  | [] => rfl
  | x :: xs => by
    rw [List.length_cons, sumN_first, List.map_cons, List.foldr_cons, sumL_get F xs]
    rfl
theorem sumL_snoc (l : List Int) (x : Int) : (l ++ [x]).foldr (· + ·) 0 = l.foldr (· + ·) 0 + x := by
  induction l with
  | nil => simp
  | cons y ys ih => simp only [List.cons_append, List.foldr_cons, ih]; omega
theorem sumN_lacks (F : Nat → Int) (U : Nat) : ∀ n, sumN (fun k => if U.testBit k then 0 else F k) n = ((lacks n U).map F).foldr (· + ·) 0
  | 0 => rfl
  | n + 1 => by
    have e : lacks (n + 1) U = lacks n U ++ (if U.testBit n then [] else [n]) := by
      unfold lacks
      rw [List.range_succ, List.filter_append]
      cases h : U.testBit n <;> simp [h]
    unfold sumN
    rw [sumN_lacks F U n, e]
    cases h : U.testBit n
    · simp only [Bool.false_eq_true, if_false, List.map_append, List.map_cons, List.map_nil, sumL_snoc]
    · simp

theorem ordF_dt (l : List (List Int)) {n : Nat} (hn : n ≤ 6) : ∀ (d U : Nat), U < 2 ^ n → popcS U + d = n → ordF l n d U = sgU U * dt d (fun i j => at2 l (n - d + i) (gam U j))
  | 0, U, hU, hp => by
    rw [ordF_zero, dt_zero]
    have h : ∀ n : Fin 7, ∀ U : Fin 64, U.val < 2 ^ n.val → popcS U.val = n.val → sgU U.val = 1 := by decide +kernel
    have p : 2 ^ n ≤ 2 ^ 6 := Nat.pow_le_pow_right (by omega) hn
    have := h ⟨n, by omega⟩ ⟨U, by omega⟩ hU (by simpa using hp)
    simp only at this
    rw [this]; rfl
  | d + 1, U, hU, hp => by
    have p : 2 ^ n ≤ 2 ^ 6 := Nat.pow_le_pow_right (by omega) hn
    have hlen := lacks_len ⟨n, by omega⟩ ⟨U, by omega⟩ hU
    simp only at hlen
    rw [ordF_succ, dt_succ, ← sumN_mul]
    have e0 : ∀ k, ordT l (n - (d + 1)) U (ordF l n d) k = if U.testBit k then 0 else sn (popcS (U / 2 ^ k)) * (at2 l (n - (d + 1)) k * ordF l n d (U ||| 2 ^ k)) := fun k => by
      unfold ordT
      split
      · rfl
      · rw [sg_sn]
    rw [sumN_congr n (fun k _ => e0 k), sumN_lacks (fun k => sn (popcS (U / 2 ^ k)) * (at2 l (n - (d + 1)) k * ordF l n d (U ||| 2 ^ k))), sumL_get, show (lacks n U).length = d + 1 by omega]
    refine sumN_congr _ fun j hj => ?_
    obtain ⟨g1, g2, g3⟩ := lacks_get ⟨n, by omega⟩ ⟨U, by omega⟩ ⟨j, by omega⟩ hU (by simp only; omega)
    simp only at g1 g2 g3
    have hs := sgU_or ⟨U, by omega⟩ ⟨j, by omega⟩ (by simp only; omega)
    have ha := popcS_add ⟨U, by omega⟩ ⟨gam U j, by omega⟩ g3
    simp only at hs ha
    rw [g1, ordF_dt l hn d (U ||| 2 ^ gam U j) (Nat.or_lt_two_pow hU (Nat.pow_lt_pow_right (by omega) g2)) (by omega)]
    have ed : dt d (fun i j' => at2 l (n - d + i) (gam (U ||| 2 ^ gam U j) j')) = dt d (dr j (fun i j => at2 l (n - (d + 1) + i) (gam U j))) := dt_congr d fun i j' _ hj' => by
      have := gam_or ⟨U, by omega⟩ ⟨j, by omega⟩ ⟨j', by omega⟩ (by simp only; omega) (by simp only; omega)
      simp only at this
      rw [this]
      show _ = at2 l (n - (d + 1) + (i + 1)) (gam U (skip j j'))
      rw [show n - (d + 1) + (i + 1) = n - d + i by omega]
    rw [ed, Nat.add_zero]
    generalize dt d (dr j (fun i j => at2 l (n - (d + 1) + i) (gam U j))) = D
    generalize at2 l (n - (d + 1)) (gam U j) = y
    rw [show sn (popcS (U / 2 ^ gam U j)) * (y * (sgU (U ||| 2 ^ gam U j) * D)) = (sn (popcS (U / 2 ^ gam U j)) * sgU (U ||| 2 ^ gam U j)) * (y * D) by grind, hs, Int.mul_assoc]
theorem gam_zero : ∀ j : Fin 6, gam 0 j.val = j.val := by decide +kernel
theorem ordF_all (l : List (List Int)) {n : Nat} (hn : n ≤ 6) : ordF l n n 0 = dt n (at2 l) := by
  rw [ordF_dt l hn n 0 (Nat.pow_pos (by omega)) (by have : popcS 0 = 0 := by decide
                                                    omega)]
  have h1 : sgU 0 = 1 := by decide +kernel
  rw [h1, Int.one_mul]
  refine dt_congr n fun i j hi hj => ?_
  have := gam_zero ⟨j, by omega⟩
  simp only at this
  rw [this, Nat.sub_self, Nat.zero_add]

end Go.Proofs.Yteaabemnolacdaa
end

section
namespace Go.Proofs.Yteaabemnolacdaa
open Go.RowKit Go.Deep

theorem sumN_more (f : Nat → Int) (n : Nat) : ∀ m, (∀ j, n ≤ j → j < n + m → f j = 0) → sumN f (n + m) = sumN f n
  | 0, _ => rfl
  | m + 1, h => by
    show sumN f (n + m) + f (n + m) = _
    rw [sumN_more f n m (fun j h1 h2 => h j h1 (by omega)), h (n + m) (by omega) (by omega)]
    omega
theorem sumN_one (f : Nat → Int) (k : Nat) : ∀ n, k < n → (∀ j, j < n → j ≠ k → f j = 0) → sumN f n = f k
  | 0, h, _ => by omega
  | n + 1, h, hz => by
    unfold sumN
    by_cases e : k = n
    · subst e
      rw [sumN_none k (fun j hj => hz j (by omega) (by omega))]; omega
    · rw [sumN_one f k n (by omega) (fun j hj hk => hz j (by omega) hk), hz n (by omega) (fun h => e h.symm)]; omega
theorem sumN_mulR (c : Int) (f : Nat → Int) (n : Nat) : sumN (fun j => f j * c) n = sumN f n * c := by
  rw [sumN_congr n (g := fun j => c * f j) (fun j _ => Int.mul_comm _ _), sumN_mul, Int.mul_comm]

theorem dt_block (m : Nat) : ∀ (n : Nat) (f : Nat → Nat → Int), (∀ i j, i < n → n ≤ j → j < n + m → f i j = 0) → dt (n + m) f = dt n f * dt m (fun i j => f (n + i) (n + j))
  | 0, f, _ => by
    rw [dt_zero, Int.one_mul, Nat.zero_add]
    exact dt_congr m fun i j _ _ => by rw [Nat.zero_add, Nat.zero_add]
  | n + 1, f, h => by
    rw [show n + 1 + m = (n + m) + 1 by omega, dt_succ, show n + m + 1 = (n + 1) + m by omega, sumN_more _ (n + 1) m (fun j h1 h2 => by rw [h 0 j (by omega) h1 h2]; simp), dt_succ, ← sumN_mulR]
    refine sumN_congr _ fun k hk => ?_
    rw [dt_block m n (dr k f) (fun i j h1 h2 h3 => by
      show f (i + 1) (skip k j) = 0
      rw [skip_ge (by omega)]
      exact h _ _ (by omega) (by omega) (by omega))]
    have e : dt m (fun i j => dr k f (n + i) (n + j)) = dt m (fun i j => f (n + 1 + i) (n + 1 + j)) := dt_congr m fun i j _ _ => by
      show f (n + i + 1) (skip k (n + j)) = _
      rw [skip_ge (by omega), show n + i + 1 = n + 1 + i by omega, show n + j + 1 = n + 1 + j by omega]
    rw [e, Int.mul_assoc, Int.mul_assoc]

theorem dt_addS {n r : Nat} (f : Nat → Nat → Int) (c : Nat → Int) (s : Nat → Nat) (hr : r < n) : ∀ k, (∀ m, m < k → s m < n ∧ s m ≠ r) → dt n (setR f r (fun j => f r j + sumN (fun m => c m * f (s m) j) k)) = dt n f
  | 0, _ => by
    rw [dt_congr n (g := f) (fun i j _ _ => by
      unfold setR
      split
      · rename_i h; rw [h]; simp [sumN]
      · rfl)]
  | k + 1, h => by
    have e : ∀ i j, setR f r (fun j => f r j + sumN (fun m => c m * f (s m) j) (k + 1)) i j = setR f r (fun j => 1 * (f r j + sumN (fun m => c m * f (s m) j) k) + c k * f (s k) j) i j := fun i j => by
      unfold setR
      split
      · show f r j + (sumN (fun m => c m * f (s m) j) k + c k * f (s k) j) = 1 * (f r j + sumN (fun m => c m * f (s m) j) k) + c k * f (s k) j
        omega
      · rfl
    obtain ⟨h1, h2⟩ := h k (by omega)
    rw [dt_congr n (fun i j _ _ => e i j), dt_lin n r f 1 (c k) _ _ hr, dt_addS f c s hr k (fun m hm => h m (by omega)), dt_sameR (setR f r (fun j => f (s k) j)) (Ne.symm h2) hr h1 (fun j _ => by unfold setR; rw [if_pos rfl, if_neg h2])]
    omega

def mulF (n : Nat) (A B : Nat → Nat → Int) (i j : Nat) : Int := sumN (fun m => A i m * B m j) n
def oneF (i j : Nat) : Int := if i = j then 1 else 0
def blk (n : Nat) (A B : Nat → Nat → Int) (i j : Nat) : Int := if i < n then (if j < n then A i j else 0) else (if j < n then (if i - n = j then -1 else 0) else B (i - n) (j - n))
def blkT (n : Nat) (A B : Nat → Nat → Int) (t i j : Nat) : Int := if i < t then (if j < n then 0 else mulF n A B i (j - n)) else blk n A B i j
theorem dt_blkT (n : Nat) (A B : Nat → Nat → Int) : ∀ t, t ≤ n → dt (n + n) (blkT n A B t) = dt (n + n) (blk n A B)
  | 0, _ => dt_congr _ fun i j _ _ => by unfold blkT; rw [if_neg (by omega)]
  | t + 1, ht => by
    rw [← dt_blkT n A B t (by omega), ← dt_addS (blkT n A B t) (A t) (fun m => n + m) (show t < n + n by omega) n (fun m hm => ⟨by omega, by omega⟩)]
    refine dt_congr _ fun i j _ hj => ?_
    unfold setR
    by_cases hi : i = t
    · subst hi
      rw [if_pos rfl]
      have e1 : blkT n A B (i + 1) i j = if j < n then 0 else mulF n A B i (j - n) := if_pos (by omega)
      have e2 : blkT n A B i i j = if j < n then A i j else 0 := by unfold blkT blk; rw [if_neg (by omega), if_pos (by omega)]
      have e3 : ∀ m, blkT n A B i (n + m) j = if j < n then (if m = j then -1 else 0) else B m (j - n) := fun m => by unfold blkT blk; rw [if_neg (by omega), if_neg (by omega), Nat.add_sub_cancel_left]
      show _ = blkT n A B i i j + sumN (fun m => A i m * blkT n A B i (n + m) j) n
      rw [e1, e2]
      by_cases hjn : j < n
      · rw [if_pos hjn, if_pos hjn, sumN_one (fun m => A i m * blkT n A B i (n + m) j) j n hjn (fun m _ hmj => by rw [e3, if_pos hjn, if_neg hmj]; simp), e3, if_pos hjn, if_pos rfl]
        omega
      · rw [if_neg hjn, if_neg hjn, Int.zero_add]
        exact sumN_congr n fun m _ => by rw [e3, if_neg hjn]
    · rw [if_neg hi]
      unfold blkT
      by_cases h1 : i < t
      · rw [if_pos (by omega), if_pos h1]
      · rw [if_neg (by omega), if_neg h1]
def colT (n t j : Nat) : Nat := if j < t then n + j else if n ≤ j ∧ j < n + t then j - n else j
theorem dt_colT (n : Nat) (f : Nat → Nat → Int) : ∀ t, t ≤ n → dt (n + n) (fun i j => f i (colT n t j)) = sn t * dt (n + n) f
  | 0, _ => by
    rw [sn_zero, Int.one_mul]
    exact dt_congr _ fun i j _ _ => by
      congr 1
      unfold colT
      rw [if_neg (by omega), if_neg (by omega)]
  | t + 1, ht => by
    have h := dt_exC (fun i j => f i (colT n t j)) (show t ≠ n + t by omega) (show t < n + n by omega) (show n + t < n + n by omega)
    rw [dt_colT n f t (by omega)] at h
    rw [sn_succ]
    have e : dt (n + n) (fun i j => f i (colT n (t + 1) j)) = dt (n + n) (fun i j => f i (colT n t (ex t (n + t) j))) := dt_congr _ fun i j _ _ => by
      congr 1
      unfold colT ex
      repeat (first | split | omega)
    rw [e, h]
    grind
theorem dt_oneF : ∀ n, dt n oneF = 1
  | 0 => rfl
  | n + 1 => by
    rw [dt_corner oneF (fun i _ => if_neg (by omega)), show oneF 0 0 = 1 from rfl, Int.one_mul]
    rw [dt_congr n (g := oneF) (fun i j _ _ => by unfold oneF; by_cases h : i = j <;> simp [h])]
    exact dt_oneF n
theorem pw_neg : ∀ n, pw (-1) n = sn n
  | 0 => rfl
  | n + 1 => by rw [sn_succ, ← pw_neg n]; show -1 * pw (-1) n = _; omega
theorem dt_mul (n : Nat) (A B : Nat → Nat → Int) : dt n (mulF n A B) = dt n A * dt n B := by
  have h1 : dt (n + n) (blk n A B) = dt n A * dt n B := by
    rw [dt_block n n (blk n A B) (fun i j h1 h2 _ => by unfold blk; rw [if_pos h1, if_neg (by omega)])]
    congr 1
    · exact dt_congr n fun i j hi hj => by unfold blk; rw [if_pos hi, if_pos hj]
    · exact dt_congr n fun i j _ _ => by unfold blk; rw [if_neg (by omega), if_neg (by omega), Nat.add_sub_cancel_left, Nat.add_sub_cancel_left]
  have h2 := dt_colT n (blkT n A B n) n (Nat.le_refl _)
  rw [dt_blkT n A B n (Nat.le_refl _), h1] at h2
  have h3 : dt (n + n) (fun i j => blkT n A B n i (colT n n j)) = dt n (mulF n A B) * sn n := by
    rw [dt_block n n _ (fun i j h1 h2 h3 => by
      show blkT n A B n i (colT n n j) = 0
      have ec : colT n n j = j - n := by unfold colT; rw [if_neg (by omega), if_pos ⟨h2, h3⟩]
      rw [ec]
      unfold blkT
      rw [if_pos h1, if_pos (by omega)])]
    congr 1
    · refine dt_congr n fun i j hi hj => ?_
      show blkT n A B n i (colT n n j) = _
      have ec : colT n n j = n + j := by unfold colT; rw [if_pos hj]
      rw [ec]
      unfold blkT
      rw [if_pos hi, if_neg (by omega), Nat.add_sub_cancel_left]
    · rw [dt_congr n (g := fun i j => -1 * oneF i j) (fun i j hi hj => by
        show blkT n A B n (n + i) (colT n n (n + j)) = _
        have ec : colT n n (n + j) = j := by unfold colT; rw [if_neg (by omega), if_pos (by omega), Nat.add_sub_cancel_left]
        rw [ec]
        unfold blkT blk oneF
        rw [if_neg (show ¬ n + i < n by omega), if_neg (show ¬ n + i < n by omega), if_pos hj, Nat.add_sub_cancel_left]
        by_cases e : i = j <;> simp [e]), dt_scale (-1) n oneF, dt_oneF, pw_neg]
      omega
  rw [h3] at h2
  have h4 := sn_sq n
  have h5 : dt n (mulF n A B) * (sn n * sn n) = sn n * sn n * (dt n A * dt n B) := by grind
  rw [h4] at h5
  omega

def selN (s n i : Nat) : Nat := ((sel s n n).map (·.1)).getD i 0
theorem pickTo_at (c : Nat) (x : List Int) (m j : Nat) (hj : j < (sel c m m).length) : (pickTo c x m m).getD j 0 = x.getD (selN c m j) 0 := by
  unfold pickTo selN
  simp [List.getD, hj]
theorem partL_at (l : List (List Int)) (s c : Nat) {i j : Nat} (hi : i < (sel s l.length l.length).length) (hj : j < (sel c (l.getD 0 []).length (l.getD 0 []).length).length) :
    at2 (partL l s c) i j = at2 l (selN s l.length i) (selN c (l.getD 0 []).length j) := by
  have e1 : (partL l s c).getD i [] = pickTo c (l.getD (selN s l.length i) []) (l.getD 0 []).length (l.getD 0 []).length := by
    unfold partL partRows selN
    simp [List.getD, hi]
  unfold at2
  rw [e1, pickTo_at _ _ _ _ hj]
theorem selN_but : ∀ n : Fin 7, ∀ k : Fin 6, ∀ j : Fin 6, k.val < n.val → j.val + 1 < n.val → selN (2 ^ n.val - 1 - 2 ^ k.val) n.val j.val = skip k.val j.val := by decide +kernel
theorem sel_but_len : ∀ n : Fin 7, ∀ k : Fin 6, k.val < n.val → (sel (2 ^ n.val - 1 - 2 ^ k.val) n.val n.val).length + 1 = n.val := by decide +kernel
theorem partL_but {l : List (List Int)} {n r k i j : Nat} (hn : l.length = n) (hw : (l.getD 0 []).length = n) (h6 : n ≤ 6) (hr : r < n) (hk : k < n) (hi : i + 1 < n) (hj : j + 1 < n) :
    at2 (partL l (2 ^ n - 1 - 2 ^ r) (2 ^ n - 1 - 2 ^ k)) i j = at2 l (skip r i) (skip k j) := by
  have l1 := sel_but_len ⟨n, by omega⟩ ⟨r, by omega⟩ hr
  have l2 := sel_but_len ⟨n, by omega⟩ ⟨k, by omega⟩ hk
  simp only at l1 l2
  rw [partL_at l _ _ (by rw [hn]; omega) (by rw [hw]; omega), hn, hw]
  have e1 := selN_but ⟨n, by omega⟩ ⟨r, by omega⟩ ⟨i, by omega⟩ hr hi
  have e2 := selN_but ⟨n, by omega⟩ ⟨k, by omega⟩ ⟨j, by omega⟩ hk hj
  simp only at e1 e2
  rw [e1, e2]
theorem rowF_dt : ∀ (d : Nat) (l : List (List Int)), SqD d l → rowF d l = dt d (at2 l)
  | 0, _, _ => rfl
  | d + 1, l, h => by
    obtain ⟨hT, hw⟩ := h.2 (by omega)
    have h6 := hT.2.1
    have hn := h.1
    rw [rowF_succ, dt_succ]
    refine sumN_congr _ fun k hk => ?_
    rw [sg_sn, rowF_dt d _ (minor_sq h hk)]
    have e : dt d (at2 (minorL l (d + 1) k)) = dt d (dr k (at2 l)) := dt_congr d fun i j hi hj => by
      have := partL_but (r := 0) (k := k) (i := i) (j := j) hn hw (by omega) (by omega) hk (by omega) (by omega)
      exact this
    rw [e]

end Go.Proofs.Yteaabemnolacdaa
end

section
namespace Go.Proofs.Yteaabemnolacdaa
open Go.RowKit Go.Deep

theorem popcS_but : ∀ n : Fin 7, ∀ k : Fin 6, k.val < n.val → popcS (2 ^ n.val - 1 - 2 ^ k.val) = n.val - 1 := by decide +kernel
theorem but_lt : ∀ n : Fin 7, ∀ k : Fin 6, k.val < n.val → 2 ^ n.val - 1 - 2 ^ k.val < 2 ^ n.val ∧ 2 ^ n.val - 1 - 2 ^ k.val ≤ 63 := by decide +kernel

def othF (l : List (List Int)) (n i k : Nat) : Int := sg (i + k) (ordF (partL l (2 ^ n - 1 - 2 ^ k) (2 ^ n - 1 - 2 ^ i)) (n - 1) (n - 1) 0)
def otherR (l : List (List Int)) (n i j : Nat) : List Int := (List.range j).map fun k => othF l n i k
theorem otherR_succ (l : List (List Int)) (n i j : Nat) : otherR l n i (j + 1) = otherR l n i j ++ [othF l n i j] := by simp [otherR, List.range_succ]
theorem otherR_length (l : List (List Int)) (n i j : Nat) : (otherR l n i j).length = j := by simp [otherR]
def otherTo (l : List (List Int)) (n r : Nat) : List (List Int) := (List.range r).map fun i => otherR l n i n
theorem otherTo_succ (l : List (List Int)) (n r : Nat) : otherTo l n (r + 1) = otherTo l n r ++ [otherR l n r n] := by simp [otherTo, List.range_succ]
theorem otherTo_length (l : List (List Int)) (n r : Nat) : (otherTo l n r).length = r := by simp [otherTo]
theorem otherTo_all (l : List (List Int)) (n : Nat) : otherTo l n n = tabF n n (othF l n) := rfl
theorem RB.later {wo wr w1 : World} {v : Value} {x : List Int} (h : RB wo wr v x) (hs : wr.Since wr.heap.size w1) : RB wo w1 v x :=
  ⟨h.since.trans (since_mono hs h.since.size), World.ownsRow.kept h.own (row := none) ⟨hs.os, hs.tape, hs.output, hs.size, fun k hk _ => hs.block k hk⟩ (by cases hv : v.ownBlock <;> simp)⟩

set_option maxRecDepth 100000 in
set_option maxHeartbeats 4000000 in
theorem l2Other_any (a : Option Addr) (cap n : Nat) (l : List (List Int)) (w : World) (hn : l.length = n) (hT : TabIn l) (hmm : (l.getD 0 []).length = n) (hm : MatR w a l) :
    Calls Try.prog 99 #[.slice a n cap] w fun e w' => ∃ a' cap', e = .returned (.slice a' n cap') ∧ w.Since w.heap.size w' ∧ InT w.heap.size w'.heap.size w' a' (tabF n n (othF l n)) := by
  obtain ⟨i42, hi42⟩ := info42_parts
  obtain ⟨i3, hi3⟩ := info3_parts
  have HI := Lib.hid hi42
  have HJ := Lib.hid hi3
  clear hi42 hi3
  have hst := bt_start w (fun _ => none) (fun _ => 0) #[] rfl
  have h6 := hT.2.1
  have h1 := hT.1
  rw [hn] at h6 h1
  have e1 := pow_wrap n h6
  have hand := fun (q : Nat) (hq : q < n) => andNot_fin ⟨n, by omega⟩ ⟨q, by omega⟩ hq
  have hbl := fun (q : Nat) (hq : q < n) => but_lt ⟨n, by omega⟩ ⟨q, by omega⟩ hq
  have hbp := fun (q : Nat) (hq : q < n) => popcS_but ⟨n, by omega⟩ ⟨q, by omega⟩ hq
  simp only at hand hbl hbp
  have hsq : ∀ i k, i < n → k < n → SqD (n - 1) (partL l (2 ^ n - 1 - 2 ^ k) (2 ^ n - 1 - 2 ^ i)) := fun i k hi hk => by
    have h := part_sq hT (s := 2 ^ n - 1 - 2 ^ k) (c := 2 ^ n - 1 - 2 ^ i) (by rw [hn]; exact (hbl k hk).1) (by rw [hmm]; exact (hbl i hi).1) (by rw [hbp k hk, hbp i hi])
    rw [hbp k hk] at h
    exact h
  have hfb : ∀ i k, i < n → k < n → -(34012224000000 : Int) ≤ ordF (partL l (2 ^ n - 1 - 2 ^ k) (2 ^ n - 1 - 2 ^ i)) (n - 1) (n - 1) 0 ∧ ordF (partL l (2 ^ n - 1 - 2 ^ k) (2 ^ n - 1 - 2 ^ i)) (n - 1) (n - 1) 0 ≤ 34012224000000 := fun i k hi hk => by
    have h := hsq i k hi hk
    by_cases h0 : 1 ≤ n - 1
    · have hb := ordF_bd (h.2 h0).1 h.1 (h.2 h0).2 (n - 1) (Nat.le_refl _) 0
      have := p180_le (n - 1) (by omega)
      omega
    · rw [show n - 1 = 0 by omega, ordF_zero]; omega
  have HPART := Lib.hid (fun (s c : Nat) (hs : s ≤ 63) (hc : c ≤ 63) (V : World) (h : w.Since w.heap.size V) => l1Part_any a cap n s c l V hn hT hs hc (hm.since h))
  have HSQ := Lib.hid hsq
  have HFB := Lib.hid hfb
  have HAND := Lib.hid hand
  have HBL := Lib.hid hbl
  obtain ⟨Aa, hA⟩ : ∃ A, A = 2 ^ n - 1 := ⟨_, rfl⟩
  rw [← hA] at e1
  have HA := Lib.hid hA
  clear hn hT hmm hm hand hbl hbp hsq hfb hA
  go_enter Try.func99, Try.ntmps99
  go_wp2
  rw [e1]
  go_loopg [3, 5, 6, 7, 8] n (fun g v i _ _ _ wr => ∃ r : Nat, ∃ A C, r ≤ n ∧ g = n - r ∧ i = .int .i64 r ∧ BT w wr v (otherTo l n r) A C)
  case atStart => exact ⟨0, _, _, Nat.zero_le _, rfl, rfl, hst⟩
  case round =>
    obtain ⟨r, A, C, hr, rfl, rfl, hR⟩ := hrel
    clear hst
    by_cases hlt : r < n
    · have HR := Lib.hid hR
      have hrb := rb_start wr #[] rfl
      have HRB := Lib.hid hrb
      have hsz := hR.since.size
      have hlen := otherTo_length l n r
      obtain ⟨wo, hwo⟩ : ∃ wo : World, wo = wr := ⟨_, rfl⟩
      clear hR hrb
      go_wp2
      subst hwo
      go_loopg [6, 7, 8] n (fun g v k _ wi => ∃ j : Nat, j ≤ n ∧ g = n - j ∧ k = .int .i64 j ∧ RB wo wi v (otherR l n r j))
      case atStart => exact ⟨0, Nat.zero_le _, rfl, rfl, HRB.out⟩
      case round =>
        obtain ⟨j, hj, rfl, rfl, hI⟩ := hrel
        clear HRB
        by_cases hjn : j < n
        · have hS := Lib.hid (HR.out.since.trans (since_mono hI.since hsz))
          have HII := Lib.hid hI
          have hle := otherR_length l n r j
          have hzi := hI.since.size
          clear hI
          obtain ⟨s1, hs1⟩ : ∃ s, s = Aa - 2 ^ j := ⟨_, rfl⟩
          obtain ⟨s2, hs2⟩ : ∃ s, s = Aa - 2 ^ r := ⟨_, rfl⟩
          have ha1 := HAND.out j hjn
          have ha2 := HAND.out r hlt
          have hb1 := (HBL.out j hjn).2
          have hb2 := (HBL.out r hlt).2
          have hq := HSQ.out r j hlt hjn
          have hf := HFB.out r j hlt hjn
          rw [← HA.out, ← hs1] at ha1 hb1
          rw [← HA.out, ← hs2] at ha2 hb2
          rw [← HA.out, ← hs1, ← hs2] at hq hf
          have EP := fun (V : World) (h : w.Since w.heap.size V) => HPART.out s1 s2 hb1 hb2 V h
          obtain ⟨L, hL⟩ : ∃ L, partL l s1 s2 = L := ⟨_, rfl⟩
          rw [hL] at hq hf
          simp only [hL, hq.1] at EP
          obtain ⟨n1, hn1⟩ : ∃ k, n - 1 = k := ⟨_, rfl⟩
          rw [hn1] at hq hf
          simp only [hn1] at EP
          replace EP := Lib.hid EP
          have EV := fun (a3 : Option Addr) (k3 : Nat) (V : World) (h : MatR V a3 L) => l2Value_sq a3 k3 n1 L hq V h
          obtain ⟨f2, hf2⟩ : ∃ f, ordF L n1 n1 0 = f := ⟨_, rfl⟩
          rw [hf2] at hf
          simp only [hf2] at EV
          replace EV := Lib.hid EV
          have hot : othF l n r j = sg (r + j) f2 := by
            unfold othF
            rw [← HA.out, ← hs1, ← hs2, hL, hn1, hf2]
          have HOT := Lib.hid hot
          have hwq1 := pow_in ⟨j, by omega⟩
          have hwq2 := pow_in ⟨r, by omega⟩
          simp only at hwq1 hwq2
          have hm1 : min j 64 = j := by omega
          have hm2 : min r 64 = r := by omega
          have hwi : IntKind.i64.wrap ((r : Int) + (j : Int)) = (r : Int) + (j : Int) := IntWalk.i64_in _ ⟨by omega, by omega⟩
          clear hs1 hs2 hq hL hn1 hf2 hot
          go_wp2
          go_region_held3 (fun _ => True) (trivial)
            (first
              | (go_at_call 92; refine (EP.out _ (hS.out.drew)).mono ?_; rintro e w2 ⟨a2, k2, rfl, hs2, hi2⟩; have hs2 := since_of_drew hs2; have HI2 := Lib.hid hi2.matR; have HS2 := Lib.hid hs2; clear hs2 hi2)
              | (go_at_call 91; refine (EV.out a2 k2 w2 HI2.out).mono ?_; rintro e w3 ⟨rfl, hd3⟩; have HS3 := Lib.hid (HS2.out.trans (since_mono (hd3.since w2.heap.size) HS2.out.size)); clear hd3))
          have HII2 := Lib.hid (HII.out.later HS3.out)
          have hz3 := HS3.out.size
          by_cases hodd : (r + j) % 2 = 1
          · have ho : (((r : Int) + (j : Int)) % 2 == 1) = true := by simp; omega
            have e0 : sg (r + j) f2 = -f2 := by unfold sg; rw [if_pos hodd]
            have w1' : IntKind.i64.wrap (0 - f2) = -f2 := (IntWalk.i64_in _ ⟨by omega, by omega⟩).trans (by omega)
            have w2' : IntKind.i64.wrap (-f2) = -f2 := IntWalk.i64_in _ ⟨by omega, by omega⟩
            go_wp2_with (at_builtin; (refine wpList_append_own _ rfl _ _ 36 rfl wo.heap.size 3 i3 (.int .i64 0) 1 8 Try.underlying36 HJ.out.1 HJ.out.2.1 HJ.out.2.2.1 HJ.out.2.2.2 rfl (by decide) _ _ _ rfl (HII2.out.own.alloc _) ⟨w3.heap.size, 0, none⟩ 1 1 [.int .i64 (-f2)] rfl rfl (cell_one_at _ _ _ rfl) (fun x hx => by simp at hx; subst hx; rfl) (by unfold maxLen; omega) (by omega) (by simp; omega) ?_); intro v' w5 hown' hgrow _)
            have hP := HII2.out.push hown' hgrow
            rw [← e0, ← HOT.out, ← otherR_succ] at hP
            have HP := Lib.hid hP
            clear hP hown' hgrow
            go_roundg (n - (j + 1))
            case measure => omega
            case rel => exact ⟨j + 1, by omega, rfl, by go_num, HP.out⟩
          · have ho : (((r : Int) + (j : Int)) % 2 == 1) = false := by simp; omega
            have e0 : sg (r + j) f2 = f2 := by unfold sg; rw [if_neg hodd]
            go_wp2_with (at_builtin; (refine wpList_append_own _ rfl _ _ 36 rfl wo.heap.size 3 i3 (.int .i64 0) 1 8 Try.underlying36 HJ.out.1 HJ.out.2.1 HJ.out.2.2.1 HJ.out.2.2.2 rfl (by decide) _ _ _ rfl (HII2.out.own.alloc _) ⟨w3.heap.size, 0, none⟩ 1 1 [.int .i64 (f2)] rfl rfl (cell_one_at _ _ _ rfl) (fun x hx => by simp at hx; subst hx; rfl) (by unfold maxLen; omega) (by omega) (by simp; omega) ?_); intro v' w5 hown' hgrow _)
            have hP := HII2.out.push hown' hgrow
            rw [← e0, ← HOT.out, ← otherR_succ] at hP
            have HP := Lib.hid hP
            clear hP hown' hgrow
            go_roundg (n - (j + 1))
            case measure => omega
            case rel => exact ⟨j + 1, by omega, rfl, by go_num, HP.out⟩
        · have hjj : n = j := by omega
          subst hjj
          obtain ⟨ra, rcp, hv, hrow⟩ := hI.slice
          rw [otherR_length] at hv
          subst hv
          have HII := Lib.hid hI
          have hle := otherR_length l n r n
          have hzi := hI.since.size
          have HROW := Lib.hid hrow
          clear hI hrow
          have HBT := Lib.hid (HR.out.later HII.out.since)
          go_wp2_with (at_builtin; (refine wpList_append_own _ rfl _ _ 24 rfl w.heap.size 36 i42 (.slice none 0 0) 1 24 Try.underlying24 HI.out.1 HI.out.2.1 HI.out.2.2.1 HI.out.2.2.2 rfl (by decide) _ _ _ rfl (HBT.out.own.alloc _) ⟨wr.heap.size, 0, none⟩ 1 1 [.slice ra n rcp] rfl rfl (cell_one_at _ _ _ rfl) (fun x hx => by simp at hx; subst hx; rfl) (by unfold maxLen; omega) (by omega) (by simp; omega) ?_); intro v' w5 hown' hgrow _)
          have hP := HBT.out.push (rv := .slice ra n rcp) (x := otherR l n r n) (a := ra) (cp := rcp) (by rw [otherR_length]) (fun h => by obtain ⟨G, e, h2, h3⟩ := HROW.out h; exact ⟨G, e, by omega, h3⟩) (fun h => by obtain ⟨G, e, h2, _⟩ := HROW.out h; exact HR.out.fresh e h2) hown' hgrow
          rw [← otherTo_succ] at hP
          have HP := Lib.hid hP
          clear hP hown' hgrow hle hlen
          go_roundg (n - (r + 1))
          case measure => omega
          case rel => exact ⟨r + 1, _, _, by omega, rfl, by go_num, HP.out⟩
    · have hrn : n = r := by omega
      subst hrn
      obtain ⟨ra, rcp, hv, hin⟩ := hR.slice
      rw [otherTo_length] at hv
      subst hv
      have HS := Lib.hid hR.since
      clear hR
      go_wp2
      go_ret
      exact ⟨ra, rcp, rfl, HS.out, hin⟩

set_option maxHeartbeats 1000000 in
theorem specValueOther_any (a : Option Addr) (cap n : Nat) (l : List (List Int)) (w : World) (hn : l.length = n) (hsz : szL l ≤ 1048576) (hm : MatR w a l) :
    Calls Try.prog 40 #[.slice a n cap] w (SpecT w (sqB l) (tabF n n (othF l n))) := by
  have E := l2Square_any a cap n l w hn hsz hm
  cases hs : sqB l with
  | false =>
    rw [hs] at E
    replace E := Lib.hid E
    clear hs hm hn hsz
    go_enter Try.func40, Try.ntmps40
    go_wp2_with fail
    refine (E.out).mono ?_
    rintro e w1 ⟨rfl, hd⟩
    have hs := hd.since w.heap.size
    clear hd
    go_wp2_with fail
    refine (l1None_any w1).mono ?_
    rintro e w2 ⟨rfl, hs2⟩
    go_wp2
    go_ret2
    exact ⟨_, _, rfl, hs.trans (since_mono hs2 hs.size), InT.nil _ _ _ _⟩
  | true =>
    rw [hs] at E
    replace E := Lib.hid E
    obtain ⟨hT, hw⟩ := sqB_of hs
    have E2 := Lib.hid (fun (W : World) (hd : w.Since w.heap.size W) => l2Other_any a cap n l W hn hT (by rw [← hw, hn]) (hm.since hd))
    clear hs hm hn hsz hT hw
    go_enter Try.func40, Try.ntmps40
    go_wp2_with fail
    refine (E.out).mono ?_
    rintro e w1 ⟨rfl, hd⟩
    have HS := Lib.hid (hd.since w.heap.size)
    clear hd
    go_wp2_with fail
    refine (E2.out w1 HS.out).mono ?_
    rintro e w2 ⟨a2, c2, rfl, hs2, hi2⟩
    go_wp2
    go_ret2
    exact ⟨a2, c2, by rw [show (resT true (tabF n n (othF l n))).length = n from tabF_length _ _ _]; rfl, HS.out.trans (since_mono hs2 HS.out.size), hi2.mono HS.out.size (Nat.le_refl _)⟩

end Go.Proofs.Yteaabemnolacdaa
end

section
namespace Go.Proofs.Yteaabemnolacdaa
open Go.RowKit Go.Deep

def mv (r i : Nat) : Nat := if i = 0 then r else if i ≤ r then i - 1 else i
theorem mv_zero (i : Nat) : mv 0 i = i := by unfold mv; repeat (first | split | omega)
theorem mv_succ (r i : Nat) : ex r (r + 1) (mv r i) = mv (r + 1) i := by unfold mv ex; repeat (first | split | omega)
theorem mv_skip (r i : Nat) : mv r (i + 1) = skip r i := by unfold mv skip; repeat (first | split | omega)
theorem dt_mv {n : Nat} : ∀ (r : Nat) (f : Nat → Nat → Int), r < n → dt n (fun i j => f (mv r i) j) = sn r * dt n f
  | 0, f, _ => by
    rw [sn_zero, Int.one_mul]
    exact dt_congr n fun i j _ _ => by rw [mv_zero]
  | r + 1, f, h => by
    have e : (fun i j => f (mv (r + 1) i) j) = fun i j => (fun i j => f (ex r (r + 1) i) j) (mv r i) j := by
      funext i j
      show _ = f (ex r (r + 1) (mv r i)) j
      rw [mv_succ]
    rw [e, dt_mv r (fun i j => f (ex r (r + 1) i) j) (by omega), dt_exR f (by omega) (by omega) h, sn_succ]
    rw [Int.mul_neg, Int.neg_mul]
theorem dt_row {n r : Nat} (f : Nat → Nat → Int) (h : r < n + 1) : dt (n + 1) f = sumN (fun k => f r k * (sn (r + k) * dt n (fun i j => f (skip r i) (skip k j)))) (n + 1) := by
  have e := dt_mv r f h
  have e2 : sn r * (sn r * dt (n + 1) f) = dt (n + 1) f := by rw [← Int.mul_assoc, sn_sq, Int.one_mul]
  rw [← e2, ← e, dt_succ, ← sumN_mul]
  refine sumN_congr _ fun k _ => ?_
  have e3 : dr k (fun i j => f (mv r i) j) = fun i j => f (skip r i) (skip k j) := by
    funext i j
    show f (mv r (i + 1)) (skip k j) = _
    rw [mv_skip]
  rw [e3, sn_add]
  show sn r * (sn k * (f (mv r 0) k * _)) = _
  have e4 : mv r 0 = r := rfl
  rw [e4]
  grind
theorem dt_alien {n r s : Nat} (f : Nat → Nat → Int) (hr : r < n + 1) (hs : s < n + 1) : sumN (fun k => f s k * (sn (r + k) * dt n (fun i j => f (skip r i) (skip k j)))) (n + 1) = if s = r then dt (n + 1) f else 0 := by
  by_cases e : s = r
  · subst e
    rw [if_pos rfl, ← dt_row f hs]
  · rw [if_neg e, ← dt_sameR (n := n + 1) (setR f r (f s)) (p := s) (q := r) e hs hr (fun j _ => by unfold setR; rw [if_neg e, if_pos rfl]), dt_row _ hr]
    refine sumN_congr _ fun k _ => ?_
    have e3 : (fun i j => setR f r (f s) (skip r i) (skip k j)) = fun i j => f (skip r i) (skip k j) := by
      funext i j
      unfold setR
      rw [if_neg (by unfold skip; split <;> omega)]
    rw [e3]
    unfold setR
    rw [if_pos rfl]
theorem othF_dt {l : List (List Int)} {n i k : Nat} (hT : TabIn l) (hn : l.length = n) (hw : (l.getD 0 []).length = n) (hi : i < n) (hk : k < n) : othF l n i k = sn (k + i) * dt (n - 1) (fun a b => at2 l (skip k a) (skip i b)) := by
  have h6 := hT.2.1
  unfold othF
  rw [sg_sn, ordF_all _ (by omega), Nat.add_comm i k]
  congr 1
  exact dt_congr _ fun a b ha hb => partL_but hn hw (by omega) hk hi (by omega) (by omega)
theorem other_left {l : List (List Int)} {n i k : Nat} (hT : TabIn l) (hn : l.length = n) (hw : (l.getD 0 []).length = n) (hi : i < n) (hk : k < n) :
    sumN (fun j => at2 l i j * othF l n j k) n = if i = k then dt n (at2 l) else 0 := by
  obtain ⟨m, rfl⟩ : ∃ m, n = m + 1 := ⟨n - 1, by omega⟩
  rw [← dt_alien (at2 l) hk hi]
  exact sumN_congr _ fun j hj => by rw [othF_dt hT hn hw hj hk]; rfl
theorem other_right {l : List (List Int)} {n i k : Nat} (hT : TabIn l) (hn : l.length = n) (hw : (l.getD 0 []).length = n) (hi : i < n) (hk : k < n) :
    sumN (fun j => othF l n i j * at2 l j k) n = if i = k then dt n (at2 l) else 0 := by
  obtain ⟨m, rfl⟩ : ∃ m, n = m + 1 := ⟨n - 1, by omega⟩
  have h := dt_alien (fun a b => at2 l b a) (r := i) (s := k) hi hk
  rw [dt_turn] at h
  have e : (if i = k then dt (m + 1) (at2 l) else 0) = if k = i then dt (m + 1) (at2 l) else 0 := by
    by_cases e : i = k
    · rw [if_pos e, if_pos e.symm]
    · rw [if_neg e, if_neg (fun h => e h.symm)]
  rw [e, ← h]
  refine sumN_congr _ fun j hj => ?_
  rw [othF_dt hT hn hw hi hj, Nat.add_comm j i, Int.mul_comm]
  show at2 l j k * _ = at2 l j k * (sn (i + j) * dt m (fun a b => at2 l (skip j b) (skip i a)))
  rw [← dt_turn m (fun a b => at2 l (skip j b) (skip i a))]
  rfl
theorem othF_bd {l : List (List Int)} {n i k : Nat} (hT : TabIn l) (hn : l.length = n) (hw : (l.getD 0 []).length = n) (hi : i < n) (hk : k < n) : -10000000000 ≤ othF l n i k ∧ othF l n i k ≤ 10000000000 := by
  have h6 := hT.2.1
  rw [othF_dt hT hn hw hi hk, ← sg_sn]
  refine sg_bd ?_
  have hb := dt_bd (n - 1) (fun a b => at2 l (skip k a) (skip i b)) (by omega) (fun a b ha hb => hT.at (by have := skip_bd (k := k) ha; omega) (by have := skip_bd (k := i) hb; omega))
  have hB : bdN (n - 1) ≤ 10000000000 := by
    have : n - 1 ≤ 5 := by omega
    match n - 1, this with
    | 0, _ => decide
    | 1, _ => decide
    | 2, _ => decide
    | 3, _ => decide
    | 4, _ => decide
    | 5, _ => decide
  omega
theorem rec_tabF {n m : Nat} (f : Nat → Nat → Int) (hn : 1 ≤ n ∧ n ≤ 6) (hm : 1 ≤ m ∧ m ≤ 6) : Rec (tabF n m f) := by
  have h0 : ((tabF n m f).getD 0 []).length = m := tabF_len _ _ _ _ (by omega)
  exact ⟨by rw [tabF_length]; omega, by rw [tabF_length]; omega, by rw [h0]; exact hm, fun hr => by rw [h0]; rw [tabF_length] at hr; exact tabF_len _ _ _ _ hr⟩
structure OtherM (l M : List (List Int)) (n : Nat) (v : Int) : Prop where
  len : M.length = n
  wid : (M.getD 0 []).length = n
  rec1 : Rec M
  b1 : ∀ i j k, i < n → j < n → k < (M.getD 0 []).length → -1000000000000 ≤ at2 l i j * at2 M j k ∧ at2 l i j * at2 M j k ≤ 1000000000000
  b2 : ∀ i j k, i < n → j < n → k < (l.getD 0 []).length → -1000000000000 ≤ at2 M i j * at2 l j k ∧ at2 M i j * at2 l j k ≤ 1000000000000
  l1 : (makeL l M).length = n
  l2 : (makeL M l).length = n
  w1 : ((makeL l M).getD 0 []).length = n
  w2 : ((makeL M l).getD 0 []).length = n
  r1 : Rec (makeL l M)
  r2 : Rec (makeL M l)
  e1 : ∀ i k, i < n → k < n → at2 (makeL l M) i k = if i = k then v else 0
  e2 : ∀ i k, i < n → k < n → at2 (makeL M l) i k = if i = k then v else 0
theorem otherM_of {l : List (List Int)} {n : Nat} (h : sqB l = true) (hn : l.length = n) : OtherM l (tabF n n (othF l n)) n (ordF l n n 0) := by
  obtain ⟨hT, hw⟩ := sqB_of h
  have h1 := hT.1
  have h6 := hT.2.1
  have hwn : (l.getD 0 []).length = n := by omega
  have hl : (tabF n n (othF l n)).length = n := tabF_length _ _ _
  have hmw : ((tabF n n (othF l n)).getD 0 []).length = n := tabF_len _ _ _ _ (by omega)
  have hat : ∀ i j, i < n → j < n → at2 (tabF n n (othF l n)) i j = othF l n i j := fun i j hi hj => tabF_at _ _ _ i j hi hj
  have hp : ∀ i j k, i < n → j < n → k < n → -1000000000000 ≤ at2 l i j * othF l n j k ∧ at2 l i j * othF l n j k ≤ 1000000000000 := fun i j k hi hj hk => by
    have b := hT.at (i := i) (k := j) (by omega) (by omega)
    have c := othF_bd hT hn hwn hj hk
    have := mul_bdB b.1 b.2 c.1 c.2
    omega
  have hp2 : ∀ i j k, i < n → j < n → k < n → -1000000000000 ≤ othF l n i j * at2 l j k ∧ othF l n i j * at2 l j k ≤ 1000000000000 := fun i j k hi hj hk => by
    have b := hT.at (i := j) (k := k) (by omega) (by omega)
    have c := othF_bd hT hn hwn hi hj
    have := mul_bdB b.1 b.2 c.1 c.2
    rw [Int.mul_comm]
    omega
  have g1 : 1 ≤ n ∧ n ≤ 6 := by omega
  have q1 : makeL l (tabF n n (othF l n)) = tabF n n fun i k => sumN (dotF l (tabF n n (othF l n)) i k) n := by unfold makeL; rw [hn, hl, hmw]
  have q2 : makeL (tabF n n (othF l n)) l = tabF n n fun i k => sumN (dotF (tabF n n (othF l n)) l i k) n := by unfold makeL; rw [hn, hl, hwn]
  refine ⟨hl, hmw, rec_tabF _ g1 g1, fun i j k hi hj hk => ?_, fun i j k hi hj hk => ?_, by rw [q1, tabF_length], by rw [q2, tabF_length], by rw [q1]; exact tabF_len _ _ _ _ (by omega), by rw [q2]; exact tabF_len _ _ _ _ (by omega), by rw [q1]; exact rec_tabF _ g1 g1, by rw [q2]; exact rec_tabF _ g1 g1, fun i k hi hk => ?_, fun i k hi hk => ?_⟩
  · rw [hmw] at hk
    rw [hat j k hj hk]
    exact hp i j k hi hj hk
  · rw [hwn] at hk
    rw [hat i j hi hj]
    exact hp2 i j k hi hj hk
  · rw [q1, show at2 (tabF n n fun i k => sumN (dotF l (tabF n n (othF l n)) i k) n) i k = sumN (dotF l (tabF n n (othF l n)) i k) n from tabF_at _ _ _ i k hi hk, ordF_all _ (by omega), ← other_left hT hn hwn hi hk]
    exact sumN_congr _ fun j hj => by show at2 l i j * at2 _ j k = _; rw [hat j k hj hk]
  · rw [q2, show at2 (tabF n n fun i k => sumN (dotF (tabF n n (othF l n)) l i k) n) i k = sumN (dotF (tabF n n (othF l n)) l i k) n from tabF_at _ _ _ i k hi hk, ordF_all _ (by omega), ← other_right hT hn hwn hi hk]
    exact sumN_congr _ fun j hj => by show at2 _ i j * at2 l j k = _; rw [hat i j hi hj]

end Go.Proofs.Yteaabemnolacdaa
end

section
namespace Go.Proofs.Yteaabemnolacdaa
open Go.RowKit Go.Deep

theorem grown_allocX {w wr : World} {row : Option Nat} (h : w.grownBy wr row) (o : Obj) : w.grownBy (wr.alloc o) row := h.trans (World.grownBy_alloc _ _ _)
theorem grown_setCell {w wr : World} {row : Option Nat} (h : w.grownBy wr row) {a : Addr} (ha : w.heap.size ≤ a.block) (v : Value) : w.grownBy (wr.setCell a v) row :=
  ⟨h.os, h.tape, h.output, by have := h.size; simpa using this, fun k hk hne => (Below.heap_setCell _ _ _ _ (by omega : k ≠ a.block)).trans (h.block k hk hne)⟩
theorem grownBy_setCell (w : World) (a : Addr) (v : Value) : w.grownBy (w.setCell a v) (some a.block) :=
  ⟨rfl, rfl, rfl, by simp, fun k _ hne => Below.heap_setCell _ _ _ _ (fun e => hne (by rw [e]))⟩
theorem grown_drew {w wr : World} {row : Option Nat} (h : w.grownBy wr row) : w.grownBy wr.drew row := ⟨h.os, h.tape, h.output, h.size, h.block⟩
theorem grown_ofdrew {w wr : World} {row : Option Nat} (h : w.drew.grownBy wr row) : w.grownBy wr row := ⟨h.os, h.tape, h.output, h.size, h.block⟩
theorem grown_mono {w W w' : World} {row : Option Nat} (h : w.grownBy W row) (h2 : W.grownBy w' row) : w.grownBy w' row := h.trans h2

structure NTX (row : Option Nat) (I : World → Prop) (w wr : World) (ht wd i : Nat) (G : Nat → Nat) (f : Nat → Nat → Int) : Prop where
  since : w.grownBy wr row
  inv : I wr
  top : wr.rowIs w.heap.size 36 ht (fun j => if j < i then .slice (some ⟨G j, 0, none⟩) wd wd else .slice none 0 0)
  rows : ∀ j, j < i → wr.rowIs (G j) 3 wd (fun k => .int .i64 (f j k))
  gt : ∀ j, j < i → w.heap.size < G j
  inj : ∀ j j', j < i → j' < i → G j = G j' → j = j'

structure NTIX (row : Option Nat) (I : World → Prop) (w wr : World) (ht wd i : Nat) (G : Nat → Nat) (f : Nat → Nat → Int) (c : Nat) : Prop where
  since : w.grownBy wr row
  inv : I wr
  top : wr.rowIs w.heap.size 36 ht (fun j => if j < i + 1 then .slice (some ⟨G j, 0, none⟩) wd wd else .slice none 0 0)
  rows : ∀ j, j < i → wr.rowIs (G j) 3 wd (fun k => .int .i64 (f j k))
  cur : wr.rowIs (G i) 3 wd (fun k => if k < c then .int .i64 (f i k) else .int .i64 0)
  gt : ∀ j, j < i + 1 → w.heap.size < G j
  inj : ∀ j j', j < i + 1 → j' < i + 1 → G j = G j' → j = j'

theorem ntx_start (row : Option Nat) (I : World → Prop) (w : World) (ht wd : Nat) (G : Nat → Nat) (f : Nat → Nat → Int) (h0 : I (w.alloc (.cells (madeCells #[.slice none 0 0] ht) 36))) : NTX row I w (w.alloc (.cells (madeCells #[.slice none 0 0] ht) 36)) ht wd 0 G f :=
  ⟨World.grownBy_alloc _ _ _, h0, (World.rowIs_made w _ ht 36).congr (fun j _ => by simp), fun j hj => absurd hj (Nat.not_lt_zero _), fun j hj => absurd hj (Nat.not_lt_zero _), fun j _ hj => absurd hj (Nat.not_lt_zero _)⟩

theorem ntix_start {row : Option Nat} {I : World → Prop} {w wr : World} {ht wd i : Nat} {G : Nat → Nat} {f : Nat → Nat → Int} (hI : ∀ W W' g, I W → w.heap.size ≤ g → W.grownBy W' (some g) → I W') (h : NTX row I w wr ht wd i G f) :
    NTIX row I w ((wr.alloc (.cells (madeCells #[.int .i64 0] wd) 3)).setCell ⟨w.heap.size, i, none⟩ (.slice (some ⟨wr.heap.size, 0, none⟩) wd wd)) ht wd i (fun j => if j = i then wr.heap.size else G j) f 0 := by
  have hlt := h.top.lt
  have hG : ∀ j, j < i → G j < wr.heap.size := fun j hj => (h.rows j hj).lt
  refine ⟨grown_setCell (grown_allocX h.since _) (Nat.le_refl _) _, hI _ _ w.heap.size h.inv (Nat.le_refl _) ((World.grownBy_alloc _ _ _).trans (grownBy_setCell _ ⟨w.heap.size, i, none⟩ _)), ((h.top.alloc _).set i _).congr (fun j _ => ?_), fun j hj => ?_, ?_, fun j hj => ?_, fun j j' h1 h2 e => ?_⟩
  · by_cases e : j = i
    · subst e; simp
    · rw [if_neg e]
      by_cases hlt : j < i
      · rw [if_pos hlt, if_pos (by omega), if_neg e]
      · rw [if_neg hlt, if_neg (by omega)]
  · rw [if_neg (show j ≠ i by omega)]
    exact ((h.rows j hj).alloc _).setOther (by have := h.gt j hj; show G j ≠ w.heap.size; omega) _
  · rw [if_pos rfl]
    exact ((World.rowIs_made wr (.int .i64 0) wd 3).setOther (by show wr.heap.size ≠ w.heap.size; omega) _).congr (fun k _ => by simp)
  · by_cases e : j = i
    · rw [if_pos e]; exact hlt
    · rw [if_neg e]; exact h.gt j (by omega)
  · by_cases e1 : j = i <;> by_cases e2 : j' = i
    · omega
    · rw [if_pos e1, if_neg e2] at e; have := hG j' (by omega); omega
    · rw [if_neg e1, if_pos e2] at e; have := hG j (by omega); omega
    · rw [if_neg e1, if_neg e2] at e; exact h.inj j j' (by omega) (by omega) e

theorem NTIX.later {row : Option Nat} {I : World → Prop} {w wr w1 : World} {ht wd i : Nat} {G : Nat → Nat} {f : Nat → Nat → Int} {c : Nat} (hrow : ∀ r, row = some r → r < w.heap.size) (h : NTIX row I w wr ht wd i G f c) (hs : wr.grownBy w1 row) (hi1 : I w1) : NTIX row I w w1 ht wd i G f c :=
  have hne : ∀ x, w.heap.size ≤ x → some x ≠ row := fun x hx e => by have := hrow x e.symm; omega
  ⟨h.since.trans hs, hi1, h.top.of_block (hs.block _ h.top.lt (hne _ (Nat.le_refl _))), fun j hj => (h.rows j hj).of_block (hs.block _ (h.rows j hj).lt (hne _ (by have := h.gt j (by omega); omega))), h.cur.of_block (hs.block _ h.cur.lt (hne _ (by have := h.gt i (by omega); omega))), h.gt, h.inj⟩

theorem NTIX.step {row : Option Nat} {I : World → Prop} {w wr : World} {ht wd i : Nat} {G : Nat → Nat} {f : Nat → Nat → Int} {c : Nat} (hI : ∀ W W' g, I W → w.heap.size ≤ g → W.grownBy W' (some g) → I W') (h : NTIX row I w wr ht wd i G f c) :
    NTIX row I w (wr.setCell ⟨G i, c, none⟩ (.int .i64 (f i c))) ht wd i G f (c + 1) := by
  have hgi := h.gt i (by omega)
  refine ⟨grown_setCell h.since (by show w.heap.size ≤ G i; omega) _, hI _ _ (G i) h.inv (by omega) (grownBy_setCell _ ⟨G i, c, none⟩ _), h.top.setOther (by show w.heap.size ≠ G i; omega) _, fun j hj => (h.rows j hj).setOther (fun e => by have := h.inj j i (by omega) (by omega) e; omega) _, (h.cur.set c _).congr (fun k _ => ?_), h.gt, h.inj⟩
  by_cases e : k = c
  · subst e; simp
  · rw [if_neg e]
    by_cases hlt : k < c
    · rw [if_pos hlt, if_pos (by omega)]
    · rw [if_neg hlt, if_neg (by omega)]

theorem NTIX.full {row : Option Nat} {I : World → Prop} {w wr : World} {ht wd i : Nat} {G : Nat → Nat} {f : Nat → Nat → Int} (h : NTIX row I w wr ht wd i G f wd) : NTX row I w wr ht wd (i + 1) G f :=
  ⟨h.since, h.inv, h.top, fun j hj => by
    by_cases e : j = i
    · subst e; exact h.cur.congr (fun k hk => by rw [if_pos hk])
    · exact h.rows j (by omega), h.gt, h.inj⟩

theorem NTIX.facts {row : Option Nat} {I : World → Prop} {w wr : World} {ht wd i g : Nat} {G : Nat → Nat} {f : Nat → Nat → Int} {c : Nat} (h : NTIX row I w wr ht wd i G f c) (hi : i < ht) (hc : c < wd) (hg : G i = g) :
    wr.cell? ⟨w.heap.size, i, none⟩ = some (.slice (some ⟨g, 0, none⟩) wd wd) ∧ wr.cell? ⟨g, c, none⟩ = some (.int .i64 0) ∧ wr.frozen? ⟨g, c, none⟩ = false := by
  subst hg
  refine ⟨?_, ?_, h.cur.frozen c⟩
  · have := h.top.cell (i := i) hi
    rw [if_pos (by omega)] at this; exact this
  · have := h.cur.cell (i := c) hc
    rw [if_neg (by omega)] at this; exact this

theorem NTIX.keeps {row : Option Nat} {I : World → Prop} {w wr : World} {ht wd i g : Nat} {G : Nat → Nat} {f : Nat → Nat → Int} {c : Nat} (h : NTIX row I w wr ht wd i G f c) (hi : i < ht) (hc : c < wd) (hg : G i = g) (v : Value) :
    (wr.setCell ⟨g, c, none⟩ v).cell? ⟨w.heap.size, i, none⟩ = some (.slice (some ⟨g, 0, none⟩) wd wd) := by
  have h1 := h.gt i (by omega)
  rw [World.cell?_setCell_other _ _ _ _ (fun e => by injection e with e1; omega)]
  exact (h.facts hi hc hg).1

theorem NTX.ownT {row : Option Nat} {I : World → Prop} {w wr : World} {ht wd : Nat} {G : Nat → Nat} {f : Nat → Nat → Int} (h : NTX row I w wr ht wd ht G f) : OwnT w.heap.size wr.heap.size wr (some ⟨w.heap.size, 0, none⟩) (tabF ht wd f) := by
  intro _
  rw [tabF_length]
  refine ⟨w.heap.size, fun r => some ⟨G r, 0, none⟩, G, fun _ => wd, rfl, ⟨Nat.le_refl _, h.top.lt⟩, fun r hr => ?_, fun r r' h1 h2 _ _ e => h.inj r r' h1 h2 e⟩
  rw [tabF_len _ _ _ _ hr]
  refine ⟨?_, fun _ => ⟨rfl, ?_, fun i hi => ⟨?_, (h.rows r hr).frozen i⟩⟩⟩
  · have := h.top.cell (i := r) hr
    rw [if_pos hr] at this; exact this
  · have h1 := h.gt r hr
    have h2 := (h.rows r hr).lt
    omega
  · rw [tabF_at _ _ _ _ _ hr hi]; exact (h.rows r hr).cell hi

set_option maxRecDepth 100000 in
set_option maxHeartbeats 4000000 in
theorem newTableX_any (row : Option Nat) (I : World → Prop) (K : Nat) (caps : Array Value) (ht wd : Nat) (f : Nat → Nat → Int) (w : World) (hh : ht ≤ 1000) (hw : wd ≤ 1000) (eg : ∀ args w, (callFunc K args).run Try.prog w = .ok (.enter K args) w)
    (hrow : ∀ r, row = some r → r < w.heap.size) (hI : ∀ W W' g, I W → w.heap.size ≤ g → W.grownBy W' (some g) → I W') (hI0 : I w)
    (hent : ∀ (W : World) (i k : Nat), w.grownBy W row → I W → i < ht → k < wd → Calls Try.prog K (#[.int .i64 i, .int .i64 k] ++ caps) W fun e w' => e = .returned (.int .i64 (f i k)) ∧ W.grownBy w' row ∧ I w') :
    Calls Try.prog 95 #[.int .i64 ht, .int .i64 wd, .func (.func K) #[] caps] w fun e w' => e = .returned (.slice (some ⟨w.heap.size, 0, none⟩) ht ht) ∧ (w.grownBy w' row ∧ I w') ∧ OwnT w.heap.size w'.heap.size w' (some ⟨w.heap.size, 0, none⟩) (tabF ht wd f) := by
  have hst := fun G => ntx_start row I w ht wd G f (hI _ _ w.heap.size hI0 (Nat.le_refl _) (World.grownBy_alloc _ _ _))
  have HII0 := Lib.hid hI
  have HROW := Lib.hid hrow
  have hmk := run_make_row' (P := Try.prog) 53 36 (.slice none 0 0) 24 Try.underlying53 Try.info36 rfl .i64 .i64 ht (by omega) (by omega)
  have HST := Lib.hid hst
  have HE := Lib.hid hent
  clear hst hent hI hrow hI0
  go_enter Try.func95, Try.ntmps95
  go_wp2
  go_loopg [8, 9, 14] ht (fun g _ _ i wr => ∃ r : Nat, ∃ G, r ≤ ht ∧ g = ht - r ∧ i = .int .i64 r ∧ NTX row I w wr ht wd r G f)
  case atStart => exact ⟨0, fun _ => 0, Nat.zero_le _, rfl, rfl, HST.out _⟩
  case round =>
    obtain ⟨r, G, hr, rfl, rfl, hR⟩ := hrel
    clear hmk
    by_cases hlt : r < ht
    · have hmk := run_make_row' (P := Try.prog) 36 3 (.int .i64 0) 8 Try.underlying36 Try.info3 rfl .i64 .i64 wd (by omega) (by omega)
      have hc1 := fun o => (hR.top.alloc o).cell (i := r) hlt
      simp only [Nat.lt_irrefl, if_false] at hc1
      have hf1 := fun o => (hR.top.alloc o).frozen r
      have hI0 := ntix_start HII0.out hR
      have HI0 := Lib.hid hI0
      clear hI0
      go_wp2
      clear hc1 hf1 hmk
      obtain ⟨g, hg⟩ : ∃ g, g = wr.heap.size := ⟨_, rfl⟩
      obtain ⟨G', hG'⟩ : ∃ G', G' = (fun j => if j = r then wr.heap.size else G j) := ⟨_, rfl⟩
      have hgr : G' r = g := by rw [hG', hg]; simp
      have HI := HI0.out
      rw [← hG', ← hg] at HI
      rw [← hg]
      have HI' := Lib.hid HI
      have HGR := Lib.hid hgr
      clear HI HI0 hg hG' hgr hR
      go_loopg [9, 27] wd (fun q _ i wi => ∃ c : Nat, c ≤ wd ∧ q = wd - c ∧ i = .int .i64 c ∧ NTIX row I w wi ht wd r G' f c)
      case atStart => exact ⟨0, Nat.zero_le _, rfl, rfl, HI'.out⟩
      case round =>
        obtain ⟨c, hc, rfl, rfl, hI⟩ := hrel
        clear HI'
        by_cases hcw : c < wd
        · have hld := (hI.facts hlt hcw HGR.out).1
          obtain ⟨y, hy⟩ : ∃ y, y = f r c := ⟨_, rfl⟩
          have HY := Lib.hid hy
          have hE := fun (W : World) (hs : w.grownBy W row) (hi : I W) => HE.out W r c hs hi hlt hcw
          rw [← hy] at hE
          have HEE := Lib.hid hE
          have HII := Lib.hid hI
          clear hE hy hI
          go_wp2
          go_region_held3 (fun w' => w'.cell? ⟨w.heap.size, r, none⟩ = some (.slice (some ⟨g, 0, none⟩) wd wd)) (go_keep)
            (first | (refine (HEE.out _ ?_ ?_).mono ?_; (exact grown_drew HII.out.since); (exact HII0.out _ _ w.heap.size HII.out.inv (Nat.le_refl _) (grown_drew (World.grownBy.refl _ _))); rintro e w1 ⟨rfl, hs1, hi1⟩; obtain ⟨k1, k2, k3⟩ := (HII.out.later HROW.out (grown_ofdrew hs1) hi1).facts hlt hcw HGR.out; have hN1 := Lib.hid (HII.out.later HROW.out (grown_ofdrew hs1) hi1); have k4 := hN1.out.keeps hlt hcw HGR.out (.int .i64 y); clear hs1))
          have hS := hN1.out.step HII0.out
          rw [HGR.out, ← HY.out] at hS
          clear k1 k2 k3 k4
          go_wp2
          go_roundg (wd - (c + 1))
          case measure => omega
          case rel => exact ⟨c + 1, by omega, rfl, by go_num, hS⟩
        · have hcc : c = wd := by omega
          subst hcc
          have hF := hI.full
          clear hI
          go_wp2
          go_roundg (ht - (r + 1))
          case measure => omega
          case rel => exact ⟨r + 1, G', by omega, rfl, by go_num, hF⟩
    · have hrr : r = ht := by omega
      subst hrr
      go_wp2
      go_ret
      exact ⟨rfl, ⟨hR.since, hR.inv⟩, hR.ownT⟩

end Go.Proofs.Yteaabemnolacdaa
end

section
namespace Go.Proofs.Yteaabemnolacdaa
open Go.RowKit Go.Deep

def oc1 (s : Int) : Int := IntKind.u64.wrap (bits BinOp.and IntKind.u64 (s / 2) 6148914691236517205 + bits BinOp.and IntKind.u64 s 6148914691236517205)
def oc2 (x : Int) : Int := IntKind.u64.wrap (bits BinOp.and IntKind.u64 (x / 4) 3689348814741910323 + bits BinOp.and IntKind.u64 x 3689348814741910323)
def oc3 (x : Int) : Int := bits BinOp.and IntKind.u64 (IntKind.u64.wrap (x / 16 + x)) 1085102592571150095
def oc4 (x : Int) : Int := IntKind.u64.wrap (x + x / 256)
def oc5 (x : Int) : Int := IntKind.u64.wrap (x + x / 65536)
def oc6 (x : Int) : Int := IntKind.u64.wrap (x + x / 4294967296)
def ocF (s : Int) : Int := bits BinOp.and IntKind.i64 (wrap64 (oc6 (oc5 (oc4 (oc3 (oc2 (oc1 s))))))) 127
theorem ocF_fin : ∀ s : Fin 64, ocF s.val = popcS s.val := by decide +kernel

set_option maxRecDepth 100000 in
set_option maxHeartbeats 1000000 in
theorem ones64_any (s : Nat) (h : s < 64) (w : World) :
    Calls Try.prog 142 #[.int .u64 s] w fun e w' => e = .returned (.int .i64 (popcS s)) ∧ w = w' := by
  go_enter Try.func142, Try.ntmps142
  go_wp2
  go_ret
  refine ⟨?_, rfl⟩
  have e := ocF_fin ⟨s, h⟩
  simp only [ocF, oc6, oc5, oc4, oc3, oc2, oc1] at e
  exact congrArg (fun z => Ending.returned (Value.int IntKind.i64 z)) e

set_option maxHeartbeats 400000 in
theorem ones_any (s : Nat) (h : s < 64) (w : World) :
    Calls Try.prog 126 #[.int .u64 s] w fun e w' => e = .returned (.int .i64 (popcS s)) ∧ w = w' := by
  have E := Lib.hid (ones64_any s h w)
  go_enter Try.func126, Try.ntmps126
  go_wp2_with fail
  refine (E.out).mono ?_
  rintro e w' ⟨rfl, rfl⟩
  go_wp2
  go_ret
  exact ⟨rfl, rfl⟩

set_option maxHeartbeats 400000 in
theorem members_any (s : Nat) (h : s < 64) (w : World) :
    Calls Try.prog 88 #[.int .i64 s] w fun e w' => e = .returned (.int .i64 (popcS s)) ∧ w = w' := by
  have E := Lib.hid (ones_any s h w)
  go_enter Try.func88, Try.ntmps88
  go_wp2_with fail
  refine (E.out).mono ?_
  rintro e w' ⟨rfl, rfl⟩
  go_wp2
  go_ret
  exact ⟨rfl, rfl⟩

set_option maxHeartbeats 400000 in
theorem isSet_any (x : Int) (n : Nat) (hn : n ≤ 6) (w : World) :
    Calls Try.prog 87 #[.int .i64 x, .int .i64 n] w fun e w' => e = .returned (.bool (inB x 0 (2 ^ n - 1 : Nat))) ∧ w = w' := by
  have E1 := Lib.hid (fullSet_any n hn w)
  have E2 := Lib.hid (inRange_any x 0 (2 ^ n - 1 : Nat) w)
  go_enter Try.func87, Try.ntmps87
  go_wp2_with fail
  refine (E1.out).mono ?_
  rintro e w' ⟨rfl, rfl⟩
  go_wp2_with fail
  refine (E2.out).mono ?_
  rintro e w' ⟨rfl, rfl⟩
  go_wp2
  go_ret
  exact ⟨rfl, rfl⟩

end Go.Proofs.Yteaabemnolacdaa
end

section
namespace Go.Proofs.Yteaabemnolacdaa
open Go.RowKit Go.Deep

theorem since_of_map {W w' : World} {o : Obj} (hg : (W.alloc o).grownBy w' (some W.heap.size)) : W.Since W.heap.size w' := by
  have h0 := (World.Since.refl W.heap.size W).alloc (Nat.le_refl _) o
  have h1 := hg.size
  simp only [World.size_alloc] at h1
  exact ⟨hg.os.trans h0.os, hg.tape.trans h0.tape, hg.output.trans h0.output, by omega, fun k hk => (hg.block k (by simp; omega) (by intro e; injection e with e; omega)).trans (h0.block k hk)⟩

set_option maxHeartbeats 400000 in
theorem anyValue_of (rb : Nat) (a : Option Addr) (n cap : Nat) (x : Int) (W : World) (hr : RoadsAt W rb) (ht : ∀ W', W.grownBy W' (some rb) → Calls Try.prog 138 #[.slice a n cap] W' (fun e w' => e = .returned (.int .i64 x) ∧ W'.Since W'.heap.size w')) :
    Calls Try.prog 89 #[.map (some rb), .slice a n cap] W (fun e w' => e = .returned (.int .i64 x) ∧ W.grownBy w' (some rb) ∧ RoadsAt w' rb) := by
  have E := Lib.hid (roads_2 rb a n cap x W hr ht)
  clear hr ht
  go_enter Try.func89, Try.ntmps89
  go_wp2_with fail
  refine (E.out).mono ?_
  rintro e w' ⟨rfl, hg, hr⟩
  go_wp2
  go_ret
  exact ⟨rfl, hg, hr⟩

set_option maxHeartbeats 800000 in
theorem square_0 (a : Option Addr) (cap n : Nat) (l : List (List Int)) (x : Int) (w : World) (hn : l.length = n) (hsz : szL l ≤ 1048576) (hm : MatR w a l) (ht : sqB l = true → ∀ W', MatR W' a l → Calls Try.prog 136 #[.slice a n cap] W' (fun e w' => e = .returned (.int .i64 x) ∧ W'.Since W'.heap.size w')) :
    Calls Try.prog 71 #[.slice a n cap, .int .i64 0] w (SpecW w (sqB l) x) := by
  have E := isSquare_any a cap n l w hn hsz hm
  cases hs : sqB l with
  | false =>
    rw [hs] at E
    replace E := Lib.hid E
    clear hs hm hn hsz ht
    go_enter Try.func71, Try.ntmps71
    go_wp2_with fail
    refine (E.out).mono ?_
    rintro e w1 ⟨rfl, hd⟩
    have HD := Lib.hid hd
    clear hd
    go_wp2
    go_ret2
    exact ⟨rfl, HD.out⟩
  | true =>
    rw [hs] at E
    replace E := Lib.hid E
    have E2 := Lib.hid (fun (W : World) (hd : w.Since w.heap.size W) => roads_0 W.heap.size a n cap x (W.alloc (.map #[] 0)) (roads_made W) (fun W' hg => ht hs W' (hm.since (hd.trans (since_mono (since_of_map hg) hd.size)))))
    clear hs hm hn hsz ht
    have hmm := @run_makeMap Try.prog
    go_enter Try.func71, Try.ntmps71
    go_wp2_with fail
    refine (E.out).mono ?_
    rintro e w1 ⟨rfl, hd⟩
    have HD := Lib.hid hd
    clear hd
    go_wp2_with fail
    refine (E2.out w1 HD.out).mono ?_
    rintro e w2 ⟨rfl, hg, hr⟩
    have HS2 := Lib.hid (HD.out.trans (since_mono (since_of_map hg) HD.out.size))
    clear hg hr
    go_wp2
    go_ret2
    exact ⟨rfl, HS2.out⟩

set_option maxHeartbeats 400000 in
theorem implValueOrders_of (a : Option Addr) (cap n : Nat) (l : List (List Int)) (x : Int) (w : World) (hn : l.length = n) (hsz : szL l ≤ 1048576) (hm : MatR w a l) (ht : sqB l = true → ∀ W', MatR W' a l → Calls Try.prog 136 #[.slice a n cap] W' (fun e w' => e = .returned (.int .i64 x) ∧ W'.Since W'.heap.size w')) :
    Calls Try.prog 21 #[.slice a n cap] w (SpecW w (sqB l) x) := by
  have E := square_0 a cap n l x w hn hsz hm ht
  unfold SpecW at E ⊢
  generalize (if (sqB l) = true then x else 0) = y at E ⊢
  generalize (sqB l) = b at E ⊢
  replace E := Lib.hid E
  clear hn hsz hm ht
  go_enter Try.func21, Try.ntmps21
  go_wp2_with fail
  refine (E.out).mono ?_
  rintro e w1 ⟨rfl, hd⟩
  go_wp2
  go_ret2
  exact ⟨rfl, hd⟩

set_option maxHeartbeats 800000 in
theorem square_1 (a : Option Addr) (cap n : Nat) (l : List (List Int)) (x : Int) (w : World) (hn : l.length = n) (hsz : szL l ≤ 1048576) (hm : MatR w a l) (ht : sqB l = true → ∀ W', MatR W' a l → Calls Try.prog 137 #[.slice a n cap] W' (fun e w' => e = .returned (.int .i64 x) ∧ W'.Since W'.heap.size w')) :
    Calls Try.prog 71 #[.slice a n cap, .int .i64 1] w (SpecW w (sqB l) x) := by
  have E := isSquare_any a cap n l w hn hsz hm
  cases hs : sqB l with
  | false =>
    rw [hs] at E
    replace E := Lib.hid E
    clear hs hm hn hsz ht
    go_enter Try.func71, Try.ntmps71
    go_wp2_with fail
    refine (E.out).mono ?_
    rintro e w1 ⟨rfl, hd⟩
    have HD := Lib.hid hd
    clear hd
    go_wp2
    go_ret2
    exact ⟨rfl, HD.out⟩
  | true =>
    rw [hs] at E
    replace E := Lib.hid E
    have E2 := Lib.hid (fun (W : World) (hd : w.Since w.heap.size W) => roads_1 W.heap.size a n cap x (W.alloc (.map #[] 0)) (roads_made W) (fun W' hg => ht hs W' (hm.since (hd.trans (since_mono (since_of_map hg) hd.size)))))
    clear hs hm hn hsz ht
    have hmm := @run_makeMap Try.prog
    go_enter Try.func71, Try.ntmps71
    go_wp2_with fail
    refine (E.out).mono ?_
    rintro e w1 ⟨rfl, hd⟩
    have HD := Lib.hid hd
    clear hd
    go_wp2_with fail
    refine (E2.out w1 HD.out).mono ?_
    rintro e w2 ⟨rfl, hg, hr⟩
    have HS2 := Lib.hid (HD.out.trans (since_mono (since_of_map hg) HD.out.size))
    clear hg hr
    go_wp2
    go_ret2
    exact ⟨rfl, HS2.out⟩

set_option maxHeartbeats 400000 in
theorem implValueRows_of (a : Option Addr) (cap n : Nat) (l : List (List Int)) (x : Int) (w : World) (hn : l.length = n) (hsz : szL l ≤ 1048576) (hm : MatR w a l) (ht : sqB l = true → ∀ W', MatR W' a l → Calls Try.prog 137 #[.slice a n cap] W' (fun e w' => e = .returned (.int .i64 x) ∧ W'.Since W'.heap.size w')) :
    Calls Try.prog 27 #[.slice a n cap] w (SpecW w (sqB l) x) := by
  have E := square_1 a cap n l x w hn hsz hm ht
  unfold SpecW at E ⊢
  generalize (if (sqB l) = true then x else 0) = y at E ⊢
  generalize (sqB l) = b at E ⊢
  replace E := Lib.hid E
  clear hn hsz hm ht
  go_enter Try.func27, Try.ntmps27
  go_wp2_with fail
  refine (E.out).mono ?_
  rintro e w1 ⟨rfl, hd⟩
  go_wp2
  go_ret2
  exact ⟨rfl, hd⟩

set_option maxHeartbeats 800000 in
theorem square_2 (a : Option Addr) (cap n : Nat) (l : List (List Int)) (x : Int) (w : World) (hn : l.length = n) (hsz : szL l ≤ 1048576) (hm : MatR w a l) (ht : sqB l = true → ∀ W', MatR W' a l → Calls Try.prog 138 #[.slice a n cap] W' (fun e w' => e = .returned (.int .i64 x) ∧ W'.Since W'.heap.size w')) :
    Calls Try.prog 71 #[.slice a n cap, .int .i64 2] w (SpecW w (sqB l) x) := by
  have E := isSquare_any a cap n l w hn hsz hm
  cases hs : sqB l with
  | false =>
    rw [hs] at E
    replace E := Lib.hid E
    clear hs hm hn hsz ht
    go_enter Try.func71, Try.ntmps71
    go_wp2_with fail
    refine (E.out).mono ?_
    rintro e w1 ⟨rfl, hd⟩
    have HD := Lib.hid hd
    clear hd
    go_wp2
    go_ret2
    exact ⟨rfl, HD.out⟩
  | true =>
    rw [hs] at E
    replace E := Lib.hid E
    have E2 := Lib.hid (fun (W : World) (hd : w.Since w.heap.size W) => roads_2 W.heap.size a n cap x (W.alloc (.map #[] 0)) (roads_made W) (fun W' hg => ht hs W' (hm.since (hd.trans (since_mono (since_of_map hg) hd.size)))))
    clear hs hm hn hsz ht
    have hmm := @run_makeMap Try.prog
    go_enter Try.func71, Try.ntmps71
    go_wp2_with fail
    refine (E.out).mono ?_
    rintro e w1 ⟨rfl, hd⟩
    have HD := Lib.hid hd
    clear hd
    go_wp2_with fail
    refine (E2.out w1 HD.out).mono ?_
    rintro e w2 ⟨rfl, hg, hr⟩
    have HS2 := Lib.hid (HD.out.trans (since_mono (since_of_map hg) HD.out.size))
    clear hg hr
    go_wp2
    go_ret2
    exact ⟨rfl, HS2.out⟩

set_option maxHeartbeats 400000 in
theorem implValuePivots_of (a : Option Addr) (cap n : Nat) (l : List (List Int)) (x : Int) (w : World) (hn : l.length = n) (hsz : szL l ≤ 1048576) (hm : MatR w a l) (ht : sqB l = true → ∀ W', MatR W' a l → Calls Try.prog 138 #[.slice a n cap] W' (fun e w' => e = .returned (.int .i64 x) ∧ W'.Since W'.heap.size w')) :
    Calls Try.prog 29 #[.slice a n cap] w (SpecW w (sqB l) x) := by
  have E := square_2 a cap n l x w hn hsz hm ht
  unfold SpecW at E ⊢
  generalize (if (sqB l) = true then x else 0) = y at E ⊢
  generalize (sqB l) = b at E ⊢
  replace E := Lib.hid E
  clear hn hsz hm ht
  go_enter Try.func29, Try.ntmps29
  go_wp2_with fail
  refine (E.out).mono ?_
  rintro e w1 ⟨rfl, hd⟩
  go_wp2
  go_ret2
  exact ⟨rfl, hd⟩

set_option maxHeartbeats 800000 in
theorem square_3 (a : Option Addr) (cap n : Nat) (l : List (List Int)) (x : Int) (ok : Bool) (w : World) (hn : l.length = n) (hsz : szL l ≤ 1048576) (hm : MatR w a l) (ht : sqB l = true → ∀ W', MatR W' a l → Calls Try.prog 139 #[.slice a n cap] W' (fun e w' => e = .returned (.tuple #[.int .i64 (if ok then x else 0), .bool ok]) ∧ W'.Since W'.heap.size w')) :
    Calls Try.prog 71 #[.slice a n cap, .int .i64 3] w (SpecW w (sqB l && ok) x) := by
  have E := isSquare_any a cap n l w hn hsz hm
  cases hs : sqB l with
  | false =>
    rw [hs] at E
    replace E := Lib.hid E
    clear hs hm hn hsz ht
    go_enter Try.func71, Try.ntmps71
    go_wp2_with fail
    refine (E.out).mono ?_
    rintro e w1 ⟨rfl, hd⟩
    have HD := Lib.hid hd
    clear hd
    go_wp2
    go_ret2
    exact ⟨rfl, HD.out⟩
  | true =>
    rw [hs] at E
    replace E := Lib.hid E
    have E2 := Lib.hid (fun (W : World) (hd : w.Since w.heap.size W) => roads_3 W.heap.size a n cap (if ok then x else 0) ok (W.alloc (.map #[] 0)) (roads_made W) (fun W' hg => ht hs W' (hm.since (hd.trans (since_mono (since_of_map hg) hd.size)))))
    clear hs hm hn hsz ht
    generalize hy : (if ok = true then x else 0) = y at E2
    have hmm := @run_makeMap Try.prog
    go_enter Try.func71, Try.ntmps71
    go_wp2_with fail
    refine (E.out).mono ?_
    rintro e w1 ⟨rfl, hd⟩
    have HD := Lib.hid hd
    clear hd
    go_wp2_with fail
    refine (E2.out w1 HD.out).mono ?_
    rintro e w2 ⟨rfl, hg, hr⟩
    have HS2 := Lib.hid (HD.out.trans (since_mono (since_of_map hg) HD.out.size))
    clear hg hr
    go_wp2
    go_ret2
    exact ⟨by rw [← hy]; cases ok <;> rfl, HS2.out⟩

end Go.Proofs.Yteaabemnolacdaa
end

section
namespace Go.Proofs.Yteaabemnolacdaa
open Go.RowKit Go.Deep

theorem OwnT.but {lo hi rb : Nat} {w w' : World} {a : Option Addr} {l : List (List Int)} (h : OwnT lo hi w a l) (hb : rb < lo) (hg : w.grownBy w' (some rb)) : MatR w' a l := by
  intro h0
  obtain ⟨b, A, G, C, e, hbl, hr, _⟩ := h h0
  have hc : ∀ (x k : Nat) (v : Value), lo ≤ x → w.cell? ⟨x, k, none⟩ = some v → w'.cell? ⟨x, k, none⟩ = some v := fun x k v hx hv =>
    (World.cell?_of_block (a := ⟨x, k, none⟩) (hg.block x (World.block_lt_of_cell? _ _ hv) (by intro e; injection e with e; omega))).trans hv
  refine ⟨b, 0, A, C, e, fun r hrl => ?_⟩
  obtain ⟨c1, c2⟩ := hr r hrl
  rw [Nat.zero_add]
  refine ⟨hc _ _ _ hbl.1 c1, fun hp => ?_⟩
  obtain ⟨eA, hG, c3⟩ := c2 hp
  exact ⟨G r, 0, eA, fun i hi => by rw [Nat.zero_add]; exact hc _ _ _ hG.1 (c3 i hi).1⟩

theorem since_map (w : World) : w.Since w.heap.size (w.alloc (.map #[] 0)) := (World.Since.refl w.heap.size w).alloc (Nat.le_refl _) _

set_option maxRecDepth 100000 in
set_option maxHeartbeats 2000000 in
theorem implValueMinor_any (a : Option Addr) (cap n : Nat) (l : List (List Int)) (s c : Int) (w : World) (hn : l.length = n) (hsz : szL l ≤ 1048576) (hm : MatR w a l) :
    Calls Try.prog 35 #[.slice a n cap, .int .i64 s, .int .i64 c] w (SpecW w (minorOk l s c) (minorV l s c)) := by
  have E := Lib.hid (implTableIn_any a cap n l w hn hsz hm)
  cases hT : tabIn l with
  | false =>
    have hok : minorOk l s c = false := by unfold minorOk; rw [hT]; rfl
    rw [hT] at E
    rw [hok]
    clear hT hsz hm hn hok
    go_enter Try.func35, Try.ntmps35
    go_wp2_with fail
    refine (E.out).mono ?_
    rintro e w1 ⟨rfl, hd⟩
    have HS := Lib.hid hd
    clear hd
    go_wp2
    go_ret2
    exact ⟨rfl, HS.out⟩
  | true =>
    have hTT := tabIn_of hT
    rw [hT] at E
    have h6 := hTT.2.1
    have h1 := hTT.1
    have hw := hTT.width
    rw [hn] at h6 h1
    have EI := fun (W : World) => isSet_any s n h6 W
    cases hb : inB s 0 (2 ^ n - 1 : Nat) with
    | false =>
      have hok : minorOk l s c = false := by unfold minorOk; rw [hT, hn, hb]; rfl
      rw [hok]
      rw [hb] at EI
      replace EI := Lib.hid EI
      clear hT hsz hm hn hok hTT hb
      go_enter Try.func35, Try.ntmps35
      go_wp2_with fail
      refine (E.out).mono ?_
      rintro e w1 ⟨rfl, hd⟩
      have HS := Lib.hid hd
      clear hd
      go_wp2_with fail
      refine (EI.out w1).mono ?_
      rintro e w2 ⟨rfl, rfl⟩
      go_wp2
      go_ret2
      exact ⟨rfl, HS.out⟩
    | true =>
      have EW := fun (W : World) (h : w.Since w.heap.size W) => width_any a cap n l W hn (by omega) (by omega) (hm.since h)
      obtain ⟨m, hmm⟩ : ∃ m, (l.getD 0 []).length = m := ⟨_, rfl⟩
      rw [hmm] at hw EW
      have EC := fun (W : World) => isSet_any c m hw.2 W
      rw [hb] at EI
      cases hbc : inB c 0 (2 ^ m - 1 : Nat) with
      | false =>
        have hok : minorOk l s c = false := by unfold minorOk; rw [hT, hn, hb, hmm, hbc]; rfl
        rw [hok]
        rw [hbc] at EC
        replace EI := Lib.hid EI
        replace EC := Lib.hid EC
        replace EW := Lib.hid EW
        clear hT hsz hm hn hok hTT hb hbc hmm
        go_enter Try.func35, Try.ntmps35
        go_wp2_with fail
        refine (E.out).mono ?_
        rintro e w1 ⟨rfl, hd⟩
        have HS := Lib.hid hd
        clear hd
        go_wp2_with fail
        refine (EI.out w1).mono ?_
        rintro e w2 ⟨rfl, rfl⟩
        go_wp2_with fail
        refine (EW.out w1 HS.out).mono ?_
        rintro e w2 ⟨rfl, rfl⟩
        go_wp2_with fail
        refine (EC.out w1).mono ?_
        rintro e w2 ⟨rfl, rfl⟩
        go_wp2
        go_ret2
        exact ⟨rfl, HS.out⟩
      | true =>
        rw [hbc] at EC
        have hp6 : 2 ^ n ≤ 2 ^ 6 := Nat.pow_le_pow_right (by omega) h6
        have hp6' : 2 ^ m ≤ 2 ^ 6 := Nat.pow_le_pow_right (by omega) hw.2
        have hpn : 1 ≤ 2 ^ n := Nat.pow_pos (by omega)
        have hpm : 1 ≤ 2 ^ m := Nat.pow_pos (by omega)
        obtain ⟨s', hs', hsl⟩ : ∃ s' : Nat, s = s' ∧ s' < 2 ^ n := by
          simp [inB] at hb
          exact ⟨s.toNat, by omega, by omega⟩
        obtain ⟨c', hc', hcl⟩ : ∃ c' : Nat, c = c' ∧ c' < 2 ^ m := by
          simp [inB] at hbc
          exact ⟨c.toNat, by omega, by omega⟩
        subst hs' hc'
        have EM1 := fun (W : World) => members_any s' (by omega) W
        have EM2 := fun (W : World) => members_any c' (by omega) W
        replace EI := Lib.hid EI
        replace EC := Lib.hid EC
        replace EW := Lib.hid EW
        by_cases hpc : popcS s' = popcS c'
        · have hok : minorOk l s' c' = true := by unfold minorOk; rw [hT, hn, hb, hmm, hbc]; simp [hpc]
          rw [hok]
          have hsq := part_sq hTT (s := s') (c := c') (by rw [hn]; exact hsl) (by rw [hmm]; exact hcl) hpc
          have hv : minorV l s' c' = dt (popcS s') (at2 (partL l s' c')) := by
            unfold minorV
            simp only [Int.toNat_natCast]
            exact ordF_all _ (popcS_le s')
          rw [hv]
          have EP := fun (W : World) (h : w.Since w.heap.size W) => part_any a cap n s' c' l W hn hTT (by omega) (by omega) (hm.since h)
          rw [hsq.1] at EP
          have EV := fun (a2 : Option Addr) (c2 : Nat) (V : World) (h : MatR V a2 (partL l s' c')) => byPivots_any (popcS s') (partL l s' c') a2 c2 V hsq (popcS_le s') h
          rw [← hpc] at EM2
          have hk6 := popcS_le s'
          obtain ⟨L, hL⟩ : ∃ L, L = partL l s' c' := ⟨_, rfl⟩
          obtain ⟨k, hk⟩ : ∃ k, k = popcS s' := ⟨_, rfl⟩
          simp only [← hk] at EM1 EM2 EP EV hk6 ⊢
          simp only [← hL] at EP EV ⊢
          obtain ⟨x, hx⟩ : ∃ x, x = dt k (at2 L) := ⟨_, rfl⟩
          simp only [← hx] at EV ⊢
          replace EM1 := Lib.hid EM1
          replace EM2 := Lib.hid EM2
          replace EP := Lib.hid EP
          replace EV := Lib.hid EV
          have hmk := @run_makeMap Try.prog
          clear hT hsz hm hn hok hTT hb hbc hmm hpc hsq hv hk hL hx
          go_enter Try.func35, Try.ntmps35
          go_wp2_with fail
          refine (E.out).mono ?_
          rintro e w1 ⟨rfl, hd⟩
          have HS := Lib.hid hd
          clear hd
          go_wp2_with fail
          refine (EI.out w1).mono ?_
          rintro e w2 ⟨rfl, rfl⟩
          go_wp2_with fail
          refine (EW.out w1 HS.out).mono ?_
          rintro e w2 ⟨rfl, rfl⟩
          go_wp2_with fail
          refine (EC.out w1).mono ?_
          rintro e w2 ⟨rfl, rfl⟩
          go_wp2_with fail
          refine (EM1.out w1).mono ?_
          rintro e w2 ⟨rfl, rfl⟩
          go_wp2_with fail
          refine (EM2.out w1).mono ?_
          rintro e w2 ⟨rfl, rfl⟩
          go_wp2_with fail
          refine (EP.out _ (HS.out.trans (since_mono (since_map w1) HS.out.size))).mono ?_
          rintro e w3 ⟨a3, c3, rfl, hs3, ho3⟩
          have HR := Lib.hid ((roads_made w1).kept (grown_of_since (row := none) hs3) (by simp))
          have HS3 := Lib.hid (HS.out.trans (since_mono ((since_map w1).trans (since_mono hs3 (by simp))) HS.out.size))
          have HA := Lib.hid (anyValue_of w1.heap.size a3 k c3 x w3 HR.out (fun W' hg => EV.out a3 c3 W' (ho3.but (rb := w1.heap.size) (by simp) hg)))
          have hlt : w.heap.size ≤ w1.heap.size := HS.out.size
          have HSP := Lib.hid (fun (w4 : World) (hg : w3.grownBy w4 (some w1.heap.size)) => (show w.Since w.heap.size w4 from ⟨hg.os.trans HS3.out.os, hg.tape.trans HS3.out.tape, hg.output.trans HS3.out.output, Nat.le_trans HS3.out.size hg.size, fun j hj => (hg.block j (Nat.lt_of_lt_of_le hj HS3.out.size) (by intro e; injection e with e; omega)).trans (HS3.out.block j hj)⟩))
          clear hs3 ho3
          go_wp2_with fail
          refine (HA.out).mono ?_
          rintro e w4 ⟨rfl, hg, hr⟩
          have HS4 := Lib.hid (HSP.out w4 hg)
          clear hg hr
          go_wp2
          go_ret2
          exact ⟨rfl, HS4.out⟩
        · have hok : minorOk l s' c' = false := by unfold minorOk; rw [hT, hn, hb, hmm, hbc]; simp [hpc]
          rw [hok]
          obtain ⟨x1, hx1⟩ : ∃ x, x = popcS s' := ⟨_, rfl⟩
          obtain ⟨x2, hx2⟩ : ∃ x, x = popcS c' := ⟨_, rfl⟩
          have hne : ((x1 : Int) != (x2 : Int)) = true := by simp; omega
          simp only [← hx1] at EM1
          simp only [← hx2] at EM2
          replace EM1 := Lib.hid EM1
          replace EM2 := Lib.hid EM2
          clear hT hsz hm hn hok hTT hb hbc hmm hpc hx1 hx2
          go_enter Try.func35, Try.ntmps35
          go_wp2_with fail
          refine (E.out).mono ?_
          rintro e w1 ⟨rfl, hd⟩
          have HS := Lib.hid hd
          clear hd
          go_wp2_with fail
          refine (EI.out w1).mono ?_
          rintro e w2 ⟨rfl, rfl⟩
          go_wp2_with fail
          refine (EW.out w1 HS.out).mono ?_
          rintro e w2 ⟨rfl, rfl⟩
          go_wp2_with fail
          refine (EC.out w1).mono ?_
          rintro e w2 ⟨rfl, rfl⟩
          go_wp2_with fail
          refine (EM1.out w1).mono ?_
          rintro e w2 ⟨rfl, rfl⟩
          go_wp2_with fail
          refine (EM2.out w1).mono ?_
          rintro e w2 ⟨rfl, rfl⟩
          go_wp2
          go_ret2
          exact ⟨rfl, HS.out⟩

end Go.Proofs.Yteaabemnolacdaa
end

section
namespace Go.Proofs.Yteaabemnolacdaa
open Go.RowKit Go.Deep

set_option maxRecDepth 100000 in
set_option maxHeartbeats 2000000 in
theorem otherEntry_any (pr ps rb i k n cap : Nat) (a : Option Addr) (l : List (List Int)) (W : World) (hn : l.length = n) (hT : TabIn l) (hw : (l.getD 0 []).length = n) (hi : i < n) (hk : k < n)
    (h2 : W.cell? ⟨pr, 0, none⟩ = some (.map (some rb))) (h3 : W.cell? ⟨ps, 0, none⟩ = some (.slice a n cap)) (hm : MatR W a l) (hr : RoadsAt W rb) (hn1 : pr ≠ rb) (hn2 : ps ≠ rb) :
    Calls Try.prog 96 #[.int .i64 i, .int .i64 k, .pointer (some ⟨pr, 0, none⟩), .pointer (some ⟨ps, 0, none⟩)] W fun e w' => e = .returned (.int .i64 (othF l n i k)) ∧ W.grownBy w' (some rb) ∧ RoadsAt w' rb := by
  have h6 := hT.2.1
  rw [hn] at h6
  have ES := fun (V : World) => signOf_any (i + k) (by omega) V
  rw [show ((i + k : Nat) : Int) = (i : Int) + k by omega] at ES
  have EP := fun (V : World) (h : W.Since W.heap.size V) => without_any a cap n k i l V hn hT hw hk hi (hm.since h)
  have hbl := but_lt ⟨n, by omega⟩ ⟨k, by omega⟩ hk
  have hbl' := but_lt ⟨n, by omega⟩ ⟨i, by omega⟩ hi
  have hbp := popcS_but ⟨n, by omega⟩ ⟨k, by omega⟩ hk
  have hbp' := popcS_but ⟨n, by omega⟩ ⟨i, by omega⟩ hi
  simp only at hbl hbl' hbp hbp'
  have hsq := part_sq hT (s := 2 ^ n - 1 - 2 ^ k) (c := 2 ^ n - 1 - 2 ^ i) (by rw [hn]; exact hbl.1) (by rw [hw]; exact hbl'.1) (by rw [hbp, hbp'])
  rw [hbp] at hsq
  have hfb : -(34012224000000 : Int) ≤ ordF (partL l (2 ^ n - 1 - 2 ^ k) (2 ^ n - 1 - 2 ^ i)) (n - 1) (n - 1) 0 ∧ ordF (partL l (2 ^ n - 1 - 2 ^ k) (2 ^ n - 1 - 2 ^ i)) (n - 1) (n - 1) 0 ≤ 34012224000000 := by
    by_cases h0 : 1 ≤ n - 1
    · have hb := ordF_bd (hsq.2 h0).1 hsq.1 (hsq.2 h0).2 (n - 1) (Nat.le_refl _) 0
      have := p180_le (n - 1) (by omega)
      omega
    · rw [show n - 1 = 0 by omega, ordF_zero]; omega
  have hv : othF l n i k = sn (i + k) * ordF (partL l (2 ^ n - 1 - 2 ^ k) (2 ^ n - 1 - 2 ^ i)) (n - 1) (n - 1) 0 := by unfold othF; rw [sg_sn]
  rw [ordF_all _ (by omega)] at hv hfb
  rw [hv]
  simp only [hsq.1] at EP
  obtain ⟨L, hL⟩ : ∃ L, L = partL l (2 ^ n - 1 - 2 ^ k) (2 ^ n - 1 - 2 ^ i) := ⟨_, rfl⟩
  rw [← hL] at hsq hfb ⊢
  simp only [← hL] at EP
  have EV := fun (a2 : Option Addr) (c2 : Nat) (V : World) (h : MatR V a2 L) => byPivots_any (n - 1) L a2 c2 V hsq (by omega) h
  obtain ⟨n1, hnn⟩ : ∃ m, m = n - 1 := ⟨_, rfl⟩
  rw [← hnn] at hfb ⊢
  simp only [← hnn] at EV EP
  obtain ⟨x, hx⟩ : ∃ x, x = dt n1 (at2 L) := ⟨_, rfl⟩
  rw [← hx] at hfb ⊢
  simp only [← hx] at EV
  have hwx : IntKind.i64.wrap (sn (i + k) * x) = sn (i + k) * x := IntWalk.i64_in _ (by unfold sn; split <;> (constructor <;> omega))
  obtain ⟨s, hs⟩ : ∃ s, s = sn (i + k) := ⟨_, rfl⟩
  rw [← hs] at hwx ⊢
  simp only [← hs] at ES
  replace ES := Lib.hid ES
  replace EP := Lib.hid EP
  replace EV := Lib.hid EV
  have HR := Lib.hid hr
  have hlt := hr.lt
  clear hr hm hn hT hw hsq hfb hv hL hx hs hbl hbl' hbp hbp' hnn
  go_enter Try.func96, Try.ntmps96
  have hwik : IntKind.i64.wrap ((i : Int) + k) = (i : Int) + k := IntWalk.i64_in _ ⟨by omega, by omega⟩
  have l2 : pr < W.heap.size := World.block_lt_of_cell? _ _ h2
  have l3 : ps < W.heap.size := World.block_lt_of_cell? _ _ h3
  go_wp2
  go_region_held3 (fun w' => w'.cell? ⟨pr, 0, none⟩ = some (.map (some rb)) ∧ w'.cell? ⟨ps, 0, none⟩ = some (.slice a n cap)) (first | exact ⟨h2, h3⟩)
    (first
      | (go_at_call 97; refine (ES.out _).mono ?_; rintro e w' ⟨rfl, rfl⟩)
      | (go_at_call 98; refine (EP.out _ ?_).mono ?_; (exact (World.Since.refl _ _).drew); rintro e w3 ⟨a3, c3, rfl, hs3, ho3⟩; have hs3 : W.Since W.heap.size w3 := since_of_drew hs3; have h2 := (hs3.cell (a := ⟨pr, 0, none⟩) l2).trans h2; have h3 := (hs3.cell (a := ⟨ps, 0, none⟩) l3).trans h3; have HR3 := Lib.hid (HR.out.kept (grown_of_since (row := none) hs3) (by simp)); have HG3 := Lib.hid (grown_of_since (row := some rb) hs3); have ho3 : OwnT W.heap.size w3.heap.size w3 a3 L := ho3; have HA := Lib.hid (anyValue_of rb a3 n1 c3 x w3 HR3.out (fun W' hg => EV.out a3 c3 W' (ho3.but hlt hg))); clear hs3 ho3)
      | (go_at_call 89; refine (HA.out).mono ?_; rintro e w4 ⟨rfl, hg, hr⟩; have h2 := (World.cell?_of_block (a := ⟨pr, 0, none⟩) (hg.block pr (World.block_lt_of_cell? _ _ h2) (by intro e; injection e with e; exact hn1 e))).trans h2; have h3 := (World.cell?_of_block (a := ⟨ps, 0, none⟩) (hg.block ps (World.block_lt_of_cell? _ _ h3) (by intro e; injection e with e; exact hn2 e))).trans h3; have HG4 := Lib.hid (HG3.out.trans hg); have HR4 := Lib.hid hr; clear hg hr))
  all_goals
    go_wp2
    go_ret
    exact ⟨rfl, HG4.out, HR4.out⟩

set_option maxRecDepth 100000 in
set_option maxHeartbeats 2000000 in
theorem implValueOther_any (a : Option Addr) (cap n : Nat) (l : List (List Int)) (w : World) (hn : l.length = n) (hsz : szL l ≤ 1048576) (hm : MatR w a l) :
    Calls Try.prog 39 #[.slice a n cap] w (ImplT w (sqB l) (tabF n n (othF l n))) := by
  obtain ⟨W0, hW0⟩ : ∃ W0, W0 = ((w.alloc (.map #[] 0)).alloc (.cells #[.slice a n cap] 53)).alloc (.cells #[.map (some w.heap.size)] 69) := ⟨_, rfl⟩
  have hS0 : w.Since w.heap.size W0 := by rw [hW0]; exact (((World.Since.refl w.heap.size w).alloc (Nat.le_refl _) _).alloc (by simp) _).alloc (by simp; omega) _
  have hz0 : W0.heap.size = w.heap.size + 1 + 1 + 1 := by rw [hW0]; simp
  have hr0 : RoadsAt W0 w.heap.size := by rw [hW0]; exact ((roads_made w).kept (World.grownBy_alloc _ _ none) (by simp)).kept (World.grownBy_alloc _ _ none) (by simp)
  have c1 := cell_new_l (w.alloc (.map #[] 0)) (.slice a n cap) 53
  have c2 := cell_new_l ((w.alloc (.map #[] 0)).alloc (.cells #[.slice a n cap] 53)) (.map (some w.heap.size)) 69
  simp only [World.size_alloc] at c1 c2
  have k1 : W0.cell? ⟨w.heap.size + 1, 0, none⟩ = some (.slice a n cap) := by rw [hW0]; exact cell_alloc_l _ c1.1
  have k2 : W0.cell? ⟨w.heap.size + 1 + 1, 0, none⟩ = some (.map (some w.heap.size)) := by rw [hW0]; exact c2.1
  have E := isSquare_any a cap n l W0 hn hsz (hm.since hS0)
  have hmk := @run_makeMap Try.prog
  cases hs : sqB l with
  | false =>
    rw [hs] at E
    replace E := Lib.hid E
    have HS := Lib.hid hS0
    clear hs hm hn hsz c1 c2 k1 k2 hr0 hz0 hS0
    go_enter Try.func39, Try.ntmps39
    go_wp2_with fail
    rw [← hW0]
    refine (E.out).mono ?_
    rintro e w1 ⟨rfl, hd⟩
    have HD := Lib.hid (HS.out.trans (since_mono hd HS.out.size))
    clear hd
    go_wp2
    go_ret2
    exact ⟨none, 0, rfl, HD.out, OwnT.nil _ _ _ _⟩
  | true =>
    rw [hs] at E
    replace E := Lib.hid E
    obtain ⟨hT, hw⟩ := sqB_of hs
    rw [hn] at hw
    have h6 := hT.2.1
    rw [hn] at h6
    have ENT := Lib.hid (fun (W1 : World) (hd : W0.Since W0.heap.size W1) =>
      newTableX_any (some w.heap.size) (fun W => RoadsAt W w.heap.size) 96 #[.pointer (some ⟨w.heap.size + 1 + 1, 0, none⟩), .pointer (some ⟨w.heap.size + 1, 0, none⟩)] n n (othF l n) W1 (by omega) (by omega) (enters_of Try.func96 (by kernel_rfl) rfl)
        (fun r e => by injection e with e; have := hd.size; omega) (fun W W' g h1 h2 h3 => h1.kept h3 (by intro e; injection e with e; have := hd.size; omega)) (hr0.kept (grown_of_since (row := none) hd) (by simp))
        (fun W i k hg hI hi hk => otherEntry_any (w.heap.size + 1 + 1) (w.heap.size + 1) w.heap.size i k n cap a l W hn hT hw.symm hi hk
          ((World.cell?_of_block (a := ⟨w.heap.size + 1 + 1, 0, none⟩) (hg.block _ (by have := hd.size; show w.heap.size + 1 + 1 < _; omega) (by intro e; injection e with e; simp only at e; omega))).trans ((hd.cell (a := ⟨w.heap.size + 1 + 1, 0, none⟩) (World.block_lt_of_cell? _ _ k2)).trans k2))
          ((World.cell?_of_block (a := ⟨w.heap.size + 1, 0, none⟩) (hg.block _ (by have := hd.size; show w.heap.size + 1 < _; omega) (by intro e; injection e with e; simp only at e; omega))).trans ((hd.cell (a := ⟨w.heap.size + 1, 0, none⟩) (World.block_lt_of_cell? _ _ k1)).trans k1))
          (hm.since (hS0.trans (⟨hg.os.trans hd.os, hg.tape.trans hd.tape, hg.output.trans hd.output, Nat.le_trans (by have := hd.size; omega) (Nat.le_trans hd.size hg.size), fun j hj => (hg.block j (by have := hd.size; omega) (by intro e; injection e with e; omega)).trans (hd.block j (by omega))⟩ : W0.Since w.heap.size W))) hI (by omega) (by omega)))
    have HS := Lib.hid hS0
    have HZ := Lib.hid hz0
    have K1 := Lib.hid k1
    clear hs hm hn hsz c1 c2 k1 k2 hr0 hz0 hS0 hT hw
    go_enter Try.func39, Try.ntmps39
    go_wp2_with fail
    rw [← hW0]
    refine (E.out).mono ?_
    rintro e w1 ⟨rfl, hd⟩
    have HD := Lib.hid hd
    clear hd
    go_wp2_with fail
    refine (ENT.out w1 HD.out).mono ?_
    rintro e w2 ⟨rfl, hg, ho⟩
    have hs2 : w.Since w.heap.size w2 := ⟨hg.1.os.trans (HD.out.os.trans HS.out.os), hg.1.tape.trans (HD.out.tape.trans HS.out.tape), hg.1.output.trans (HD.out.output.trans HS.out.output), by have h1 := hg.1.size; have h2 := HD.out.size; have h3 := HZ.out; omega, fun j hj => (hg.1.block j (by have h2 := HD.out.size; have h3 := HZ.out; omega) (by intro e; injection e with e; omega)).trans ((HD.out.block j (by have h3 := HZ.out; omega)).trans (HS.out.block j hj))⟩
    have HS2 := Lib.hid hs2
    have HO := Lib.hid (ho.mono (show w.heap.size ≤ w1.heap.size by have h2 := HD.out.size; have h3 := HZ.out; omega) (Nat.le_refl _))
    clear hs2 ho hg
    go_wp2
    go_ret2
    exact ⟨_, n, by rw [show (resT true (tabF n n (othF l n))).length = n from tabF_length _ _ _]; rfl, HS2.out, HO.out⟩

end Go.Proofs.Yteaabemnolacdaa
end

section
namespace Go.Proofs.Yteaabemnolacdaa
open Go.RowKit Go.Deep

theorem MatR.gridR {w : World} {a : Option Addr} {l : List (List Int)} {n m : Nat} (h : MatR w a l) (hn : l.length = n) (hT : Rec l) (hm : (l.getD 0 []).length = m) :
    ∃ (b o : Nat) (A : Nat → Option Addr) (C : Nat → Nat), a = some ⟨b, o, none⟩ ∧ (∀ i, i < n → w.cell? ⟨b, o + i, none⟩ = some (.slice (A i) m (C i))) ∧
      ∀ i j, i < n → j < m → ∃ b' o', w.cell? ⟨b, o + i, none⟩ = some (.slice (some ⟨b', o', none⟩) m (C i)) ∧ w.cell? ⟨b', o' + j, none⟩ = some (.int .i64 (at2 l i j)) := by
  subst hn
  have hrow : ∀ r, r < l.length → (l.getD r []).length = m := fun r hr => by rw [hT.row hr, hm]
  obtain ⟨b, o, A, C, e, hc⟩ := h hT.low
  refine ⟨b, o, A, C, e, fun i hi => by rw [(hc i hi).1, hrow i hi], fun i j hi hj => ?_⟩
  obtain ⟨hc1, hc2⟩ := hc i hi
  have hrl := hrow i hi
  obtain ⟨b', o', e', h3⟩ := hc2 (by omega)
  rw [e', hrl] at hc1
  exact ⟨b', o', hc1, h3 j (by omega)⟩

set_option maxRecDepth 100000 in
set_option maxHeartbeats 4000000 in
theorem productR_any (a a2 : Option Addr) (cap cap2 n n2 : Nat) (l u : List (List Int)) (w : World) (hn : l.length = n) (hu : u.length = n2) (hm : MatR w a l) (hmu : MatR w a2 u) (hT : Rec l) (hTu : Rec u) (hmm : (l.getD 0 []).length = n2) (hB : ∀ i j k, i < n → j < n2 → k < (u.getD 0 []).length → -1000000000000 ≤ at2 l i j * at2 u j k ∧ at2 l i j * at2 u j k ≤ 1000000000000) :
    Calls Try.prog 41 #[.slice a n cap, .slice a2 n2 cap2] w fun e w' => ∃ a' cap', e = .returned (.slice a' n cap') ∧ w.Since w.heap.size w' ∧ OwnT w.heap.size w'.heap.size w' a' (makeL l u) := by
  obtain ⟨i42, hi42⟩ := info42_parts
  have HI := Lib.hid hi42
  clear hi42
  have hst := bt_start w (fun _ => none) (fun _ => 0) #[] rfl
  have h6 := hT.high
  have h1 := hT.low
  have g6 := hTu.high
  have g1 := hTu.low
  have gw := hTu.width
  rw [hn] at h6 h1
  rw [hu] at g6 g1
  obtain ⟨m2, hmm2⟩ : ∃ m, (u.getD 0 []).length = m := ⟨_, rfl⟩
  have htl : makeL l u = makeTo l u m2 n2 n := by unfold makeL makeTo; rw [hmm2, hn, hu]
  rw [hmm2] at gw hB
  have HB := Lib.hid hB
  clear hB
  rw [htl]
  have hmk := run_make_row' (P := Try.prog) 36 3 (.int .i64 0) 8 Try.underlying36 Try.info3 rfl .i64 .i64 m2 (by omega) (by omega)
  obtain ⟨bt, ot, At, Ct, rfl, hlen, hcell⟩ := hm.gridR hn hT hmm
  obtain ⟨bu, ou, Au, Cu, rfl, hlenu, hcellu⟩ := hmu.gridR hu hTu hmm2
  have hcu0 := hlenu 0 (by omega)
  rw [Nat.add_zero] at hcu0
  have hbul : bu < w.heap.size := World.block_lt_of_cell? _ _ hcu0
  have HC := Lib.hid hcell
  have HCU := Lib.hid hcellu
  have HCU0 := Lib.hid hcu0
  have HMK := Lib.hid hmk
  have hmix : Try.prog.follows .mixedOrders = true := by kernel_rfl
  clear hm hn hmm hlen hcell hT hmu hTu hlenu hcellu hu hmm2 htl hcu0 hmk
  go_enter Try.func41, Try.ntmps41
  go_wp2
  go_loopg [5, 6, 7, 8, 9] n (fun g v i _ _ _ wr => ∃ r : Nat, ∃ A C, r ≤ n ∧ g = n - r ∧ i = .int .i64 r ∧ BT w wr v (makeTo l u m2 n2 r) A C)
  case atStart => exact ⟨0, _, _, Nat.zero_le _, rfl, rfl, hst⟩
  case round =>
    obtain ⟨r, A, C, hr, rfl, rfl, hR⟩ := hrel
    clear hst
    by_cases hlt : r < n
    · have HR := Lib.hid hR
      have hsz := hR.since.size
      have hlen := makeTo_length l u m2 n2 r
      have hc0 := HCU0.out
      rw [← hR.since.cell (a := ⟨bu, ou, none⟩) hbul] at hc0
      have hmr := mr_start wr m2 (dotF l u r) n2
      have HMR := Lib.hid hmr
      have hmk := HMK.out
      obtain ⟨wo, hwo⟩ : ∃ wo : World, wo = wr := ⟨_, rfl⟩
      clear hR hmr
      go_wp2
      clear hmk hc0
      subst hwo
      obtain ⟨g, hg⟩ : ∃ g, wo.heap.size = g := ⟨_, rfl⟩
      rw [hg]
      have HG := Lib.hid hg
      have hwg : w.heap.size ≤ g := by omega
      clear hg
      go_loopg [8, 9] m2 (fun g k _ wi => ∃ c : Nat, c ≤ m2 ∧ g = m2 - c ∧ k = .int .i64 c ∧ MR wo wi m2 (dotF l u r) n2 c 0)
      case atStart => exact ⟨0, Nat.zero_le _, rfl, rfl, HMR.out⟩
      case round =>
        obtain ⟨c, hc, rfl, rfl, hI⟩ := hrel
        clear HMR
        have hS := HR.out.since.trans (since_mono hI.since hsz)
        have hc0 := HCU0.out
        rw [← hS.cell (a := ⟨bu, ou, none⟩) hbul] at hc0
        by_cases hcm : c < m2
        · have HII := Lib.hid hI
          clear hI hS
          go_wp2
          clear hc0
          go_loopg [9] n2 (fun g j wj => ∃ j' : Nat, j' ≤ n2 ∧ g = n2 - j' ∧ j = .int .i64 j' ∧ MR wo wj m2 (dotF l u r) n2 c j')
          case atStart => exact ⟨0, Nat.zero_le _, rfl, rfl, HII.out⟩
          case round =>
            obtain ⟨j, hj, rfl, rfl, hJ⟩ := hrel
            clear HII
            by_cases hjn : j < n2
            · obtain ⟨b1, o1, e1, e2⟩ := HC.out r j hlt hjn
              obtain ⟨d1, q1, f1, f2⟩ := HCU.out j c hjn hcm
              have hS := HR.out.since.trans (since_mono hJ.since hsz)
              obtain ⟨k1, k2⟩ := hJ.facts hcm
              have hzz := HR.out.since.size
              have hb1 : bt < w.heap.size := World.block_lt_of_cell? _ _ e1
              have hb2 : b1 < w.heap.size := World.block_lt_of_cell? _ _ e2
              have hb4 : d1 < w.heap.size := World.block_lt_of_cell? _ _ f2
              rw [← hS.cell (a := ⟨bt, ot + r, none⟩) hb1] at e1
              rw [← hS.cell (a := ⟨b1, o1 + j, none⟩) hb2] at e2
              rw [← hS.cell (a := ⟨bu, ou + j, none⟩) hbul] at f1
              rw [← hS.cell (a := ⟨d1, q1 + c, none⟩) hb4] at f2
              have hbd := sumN_bdB (f := dotF l u r c) (B := 1000000000000) j (fun j' hj' => HB.out r j' c hlt (by omega) hcm)
              have hpq := HB.out r j c hlt hjn hcm
              have hsu : sumN (dotF l u r c) (j + 1) = sumN (dotF l u r c) j + at2 l r j * at2 u j c := rfl
              have hN := fun q => hJ.store q hcm
              rw [hsu] at hN
              obtain ⟨p, hp⟩ : ∃ p, at2 l r j = p := ⟨_, rfl⟩
              obtain ⟨q, hq⟩ : ∃ q, at2 u j c = q := ⟨_, rfl⟩
              obtain ⟨s, hs⟩ : ∃ s, sumN (dotF l u r c) j = s := ⟨_, rfl⟩
              rw [hp] at e2 hpq hN
              rw [hq] at f2 hpq hN
              rw [hs] at k1 hbd hN
              have hw1 : IntKind.i64.wrap (p * q) = p * q := IntWalk.i64_in _ ⟨by omega, by omega⟩
              have hw2 : IntKind.i64.wrap (s + p * q) = s + p * q := IntWalk.i64_in _ ⟨by omega, by omega⟩
              rw [HG.out] at k1 k2 hN
              have m1 := cell_set_ne (g := g) (j := c) (v := .int .i64 (s + p * q)) e1 (show bt ≠ g by omega)
              have m2' := cell_set_ne (g := g) (j := c) (v := .int .i64 (s + p * q)) e2 (show b1 ≠ g by omega)
              have m3 := cell_set_ne (g := g) (j := c) (v := .int .i64 (s + p * q)) f1 (show bu ≠ g by omega)
              have m4 := cell_set_ne (g := g) (j := c) (v := .int .i64 (s + p * q)) f2 (show d1 ≠ g by omega)
              have HN := Lib.hid (hN 1)
              clear hN hJ hp hq hs hsu hS hbd
              go_wp2
              go_still_tail 22, hmix
              go_wp2
              go_roundg (n2 - (j + 1))
              case measure => omega
              case rel => exact ⟨j + 1, by omega, rfl, by go_num, HN.out⟩
            · have hjj : j = n2 := by omega
              subst hjj
              have HNN := Lib.hid hJ.next
              clear hJ
              go_wp2
              go_roundg (m2 - (c + 1))
              case measure => omega
              case rel => exact ⟨c + 1, by omega, rfl, by go_num, HNN.out⟩
        · have hcc : c = m2 := by omega
          subst hcc
          have HII := Lib.hid hI
          have hzi := hI.since.size
          clear hI hS
          go_wp2_with (at_builtin; (refine wpList_append_own _ rfl _ _ 24 rfl w.heap.size 36 i42 (.slice none 0 0) 1 24 Try.underlying24 HI.out.1 HI.out.2.1 HI.out.2.2.1 HI.out.2.2.2 rfl (by decide) _ _ _ rfl ((HR.out.later HII.out.since).own.alloc _) ⟨wr.heap.size, 0, none⟩ 1 1 [.slice (some ⟨g, 0, none⟩) c c] rfl rfl (cell_one_at _ _ _ rfl) (fun x hx => by simp at hx; subst hx; rfl) (by unfold maxLen; omega) (by omega) (by simp; omega) ?_); intro v' w1 hown' hgrow _)
          have hP := (HR.out.later HII.out.since).push (rv := .slice (some ⟨g, 0, none⟩) c c) (x := (List.range c).map fun k => sumN (dotF l u r k) n2) (a := some ⟨g, 0, none⟩) (cp := c) (by simp)
            (fun _ => ⟨g, rfl, hwg, by rw [← HG.out]; exact HII.out.rowB⟩) (fun _ => HR.out.fresh rfl (by rw [HG.out]; exact Nat.le_refl _)) hown' hgrow
          rw [← makeTo_succ] at hP
          have HP := Lib.hid hP
          clear hP hown' hgrow hlen
          go_roundg (n - (r + 1))
          case measure => omega
          case rel => exact ⟨r + 1, _, _, by omega, rfl, by go_num, HP.out⟩
    · have : r = n := by omega
      subst this
      obtain ⟨a, cap, rfl, hin⟩ := hR.ownT
      have HS := Lib.hid hR.since
      clear hR
      go_wp2
      go_ret
      exact ⟨a, cap, by show Ending.returned (.slice a (makeTo l u m2 n2 r).length cap) = _; rw [makeTo_length], HS.out, hin⟩

end Go.Proofs.Yteaabemnolacdaa
end

section
namespace Go.Proofs.Yteaabemnolacdaa
open Go.RowKit Go.Deep

set_option maxHeartbeats 1000000 in
theorem sameInts_same (a b : Option Addr) (ca cb n : Nat) (l : List Int) (w : World) (hn : l.length = n) (h63 : n ≤ 9223372036854775807) (ha : RowR w a l) (hb : RowR w b l) :
    Calls Try.prog 67 #[.slice a n ca, .slice b n cb] w fun e w' => e = .returned (.bool true) ∧ Drawn w w' := by
  have H := Lib.hid hn; clear hn
  go_enter Try.func67, Try.ntmps67
  go_wp2
  go_loopg [5] n (fun g i wr => ∃ k : Nat, k ≤ n ∧ g = n - k ∧ i = .int .i64 k ∧ Drawn w wr)
  case atStart => exact ⟨0, Nat.zero_le _, rfl, rfl, Drawn.refl w⟩
  case round =>
    obtain ⟨k, hk, rfl, rfl, hD⟩ := hrel
    by_cases hlt : k < n
    · obtain ⟨b1, o1, rfl, hc1⟩ := ha (by rw [H.out]; omega)
      obtain ⟨b2, o2, rfl, hc2⟩ := hb (by rw [H.out]; omega)
      have c1 := hc1 k (by rw [H.out]; exact hlt)
      have c2 := hc2 k (by rw [H.out]; exact hlt)
      obtain ⟨x, hx⟩ : ∃ x, x = l.getD k 0 := ⟨_, rfl⟩
      rw [← hx] at c1 c2
      rw [← hD.cell] at c1 c2
      clear hx hc1 hc2 ha hb
      go_wp2
      go_quiet (fail)
      go_wp2
      go_roundg (n - (k + 1))
      case measure => omega
      case rel => exact ⟨k + 1, by omega, rfl, by go_num, hD.trans (Drawn.mk _ _)⟩
    · go_wp2
      go_ret
      exact ⟨rfl, hD⟩

set_option maxHeartbeats 1000000 in
theorem sameRows_same (a b : Option Addr) (ca cb n : Nat) (l : List (List Int)) (w : World) (hn : l.length = n) (h63 : n ≤ 9223372036854775807) (hl : ∀ r, r < l.length → (l.getD r []).length ≤ 9223372036854775807)
    (ha : MatR w a l) (hb : MatR w b l) :
    Calls Try.prog 19 #[.slice a n ca, .slice b n cb] w fun e w' => e = .returned (.bool true) ∧ Drawn w w' := by
  have H := Lib.hid hn; clear hn
  go_enter Try.func19, Try.ntmps19
  go_wp2
  go_loopg [5] n (fun g i wr => ∃ k : Nat, k ≤ n ∧ g = n - k ∧ i = .int .i64 k ∧ Drawn w wr)
  case atStart => exact ⟨0, Nat.zero_le _, rfl, rfl, Drawn.refl w⟩
  case round =>
    obtain ⟨k, hk, rfl, rfl, hD⟩ := hrel
    by_cases hlt : k < n
    · obtain ⟨b1, o1, A1, C1, rfl, hc1⟩ := ha (by rw [H.out]; omega)
      obtain ⟨b2, o2, A2, C2, rfl, hc2⟩ := hb (by rw [H.out]; omega)
      obtain ⟨c1, r1⟩ := hc1 k (by rw [H.out]; exact hlt)
      obtain ⟨c2, r2⟩ := hc2 k (by rw [H.out]; exact hlt)
      have hlk := hl k (by rw [H.out]; exact hlt)
      obtain ⟨x, hx⟩ : ∃ x, x = l.getD k [] := ⟨_, rfl⟩
      rw [← hx] at c1 c2 r1 r2 hlk
      obtain ⟨m, hm⟩ : ∃ m, x.length = m := ⟨_, rfl⟩
      rw [hm] at c1 c2 hlk
      have HM := Lib.hid hm
      clear hx hc1 hc2 ha hb hl hm
      have r1 := r1.drawn hD
      have r2 := r2.drawn hD
      rw [← hD.cell] at c1 c2
      have e1 := fun (p : Nat) => sameInts_same (A1 k) (A2 k) (C1 k) (C2 k) m x (wr.drewN p) HM.out hlk r1 r2
      have E1 := Lib.hid e1; clear e1 r1 r2
      go_wp2
      go_quiet ((go_at_call 67; exact Calls.quiet_of (E1.out _)))
      go_wp2
      go_roundg (n - (k + 1))
      case measure => omega
      case rel => exact ⟨k + 1, by omega, rfl, by go_num, hD.trans (Drawn.mk _ _)⟩
    · go_wp2
      go_ret
      exact ⟨rfl, hD⟩

end Go.Proofs.Yteaabemnolacdaa
end

section
namespace Go.Proofs.Yteaabemnolacdaa
open Go.RowKit Go.Deep

theorem szL_of {l : List (List Int)} {n k : Nat} (h1 : l.length ≤ n) (h2 : ∀ j, j < l.length → (l.getD j []).length ≤ k) (hnk : n * k + n ≤ 1048576) : szL l ≤ 1048576 := by
  have h3 := sumTo_le_mul l k h2 l.length (Nat.le_refl _)
  have h4 : l.length * k ≤ n * k := Nat.mul_le_mul_right _ h1
  have h5 : k * l.length = l.length * k := Nat.mul_comm _ _
  unfold szL
  omega
theorem rows_le {l : List (List Int)} (h : szL l ≤ 1048576) : ∀ r, r < l.length → (l.getD r []).length ≤ 9223372036854775807 := fun r hr => by
  have := row_le l hr
  unfold szL at h
  omega

theorem tab_self {l : List (List Int)} {n m : Nat} (hn : l.length = n) (hm : ∀ r, r < n → (l.getD r []).length = m) : tabF n m (at2 l) = l := by
  refine List.ext_getElem (by rw [tabF_length, hn]) fun r h1 h2 => ?_
  have hr : r < n := by rw [tabF_length] at h1; exact h1
  have e1 : (tabF n m (at2 l))[r] = (tabF n m (at2 l)).getD r [] := by simp [List.getD, h1]
  have e2 : l[r] = l.getD r [] := by simp [List.getD, h2]
  rw [e1, e2, tabF_get _ _ _ _ hr]
  refine List.ext_getElem (by rw [List.length_map, List.length_range, hm r hr]) fun k h3 h4 => ?_
  rw [List.getElem_map, List.getElem_range]
  unfold at2
  obtain ⟨x, hx⟩ : ∃ x, x = l.getD r [] := ⟨_, rfl⟩
  subst hx
  generalize l.getD r [] = x at *
  simp [List.getD, h4]

theorem turnL_turnL {l : List (List Int)} (hT : TabIn l) : turnL (turnL l) = l := by
  have h1 := hT.1
  have hw := hT.width
  have e0 : ((turnL l).getD 0 []).length = l.length := tabF_len _ _ _ _ hw.1
  have e1 : turnL (turnL l) = tabF l.length (l.getD 0 []).length fun k i => at2 (turnL l) i k := by
    show tabF ((turnL l).getD 0 []).length (turnL l).length _ = _
    rw [e0, turnL_length]
  rw [e1]
  have e2 : tabF l.length (l.getD 0 []).length (fun k i => at2 (turnL l) i k) = tabF l.length (l.getD 0 []).length (at2 l) := by
    unfold tabF
    refine List.map_congr_left fun r hr => List.map_congr_left fun k hk => ?_
    exact tabF_at _ _ _ _ _ (List.mem_range.1 hk) (List.mem_range.1 hr)
  rw [e2]
  exact tab_self rfl (fun r hr => hT.row hr)

end Go.Proofs.Yteaabemnolacdaa
end

section
namespace Go.Proofs.Yteaabemnolacdaa
open Go.RowKit Go.Deep

def ColsAt (w : World) (g n : Nat) (cs : List Nat) : Prop := w.ownsRow 0 3 1 (.slice (some ⟨g, 0, none⟩) cs.length n) cs.length ((ints cs).map (Value.int .i64))
theorem ColsAt.init {w : World} {g n : Nat} {cs : List Nat} {k : Nat} (h : ColsAt w g n (cs ++ [k])) : ColsAt w g n cs := by
  unfold ColsAt at h ⊢
  rw [show (cs ++ [k]).length = cs.length + 1 by simp] at h
  refine ⟨by simp [ints], ?_⟩
  rcases h.2 with ⟨h', _⟩ | ⟨g', cap', cur, h', hb, hg, hle, hm, hs, ht⟩
  · simp at h'
  · simp only [Value.slice.injEq, Option.some.injEq, Addr.mk.injEq, and_true, true_and] at h'
    obtain ⟨rfl, rfl⟩ := h'
    refine .inr ⟨g, n, cur, rfl, hb, hg, by omega, hm, hs, ?_⟩
    have e := congrArg (List.take cs.length) ht
    rw [List.take_take, Nat.min_eq_left (by omega)] at e
    rw [Nat.mul_one, e]
    simp [ints]
theorem ColsAt.row {w : World} {g n : Nat} {cs : List Nat} (h : ColsAt w g n cs) : RowR w (some ⟨g, 0, none⟩) (ints cs) := fun _ =>
  ⟨g, 0, rfl, fun i hi => by
    have e := World.ownsRow.cellAt h i (by rw [ints_length] at hi; omega)
    rw [Nat.zero_add, e, List.getElem?_map]
    simp [List.getD, hi]⟩
theorem ColsAt.kept {w w' : World} {g n : Nat} {cs : List Nat} (h : ColsAt w g n cs) (hs : w.Since w.heap.size w') : ColsAt w' g n cs := World.ownsRow.kept h (grown_of_since (row := none) hs) (by simp [Value.ownBlock])
theorem ints_snoc (cs : List Nat) (k : Nat) : (ints (cs ++ [k])).map (Value.int .i64) = (ints cs).map (Value.int .i64) ++ [.int .i64 (k : Int)] := by simp [ints]

set_option maxRecDepth 100000 in
set_option maxHeartbeats 4000000 in
theorem sumOfOrders_any (a : Option Addr) (cap n : Nat) (l : List (List Int)) (g : Nat) (hn : l.length = n) (hT : TabIn l) (hw : (l.getD 0 []).length = n) : ∀ (m : Nat) (cs : List Nat) (W : World), cs.length + m = n → (∀ c ∈ cs, c < n) → ColsAt W g n cs → (∀ W', W.grownBy W' (some g) → MatR W' a l) →
    Calls Try.prog 144 #[.slice a n cap, .slice (some ⟨g, 0, none⟩) cs.length n] W fun e w' => e = .returned (.int .i64 (ordS l n m cs)) ∧ W.grownBy w' (some g) ∧ ColsAt w' g n cs := by
  have h6 := hT.2.1
  rw [hn] at h6
  intro m
  induction m with
  | zero =>
    intro cs W hl hc hcols hmat
    have hx : cs.length = n := by omega
    have E := orderedProduct_any a cap n l g n cs W hn hT hw (hmat W (World.grownBy.refl _ _)) hx hc (Nat.le_refl _) (by omega) hcols.row
    rw [hx]
    replace E := Lib.hid E
    have HC := Lib.hid hcols
    clear hmat hcols hl hc hx
    go_enter Try.func144, Try.ntmps144
    go_wp2_with fail
    refine (E.out).mono ?_
    rintro e w1 ⟨rfl, hs⟩
    have HK := HC.out.kept hs
    go_wp2
    go_ret
    exact ⟨rfl, grown_of_since hs, HK⟩
  | succ m ih =>
    intro cs W hl hc hcols hmat
    obtain ⟨i3, hi3⟩ := info3_parts
    have HJ := Lib.hid hi3
    have hbd := fun q (hq : q ≤ n) => ordP_bd (l := l) (n := n) (m := m) (cs := cs) h6 (fun i j hi hj => hT.at (by omega) (by omega)) hl hc hq
    have hb6 := b6_le (m + 1) (by omega)
    have hb6' : b6 (m + 1) = 6 * b6 m := rfl
    rw [ordS_succ]
    obtain ⟨F, hF⟩ : ∃ F : Nat → Int, F = fun k => if k ∈ cs then 0 else ordS l n m (cs ++ [k]) := ⟨_, rfl⟩
    simp only [← hF] at hbd ⊢
    have hd : cs.length < n := by omega
    have hne : ((cs.length : Int) == (n : Int)) = false := by simp; omega
    have HIH := Lib.hid (fun (k : Nat) (hk : k < n) (V : World) (h1 : ColsAt V g n (cs ++ [k])) (h2 : ∀ W', V.grownBy W' (some g) → MatR W' a l) => ih (cs ++ [k]) V (by simp; omega) (fun c h => by
      rcases List.mem_append.1 h with h | h
      · exact hc c h
      · simp at h; omega) h1 h2)
    have HIN := Lib.hid (fun (k : Nat) (V : World) (h1 : ColsAt V g n cs) => contains_any (some ⟨g, 0, none⟩) n cs.length (ints cs) k V (ints_length cs) (by omega) h1.row)
    have HM := Lib.hid hmat
    have HC := Lib.hid hcols
    have HF := Lib.hid hF
    have HB := Lib.hid hbd
    have HMEM : ∀ k : Nat, ((k : Int) ∈ ints cs) ↔ k ∈ cs := fun k => by
      simp only [ints, List.mem_map]
      constructor
      · rintro ⟨c, h1, h2⟩
        have : c = k := by omega
        exact this ▸ h1
      · exact fun h => ⟨k, h, rfl⟩
    have HME := Lib.hid HMEM
    obtain ⟨d, hdd⟩ : ∃ d, d = cs.length := ⟨_, rfl⟩
    have HD := Lib.hid hdd
    rw [← hdd] at hd hne ⊢
    simp only [← hdd] at HIN
    clear ih hmat hcols hF hbd hc hi3 HMEM hdd hT hw hn
    go_enter Try.func144, Try.ntmps144
    go_wp2
    go_loopg [5, 6, 17] n (fun q s _ i wr => ∃ k : Nat, k ≤ n ∧ q = n - k ∧ i = .int .i64 k ∧ s = .int .i64 (sumN F k) ∧ W.grownBy wr (some g) ∧ ColsAt wr g n cs)
    case atStart => exact ⟨0, Nat.zero_le _, rfl, rfl, rfl, World.grownBy.refl _ _, HC.out⟩
    case round =>
      obtain ⟨k, hk, rfl, rfl, rfl, hG, hCo⟩ := hrel
      obtain ⟨s0, hs0⟩ : ∃ s, s = sumN F k := ⟨_, rfl⟩
      have e : sumN F (k + 1) = s0 + F k := by rw [hs0]; rfl
      rw [← hs0]
      by_cases hlt : k < n
      · have hsb := HB.out (k + 1) (by omega)
        rw [e] at hsb
        have E1 := HIN.out k wr hCo
        have HE := Lib.hid e
        have HG := Lib.hid hG
        have HCo := Lib.hid hCo
        clear e hs0 hG
        by_cases hmem : k ∈ cs
        · rw [decide_eq_true ((HME.out k).2 hmem)] at E1
          replace E1 := Lib.hid E1
          have hF0 : F k = 0 := by rw [HF.out]; exact if_pos hmem
          clear hCo
          go_wp2_with fail
          refine (E1.out).mono ?_
          rintro e w' ⟨rfl, rfl⟩
          go_wp2
          go_roundg (n - (k + 1))
          case measure => omega
          case rel => exact ⟨k + 1, by omega, rfl, by go_num, by rw [HE.out, hF0]; simp, HG.out, HCo.out⟩
        · rw [decide_eq_false (fun h => hmem ((HME.out k).1 h))] at E1
          replace E1 := Lib.hid E1
          obtain ⟨f2, hf2⟩ : ∃ f, f = F k := ⟨_, rfl⟩
          rw [← hf2] at hsb
          have hF0 : f2 = ordS l n m (cs ++ [k]) := by rw [hf2, HF.out]; exact if_neg hmem
          have hws : IntKind.i64.wrap (s0 + f2) = s0 + f2 := IntWalk.i64_in _ ⟨by omega, by omega⟩
          have HH := Lib.hid hf2
          have EI := fun (V : World) (h1 : ColsAt V g n (cs ++ [k])) (h2 : V.heap.size ≥ 0 ∧ W.grownBy V (some g)) => HIH.out k hlt V h1 (fun W' hW' => HM.out W' (h2.2.trans hW'))
          rw [show (cs ++ [k]).length = d + 1 by rw [HD.out]; simp, ← hF0] at EI
          replace EI := Lib.hid EI
          have hown : wr.ownsRow 0 3 1 (.slice (some ⟨g, 0, none⟩) d n) d ((ints cs).map (Value.int .i64)) := by rw [HD.out]; exact hCo
          have HOWN := Lib.hid hown
          clear hf2 hsb hF0 hCo hown
          go_wp2_with (first
            | (go_at_call 153; refine (E1.out).mono ?_; rintro e w' ⟨rfl, rfl⟩)
            | (at_builtin; (refine wpList_append_fits _ rfl _ _ 36 rfl 0 3 i3 1 Try.underlying36 HJ.out.1 HJ.out.2.2.1 g d n ((ints cs).map (Value.int .i64)) rfl (HOWN.out.alloc _) ⟨wr.heap.size, 0, none⟩ 1 1 [.int .i64 k] rfl rfl (cell_one_at _ _ _ rfl) (fun x hx => by simp at hx; subst hx; rfl) (by omega) ?_); intro w1 hown' hgrow; have hc1 : ColsAt w1 g n (cs ++ [k]) := (by unfold ColsAt; rw [ints_snoc, show (cs ++ [k]).length = d + 1 by rw [HD.out]; simp]; exact hown'); have hg1 : W.grownBy w1 (some g) := HG.out.trans ((World.grownBy_alloc wr _ _).trans hgrow); clear hown' hgrow; have HC1 := Lib.hid hc1; have HG1 := Lib.hid hg1; clear hc1 hg1)
            | (go_at_call 144; refine (EI.out w1 HC1.out ⟨Nat.zero_le _, HG1.out⟩).mono ?_; rintro e w2 ⟨rfl, hg2, hc2⟩; have HG2 := Lib.hid (HG1.out.trans hg2); have HC2 := Lib.hid hc2.init; clear hg2 hc2))
          go_roundg (n - (k + 1))
          case measure => omega
          case rel => exact ⟨k + 1, by omega, rfl, by go_num, by rw [HE.out, ← HH.out], HG2.out, HC2.out⟩
      · have hqn : n = k := by omega
        subst hqn
        go_wp2
        go_ret
        exact ⟨by rw [hs0]; rfl, hG, hCo⟩

theorem since_fresh {W w1 w2 : World} (h : W.grownBy w1 none) (h2 : w1.grownBy w2 (some W.heap.size)) : W.Since W.heap.size w2 :=
  ⟨h2.os.trans h.os, h2.tape.trans h.tape, h2.output.trans h.output, Nat.le_trans h.size h2.size, fun k hk => (h2.block k (by have := h.size; omega) (by intro e; injection e with e; omega)).trans (h.block k hk (by simp))⟩

set_option maxRecDepth 100000 in
set_option maxHeartbeats 1000000 in
theorem byOrders_any (a : Option Addr) (cap n : Nat) (l : List (List Int)) (w : World) (hn : l.length = n) (hT : TabIn l) (hw : (l.getD 0 []).length = n) (hm : MatR w a l) :
    Calls Try.prog 136 #[.slice a n cap] w fun e w' => e = .returned (.int .i64 (ordF l n n 0)) ∧ w.Since w.heap.size w' := by
  have h6 := hT.2.1
  rw [hn] at h6
  obtain ⟨i3, hi3⟩ := info3_parts
  have HJ := Lib.hid hi3
  have E := fun (V : World) (hc : ColsAt V w.heap.size n []) (hg : w.grownBy V none) => sumOfOrders_any a cap n l w.heap.size hn hT hw n [] V (by simp) (by simp) hc (fun W' hW' => hm.since (since_fresh hg hW'))
  rw [ordS_all l n h6] at E
  replace E := Lib.hid E
  clear hi3 hn hT hw hm
  go_enter Try.func136, Try.ntmps136
  go_wp2_with (first
    | (at_make; (refine wpList_make_own _ rfl _ _ 36 rfl 0 3 i3 (.int .i64 0) 1 Try.underlying36 HJ.out.1 HJ.out.2.1 HJ.out.2.2.1 .i64 .i64 n n rfl rfl rfl (by rw [HJ.out.2.2.2]; omega) (by unfold maxLen; omega) (Nat.zero_le _) ?_); intro w1 hown hgrow; have HO := Lib.hid (show ColsAt w1 w.heap.size n [] from hown); have HG := Lib.hid hgrow; clear hown hgrow)
    | (go_at_call 144; refine (E.out w1 HO.out HG.out).mono ?_; rintro e w2 ⟨rfl, hg2, hc2⟩; have HS := Lib.hid (since_fresh HG.out hg2); clear hg2 hc2))
  go_ret
  exact ⟨rfl, HS.out⟩

theorem implValueOrders_any (a : Option Addr) (cap n : Nat) (l : List (List Int)) (w : World) (hn : l.length = n) (hsz : szL l ≤ 1048576) (hm : MatR w a l) :
    Calls Try.prog 21 #[.slice a n cap] w (SpecW w (sqB l) (ordF l n n 0)) :=
  implValueOrders_of a cap n l (ordF l n n 0) w hn hsz hm fun hs W' hm' => by
    obtain ⟨hT, hw⟩ := sqB_of hs
    exact byOrders_any a cap n l W' hn hT (by rw [← hw, hn]) hm'

end Go.Proofs.Yteaabemnolacdaa
end

section
namespace Go.Proofs.Yteaabemnolacdaa
open Go.RowKit Go.Deep

set_option maxRecDepth 100000 in
set_option maxHeartbeats 4000000 in
theorem fnOther (a : Option Addr) (cap n : Nat) (w : World) (hc : n ≤ cap) (h63 : cap ≤ 9223372036854775807) (hb : BytR w a n) :
    Calls Try.prog 8 #[.slice a n cap] w fun e w' => e = .returned (.bool true) ∧ w.Since w.heap.size w' := by
  by_cases hlen : 1048576 < n
  · have hl' : decide ((1048576 : Int) < (n : Int)) = true := by simp; omega
    clear hb
    go_enter Try.func8, Try.ntmps8
    go_wp2
    go_ret
    exact ⟨rfl, World.Since.refl _ _⟩
  · have hl' : decide ((1048576 : Int) < (n : Int)) = false := by simp; omega
    have ED := Lib.hid (drawValueOther_any a n cap w hc h63 hb)
    clear hb
    go_enter Try.func8, Try.ntmps8
    go_wp2_with fail
    refine (ED.out).mono ?_
    rintro e w1 ⟨a1, c1, l, rfl, hs1, h1, h5, hlens, hit⟩
    have hsz : szL l ≤ 1048576 := szL_of h5 (fun j hj => (hlens j hj).2) (by decide)
    obtain ⟨nn, hn⟩ : ∃ nn, l.length = nn := ⟨_, rfl⟩
    rw [hn]
    have HN := Lib.hid hn
    have HSZ := Lib.hid hsz
    have HM := Lib.hid (fun (W : World) (h : w1.Since w1.heap.size W) => hit.matR.since h)
    have HS1 := Lib.hid hs1
    obtain ⟨ok, hok⟩ : ∃ ok, sqB l = ok := ⟨_, rfl⟩
    obtain ⟨M, hM⟩ : ∃ M, resT ok (tabF nn nn (othF l nn)) = M := ⟨_, rfl⟩
    have E1 := implValueOther_any a1 c1 nn l w1 hn hsz (hit.matR)
    have E2 := fun (W : World) (h : w1.Since w1.heap.size W) => specValueOther_any a1 c1 nn l W hn hsz (hit.matR.since h)
    have hMsz : szL M ≤ 1048576 := by
      rw [← hM]
      cases hok' : ok with
      | false => simp [resT, szL, sumTo]
      | true => exact szL_tabF _ _ _ (by omega) (by omega)
    unfold ImplT at E1
    unfold SpecT at E2
    rw [hok, hM] at E1
    simp only [hok, hM] at E2
    obtain ⟨q, hq⟩ : ∃ q, M.length = q := ⟨_, rfl⟩
    rw [hq] at E1
    simp only [hq] at E2
    have hq63 : q ≤ 9223372036854775807 := by unfold szL at hMsz; omega
    replace E1 := Lib.hid E1
    replace E2 := Lib.hid E2
    have HQ := Lib.hid hq
    have HMS := Lib.hid hMsz
    have HOK := Lib.hid hok
    have HMM := Lib.hid hM
    clear hn hsz hit hs1 h1 h5 hlens hq hMsz hok hM
    go_wp2_with fail
    refine (E1.out).mono ?_
    rintro e w2 ⟨a2, c2, rfl, hs2, ho2⟩
    have HO := Lib.hid (fun (W : World) (h : w2.Since w2.heap.size W) => ho2.matR.since h)
    have HS2 := Lib.hid hs2
    clear ho2 hs2
    go_wp2_with fail
    refine (E2.out w2 HS2.out).mono ?_
    rintro e w3 ⟨a3, c3, rfl, hs3, hi3⟩
    have ES := Lib.hid (fun (W : World) (h : w3.Since w3.heap.size W) => sameRows_same a2 a3 c2 c3 q M W HQ.out hq63 (rows_le HMS.out) (HO.out W (hs3.trans (since_mono h hs3.size))) (hi3.matR.since h))
    have HS3 := Lib.hid hs3
    clear hi3 hs3
    go_wp2_with fail
    refine (ES.out w3 (World.Since.refl _ _)).mono ?_
    rintro e w4 ⟨rfl, hd4⟩
    have hs4 := hd4.since w3.heap.size
    have hs14 : w1.Since w1.heap.size w4 := (HS2.out.trans (since_mono HS3.out HS2.out.size)).trans (since_mono hs4 (by have := HS2.out.size; have := HS3.out.size; omega))
    have HS4 := Lib.hid hs14
    have hs24 : w2.Since w2.heap.size w4 := HS3.out.trans (since_mono hs4 HS3.out.size)
    have HS24 := Lib.hid hs24
    cases ok with
    | false =>
      clear hs14 hs24 hd4
      go_wp2_with fail
      refine (ES.out w4 hs4).mono ?_
      rintro e w5 ⟨rfl, hd5⟩
      have HS5 := Lib.hid (hd5.since w4.heap.size)
      clear hd5
      go_wp2
      go_ret
      exact ⟨rfl, HS1.out.trans (since_mono (HS4.out.trans (since_mono HS5.out HS4.out.size)) HS1.out.size)⟩
    | true =>
      have hMl : tabF nn nn (othF l nn) = M := HMM.out
      clear hs4 hd4
      have hX := otherM_of HOK.out HN.out
      rw [hMl] at hX
      obtain ⟨hT, hw⟩ := sqB_of HOK.out
      have h6 := hT.2.1
      have h1 := hT.1
      rw [HN.out] at h6 h1
      have hqn : q = nn := by rw [← HQ.out]; exact hX.len
      subst hqn
      have E5 := implValueOrders_any a1 c1 q l w4 HN.out HSZ.out (HM.out w4 hs14)
      unfold SpecW at E5
      rw [HOK.out, if_pos rfl] at E5
      obtain ⟨v, hv⟩ : ∃ v, ordF l q q 0 = v := ⟨_, rfl⟩
      rw [hv] at hX E5
      have E6 := fun (W : World) (h1 : w1.Since w1.heap.size W) (h2 : w2.Since w2.heap.size W) => productR_any a1 a2 c1 c2 q q l M W HN.out HQ.out (HM.out W h1) (HO.out W h2) hT.rec hX.rec1 (by rw [← hw]; exact HN.out) hX.b1
      have E7 := fun (W : World) (h1 : w1.Since w1.heap.size W) (h2 : w2.Since w2.heap.size W) => productR_any a2 a1 c2 c1 q q M l W HQ.out HN.out (HO.out W h2) (HM.out W h1) hX.rec1 hT.rec hX.wid hX.b2
      replace E5 := Lib.hid E5
      replace E6 := Lib.hid E6
      replace E7 := Lib.hid E7
      have HX := Lib.hid hX
      clear hMl hs14 hs24 hX hT hw hv
      go_wp2_with fail
      refine (E5.out).mono ?_
      rintro e w5 ⟨rfl, hs5⟩
      have HS5 := Lib.hid (HS4.out.trans (since_mono hs5 HS4.out.size))
      have HS25 := Lib.hid (HS24.out.trans (since_mono hs5 HS24.out.size))
      clear hs5
      go_wp2_with fail
      refine (E6.out w5 HS5.out HS25.out).mono ?_
      rintro e w6 ⟨a6, c6, rfl, hs6, ho6⟩
      have HS6 := Lib.hid (HS5.out.trans (since_mono hs6 HS5.out.size))
      have HS26 := Lib.hid (HS25.out.trans (since_mono hs6 HS25.out.size))
      have HO6 := Lib.hid (fun (W : World) (h : w6.Since w6.heap.size W) => ho6.matR.since h)
      clear hs6 ho6
      go_wp2_with fail
      refine (E7.out w6 HS6.out HS26.out).mono ?_
      rintro e w7 ⟨a7, c7, rfl, hs7, ho7⟩
      have HS7 := Lib.hid (HS6.out.trans (since_mono hs7 HS6.out.size))
      obtain ⟨bt, ot, At, Ct, rfl, hlen1, hcell⟩ := (HO6.out w7 hs7).gridR HX.out.l1 HX.out.r1 HX.out.w1
      obtain ⟨bu, ou, Au, Cu, rfl, hlen2, hcellu⟩ := ho7.matR.gridR HX.out.l2 HX.out.r2 HX.out.w2
      have HC := Lib.hid hcell
      have HCU := Lib.hid hcellu
      have HL2 := Lib.hid hlen2
      clear hs7 ho7 hcell hcellu hlen1 hlen2
      go_wp2
      go_loopg [12, 13, 14] q (fun g i _ _ wr => ∃ r : Nat, r ≤ q ∧ g = q - r ∧ i = .int .i64 r ∧ Drawn w7 wr)
      case atStart => exact ⟨0, Nat.zero_le _, rfl, rfl, Drawn.refl _⟩
      case round =>
        obtain ⟨r, hr, rfl, rfl, hD⟩ := hrel
        by_cases hlt : r < q
        · obtain ⟨wo, hwo⟩ : ∃ wo : World, wo = wr := ⟨_, rfl⟩
          go_wp2
          subst hwo
          go_loopg [13, 14] q (fun g j _ wi => ∃ c : Nat, c ≤ q ∧ g = q - c ∧ j = .int .i64 c ∧ Drawn w7 wi)
          case atStart => exact ⟨0, Nat.zero_le _, rfl, rfl, hD⟩
          case round =>
            obtain ⟨c, hc', rfl, rfl, hDI⟩ := hrel
            clear hD
            have hlr := HL2.out r hlt
            rw [← hDI.cell] at hlr
            by_cases hcm : c < q
            · clear hlr
              obtain ⟨b', o', e1, e2⟩ := HC.out r c hlt hcm
              obtain ⟨d', q', g1, g2⟩ := HCU.out r c hlt hcm
              rw [HX.out.e1 r c hlt hcm] at e2
              rw [HX.out.e2 r c hlt hcm] at g2
              rw [← hDI.cell] at e1 e2 g1 g2
              by_cases hrc : r = c
              · subst hrc
                rw [if_pos rfl] at e2 g2
                go_wp2
                go_roundg (q - (r + 1))
                case measure => omega
                case rel => exact ⟨r + 1, by omega, rfl, by go_num, hDI⟩
              · have hrc' : ((r : Int) == (c : Int)) = false := by simp; omega
                rw [if_neg hrc] at e2 g2
                go_wp2
                go_roundg (q - (c + 1))
                case measure => omega
                case rel => exact ⟨c + 1, by omega, rfl, by go_num, hDI⟩
            · have : c = q := by omega
              subst this
              go_wp2
              go_roundg (c - (r + 1))
              case measure => omega
              case rel => exact ⟨r + 1, by omega, rfl, by go_num, hDI⟩
        · have HD := Lib.hid (hD.since w7.heap.size)
          go_wp2
          go_ret
          exact ⟨rfl, HS1.out.trans (since_mono (HS7.out.trans (since_mono HD.out HS7.out.size)) HS1.out.size)⟩

end Go.Proofs.Yteaabemnolacdaa
end

section
namespace Go.Proofs.Yteaabemnolacdaa
open Go.ChangeShapes Go.WideShapes Go.ChangeAt Go.RowKit Go.Deep

theorem below_since' {B : Nat} {w w' : World} (h : Below B w w') : w.Since B w' := ⟨h.os, h.tape, h.output, h.size, h.block⟩
theorem since_below' {B : Nat} {w w' : World} (h : w.Since B w') : Below B w w' := ⟨h.os, h.tape, h.output, h.size, h.block⟩

section
variable {H : Type} {enc : TypeId × Value → H} {P : Program}
theorem post_of_below {f : Func} {s : ChangeSpec} {apart fresh handsOn again : Bool} {W W' : World} {args : Array Value} {v : Value} {ds gs : List (DataW H)} {before pa pv : List MemPlace}
    (hW : DataW.Whole enc P f.params.toList s.vars apart W args.toList ds gs before)
    (hres : ∀ (b : Nat) (sp : Nat → Bool) (hd : Bool), DataW.TrodAll enc P W' b sp hd f.resultTypes.toList (v.resultList f.resultTypes.size) (s.fn H (ds ++ gs)).results [])
    (hargs : ∀ sp : Nat → Bool, (∀ p ∈ before, sp p.block = true) → DataW.TrodAll enc P W' 0 sp true f.params.toList args.toList (s.fn H (ds ++ gs)).args pa)
    (hvars : ∀ sp : Nat → Bool, (∀ p ∈ before, sp p.block = true) → DataW.TrodVars enc P W' sp s.vars (s.fn H (ds ++ gs)).vars pv)
    (hps : before = pa ++ pv) (hb : Below W.heap.size W W') (hag : again = false) :
    s.post enc P f apart fresh handsOn again W args v W' := by
  have hlt : ∀ p ∈ before, p.block < W.heap.size := fun p hp => hW.lt p hp
  have hold : ∀ p ∈ before, (fun b => decide (b < W.heap.size)) p.block = true := fun p hp => by simpa using hlt p hp
  refine ⟨ds, gs, before, [], pa, pv, hW, hres _ _ _, hargs _ hold, hvars _ hold, World.keptBut_mono (fun p hp => ⟨hp, ?_⟩) (hb.frame (· ∈ before)), fun h => ?_⟩
  · rw [hps, List.mem_append] at hp
    exact Or.inr hp
  · rw [hag] at h; cases h

theorem open_mat {W : World} {t e q : TypeId} {a : Option Addr} {n cap : Nat} {d : DataW H} {p : List MemPlace} (ht : P.underlying t = some (.slice e)) (he : P.underlying e = some (.slice q)) (hq : P.underlying q = some (.int .i64))
    (ce : P.cellsOf e = 1) (cq : P.cellsOf q = 1) (h : DataW.Trod enc P W 0 (fun _ => true) true t (.slice a n cap) d p) :
    ∃ l : List (List Int), l.length = n ∧ MatR W a l ∧ n ≤ 9223372036854775807 ∧ ∀ r, r < l.length → (l.getD r []).length ≤ 9223372036854775807 := by
  obtain ⟨fuel, hf⟩ := h
  rcases open_int_rows ht he hq ce cq hf with ⟨hcs, _⟩ | ⟨a', len', cap', A, L, C, Z, hcs, _, hl, hm, _, hrows⟩
  · simp [Value.cells] at hcs
    obtain ⟨rfl, rfl, rfl⟩ := hcs
    exact ⟨[], rfl, (fun h => by simp at h), by omega, fun r hr => by simp at hr⟩
  · simp [Value.cells] at hcs
    obtain ⟨rfl, rfl, rfl⟩ := hcs
    have hmx : maxLen = 9223372036854775807 := rfl
    have hlen : ∀ r, r < n → ((Z r).take (L r)).length = L r := fun r hr => by
      obtain ⟨_, h1, _, h2, _⟩ := hrows r (by omega)
      rw [List.length_take]; omega
    have hget : ∀ r, r < n → ((List.range n).map fun r => (Z r).take (L r)).getD r [] = (Z r).take (L r) := fun r hr => by simp [List.getD, hr]
    refine ⟨(List.range n).map fun r => (Z r).take (L r), by simp, fun h => ?_, by omega, fun r hr => ?_⟩
    · obtain ⟨b, o, spot⟩ := a'
      simp at h
      have hspot : spot = none := by simpa [Addr.add] using World.cell?_spot (hrows 0 (by omega)).1
      subst hspot
      refine ⟨b, o, A, C, rfl, fun r hr => ?_⟩
      simp at hr
      rw [hget r hr, hlen r hr]
      obtain ⟨g1, g2, g3, g4, g5, g6, g7⟩ := hrows r (by omega)
      refine ⟨by rw [← add_plain]; exact g1, fun h0 => ?_⟩
      rw [hlen r hr] at h0
      cases hA : A r with
      | none => have := g6 hA; omega
      | some a'' =>
        obtain ⟨_, hcell⟩ := g7 a'' hA
        obtain ⟨b', o', sp⟩ := a''
        have hs : sp = none := by simpa [Addr.add] using World.cell?_spot (hcell 0 (by omega))
        subst hs
        refine ⟨b', o', rfl, fun i hi => ?_⟩
        rw [hlen r hr] at hi
        rw [← add_plain, hcell i (by omega)]
        congr 2
        simp [List.getD, hi]
    · simp at hr
      rw [hget r hr, hlen r hr]
      obtain ⟨_, h1, h2, _⟩ := hrows r (by omega)
      omega
end

theorem Try.own : ownKnob Try.prog.godebug = none := by kernel_rfl
theorem Try.laidOut : laidOutB Try.prog = true := by kernel_rfl
theorem Try.cellsR : Try.prog.cellsOf 36 = 1 := by kernel_rfl
theorem Try.cellsI : Try.prog.cellsOf 3 = 1 := by kernel_rfl

end Go.Proofs.Yteaabemnolacdaa
end

section
namespace Go.Proofs.Yteaabemnolacdaa
open Go.ChangeShapes Go.WideShapes Go.ChangeAt Go.RowKit Go.Deep

theorem wf_u8_of {n : Int} (h : (Lit.int .u8 n).wf = true) : 0 ≤ n ∧ n ≤ 255 := by
  have h2 : (0 : Int) ≤ n ∧ n ≤ 255 := by simpa [Lit.wf, IntKind.min, IntKind.max, IntKind.signed, IntKind.bits] using h
  exact h2

theorem open_bytes {H : Type} {enc : TypeId × Value → H} {P : Program} {W : World} {t e : TypeId} {a : Option Addr} {n cap : Nat} {d : DataW H} {p : List MemPlace} (ht : P.underlying t = some (.slice e)) (he : P.underlying e = some (.int .u8)) (ce : P.cellsOf e = 1)
    (h : DataW.Trod enc P W 0 (fun _ => true) true t (.slice a n cap) d p) : BytR W a n ∧ n ≤ cap ∧ cap ≤ 9223372036854775807 := by
  obtain ⟨fuel, hf⟩ := h
  rcases open_ints ht he ce hf with ⟨hcs, _⟩ | ⟨a', len, cap', zs, hcs, _, hl, hm, hlen, _, hcell, hwf⟩
  · simp [Value.cells] at hcs
    obtain ⟨rfl, rfl, rfl⟩ := hcs
    exact ⟨fun h => absurd h (by omega), by omega, by omega⟩
  · simp [Value.cells] at hcs
    obtain ⟨rfl, rfl, rfl⟩ := hcs
    have hmx : maxLen = 9223372036854775807 := rfl
    have hzl : zs.length = cap := by simpa using hlen
    refine ⟨fun h0 => ?_, by omega, by omega⟩
    obtain ⟨b, o, spot⟩ := a'
    have hspot : spot = none := by simpa [Addr.add] using World.cell?_spot (hcell 0 (by omega))
    subst hspot
    refine ⟨b, o, rfl, fun i hi => ?_⟩
    have hi' : i < zs.length := by omega
    have hw := wf_u8_of (hwf (zs.getD i 0) (by simp [List.getD, hi']))
    obtain ⟨z, hz⟩ := Int.eq_ofNat_of_zero_le hw.1
    refine ⟨z, by omega, ?_⟩
    rw [← add_plain, hcell i hi', hz]

theorem Try.cellsB : Try.prog.cellsOf 5 = 1 := by kernel_rfl

end Go.Proofs.Yteaabemnolacdaa
end

section
namespace Go.Proofs.Yteaabemnolacdaa
open Go.ChangeShapes Go.WideShapes Go.ChangeAt Go.RowKit Go.Deep

set_option maxRecDepth 100000 in
theorem lifted_FnOther (os : Os) (started : os.Started) (H : Type) (enc : TypeId × Value → H) :
    ReturnsInHanded {} Try.checked os 8 .any (Rows.fnOtherSpec.pre6 enc Try.prog Try.f8 Rows.fnOtherRow.domain false) (Rows.fnOtherSpec.post enc Try.prog Try.f8 false true false false) := by
  refine returnsInHanded_of_change (C := Try.checked) Try.own started (by kernel_rfl) Try.func8
    (ChangeSpec.witness6 (enc := enc) (C := Try.checked) false ⟨#[], #[.slice none 0 0], []⟩ 8 (by kernel_rfl) (by kernel_rfl) (by kernel_rfl) (by kernel_rfl)) ?_
  intro W base args ds gs before hval0 hW _ _
  have hval : ∀ (j : Nat) t v, Try.f8.params[j]? = some t → args[j]? = some v → Value.okWide Try.prog W .any base t v := hval0
  have hW' := hW
  obtain ⟨p, q, hA0, hV, rfl, hfz, hnd⟩ := hW
  have hA : DataW.TrodAll enc Try.prog W 0 (fun _ => true) true Try.f8.params.toList args.toList ds p := hA0
  rw [Try.params8] at hA hval
  obtain ⟨v0, d0, rfl, rfl, h0⟩ := trodAll_one hA
  obtain ⟨p0, hp0⟩ : ∃ p0, p0 = p := ⟨_, rfl⟩
  subst hp0
  obtain ⟨rfl, rfl⟩ := trodVars_none hV
  obtain ⟨a0, n0, cap0, rfl⟩ := okWide_slice Try.underlying22 (hval 0 22 v0 rfl rfl)
  obtain ⟨hb0, hc0, h630⟩ := open_bytes Try.underlying22 Try.underlying5 Try.cellsB h0
  clear hA0 hval0
  simp only [List.append_nil] at hW'
  have hlt0 : ∀ x ∈ p0, x.block < W.heap.size := fun x hx => hW'.lt x (by simp [hx])
  refine (fnOther a0 cap0 n0 W hc0 h630 hb0).mono fun e W' ⟨he, hs⟩ => ?_
  subst he
  have hb := since_below' hs
  have ht0 : ∀ sp : Nat → Bool, (∀ x ∈ p0, sp x.block = true) → DataW.Trod enc Try.prog W' 0 sp true 22 (.slice a0 n0 cap0) d0 p0 := fun sp hsp =>
    WideElems.Trod_stays Try.laidOut (by kernel_rfl) (of_decide_eq_true (by kernel_rfl)) h0 (fun x hx => hb.same (hlt0 x hx)) hsp
  have hargs : ∀ sp : Nat → Bool, (∀ x ∈ (p0), sp x.block = true) → DataW.TrodAll enc Try.prog W' 0 sp true [22] [.slice a0 n0 cap0] [d0] (p0) := fun sp hsp => by
    have := trodAll_mk1 (enc := enc) (P := Try.prog) (w := W') (base := 0) (spare := sp) (held := true) (ht0 sp (fun x hx => hsp x (by simp [hx])))
    simpa using this
  exact ⟨_, rfl, post_of_below (pa := p0) (pv := []) hW' (fun _ _ _ => trodAll_mk1 (shut_bool Try.underlying4 true)) (fun sp hsp => hargs sp (fun x hx => hsp x (by simpa using hx))) (fun _ _ => rfl) (by simp) hb rfl⟩

theorem FnOther_holds : Rows.FnOtherSaid :=
  OpenClaim.holds_of_wide 8 Try.f8 rfl rfl rfl rfl rfl rfl rfl ⟨rfl, rfl, rfl, rfl, rfl⟩ rfl rfl rfl rfl rfl (by kernel_rfl) Try.func8 (by kernel_rfl)
    (of_decide_eq_true (by kernel_rfl)) (by unfold Func.isWrapper; first | (rw [if_pos (by decide +kernel)]; kernel_rfl) | (rw [if_neg (by decide +kernel)]; exact ⟨rfl, rfl⟩))
    (fun os started H enc _ => lifted_FnOther os started H enc)

end Go.Proofs.Yteaabemnolacdaa
end
