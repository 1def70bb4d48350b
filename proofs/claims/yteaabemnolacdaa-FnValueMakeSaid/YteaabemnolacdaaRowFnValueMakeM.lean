import Derived.Test.YteaabemnolacdaaTable
import Derived.Test.YteaabemnolacdaaHarn2
import Derived.OwnWalk
import Derived.Test.YteaabemnolacdaaDetMul
import Derived.Test.YteaabemnolacdaaMakeImpl
import Derived.Test.YteaabemnolacdaaSpecOrders
import Derived.Test.YteaabemnolacdaaPartImpl
import Derived.Test.YteaabemnolacdaaWR
import Derived.Deep.DeepCutAuto
import Derived.Test.YteaabemnolacdaaAddImpl
import Derived.Test.YteaabemnolacdaaOrdDet
import Derived.Test.YteaabemnolacdaaTurnSpec
import Derived.Test.YteaabemnolacdaaL2Square
import Derived.Test.YteaabemnolacdaaBar
import Derived.Test.YteaabemnolacdaaOrdersI
import Derived.Test.YteaabemnolacdaaSquareV
import Derived.Maps.AppendAt
import Derived.Test.YteaabemnolacdaaMakeSpec
import Derived.Test.YteaabemnolacdaaRows
import Derived.Test.YteaabemnolacdaaData
import Derived.ProofKit
import Derived.Deep.Matrix
import Derived.Test.YteaabemnolacdaaDraw0

section
namespace Go.Proofs.Yteaabemnolacdaa
open Go.RowKit Go.Deep

theorem BD.inT {B : Nat} {w : World} {v : Value} {l : List (List Int)} {A : Nat → Option Addr} {C : Nat → Nat} (h : BD B w v l A C) : ∃ a cap, v = .slice a l.length cap ∧ InT B w.heap.size w a l := by
  by_cases h0 : 0 < l.length
  · obtain ⟨b, cap, cur, e, hb, hg, hc⟩ := h.top h0
    refine ⟨_, cap, e, fun _ => ⟨b, 0, A, fun r => ((A r).getD default).block, fun _ => 0, C, rfl, ⟨hb, (Array.getElem?_eq_some_iff.1 hg).1⟩, fun r hr => ⟨?_, fun h1 => ?_⟩⟩⟩
    · rw [Nat.zero_add]; simp [World.cell?, hg, hc r hr]
    · obtain ⟨g, e, hB, hw⟩ := h.row hr
      have e' : ((A r).getD default).block = g := by rw [e]; rfl
      dsimp only
      rw [e']
      exact ⟨e, ⟨hB, hw.lt⟩, fun i hi => by rw [Nat.zero_add]; exact hw.cell hi⟩
  · rcases h.own.2 with ⟨hv, hn⟩ | ⟨g, cap, cur, e, _⟩
    · exact ⟨none, 0, by rw [hv, hn], fun h => absurd h h0⟩
    · exact ⟨_, cap, e, fun h => absurd h h0⟩

theorem BD.row_ne {B : Nat} {w : World} {l : List (List Int)} {A : Nat → Option Addr} {C : Nat → Nat} {b cap n : Nat} (h : BD B w (.slice (some ⟨b, 0, none⟩) n cap) l A C) {g : Nat} {x : List Int} (hw : RowB w g x) : g ≠ b := by
  rintro rfl
  obtain ⟨cs, hc, _⟩ := hw
  rcases h.own.2 with ⟨e, _⟩ | ⟨g', cap', cur, e, _, hgg, _⟩
  · cases e
  · injection e with e
    injection e with e
    injection e with e
    rw [← e, hc] at hgg
    injection hgg with hgg
    injection hgg with _ e2 _
    exact absurd e2 (by decide)

theorem BD.addr_ne {B : Nat} {w : World} {v : Value} {l : List (List Int)} {A : Nat → Option Addr} {C : Nat → Nat} (h : BD B w v l A C) {r j g g' : Nat} (hr : r < l.length) (hj : j < l.length) (hA : A r = some ⟨g, 0, none⟩) (hA' : A j = some ⟨g', 0, none⟩) (hne : j ≠ r) : g' ≠ g := by
  rintro rfl
  exact hne (h.apart j r hj hr (by rw [hA, hA']))

theorem BD.cellTop {B : Nat} {w : World} {l : List (List Int)} {A : Nat → Option Addr} {C : Nat → Nat} {b cap n : Nat} (h : BD B w (.slice (some ⟨b, 0, none⟩) n cap) l A C) {r : Nat} (hr : r < l.length) :
    w.cell? ⟨b, r, none⟩ = some (.slice (A r) (l.getD r []).length (C r)) ∧ w.frozen? ⟨b, r, none⟩ = false ∧ b < w.heap.size := by
  obtain ⟨b', cp', cur, hv, _, hcur, hc⟩ := h.top (by omega)
  injection hv with hv _ _
  injection hv with hv
  injection hv with hv
  subst hv
  exact ⟨by simp [World.cell?, hcur, hc r hr], by simp [World.frozen?, hcur], (Array.getElem?_eq_some_iff.1 hcur).1⟩

theorem BD.setRow {B : Nat} {w w5 : World} {l : List (List Int)} {A : Nat → Option Addr} {C : Nat → Nat} {b cap n : Nat} (h : BD B w (.slice (some ⟨b, 0, none⟩) n cap) l A C) {r g : Nat} (hr : r < l.length) (hA : A r = some ⟨g, 0, none⟩) (hg : w.grownBy w5 (some g)) {g2 cp k : Nat} {y : List Int}
    (hy : RW B w5 (.slice (some ⟨g2, 0, none⟩) k cp) y) (hk : y.length = k) (h0 : 0 < k) : InT B w5.heap.size (w5.setCell ⟨b, r, none⟩ (.slice (some ⟨g2, 0, none⟩) k cp)) (some ⟨b, 0, none⟩) (l.set r y) := by
  subst hk
  obtain ⟨b', cap', cur, e, hb, hcur, hc⟩ := h.top (by omega)
  injection e with e en _
  injection e with e
  injection e with e
  subst e
  obtain ⟨g', hA', hBg, hrb⟩ := h.row hr
  rw [hA] at hA'
  injection hA' with hA'
  injection hA' with hA'
  subst hA'
  have hgb := h.row_ne hrb
  have hbl : b < w.heap.size := (Array.getElem?_eq_some_iff.1 hcur).1
  have hcur5 : w5.heap[b]? = some (.cells cur 36 (0, 0)) := (hg.block b hbl (fun e => by injection e with e; omega)).trans hcur
  obtain ⟨hB2, hrb2⟩ := hy.rowB h0
  have hg2b : g2 ≠ b := by
    rintro rfl
    obtain ⟨cs, h1, _⟩ := hrb2
    rw [h1] at hcur5
    injection hcur5 with h2
    injection h2 with _ h2 _
    exact absurd h2 (by decide)
  have hbl5 : b < w5.heap.size := (Array.getElem?_eq_some_iff.1 hcur5).1
  intro _
  refine ⟨b, 0, fun j => if j = r then some ⟨g2, 0, none⟩ else A j, fun j => if j = r then g2 else ((A j).getD default).block, fun _ => 0, fun j => if j = r then cp else C j, rfl, ⟨hb, hbl5⟩, fun j hj => ?_⟩
  rw [List.length_set] at hj
  show (w5.setCell ⟨b, r, none⟩ _).cell? ⟨b, 0 + j, none⟩ = _ ∧ _
  rw [Nat.zero_add]
  by_cases ej : j = r
  · subst ej
    have e1 : (l.set j y).getD j [] = y := by simp [List.getD, hj]
    rw [e1]
    simp only [↓reduceIte]
    refine ⟨World.cell?_setCell_same' _ _ _ (by simp [World.cell?, hcur5, hc j hj]), fun _ => ⟨trivial, ⟨hB2, hrb2.lt⟩, fun i hi => ?_⟩⟩
    rw [Nat.zero_add]
    exact cell_set_far (hrb2.cell hi) hg2b
  · have e1 : (l.set r y).getD j [] = l.getD j [] := by simp [List.getD, List.getElem?_set_ne (Ne.symm ej)]
    rw [e1]
    simp only [if_neg ej]
    obtain ⟨gj, hAj, hBj, hrbj⟩ := h.row hj
    have hgj := h.addr_ne hr hj hA hAj ej
    have hrb5 : RowB w5 gj (l.getD j []) := hrbj.of_block (hg.block gj hrbj.lt (fun e => by injection e with e; omega))
    have hgjb := h.row_ne hrbj
    refine ⟨?_, fun _ => ?_⟩
    · rw [World.cell?_setCell_other _ _ _ _ (fun e => ej (by injection e with _ e; exact e.symm))]
      simp [World.cell?, hcur5, hc j hj]
    · have e' : ((A j).getD default).block = gj := by rw [hAj]; rfl
      rw [e']
      exact ⟨hAj, ⟨hBj, hrb5.lt⟩, fun i hi => by rw [Nat.zero_add]; exact cell_set_far (hrb5.cell hi) hgjb⟩

theorem BD.setNum {B : Nat} {w : World} {l : List (List Int)} {A : Nat → Option Addr} {C : Nat → Nat} {b cap n : Nat} (h : BD B w (.slice (some ⟨b, 0, none⟩) n cap) l A C) {r g k : Nat} (hr : r < l.length) (hA : A r = some ⟨g, 0, none⟩) (hk : k < (l.getD r []).length) (z : Int) :
    InT B w.heap.size (w.setCell ⟨g, k, none⟩ (.int .i64 z)) (some ⟨b, 0, none⟩) (l.set r ((l.getD r []).set k z)) := by
  obtain ⟨b', cap', cur, e, hb, hcur, hc⟩ := h.top (by omega)
  injection e with e en _
  injection e with e
  injection e with e
  subst e
  obtain ⟨g', hA', hBg, hrb⟩ := h.row hr
  rw [hA] at hA'
  injection hA' with hA'
  injection hA' with hA'
  subst hA'
  have hgb := h.row_ne hrb
  intro _
  refine ⟨b, 0, A, fun j => ((A j).getD default).block, fun _ => 0, C, rfl, ⟨hb, (Array.getElem?_eq_some_iff.1 hcur).1⟩, fun j hj => ?_⟩
  rw [List.length_set] at hj
  show (w.setCell ⟨g, k, none⟩ _).cell? ⟨b, 0 + j, none⟩ = _ ∧ _
  rw [Nat.zero_add]
  have hlen : ((l.set r ((l.getD r []).set k z)).getD j []).length = (l.getD j []).length := by
    by_cases ej : j = r
    · subst ej; simp [List.getD, hj]
    · simp [List.getD, List.getElem?_set_ne (Ne.symm ej)]
  rw [hlen]
  refine ⟨cell_set_far (by simp [World.cell?, hcur, hc j hj]) (Ne.symm hgb), fun _ => ?_⟩
  obtain ⟨gj, hAj, hBj, hrbj⟩ := h.row hj
  have e' : ((A j).getD default).block = gj := by rw [hAj]; rfl
  dsimp only
  rw [e']
  refine ⟨hAj, ⟨hBj, hrbj.lt⟩, fun i hi => ?_⟩
  rw [Nat.zero_add]
  by_cases ej : j = r
  · subst ej
    rw [hA] at hAj
    injection hAj with hAj
    injection hAj with hAj
    subst hAj
    have e1 : (l.set j ((l.getD j []).set k z)).getD j [] = (l.getD j []).set k z := by simp [List.getD, hj]
    rw [e1]
    by_cases ei : i = k
    · subst ei
      rw [World.cell?_setCell_same' _ _ _ (by rw [hrbj.cell hi]; rfl)]
      simp [List.getD] at hi ⊢
      simp [hi]
    · rw [World.cell?_setCell_other _ _ _ _ (fun e => ei (by injection e with _ e; exact e.symm)), hrbj.cell hi]
      simp [List.getD, List.getElem?_set_ne (Ne.symm ei)]
  · have hgj := h.addr_ne hr hj hA hAj ej
    have e1 : (l.set r ((l.getD r []).set k z)).getD j [] = l.getD j [] := by simp [List.getD, List.getElem?_set_ne (Ne.symm ej)]
    rw [e1]
    exact cell_set_far (hrbj.cell hi) hgj

theorem InT.kept {lo hi : Nat} {w w' : World} {a : Option Addr} {l : List (List Int)} {G : Nat} (h : InT lo hi w a l) (hg : w.grownBy w' (some G)) (hG : G < lo) : InT lo hi w' a l :=
  h.frame (lo' := G) (hi' := G + 1) ⟨hg.os, hg.tape, hg.output, hg.size, fun k hk ho => hg.block k hk (fun e => by injection e with e; omega)⟩ (.inr (by omega))

end Go.Proofs.Yteaabemnolacdaa
end

section
namespace Go.Proofs.Yteaabemnolacdaa
open Go.RowKit Go.Deep

def Drawn0 (w w' : World) (R K : Nat) (a : Option Addr) (l : List (List Int)) : Prop :=
  1 ≤ l.length ∧ l.length ≤ R ∧ (∀ j, j < l.length → 1 ≤ (l.getD j []).length ∧ (l.getD j []).length ≤ K + 1) ∧ InT w.heap.size w'.heap.size w' a l

theorem lens_set {l : List (List Int)} {r : Nat} {y : List Int} {n m K : Nat} (hl : l.length = n) (h : ∀ j, j < n → (l.getD j []).length = m) (hm : 1 ≤ m ∧ m ≤ K) (hy : 1 ≤ y.length ∧ y.length ≤ K + 1) : ∀ j, j < (l.set r y).length → 1 ≤ ((l.set r y).getD j []).length ∧ ((l.set r y).getD j []).length ≤ K + 1 := by
  intro j hj
  rw [List.length_set] at hj
  by_cases e : j = r
  · subst e
    rw [show (l.set j y).getD j [] = y by simp [List.getD, hj]]
    exact hy
  · rw [show (l.set r y).getD j [] = l.getD j [] by simp [List.getD, List.getElem?_set_ne (Ne.symm e)], h j (by omega)]
    omega

set_option maxRecDepth 100000 in
set_option maxHeartbeats 4000000 in
theorem l91Some_any (w0 w : World) (G nb c p R K : Nat) (a : Option Addr) (h : RD w0 w G a nb c 80 p) (hR1 : 1 ≤ R) (hR : R ≤ 8) (hK1 : 1 ≤ K) (hK : K ≤ 8) (hp : p ≤ 40000) :
    Calls Try.prog 72 #[.pointer (some ⟨G, 0, none⟩), .int .i64 R, .int .i64 K] w fun e w' => ∃ a' cap l p', e = .returned (.slice a' l.length cap) ∧ w.grownBy w' (some G) ∧ RD w0 w' G a nb c 80 p' ∧ p' ≤ p + 600 ∧ Drawn0 w w' R K a' l := by
  obtain ⟨i3, hi3⟩ := info3_parts
  have HJ := Lib.hid hi3
  have hG := h.lt
  have HRD := Lib.hid h
  clear h hi3
  go_enter Try.func72, Try.ntmps72
  go_wp2_with fail
  refine (pick_any w0 _ G nb c _ a _ HRD.out (by omega)).mono ?_
  rintro e w1 ⟨y1, rfl, hy1, hg1, hd1⟩
  obtain ⟨n, hn, hnn⟩ : ∃ n : Nat, IntKind.i64.wrap (1 + (y1 : Int)) = n ∧ n = y1 + 1 := ⟨y1 + 1, (IntWalk.i64_in _ ⟨by omega, by omega⟩).trans (by omega), rfl⟩
  have hn1 : 1 ≤ n ∧ n ≤ R := by omega
  have HD1 := Lib.hid hd1
  have HG1 := Lib.hid hg1
  clear hd1 hg1 hnn hy1 HRD
  go_wp2_with fail
  refine (pick_any w0 _ G nb c _ a _ HD1.out (by omega)).mono ?_
  rintro e w2 ⟨y2, rfl, hy2, hg2, hd2⟩
  obtain ⟨m, hm, hmm⟩ : ∃ m : Nat, IntKind.i64.wrap (1 + (y2 : Int)) = m ∧ m = y2 + 1 := ⟨y2 + 1, (IntWalk.i64_in _ ⟨by omega, by omega⟩).trans (by omega), rfl⟩
  have hm1 : 1 ≤ m ∧ m ≤ K := by omega
  have HD2 := Lib.hid hd2
  have HG2 := Lib.hid (grown_trans HG1.out hg2)
  clear hd2 hg2 hmm hy2 HD1 HG1
  go_wp2_with fail
  refine (l91Table_any w0 _ G nb c _ n m a HD2.out (by omega) (by omega) (by omega) (by omega)).mono ?_
  rintro e w3 ⟨v, l, A, C, p3, rfl, hl, hlm, hg3, hd3, hp3, hB⟩
  obtain ⟨b, cp, cur, hv, hbb, hcur, hc⟩ := hB.top (by omega)
  rw [hl] at hv
  subst hv
  have hG2 := HG2.out.size
  have HD3 := Lib.hid hd3
  have HG3 := Lib.hid (grown_trans HG2.out hg3)
  have HB := Lib.hid hB
  clear hd3 hg3 hcur hc hB HD2
  go_wp2_with fail
  refine (pick_any w0 _ G nb c _ a _ HD3.out (by omega)).mono ?_
  rintro e w4 ⟨y4, rfl, hy4, hg4, hd4⟩
  have HG4 := Lib.hid (grown_trans HG3.out hg4)
  have HB4 := Lib.hid (HB.out.kept hg4 (by omega))
  have HD4 := Lib.hid hd4
  have hz4 := HG4.out.size
  clear hd4 hg4 HB HG3 HD3 hy4
  obtain ⟨g0, hA0, hg0, hrb0⟩ := HB4.out.row (r := 0) (by omega)
  by_cases hy0 : y4 = 0
  · subst hy0
    obtain ⟨t1, _, _⟩ := HB4.out.cellTop (r := 0) (by omega)
    rw [hlm 0 (by omega), hA0] at t1
    have t2 := hrb0.cell (i := 0) (by rw [hlm 0 (by omega)]; omega)
    have t3 := hrb0.frozen 0
    have hIT := HB4.out.setNum (r := 0) (k := 0) (by omega) hA0 (by rw [hlm 0 (by omega)]; omega) 31
    have hll : (l.set 0 ((l.getD 0 []).set 0 31)).length = n := by rw [List.length_set]; exact hl
    have hlens := lens_set (r := 0) (y := (l.getD 0 []).set 0 31) hl hlm hm1 (by rw [List.length_set, hlm 0 (by omega)]; omega)
    have HIT := Lib.hid hIT
    have HLL := Lib.hid hll
    have HLENS := Lib.hid hlens
    have HGS := Lib.hid (grown_set HG4.out (show w.heap.size ≤ g0 by omega) (k := 0) (.int .i64 31))
    have HDS := Lib.hid (HD4.out.grown (grown_set_any w4 g0 0 (.int .i64 31)) (fun i e => by cases e; omega))
    have p1 : 0 < n := by omega
    have p2 : 0 < m := by omega
    clear hrb0 hIT hll hlens hA0 hlm hl
    go_wp2
    go_ret
    exact ⟨_, _, l.set 0 ((l.getD 0 []).set 0 31), _, by rw [HLL.out]; rfl, HGS.out, HDS.out, by omega, by rw [HLL.out]; omega, by rw [HLL.out]; omega, HLENS.out, HIT.out.mono hG2 (by simp)⟩
  · clear hrb0 hA0 hg0
    by_cases hy1 : y4 = 1
    · subst hy1
      obtain ⟨s, hs⟩ : ∃ s, n = s + 1 := ⟨n - 1, by omega⟩
      have hr1 : IntKind.i64.wrap ((n : Int) - 1) = (s : Int) := by rw [show (n : Int) - 1 = s by omega]; exact IntWalk.i64_in _ ⟨by omega, by omega⟩
      have hsr : s < n := by omega
      clear hs
      obtain ⟨g1, hA, hg1, hrb⟩ := HB4.out.row (r := s) (by omega)
      obtain ⟨t1, t2, lb⟩ := HB4.out.cellTop (r := s) (by omega)
      have hRW := (HB4.out.rows s (by omega)).2
      have hls := hlm s hsr
      rw [hls, hA] at t1 hRW
      have hgb := HB4.out.row_ne hrb
      obtain ⟨x, hx⟩ : ∃ x, x = l.getD s [] := ⟨_, rfl⟩
      rw [← hx] at hRW hls
      have HRW := Lib.hid hRW
      have HA := Lib.hid hA
      have HL := Lib.hid hl
      have HLM := Lib.hid hlm
      have t1a := fun ob => cell_alloc_l ob t1
      clear hRW hrb hA hl hlm hx
      go_wp2_with (first
        | (at_builtin; (refine wpList_append_int _ rfl (.tmp 37) (.tmp 38) 36 rfl w2.heap.size i3 Try.underlying36 HJ.out.1 HJ.out.2.1 HJ.out.2.2.1 HJ.out.2.2.2 _ x rfl HRW.out 0 rfl (by omega) (by omega) ?_); intro v' w5 hrw hgr; have hgr : w4.grownBy w5 (some g1) := hgr; obtain ⟨g2, cp2, hv2, hg2b, hrb2⟩ := hrw.form (by simp); rw [show (x ++ [(0 : Int)]).length = m + 1 by rw [List.length_append, hls]; rfl] at hv2; subst hv2; have k1 := hgr.cell t1 (fun e => hgb (by injection e with e; exact e.symm)); have k2 : w5.frozen? ⟨b, s, none⟩ = false := (World.frozen?_of_block (hgr.block b lb (fun e => hgb (by injection e with e; exact e.symm)))).trans t2; have HRW2 := Lib.hid hrw; have HGR := Lib.hid hgr; clear hrw hgr hrb2))
      have hl2 : (x ++ [(0 : Int)]).length = m + 1 := by rw [List.length_append, hls]; rfl
      have hIT := HB4.out.setRow (r := s) (by rw [HL.out]; exact hsr) HA.out HGR.out HRW2.out hl2 (by omega)
      have hll : (l.set s (x ++ [0])).length = n := by rw [List.length_set]; exact HL.out
      have hlens := lens_set (r := s) (y := x ++ [0]) HL.out HLM.out hm1 (by rw [hl2]; omega)
      have hgs := grown_set (grown_new HG4.out HGR.out (fun i e => by cases e; omega)) (show w.heap.size ≤ b by omega) (k := s) (.slice (some ⟨g2, 0, none⟩) (m + 1) cp2)
      have hds := (HD4.out.grown HGR.out (fun i e => by cases e; omega)).grown (grown_set_any w5 b s (.slice (some ⟨g2, 0, none⟩) (m + 1) cp2)) (fun i e => by cases e; omega)
      go_ret
      exact ⟨_, _, l.set s (x ++ [0]), _, by rw [hll]; rfl, hgs, hds, by omega, by rw [hll]; omega, by rw [hll]; omega, hlens, hIT.mono hG2 (by simp)⟩
    · have h1 : ((y4 : Int) == 0) = false := by simp; omega
      have h2 : ((y4 : Int) == 1) = false := by simp; omega
      obtain ⟨a', cap', hv, hIT⟩ := HB4.out.inT
      rw [hl] at hv
      injection hv with hv _ _
      subst hv
      have HL := Lib.hid hl
      have HLM := Lib.hid hlm
      have HIT := Lib.hid hIT
      clear hl hlm hIT
      go_wp2
      go_ret
      exact ⟨_, _, l, _, by rw [HL.out]; rfl, HG4.out, HD4.out, by omega, by rw [HL.out]; omega, by rw [HL.out]; omega, fun j hj => by rw [HLM.out j (by rw [← HL.out]; exact hj)]; omega, HIT.out.mono hG2 (Nat.le_refl _)⟩

end Go.Proofs.Yteaabemnolacdaa
end

section
namespace Go.Proofs.Yteaabemnolacdaa
open Go.RowKit Go.Deep

set_option maxHeartbeats 1000000 in
theorem l6Open_any (a : Option Addr) (nb cb : Nat) (w : World) (hc : nb ≤ cb) (h63 : cb ≤ 9223372036854775807) (hb : BytR w a nb) :
    Calls Try.prog 59 #[.slice a nb cb] w fun e w' => ∃ n' c', e = .returned (.pointer (some ⟨w.heap.size, 0, none⟩)) ∧ w.Since w.heap.size w' ∧ w'.heap.size = w.heap.size + 1 ∧ RD w w' w.heap.size a n' c' 80 0 := by
  by_cases hl : 2000 < nb
  · have hl' : decide ((2000 : Int) < (nb : Int)) = true := by simp; omega
    have h2 : (2000 : Int) ≤ (cb : Int) := by omega
    obtain ⟨b, o, rfl, hcell⟩ := hb (by omega)
    go_enter Try.func59, Try.ntmps59
    go_wp2
    go_ret
    exact ⟨_, _, rfl, (World.Since.refl _ _).alloc (Nat.le_refl _) _, by simp, ⟨heap_alloc_new _ _, Nat.le_refl _, (World.Since.refl _ _).alloc (Nat.le_refl _) _, fun _ => ⟨b, o, rfl, fun i hi => hcell i (by omega)⟩, by omega⟩⟩
  · have hl' : decide ((2000 : Int) < (nb : Int)) = false := by simp; omega
    go_enter Try.func59, Try.ntmps59
    go_wp2
    go_ret
    exact ⟨_, _, rfl, (World.Since.refl _ _).alloc (Nat.le_refl _) _, by simp, ⟨heap_alloc_new _ _, Nat.le_refl _, (World.Since.refl _ _).alloc (Nat.le_refl _) _, hb, by omega⟩⟩

def DrawnT (w w' : World) (R K : Nat) (a : Option Addr) (l : List (List Int)) : Prop :=
  1 ≤ l.length ∧ l.length ≤ R ∧ (∀ j, j < l.length → 1 ≤ (l.getD j []).length ∧ (l.getD j []).length ≤ K + 1) ∧ InT w.heap.size w'.heap.size w' a l

set_option maxHeartbeats 1000000 in
theorem l91One_any (a : Option Addr) (nb cb : Nat) (w : World) (hc : nb ≤ cb) (h63 : cb ≤ 9223372036854775807) (hb : BytR w a nb) :
    Calls Try.prog 100 #[.slice a nb cb] w fun e w' => ∃ a' cap l, e = .returned (.slice a' l.length cap) ∧ w.Since w.heap.size w' ∧ DrawnT w w' 5 5 a' l := by
  have E := Lib.hid (l6Open_any a nb cb w hc h63 hb)
  clear hb
  go_enter Try.func100, Try.ntmps100
  go_wp2_with fail
  refine (E.out).mono ?_
  rintro e w1 ⟨n', c', rfl, hs, hz, hd⟩
  have HD := Lib.hid hd
  clear hd
  go_wp2_with fail
  refine (l91Some_any w w1 w.heap.size n' c' 0 5 5 a HD.out (by omega) (by omega) (by omega) (by omega) (by omega)).mono ?_
  rintro e w2 ⟨a', cap', l, p', rfl, hg, hd2, hp, h1, h5, hl, hit⟩
  go_wp2
  go_ret
  exact ⟨a', cap', l, rfl, hs.trans (since_grown hg (Nat.le_refl _) hs.size), h1, h5, hl, hit.mono hs.size (Nat.le_refl _)⟩

end Go.Proofs.Yteaabemnolacdaa
end

section
namespace Go.Proofs.Yteaabemnolacdaa
open Go.RowKit Go.Deep

set_option maxHeartbeats 1000000 in
theorem sameInts_same (a b : Option Addr) (ca cb n : Nat) (l : List Int) (w : World) (hn : l.length = n) (h63 : n ≤ 9223372036854775807) (ha : RowR w a l) (hb : RowR w b l) :
    Calls Try.prog 67 #[.slice a n ca, .slice b n cb] w fun e w' => e = .returned (.bool true) ∧ Drawn w w' := by
  have H := Lib.hid hn; clear hn
  go_enter Try.func67, Try.ntmps67
  go_wp2
  go_loopg [5] n (fun g i wr => ∃ k : Nat, k ≤ n ∧ g = n - k ∧ i = .int .i64 k ∧ Drawn w wr)
  case atStart => exact ⟨0, Nat.zero_le _, rfl, rfl, Drawn.refl w⟩
  case round =>
    obtain ⟨k, hk, rfl, rfl, hD⟩ := hrel
    by_cases hlt : k < n
    · obtain ⟨b1, o1, rfl, hc1⟩ := ha (by rw [H.out]; omega)
      obtain ⟨b2, o2, rfl, hc2⟩ := hb (by rw [H.out]; omega)
      have c1 := hc1 k (by rw [H.out]; exact hlt)
      have c2 := hc2 k (by rw [H.out]; exact hlt)
      obtain ⟨x, hx⟩ : ∃ x, x = l.getD k 0 := ⟨_, rfl⟩
      rw [← hx] at c1 c2
      rw [← hD.cell] at c1 c2
      clear hx hc1 hc2 ha hb
      go_wp2
      go_quiet (fail)
      go_wp2
      go_roundg (n - (k + 1))
      case measure => omega
      case rel => exact ⟨k + 1, by omega, rfl, by go_num, hD.trans (Drawn.mk _ _)⟩
    · go_wp2
      go_ret
      exact ⟨rfl, hD⟩

set_option maxHeartbeats 1000000 in
theorem sameRows_same (a b : Option Addr) (ca cb n : Nat) (l : List (List Int)) (w : World) (hn : l.length = n) (h63 : n ≤ 9223372036854775807) (hl : ∀ r, r < l.length → (l.getD r []).length ≤ 9223372036854775807)
    (ha : MatR w a l) (hb : MatR w b l) :
    Calls Try.prog 19 #[.slice a n ca, .slice b n cb] w fun e w' => e = .returned (.bool true) ∧ Drawn w w' := by
  have H := Lib.hid hn; clear hn
  go_enter Try.func19, Try.ntmps19
  go_wp2
  go_loopg [5] n (fun g i wr => ∃ k : Nat, k ≤ n ∧ g = n - k ∧ i = .int .i64 k ∧ Drawn w wr)
  case atStart => exact ⟨0, Nat.zero_le _, rfl, rfl, Drawn.refl w⟩
  case round =>
    obtain ⟨k, hk, rfl, rfl, hD⟩ := hrel
    by_cases hlt : k < n
    · obtain ⟨b1, o1, A1, C1, rfl, hc1⟩ := ha (by rw [H.out]; omega)
      obtain ⟨b2, o2, A2, C2, rfl, hc2⟩ := hb (by rw [H.out]; omega)
      obtain ⟨c1, r1⟩ := hc1 k (by rw [H.out]; exact hlt)
      obtain ⟨c2, r2⟩ := hc2 k (by rw [H.out]; exact hlt)
      have hlk := hl k (by rw [H.out]; exact hlt)
      obtain ⟨x, hx⟩ : ∃ x, x = l.getD k [] := ⟨_, rfl⟩
      rw [← hx] at c1 c2 r1 r2 hlk
      obtain ⟨m, hm⟩ : ∃ m, x.length = m := ⟨_, rfl⟩
      rw [hm] at c1 c2 hlk
      have HM := Lib.hid hm
      clear hx hc1 hc2 ha hb hl hm
      have r1 := r1.drawn hD
      have r2 := r2.drawn hD
      rw [← hD.cell] at c1 c2
      have e1 := fun (p : Nat) => sameInts_same (A1 k) (A2 k) (C1 k) (C2 k) m x (wr.drewN p) HM.out hlk r1 r2
      have E1 := Lib.hid e1; clear e1 r1 r2
      go_wp2
      go_quiet ((go_at_call 67; exact Calls.quiet_of (E1.out _)))
      go_wp2
      go_roundg (n - (k + 1))
      case measure => omega
      case rel => exact ⟨k + 1, by omega, rfl, by go_num, hD.trans (Drawn.mk _ _)⟩
    · go_wp2
      go_ret
      exact ⟨rfl, hD⟩

end Go.Proofs.Yteaabemnolacdaa
end

section
namespace Go.Proofs.Yteaabemnolacdaa
open Go.RowKit Go.Deep

theorem szL_of {l : List (List Int)} {n k : Nat} (h1 : l.length ≤ n) (h2 : ∀ j, j < l.length → (l.getD j []).length ≤ k) (hnk : n * k + n ≤ 1048576) : szL l ≤ 1048576 := by
  have h3 := sumTo_le_mul l k h2 l.length (Nat.le_refl _)
  have h4 : l.length * k ≤ n * k := Nat.mul_le_mul_right _ h1
  have h5 : k * l.length = l.length * k := Nat.mul_comm _ _
  unfold szL
  omega
theorem rows_le {l : List (List Int)} (h : szL l ≤ 1048576) : ∀ r, r < l.length → (l.getD r []).length ≤ 9223372036854775807 := fun r hr => by
  have := row_le l hr
  unfold szL at h
  omega

theorem tab_self {l : List (List Int)} {n m : Nat} (hn : l.length = n) (hm : ∀ r, r < n → (l.getD r []).length = m) : tabF n m (at2 l) = l := by
  refine List.ext_getElem (by rw [tabF_length, hn]) fun r h1 h2 => ?_
  have hr : r < n := by rw [tabF_length] at h1; exact h1
  have e1 : (tabF n m (at2 l))[r] = (tabF n m (at2 l)).getD r [] := by simp [List.getD, h1]
  have e2 : l[r] = l.getD r [] := by simp [List.getD, h2]
  rw [e1, e2, tabF_get _ _ _ _ hr]
  refine List.ext_getElem (by rw [List.length_map, List.length_range, hm r hr]) fun k h3 h4 => ?_
  rw [List.getElem_map, List.getElem_range]
  unfold at2
  obtain ⟨x, hx⟩ : ∃ x, x = l.getD r [] := ⟨_, rfl⟩
  subst hx
  generalize l.getD r [] = x at *
  simp [List.getD, h4]

theorem turnL_turnL {l : List (List Int)} (hT : TabIn l) : turnL (turnL l) = l := by
  have h1 := hT.1
  have hw := hT.width
  have e0 : ((turnL l).getD 0 []).length = l.length := tabF_len _ _ _ _ hw.1
  have e1 : turnL (turnL l) = tabF l.length (l.getD 0 []).length fun k i => at2 (turnL l) i k := by
    show tabF ((turnL l).getD 0 []).length (turnL l).length _ = _
    rw [e0, turnL_length]
  rw [e1]
  have e2 : tabF l.length (l.getD 0 []).length (fun k i => at2 (turnL l) i k) = tabF l.length (l.getD 0 []).length (at2 l) := by
    unfold tabF
    refine List.map_congr_left fun r hr => List.map_congr_left fun k hk => ?_
    exact tabF_at _ _ _ _ _ (List.mem_range.1 hk) (List.mem_range.1 hr)
  rw [e2]
  exact tab_self rfl (fun r hr => hT.row hr)

end Go.Proofs.Yteaabemnolacdaa
end

section
namespace Go.Proofs.Yteaabemnolacdaa
open Go.RowKit Go.Deep

theorem results_four {fn : Func} {a b c d : Tmp} (h : fn.results = #[.tmp a, .tmp b, .tmp c, .tmp d]) (tmps : Array Value) (P : Program) (w : World) :
    (results fn tmps).run P w = .ok (.tuple #[tmps.getD a undef, tmps.getD b undef, tmps.getD c undef, tmps.getD d undef]) w := by
  simp [results, h]

set_option maxRecDepth 100000 in
set_option maxHeartbeats 2000000 in
theorem drawAdd_any (a : Option Addr) (nb cb : Nat) (w : World) (hc : nb ≤ cb) (h63 : cb ≤ 9223372036854775807) (hb : BytR w a nb) :
    Calls Try.prog 49 #[.slice a nb cb] w fun e w' => ∃ a' cap l, ∃ (x y z : Int), e = .returned (.tuple #[.slice a' l.length cap, .int .i64 x, .int .i64 y, .int .i64 z]) ∧ w.Since w.heap.size w' ∧ DrawnT w w' 5 5 a' l := by
  have E := Lib.hid (l6Open_any a nb cb w hc h63 hb)
  clear hb
  go_enter Try.func49, Try.ntmps49
  go_wp2_with fail
  refine (E.out).mono ?_
  rintro e w1 ⟨n', c', rfl, hs, hz, hd⟩
  have HD0 := Lib.hid hd
  clear hd
  have hz1 : w.heap.size < w1.heap.size := by omega
  clear hz
  go_wp2_with fail
  refine (l91Some_any w w1 w.heap.size n' c' 0 5 5 a HD0.out (by omega) (by omega) (by omega) (by omega) (by omega)).mono ?_
  rintro e w2 ⟨a', cap', l, p', rfl, hg, hd2, hp, h1, h5, hl, hit⟩
  have HG0 := Lib.hid hg
  have HIT := Lib.hid hit
  have HL := Lib.hid hl
  have HD := Lib.hid hd2
  obtain ⟨nn, hnn⟩ : ∃ n, l.length = n := ⟨_, rfl⟩
  rw [hnn] at h1 h5 ⊢
  have HN := Lib.hid hnn
  clear hg hit hl hd2 hnn
  have HG := Lib.hid (World.grownBy_refl w2 (some w.heap.size))
  have hn0 : ((nn : Int) == 0) = false := by simp; omega
  go_wp2_with (first
    | (go_at_call 60; refine (pick_any w _ w.heap.size n' c' _ a _ HD.out (by omega)).mono ?_; rintro e wk ⟨y, rfl, hy, hg, hd⟩; have HG := Lib.hid (grown_trans HG.out hg); have HD := Lib.hid hd; clear hd hg))
  have hs2 : w.Since w.heap.size w2 := hs.trans (since_grown HG0.out (Nat.le_refl _) hs.size)
  have hs3 := hs2.trans (since_grown HG.out (Nat.le_refl _) hs2.size)
  (try simp only [Exit.inBlock, Exit.then]); refine bodyPost_ret (results_four rfl _ _ _) rfl ?_
  exact ⟨_, _, l, _, _, _, by rw [HN.out]; rfl, hs3, by rw [HN.out]; exact h1, by rw [HN.out]; exact h5, HL.out, (HIT.out.kept HG.out hz1).mono hs.size HG.out.size⟩

set_option maxRecDepth 100000 in
set_option maxHeartbeats 2000000 in
theorem drawBeside_any (a : Option Addr) (nb cb : Nat) (w : World) (hc : nb ≤ cb) (h63 : cb ≤ 9223372036854775807) (hb : BytR w a nb) :
    Calls Try.prog 46 #[.slice a nb cb] w fun e w' => ∃ a' cap l b' cap2 u, e = .returned (.tuple #[.slice a' l.length cap, .slice b' u.length cap2]) ∧ w.Since w.heap.size w' ∧ DrawnT w w' 3 3 a' l ∧ DrawnT w w' 4 3 b' u := by
  have E := Lib.hid (l6Open_any a nb cb w hc h63 hb)
  clear hb
  go_enter Try.func46, Try.ntmps46
  go_wp2_with fail
  refine (E.out).mono ?_
  rintro e w1 ⟨n', c', rfl, hs, hz, hd⟩
  have HD0 := Lib.hid hd
  clear hd
  have hz1 : w.heap.size < w1.heap.size := by omega
  clear hz
  go_wp2_with fail
  refine (l91Some_any w w1 w.heap.size n' c' 0 3 3 a HD0.out (by omega) (by omega) (by omega) (by omega) (by omega)).mono ?_
  rintro e w2 ⟨a', cap', l, p', rfl, hg, hd2, hp, h1, h5, hl, hit⟩
  have HG0 := Lib.hid hg
  have HIT := Lib.hid hit
  have HL := Lib.hid hl
  have HD := Lib.hid hd2
  obtain ⟨nn, hnn⟩ : ∃ n, l.length = n := ⟨_, rfl⟩
  rw [hnn] at h1 h5 ⊢
  have HN := Lib.hid hnn
  clear hg hit hl hd2 hnn
  go_wp2_with fail
  refine (l91Some_any w w2 w.heap.size n' c' p' 4 3 a HD.out (by omega) (by omega) (by omega) (by omega) (by omega)).mono ?_
  rintro e w2q ⟨aq', capq', lq, pq', rfl, hgq, hd2q, hpq, h1q, h5q, hlq, hitq⟩
  have HG0q := Lib.hid hgq
  have HITq := Lib.hid hitq
  have HLq := Lib.hid hlq
  have HDq := Lib.hid hd2q
  obtain ⟨nnq, hnnq⟩ : ∃ n, lq.length = n := ⟨_, rfl⟩
  rw [hnnq] at h1q h5q ⊢
  have HNq := Lib.hid hnnq
  clear hgq hitq hlq hd2q hnnq
  have hs2 : w.Since w.heap.size w2 := hs.trans (since_grown HG0.out (Nat.le_refl _) hs.size)
  have hs3 := hs2.trans (since_grown HG0q.out (Nat.le_refl _) hs2.size)
  go_wp2
  go_ret2
  exact ⟨_, _, l, _, _, lq, by rw [HN.out, HNq.out]; rfl, hs3, ⟨by rw [HN.out]; exact h1, by rw [HN.out]; exact h5, HL.out, (HIT.out.kept HG0q.out hz1).mono hs.size HG0q.out.size⟩, ⟨by rw [HNq.out]; exact h1q, by rw [HNq.out]; exact h5q, HLq.out, HITq.out.mono hs2.size (Nat.le_refl _)⟩⟩

end Go.Proofs.Yteaabemnolacdaa
end

section
namespace Go.Proofs.Yteaabemnolacdaa
open Go.RowKit Go.Deep

theorem drawnT_of {w w' : World} {l : List (List Int)} {n m R K : Nat} {a : Option Addr} (hl : l.length = n) (hm : ∀ j, j < n → (l.getD j []).length = m) (h1 : 1 ≤ n ∧ n ≤ R) (h2 : 1 ≤ m ∧ m ≤ K + 1) (h : InT w.heap.size w'.heap.size w' a l) : DrawnT w w' R K a l :=
  ⟨by omega, by omega, fun j hj => by rw [hm j (by omega)]; exact h2, h⟩

set_option maxRecDepth 100000 in
set_option maxHeartbeats 2000000 in
theorem l91Made_any (a : Option Addr) (nb cb : Nat) (w : World) (hc : nb ≤ cb) (h63 : cb ≤ 9223372036854775807) (hb : BytR w a nb) :
    Calls Try.prog 102 #[.slice a nb cb] w fun e w' => ∃ a' cap l b' cap2 u, e = .returned (.tuple #[.slice a' l.length cap, .slice b' u.length cap2]) ∧ w.Since w.heap.size w' ∧ DrawnT w w' 5 5 a' l ∧ DrawnT w w' 5 5 b' u := by
  have E := Lib.hid (l6Open_any a nb cb w hc h63 hb)
  clear hb
  go_enter Try.func102, Try.ntmps102
  go_wp2_with fail
  refine (E.out).mono ?_
  rintro e w1 ⟨n', c', rfl, hs, hz, hd⟩
  have HD1 := Lib.hid hd
  have HS := Lib.hid hs
  have hz1 : w.heap.size < w1.heap.size := by omega
  clear hd hs hz
  go_wp2_with fail
  refine (pick_any w _ w.heap.size n' c' _ a _ HD1.out (by omega)).mono ?_
  rintro e w2 ⟨y2, rfl, hy2, hg2, hd2⟩
  have HD2 := Lib.hid hd2
  have HG2 := Lib.hid hg2
  clear hd2 hg2
  obtain ⟨n, hn, hhn⟩ : ∃ n : Nat, IntKind.i64.wrap (1 + (y2 : Int)) = n ∧ n = y2 + 1 := ⟨y2 + 1, (IntWalk.i64_in _ ⟨by omega, by omega⟩).trans (by omega), rfl⟩
  have hbn : 1 ≤ n ∧ n ≤ 4 := by omega
  clear hhn hy2
  go_wp2_with fail
  refine (pick_any w _ w.heap.size n' c' _ a _ HD2.out (by omega)).mono ?_
  rintro e w3 ⟨y3, rfl, hy3, hg3, hd3⟩
  have HD3 := Lib.hid hd3
  have HG3 := Lib.hid hg3
  clear hd3 hg3
  obtain ⟨m, hm, hhm⟩ : ∃ m : Nat, IntKind.i64.wrap (1 + (y3 : Int)) = m ∧ m = y3 + 1 := ⟨y3 + 1, (IntWalk.i64_in _ ⟨by omega, by omega⟩).trans (by omega), rfl⟩
  have hbm : 1 ≤ m ∧ m ≤ 4 := by omega
  clear hhm hy3
  go_wp2_with fail
  refine (l91Table_any w _ w.heap.size n' c' _ n m a HD3.out (by omega) (by omega) (by omega) (by omega)).mono ?_
  rintro e w4 ⟨vl, l, Al, Cl, pl, rfl, hll, hlml, hg4, hd4, hpl, hBl⟩
  obtain ⟨al, cpl, hvl, hITl⟩ := hBl.inT
  rw [hll] at hvl
  subst hvl
  have HD4 := Lib.hid hd4
  have HG4 := Lib.hid hg4
  have HLl := Lib.hid hll
  have HLMl := Lib.hid hlml
  have HITl := Lib.hid hITl
  clear hd4 hg4 hll hlml hITl hBl
  go_wp2_with fail
  refine (pick_any w _ w.heap.size n' c' _ a _ HD4.out (by omega)).mono ?_
  rintro e w5 ⟨y5, rfl, hy5, hg5, hd5⟩
  have HD5 := Lib.hid hd5
  have HG5 := Lib.hid hg5
  clear hd5 hg5
  obtain ⟨d5, hq5, hd5⟩ : ∃ d : Nat, IntKind.i64.wrap ((y5 : Int) / 23) = d ∧ d ≤ 1 := ⟨y5 / 23, (IntWalk.i64_in _ ⟨by omega, by omega⟩).trans (by omega), by omega⟩
  obtain ⟨n2, hn2, hhn2⟩ : ∃ n2 : Nat, IntKind.i64.wrap ((m : Int) + (d5 : Int)) = n2 ∧ 1 ≤ n2 ∧ n2 ≤ 5 := ⟨m + d5, (IntWalk.i64_in _ ⟨by omega, by omega⟩).trans (by omega), by omega, by omega⟩
  clear hy5
  go_wp2_with fail
  refine (pick_any w _ w.heap.size n' c' _ a _ HD5.out (by omega)).mono ?_
  rintro e w6 ⟨y6, rfl, hy6, hg6, hd6⟩
  have HD6 := Lib.hid hd6
  have HG6 := Lib.hid hg6
  clear hd6 hg6
  obtain ⟨m2, hm2, hhm2⟩ : ∃ m2 : Nat, IntKind.i64.wrap (1 + (y6 : Int)) = m2 ∧ m2 = y6 + 1 := ⟨y6 + 1, (IntWalk.i64_in _ ⟨by omega, by omega⟩).trans (by omega), rfl⟩
  have hbm2 : 1 ≤ m2 ∧ m2 ≤ 4 := by omega
  clear hhm2 hy6
  go_wp2_with fail
  refine (l91Table_any w _ w.heap.size n' c' _ n2 m2 a HD6.out (by omega) (by omega) (by omega) (by omega)).mono ?_
  rintro e w7 ⟨vu, u, Au, Cu, pu, rfl, hlu, hlmu, hg7, hd7, hpu, hBu⟩
  obtain ⟨au, cpu, hvu, hITu⟩ := hBu.inT
  rw [hlu] at hvu
  subst hvu
  have HD7 := Lib.hid hd7
  have HG7 := Lib.hid hg7
  have HLu := Lib.hid hlu
  have HLMu := Lib.hid hlmu
  have HITu := Lib.hid hITu
  clear hd7 hg7 hlu hlmu hITu hBu
  have hall := grown_trans (grown_trans (grown_trans (grown_trans (grown_trans (HG2.out) HG3.out) HG4.out) HG5.out) HG6.out) HG7.out
  have hbl := (grown_trans (HG2.out) HG3.out).size
  have hbu := (grown_trans (grown_trans (grown_trans (grown_trans (HG2.out) HG3.out) HG4.out) HG5.out) HG6.out).size
  have hs1 := HS.out.size
  have hfin := HS.out.trans (since_grown hall (Nat.le_refl _) hs1)
  have itl := (HITl.out.kept (grown_trans (grown_trans (HG5.out) HG6.out) HG7.out) (by omega)).mono (show w.heap.size ≤ _ by omega) (grown_trans (grown_trans (HG5.out) HG6.out) HG7.out).size
  have itu := HITu.out.mono (show w.heap.size ≤ _ by omega) (Nat.le_refl _)
  go_wp2
  go_ret2
  exact ⟨_, _, l, _, _, u, by rw [HLl.out, HLu.out]; rfl, hfin, drawnT_of HLl.out HLMl.out (by omega) (by omega) itl, drawnT_of HLu.out HLMu.out (by omega) (by omega) itu⟩

set_option maxHeartbeats 1000000 in
theorem drawMake_any (a : Option Addr) (nb cb : Nat) (w : World) (hc : nb ≤ cb) (h63 : cb ≤ 9223372036854775807) (hb : BytR w a nb) :
    Calls Try.prog 44 #[.slice a nb cb] w fun e w' => ∃ a' cap l b' cap2 u, e = .returned (.tuple #[.slice a' l.length cap, .slice b' u.length cap2]) ∧ w.Since w.heap.size w' ∧ DrawnT w w' 5 5 a' l ∧ DrawnT w w' 5 5 b' u := by
  have E := Lib.hid (l91Made_any a nb cb w hc h63 hb)
  clear hb
  go_enter Try.func44, Try.ntmps44
  go_wp2_with fail
  refine (E.out).mono ?_
  rintro e w1 ⟨a', cap, l, b', cap2, u, rfl, hs, hl, hu⟩
  go_wp2
  go_ret2
  exact ⟨a', cap, l, b', cap2, u, rfl, hs, hl, hu⟩

end Go.Proofs.Yteaabemnolacdaa
end

section
namespace Go.Proofs.Yteaabemnolacdaa
open Go.RowKit Go.Deep

theorem makeOk_of {l u : List (List Int)} (h : makeOk l u = true) : TabIn l ∧ TabIn u ∧ (l.getD 0 []).length = u.length ∧ TabIn (makeL l u) := by
  unfold makeOk at h
  simp only [Bool.and_eq_true] at h
  exact ⟨tabIn_of h.1, tabIn_of h.2.1, by simpa using h.2.2.1, tabIn_of h.2.2.2⟩
theorem makeL_len (l u : List (List Int)) : (makeL l u).length = l.length := tabF_length _ _ _
theorem makeL_wid {l u : List (List Int)} (h : 0 < l.length) : ((makeL l u).getD 0 []).length = (u.getD 0 []).length := tabF_len _ _ _ _ h
theorem makeL_at2 {l u : List (List Int)} {i k : Nat} (hi : i < l.length) (hk : k < (u.getD 0 []).length) : at2 (makeL l u) i k = sumN (dotF l u i k) u.length := tabF_at _ _ _ i k hi hk
theorem sqB_true {l : List (List Int)} (h : TabIn l) (hw : l.length = (l.getD 0 []).length) : sqB l = true := by unfold sqB; rw [tabIn_true h, ← hw]; simp
theorem trace_make {l u : List (List Int)} (h : makeOk l u = true) (h2 : makeOk u l = true) : sqB (makeL l u) = true ∧ sqB (makeL u l) = true ∧ sumN (trF (makeL l u)) (makeL l u).length = sumN (trF (makeL u l)) (makeL u l).length := by
  obtain ⟨hT, hU, hw, hM⟩ := makeOk_of h
  obtain ⟨_, _, hw2, hM2⟩ := makeOk_of h2
  have h1 := hT.1
  have g1 := hU.1
  refine ⟨sqB_true hM (by rw [makeL_len, makeL_wid h1, hw2]), sqB_true hM2 (by rw [makeL_len, makeL_wid g1, hw]), ?_⟩
  rw [makeL_len, makeL_len]
  have e1 : sumN (trF (makeL l u)) l.length = sumN (fun i => sumN (fun j => at2 l i j * at2 u j i) u.length) l.length := sumN_congr _ fun i hi => makeL_at2 hi (by omega)
  have e2 : sumN (trF (makeL u l)) u.length = sumN (fun i => sumN (fun j => at2 u i j * at2 l j i) l.length) u.length := sumN_congr _ fun i hi => makeL_at2 hi (by omega)
  rw [e1, e2, sumN_comm]
  exact sumN_congr _ fun i _ => sumN_congr _ fun j _ => Int.mul_comm _ _
theorem value_make {l u : List (List Int)} (h : makeOk l u = true) (hl : sqB l = true) (hu : sqB u = true) : sqB (makeL l u) = true ∧ ordF (makeL l u) (makeL l u).length (makeL l u).length 0 = ordF l l.length l.length 0 * ordF u u.length u.length 0 := by
  obtain ⟨hT, hU, hw, hM⟩ := makeOk_of h
  obtain ⟨_, hl2⟩ := sqB_of hl
  obtain ⟨_, hu2⟩ := sqB_of hu
  have h1 := hT.1
  have h6 := hT.2.1
  have hn : u.length = l.length := by omega
  refine ⟨sqB_true hM (by rw [makeL_len, makeL_wid h1]; omega), ?_⟩
  rw [makeL_len, hn, ordF_all _ h6, ordF_all _ h6, ordF_all _ h6, ← dt_mul]
  exact dt_congr _ fun i j hi hj => by rw [makeL_at2 hi (by omega), hn]; rfl

end Go.Proofs.Yteaabemnolacdaa
end

section
namespace Go.Proofs.Yteaabemnolacdaa
open Go.RowKit Go.Deep

def sw (i k r : Nat) : Nat := if r = k then i else if r = i then k else r
def swapL (l : List (List Int)) (i k : Nat) : List (List Int) := (List.range l.length).map fun r => l.getD (sw i k r) []
theorem swapL_length (l : List (List Int)) (i k : Nat) : (swapL l i k).length = l.length := by simp [swapL]
theorem swapL_get (l : List (List Int)) (i k : Nat) {r : Nat} (h : r < l.length) : (swapL l i k).getD r [] = l.getD (sw i k r) [] := by simp [swapL, List.getD, h]
theorem sw_lt {i k r n : Nat} (hi : i < n) (hk : k < n) (hr : r < n) : sw i k r < n := by unfold sw; split <;> (try split) <;> omega
theorem sw_sw (i k r : Nat) : sw i k (sw i k r) = r := by
  unfold sw
  by_cases h1 : r = k
  · subst h1
    by_cases h2 : i = r
    · subst h2; simp
    · simp [h2]
  · by_cases h2 : r = i
    · subst h2; simp
    · simp [h1, h2]
theorem sw_inj {i k r r' : Nat} (h : sw i k r = sw i k r') : r = r' := by
  have := congrArg (sw i k) h
  rwa [sw_sw, sw_sw] at this
theorem swapL_tab {l : List (List Int)} {i k : Nat} (hT : TabIn l) (hi : i < l.length) (hk : k < l.length) : TabIn (swapL l i k) := by
  have h1 := hT.1
  have h2 := hT.2.1
  refine ⟨by rw [swapL_length]; exact h1, by rw [swapL_length]; exact h2, fun r hr => ?_⟩
  rw [swapL_length] at hr
  rw [swapL_get l i k (show 0 < l.length by omega), swapL_get l i k hr]
  have h3 := hT.2.2 _ (sw_lt hi hk hr)
  rw [hT.row (sw_lt hi hk (show 0 < l.length by omega))]
  exact h3

theorem sel_full (n k : Nat) (hk : k ≤ n) : (sel (2 ^ n - 1) n k).map (·.1) = List.range k := by
  induction k with
  | zero => rfl
  | succ k ih =>
    rw [sel_yes _ _ _ (by omega) (by rw [Nat.testBit_two_pow_sub_one]; simp; omega), List.map_append, ih (by omega), List.range_succ]
    rfl
theorem range_getD {α : Type} (x : List α) (d : α) : (List.range x.length).map (fun j => x.getD j d) = x := by
  refine List.ext_getElem (by simp) fun i h1 h2 => ?_
  simp [List.getD, h2]
theorem pickTo_full (x : List Int) (m : Nat) (h : x.length = m) : pickTo (2 ^ m - 1) x m m = x := by
  have e : pickTo (2 ^ m - 1) x m m = ((sel (2 ^ m - 1) m m).map (·.1)).map (fun j => x.getD j 0) := by rw [List.map_map]; rfl
  rw [e, sel_full m m (Nat.le_refl _), ← h, range_getD]
theorem partL_full {l : List (List Int)} (hT : Rec l) : partL l (2 ^ l.length - 1) (2 ^ (l.getD 0 []).length - 1) = l := by
  have e : partL l (2 ^ l.length - 1) (2 ^ (l.getD 0 []).length - 1) = ((sel (2 ^ l.length - 1) l.length l.length).map (·.1)).map (fun r => pickTo (2 ^ (l.getD 0 []).length - 1) (l.getD r []) (l.getD 0 []).length (l.getD 0 []).length) := by rw [List.map_map]; rfl
  rw [e, sel_full _ _ (Nat.le_refl _)]
  have h : (List.range l.length).map (fun r => pickTo (2 ^ (l.getD 0 []).length - 1) (l.getD r []) (l.getD 0 []).length (l.getD 0 []).length) = (List.range l.length).map (fun r => l.getD r []) :=
    List.map_congr_left fun r hr => pickTo_full _ _ (hT.row (List.mem_range.1 hr))
  rw [h, range_getD]

theorem OwnD.swap {lo hi : Nat} {w : World} {b : Nat} {A : Nat → Option Addr} {G C : Nat → Nat} {n m : Nat} {Z : Nat → Nat → Int} (h : OwnD lo hi w b A G C n (fun _ => m) Z) {i k : Nat} (hi' : i < n) (hk : k < n) :
    OwnD lo hi ((w.setCell ⟨b, i, none⟩ (.slice (A k) m (C k))).setCell ⟨b, k, none⟩ (.slice (A i) m (C i))) b (fun r => A (sw i k r)) (fun r => G (sw i k r)) (fun r => C (sw i k r)) n (fun _ => m) (fun r c => Z (sw i k r) c) := by
  refine ⟨fun r hr => ?_, fun r hr h0 => h.addr _ (sw_lt hi' hk hr) h0, fun r hr h0 => h.inside _ (sw_lt hi' hk hr) h0, fun r hr c hc => ?_, fun r hr c hc => by rw [World.frozen?_setCell, World.frozen?_setCell]; exact h.free _ (sw_lt hi' hk hr) c hc, fun r r' hr hr' h0 h0' e => sw_inj (h.apart _ _ (sw_lt hi' hk hr) (sw_lt hi' hk hr') h0 h0' e)⟩
  · by_cases e1 : r = k
    · subst e1
      have : sw i r r = i := by simp [sw]
      rw [this]
      refine World.cell?_setCell_same' _ _ _ ?_
      by_cases e2 : i = r
      · subst e2
        rw [World.cell?_setCell_same' _ _ _ (by rw [h.top i hi']; rfl)]; rfl
      · rw [World.cell?_setCell_other _ _ _ _ (fun e => e2 (by injection e)), h.top r hk]; rfl
    · rw [World.cell?_setCell_other _ _ _ _ (fun e => e1 (by injection e with _ e; exact e.symm))]
      by_cases e2 : r = i
      · subst e2
        have : sw r k r = k := by simp [sw, e1]
        rw [this]
        exact World.cell?_setCell_same' _ _ _ (by rw [h.top r hr]; rfl)
      · have : sw i k r = r := by simp [sw, e1, e2]
        rw [this, World.cell?_setCell_other _ _ _ _ (fun e => e2 (by injection e with _ e; exact e.symm))]
        exact h.top r hr
  · have hl := sw_lt hi' hk hr
    have hin := h.inside _ hl (by omega)
    rw [World.cell?_setCell_other _ _ _ _ (fun e => hin.2.2 (by injection e with e; exact e.symm)), World.cell?_setCell_other _ _ _ _ (fun e => hin.2.2 (by injection e with e; exact e.symm))]
    exact h.cell _ hl c hc
theorem OwnD.swapT {lo hi : Nat} {w : World} {b : Nat} {A : Nat → Option Addr} {G C : Nat → Nat} {n m : Nat} {Z : Nat → Nat → Int} {l : List (List Int)} (h : OwnD lo hi w b A G C n (fun _ => m) Z) {i k : Nat} (hi' : i < n) (hk : k < n) (hb : lo ≤ b ∧ b < hi)
    (hn : l.length = n) (hm : ∀ r, r < n → (l.getD r []).length = m) (hZ : ∀ r c, r < n → c < m → Z r c = at2 l r c) : OwnT lo hi ((w.setCell ⟨b, i, none⟩ (.slice (A k) m (C k))).setCell ⟨b, k, none⟩ (.slice (A i) m (C i))) (some ⟨b, 0, none⟩) (swapL l i k) :=
  (h.swap hi' hk).ownT hb ((swapL_length _ _ _).trans hn) (fun r hr => by rw [swapL_get l i k (by omega)]; exact hm _ (sw_lt hi' hk hr)) (fun r hr c hc => by rw [swapL_get l i k (by omega)]; exact (hZ _ c (sw_lt hi' hk hr) hc).symm)

set_option maxRecDepth 100000 in
set_option maxHeartbeats 2000000 in
theorem swapped_any (a : Option Addr) (cap n i k : Nat) (l : List (List Int)) (w : World) (hn : l.length = n) (hT : Rec l) (hi : i < n) (hk : k < n) (hm : MatR w a l) :
    Calls Try.prog 84 #[.slice a n cap, .int .i64 i, .int .i64 k] w fun e w' => ∃ a' cap', e = .returned (.slice a' n cap') ∧ w.Since w.heap.size w' ∧ OwnT w.heap.size w'.heap.size w' a' (swapL l i k) := by
  have h6 := hT.high
  have h1 := hT.low
  have hw := hT.width
  rw [hn] at h6 h1
  obtain ⟨m, hmm⟩ : ∃ m, (l.getD 0 []).length = m := ⟨_, rfl⟩
  have E1 := Lib.hid (allRows_any a cap n w h6)
  have E2 := width_any a cap n l w hn (by omega) (by omega) hm
  rw [hmm] at E2 hw
  replace E2 := Lib.hid E2
  have E3 := Lib.hid (fullSet_any m hw.2 w)
  have p1 : 2 ^ n ≤ 2 ^ 6 := Nat.pow_le_pow_right (by omega) h6
  have p2 : 2 ^ m ≤ 2 ^ 6 := Nat.pow_le_pow_right (by omega) hw.2
  have E4 := part_rec a cap n (2 ^ n - 1) (2 ^ m - 1) l w hn hT (by omega) (by omega) hm
  have hfull := partL_full hT
  rw [hn, hmm] at hfull
  rw [hfull, hn] at E4
  replace E4 := Lib.hid E4
  have hrow : ∀ r, r < n → (l.getD r []).length = m := fun r hr => by rw [hT.row (by omega), hmm]
  have HN := Lib.hid hn
  have HROW := Lib.hid hrow
  clear hm hT hfull hrow hmm hn p1 p2
  go_enter Try.func84, Try.ntmps84
  go_wp2_with fail
  refine (E1.out).mono ?_
  rintro e w1 ⟨rfl, rfl⟩
  go_wp2_with fail
  refine (E2.out).mono ?_
  rintro e w1 ⟨rfl, rfl⟩
  go_wp2_with fail
  refine (E3.out).mono ?_
  rintro e w1 ⟨rfl, rfl⟩
  go_wp2_with fail
  refine (E4.out).mono ?_
  rintro e w2 ⟨a2, cap2, rfl, hs2, ho2, hfr⟩
  obtain ⟨b, A, G, C, rfl, hb, hWR⟩ := ho2.wr HN.out (by omega) HROW.out hs2 (fun _ _ => 0)
  have hO := hWR.own
  have c1 := hO.top i hi
  have c2 := hO.top k hk
  have HF := Lib.hid (hO.swapT hi hk hb HN.out HROW.out (fun r c _ _ => by unfold updF; rw [if_neg (by omega)]))
  have f1 := hfr b i rfl hi
  have f2 := hfr b k rfl hk
  have HS := Lib.hid (show w.Since w.heap.size ((w2.setCell ⟨b, i, none⟩ (.slice (A k) m (C k))).setCell ⟨b, k, none⟩ (.slice (A i) m (C i))) from (hs2.setCell hb.1 _).setCell hb.1 _)
  have HZ := Lib.hid (show ((w2.setCell ⟨b, i, none⟩ (.slice (A k) m (C k))).setCell ⟨b, k, none⟩ (.slice (A i) m (C i))).heap.size = w2.heap.size by simp)
  obtain ⟨y1, hy1⟩ : ∃ y, y = A i := ⟨_, rfl⟩
  obtain ⟨y2, hy2⟩ : ∃ y, y = A k := ⟨_, rfl⟩
  obtain ⟨z1, hz1⟩ : ∃ y, y = C i := ⟨_, rfl⟩
  obtain ⟨z2, hz2⟩ : ∃ y, y = C k := ⟨_, rfl⟩
  rw [← hy1, ← hy2, ← hz1, ← hz2] at HF HS HZ
  rw [← hy1, ← hz1] at c1
  rw [← hy2, ← hz2] at c2
  obtain ⟨Y, hY⟩ : ∃ Y, (w2.setCell ⟨b, i, none⟩ (.slice y2 m z2)).cell? ⟨b, k, none⟩ = some Y := by
    by_cases e : i = k
    · subst e; exact ⟨_, World.cell?_setCell_same' _ _ _ (by rw [c1]; rfl)⟩
    · exact ⟨_, (World.cell?_setCell_other _ _ _ _ (fun e' => e (by injection e'))).trans c2⟩
  clear hWR hO ho2 hfr hs2 hy1 hy2 hz1 hz2
  go_wp2
  go_region
  go_wp2
  go_ret
  exact ⟨_, _, rfl, HS.out.drew, (HF.out.mono (Nat.le_refl _) (by rw [World.size_drew, HZ.out]; exact Nat.le_refl _))⟩

end Go.Proofs.Yteaabemnolacdaa
end

section
namespace Go.Proofs.Yteaabemnolacdaa
open Go.RowKit Go.Deep

noncomputable def partOk (l : List (List Int)) (s c : Int) : Bool := tabIn l && (inB s 1 (2 ^ l.length - 1 : Nat) && inB c 1 (2 ^ (l.getD 0 []).length - 1 : Nat))
theorem partOk_tab {l : List (List Int)} {s c : Int} (h : partOk l s c = true) : TabIn (partL l s.toNat c.toNat) := by
  unfold partOk at h
  rw [Bool.and_eq_true, Bool.and_eq_true] at h
  have h2 := of_decide_eq_true h.2.1
  have h3 := of_decide_eq_true h.2.2
  have p1 := Nat.one_le_two_pow (n := l.length)
  have p2 := Nat.one_le_two_pow (n := (l.getD 0 []).length)
  exact partL_tab (tabIn_of h.1) (by omega) (by omega) (by omega) (by omega)

set_option maxHeartbeats 800000 in
theorem isFilled_any (x : Int) (n : Nat) (hn : n ≤ 6) (w : World) :
    Calls Try.prog 93 #[.int .i64 x, .int .i64 n] w fun e w' => e = .returned (.bool (inB x 1 (2 ^ n - 1 : Nat))) ∧ w = w' := by
  have E := Lib.hid (fullSet_any n hn w)
  go_enter Try.func93, Try.ntmps93
  go_wp2_with fail
  refine (E.out).mono ?_
  rintro e w' ⟨rfl, rfl⟩
  go_wp2_with fail
  refine (inRange_any _ _ _ _).mono ?_
  rintro e w' ⟨rfl, rfl⟩
  go_wp2
  go_ret
  exact ⟨rfl, rfl⟩

end Go.Proofs.Yteaabemnolacdaa
end

section
namespace Go.Proofs.Yteaabemnolacdaa
open Go.RowKit Go.Deep

noncomputable def swapOk (l : List (List Int)) (i k : Int) : Bool := tabIn l && (rowB i l.length && rowB k l.length)
theorem swapOk_tab {l : List (List Int)} {i k : Int} (h : swapOk l i k = true) : TabIn (swapL l i.toNat k.toNat) := by
  unfold swapOk at h
  rw [Bool.and_eq_true, Bool.and_eq_true] at h
  obtain ⟨i, rfl, hi⟩ := rowB_of h.2.1
  obtain ⟨k, rfl, hk⟩ := rowB_of h.2.2
  exact swapL_tab (tabIn_of h.1) hi hk
theorem szL_swapOk (l : List (List Int)) (i k : Int) (h : swapOk l i k = true) : szL (swapL l i.toNat k.toNat) ≤ 1048576 := szL_tab (swapOk_tab h)

set_option maxHeartbeats 1000000 in
theorem implTableSwap_any (a : Option Addr) (cap n : Nat) (l : List (List Int)) (i k : Int) (w : World) (hn : l.length = n) (hsz : szL l ≤ 1048576) (hm : MatR w a l) :
    Calls Try.prog 33 #[.slice a n cap, .int .i64 i, .int .i64 k] w (ImplT w (swapOk l i k) (swapL l i.toNat k.toNat)) := by
  have E := Lib.hid (implTableIn_any a cap n l w hn hsz hm)
  cases hT : tabIn l with
  | false =>
    have hok : swapOk l i k = false := by unfold swapOk; rw [hT]; rfl
    rw [hT] at E
    rw [hok]
    clear hT hsz hm hn hok
    go_enter Try.func33, Try.ntmps33
    go_wp2_with fail
    refine (E.out).mono ?_
    rintro e w1 ⟨rfl, hs⟩
    go_wp2
    go_ret2
    exact ⟨_, _, rfl, hs, OwnT.nil _ _ _ _⟩
  | true =>
    have hTT := tabIn_of hT
    have h1 := hTT.1
    have h6 := hTT.2.1
    rw [hn] at h1 h6
    rw [hT] at E
    have E2 := Lib.hid (fun W => hasRow_any a cap n i W h1 h6)
    have E3 := Lib.hid (fun W => hasRow_any a cap n k W h1 h6)
    cases hfr : rowB i n with
    | false =>
      have hok : swapOk l i k = false := by unfold swapOk; rw [hT, hn, hfr]; rfl
      rw [hfr] at E2
      rw [hok]
      clear hT hsz hm hn hok hTT hfr E3
      go_enter Try.func33, Try.ntmps33
      go_wp2_with fail
      refine (E.out).mono ?_
      rintro e w1 ⟨rfl, hs⟩
      go_wp2_with fail
      refine (E2.out w1).mono ?_
      rintro e w2 ⟨rfl, rfl⟩
      go_wp2
      go_ret2
      exact ⟨_, _, rfl, hs, OwnT.nil _ _ _ _⟩
    | true =>
      rw [hfr] at E2
      cases hto : rowB k n with
      | false =>
        have hok : swapOk l i k = false := by unfold swapOk; rw [hT, hn, hfr, hto]; rfl
        rw [hto] at E3
        rw [hok]
        clear hT hsz hm hn hok hTT hfr hto
        go_enter Try.func33, Try.ntmps33
        go_wp2_with fail
        refine (E.out).mono ?_
        rintro e w1 ⟨rfl, hs⟩
        go_wp2_with fail
        refine (E2.out w1).mono ?_
        rintro e w2 ⟨rfl, rfl⟩
        go_wp2_with fail
        refine (E3.out w1).mono ?_
        rintro e w2 ⟨rfl, rfl⟩
        go_wp2
        go_ret2
        exact ⟨_, _, rfl, hs, OwnT.nil _ _ _ _⟩
      | true =>
        rw [hto] at E3
        have hok : swapOk l i k = true := by unfold swapOk; rw [hT, hn, hfr, hto]; rfl
        rw [hok]
        obtain ⟨i, rfl, hfl⟩ := rowB_of hfr
        obtain ⟨k, rfl, htl⟩ := rowB_of hto
        simp only [Int.toNat_natCast]
        have HE2 := Lib.hid (fun (W : World) (hs : w.Since w.heap.size W) => swapped_any a cap n i k l W hn hTT.rec hfl htl (hm.since hs))
        have HTL := Lib.hid ((swapL_length l i k).trans hn)
        have hTS := swapL_tab hTT (by rw [hn]; exact hfl) (by rw [hn]; exact htl)
        have HTS := Lib.hid (tabIn_true hTS)
        have HSZ := Lib.hid (szL_tab hTS)
        clear hT hsz hm hn hok hTT hfr hto hTS
        go_enter Try.func33, Try.ntmps33
        go_wp2_with fail
        refine (E.out).mono ?_
        rintro e w1 ⟨rfl, hs⟩
        go_wp2_with fail
        refine (E2.out w1).mono ?_
        rintro e w2 ⟨rfl, rfl⟩
        go_wp2_with fail
        refine (E3.out w1).mono ?_
        rintro e w2 ⟨rfl, rfl⟩
        go_wp2_with fail
        refine (HE2.out w1 hs).mono ?_
        rintro e w2 ⟨a2, cap2, rfl, hs2, ho⟩
        have hs12 : w.Since w.heap.size w2 := hs.trans (since_mono hs2 hs.size)
        have hz := hs.size
        have E6 := result_any a2 cap2 n _ _ (swapL l i k) w2 HTL.out HSZ.out ho
        rw [HTS.out] at E6
        replace E6 := Lib.hid E6
        go_wp2_with fail
        refine (E6.out).mono ?_
        rintro e w3 ⟨a', cap', rfl, hs3, ho3⟩
        go_wp2
        go_ret2
        exact ⟨a', cap', rfl, hs12.trans (since_mono hs3 hs12.size), ho3.mono hz hs3.size⟩

end Go.Proofs.Yteaabemnolacdaa
end

section
namespace Go.Proofs.Yteaabemnolacdaa
open Go.RowKit Go.Deep

theorem ordF_b {l : List (List Int)} {n : Nat} (h : sqB l = true) (hn : l.length = n) : -1000000000000 ≤ ordF l n n 0 ∧ ordF l n n 0 ≤ 1000000000000 := by
  obtain ⟨hT, hw⟩ := sqB_of h
  have h6 := hT.2.1
  rw [ordF_all l (by omega)]
  have hb := dt_bd n (at2 l) (by omega) (fun i j hi hj => hT.at (by omega) (by omega))
  have hB : bdN n ≤ 1000000000000 := by
    have : n ≤ 6 := by omega
    match n, this with
    | 0, _ => decide
    | 1, _ => decide
    | 2, _ => decide
    | 3, _ => decide
    | 4, _ => decide
    | 5, _ => decide
    | 6, _ => decide
  omega
theorem value_turn {l : List (List Int)} {n : Nat} (h : sqB l = true) (hn : l.length = n) : TabIn l ∧ (l.getD 0 []).length = n ∧ sqB (turnL l) = true ∧ (turnL l).length = n ∧ szL (turnL l) ≤ 1048576 ∧ ordF (turnL l) n n 0 = ordF l n n 0 := by
  obtain ⟨hT, hw⟩ := sqB_of h
  have hT2 := tabIn_turn hT
  have h1 := hT.1
  have h6 := hT.2.1
  have e0 : ((turnL l).getD 0 []).length = l.length := tabF_len _ _ _ _ (by omega)
  refine ⟨hT, by omega, ?_, by rw [turnL_length]; omega, szL_turn hT, ?_⟩
  · unfold sqB; rw [hT2, e0, turnL_length, ← hw]; simp
  · rw [ordF_all _ (by omega), ordF_all _ (by omega), ← dt_turn]
    exact dt_congr n fun i j hi hj => tabF_at _ _ _ j i (by omega) (by omega)
theorem value_one (l : List (List Int)) : ordF l 1 1 0 = at2 l 0 0 := by
  rw [ordF_all _ (by omega), dt_succ]
  show sumN _ 1 = _
  simp [sumN, dt, sn]
theorem value_swap {l : List (List Int)} {n : Nat} (h : sqB l = true) (hn : l.length = n) (h2 : 2 ≤ n) : swapOk l 0 1 = true ∧ sqB (swapL l 0 1) = true ∧ (swapL l 0 1).length = n ∧ szL (swapL l 0 1) ≤ 1048576 ∧ ordF (swapL l 0 1) n n 0 = -ordF l n n 0 := by
  obtain ⟨hT, hw⟩ := sqB_of h
  have hT2 := swapL_tab (i := 0) (k := 1) hT (by omega) (by omega)
  have h1 := hT.1
  have h6 := hT.2.1
  have e0 : ((swapL l 0 1).getD 0 []).length = (l.getD 0 []).length := by
    rw [swapL_get _ _ _ (by omega)]
    exact hT.row (by simp [sw]; omega)
  have hr : ∀ i : Nat, i < l.length → rowB (i : Int) l.length = true := fun i hi => decide_eq_true (by omega)
  refine ⟨?_, ?_, by rw [swapL_length]; exact hn, szL_tab hT2, ?_⟩
  · unfold swapOk; rw [tabIn_true hT, show rowB (0 : Int) l.length = true from hr 0 (by omega), show rowB (1 : Int) l.length = true from hr 1 (by omega)]; rfl
  · unfold sqB; rw [tabIn_true hT2, e0, swapL_length, ← hw]; simp
  · rw [ordF_all _ (by omega), ordF_all _ (by omega), ← dt_exR (p := 0) (q := 1) (at2 l) (by omega) (by omega) (by omega)]
    exact dt_congr n fun i j hi hj => by
      unfold at2
      rw [swapL_get _ _ _ (by omega)]
      have : sw 0 1 i = ex 0 1 i := by unfold sw ex; repeat (first | split | omega)
      rw [this]

end Go.Proofs.Yteaabemnolacdaa
end

section
namespace Go.Proofs.Yteaabemnolacdaa
open Go.RowKit Go.Deep

def ColsAt (w : World) (g n : Nat) (cs : List Nat) : Prop := w.ownsRow 0 3 1 (.slice (some ⟨g, 0, none⟩) cs.length n) cs.length ((ints cs).map (Value.int .i64))
theorem ColsAt.init {w : World} {g n : Nat} {cs : List Nat} {k : Nat} (h : ColsAt w g n (cs ++ [k])) : ColsAt w g n cs := by
  unfold ColsAt at h ⊢
  rw [show (cs ++ [k]).length = cs.length + 1 by simp] at h
  refine ⟨by simp [ints], ?_⟩
  rcases h.2 with ⟨h', _⟩ | ⟨g', cap', cur, h', hb, hg, hle, hm, hs, ht⟩
  · simp at h'
  · simp only [Value.slice.injEq, Option.some.injEq, Addr.mk.injEq, and_true, true_and] at h'
    obtain ⟨rfl, rfl⟩ := h'
    refine .inr ⟨g, n, cur, rfl, hb, hg, by omega, hm, hs, ?_⟩
    have e := congrArg (List.take cs.length) ht
    rw [List.take_take, Nat.min_eq_left (by omega)] at e
    rw [Nat.mul_one, e]
    simp [ints]
theorem ColsAt.row {w : World} {g n : Nat} {cs : List Nat} (h : ColsAt w g n cs) : RowR w (some ⟨g, 0, none⟩) (ints cs) := fun _ =>
  ⟨g, 0, rfl, fun i hi => by
    have e := World.ownsRow.cellAt h i (by rw [ints_length] at hi; omega)
    rw [Nat.zero_add, e, List.getElem?_map]
    simp [List.getD, hi]⟩
theorem ColsAt.kept {w w' : World} {g n : Nat} {cs : List Nat} (h : ColsAt w g n cs) (hs : w.Since w.heap.size w') : ColsAt w' g n cs := World.ownsRow.kept h (grown_of_since (row := none) hs) (by simp [Value.ownBlock])
theorem ints_snoc (cs : List Nat) (k : Nat) : (ints (cs ++ [k])).map (Value.int .i64) = (ints cs).map (Value.int .i64) ++ [.int .i64 (k : Int)] := by simp [ints]

set_option maxRecDepth 100000 in
set_option maxHeartbeats 4000000 in
theorem sumOfOrders_any (a : Option Addr) (cap n : Nat) (l : List (List Int)) (g : Nat) (hn : l.length = n) (hT : TabIn l) (hw : (l.getD 0 []).length = n) : ∀ (m : Nat) (cs : List Nat) (W : World), cs.length + m = n → (∀ c ∈ cs, c < n) → ColsAt W g n cs → (∀ W', W.grownBy W' (some g) → MatR W' a l) →
    Calls Try.prog 144 #[.slice a n cap, .slice (some ⟨g, 0, none⟩) cs.length n] W fun e w' => e = .returned (.int .i64 (ordS l n m cs)) ∧ W.grownBy w' (some g) ∧ ColsAt w' g n cs := by
  have h6 := hT.2.1
  rw [hn] at h6
  intro m
  induction m with
  | zero =>
    intro cs W hl hc hcols hmat
    have hx : cs.length = n := by omega
    have E := orderedProduct_any a cap n l g n cs W hn hT hw (hmat W (World.grownBy.refl _ _)) hx hc (Nat.le_refl _) (by omega) hcols.row
    rw [hx]
    replace E := Lib.hid E
    have HC := Lib.hid hcols
    clear hmat hcols hl hc hx
    go_enter Try.func144, Try.ntmps144
    go_wp2_with fail
    refine (E.out).mono ?_
    rintro e w1 ⟨rfl, hs⟩
    have HK := HC.out.kept hs
    go_wp2
    go_ret
    exact ⟨rfl, grown_of_since hs, HK⟩
  | succ m ih =>
    intro cs W hl hc hcols hmat
    obtain ⟨i3, hi3⟩ := info3_parts
    have HJ := Lib.hid hi3
    have hbd := fun q (hq : q ≤ n) => ordP_bd (l := l) (n := n) (m := m) (cs := cs) h6 (fun i j hi hj => hT.at (by omega) (by omega)) hl hc hq
    have hb6 := b6_le (m + 1) (by omega)
    have hb6' : b6 (m + 1) = 6 * b6 m := rfl
    rw [ordS_succ]
    obtain ⟨F, hF⟩ : ∃ F : Nat → Int, F = fun k => if k ∈ cs then 0 else ordS l n m (cs ++ [k]) := ⟨_, rfl⟩
    simp only [← hF] at hbd ⊢
    have hd : cs.length < n := by omega
    have hne : ((cs.length : Int) == (n : Int)) = false := by simp; omega
    have HIH := Lib.hid (fun (k : Nat) (hk : k < n) (V : World) (h1 : ColsAt V g n (cs ++ [k])) (h2 : ∀ W', V.grownBy W' (some g) → MatR W' a l) => ih (cs ++ [k]) V (by simp; omega) (fun c h => by
      rcases List.mem_append.1 h with h | h
      · exact hc c h
      · simp at h; omega) h1 h2)
    have HIN := Lib.hid (fun (k : Nat) (V : World) (h1 : ColsAt V g n cs) => contains_any (some ⟨g, 0, none⟩) n cs.length (ints cs) k V (ints_length cs) (by omega) h1.row)
    have HM := Lib.hid hmat
    have HC := Lib.hid hcols
    have HF := Lib.hid hF
    have HB := Lib.hid hbd
    have HMEM : ∀ k : Nat, ((k : Int) ∈ ints cs) ↔ k ∈ cs := fun k => by
      simp only [ints, List.mem_map]
      constructor
      · rintro ⟨c, h1, h2⟩
        have : c = k := by omega
        exact this ▸ h1
      · exact fun h => ⟨k, h, rfl⟩
    have HME := Lib.hid HMEM
    obtain ⟨d, hdd⟩ : ∃ d, d = cs.length := ⟨_, rfl⟩
    have HD := Lib.hid hdd
    rw [← hdd] at hd hne ⊢
    simp only [← hdd] at HIN
    clear ih hmat hcols hF hbd hc hi3 HMEM hdd hT hw hn
    go_enter Try.func144, Try.ntmps144
    go_wp2
    go_loopg [5, 6, 17] n (fun q s _ i wr => ∃ k : Nat, k ≤ n ∧ q = n - k ∧ i = .int .i64 k ∧ s = .int .i64 (sumN F k) ∧ W.grownBy wr (some g) ∧ ColsAt wr g n cs)
    case atStart => exact ⟨0, Nat.zero_le _, rfl, rfl, rfl, World.grownBy.refl _ _, HC.out⟩
    case round =>
      obtain ⟨k, hk, rfl, rfl, rfl, hG, hCo⟩ := hrel
      obtain ⟨s0, hs0⟩ : ∃ s, s = sumN F k := ⟨_, rfl⟩
      have e : sumN F (k + 1) = s0 + F k := by rw [hs0]; rfl
      rw [← hs0]
      by_cases hlt : k < n
      · have hsb := HB.out (k + 1) (by omega)
        rw [e] at hsb
        have E1 := HIN.out k wr hCo
        have HE := Lib.hid e
        have HG := Lib.hid hG
        have HCo := Lib.hid hCo
        clear e hs0 hG
        by_cases hmem : k ∈ cs
        · rw [decide_eq_true ((HME.out k).2 hmem)] at E1
          replace E1 := Lib.hid E1
          have hF0 : F k = 0 := by rw [HF.out]; exact if_pos hmem
          clear hCo
          go_wp2_with fail
          refine (E1.out).mono ?_
          rintro e w' ⟨rfl, rfl⟩
          go_wp2
          go_roundg (n - (k + 1))
          case measure => omega
          case rel => exact ⟨k + 1, by omega, rfl, by go_num, by rw [HE.out, hF0]; simp, HG.out, HCo.out⟩
        · rw [decide_eq_false (fun h => hmem ((HME.out k).1 h))] at E1
          replace E1 := Lib.hid E1
          obtain ⟨f2, hf2⟩ : ∃ f, f = F k := ⟨_, rfl⟩
          rw [← hf2] at hsb
          have hF0 : f2 = ordS l n m (cs ++ [k]) := by rw [hf2, HF.out]; exact if_neg hmem
          have hws : IntKind.i64.wrap (s0 + f2) = s0 + f2 := IntWalk.i64_in _ ⟨by omega, by omega⟩
          have HH := Lib.hid hf2
          have EI := fun (V : World) (h1 : ColsAt V g n (cs ++ [k])) (h2 : V.heap.size ≥ 0 ∧ W.grownBy V (some g)) => HIH.out k hlt V h1 (fun W' hW' => HM.out W' (h2.2.trans hW'))
          rw [show (cs ++ [k]).length = d + 1 by rw [HD.out]; simp, ← hF0] at EI
          replace EI := Lib.hid EI
          have hown : wr.ownsRow 0 3 1 (.slice (some ⟨g, 0, none⟩) d n) d ((ints cs).map (Value.int .i64)) := by rw [HD.out]; exact hCo
          have HOWN := Lib.hid hown
          clear hf2 hsb hF0 hCo hown
          go_wp2_with (first
            | (go_at_call 153; refine (E1.out).mono ?_; rintro e w' ⟨rfl, rfl⟩)
            | (at_builtin; (refine wpList_append_fits _ rfl _ _ 36 rfl 0 3 i3 1 Try.underlying36 HJ.out.1 HJ.out.2.2.1 g d n ((ints cs).map (Value.int .i64)) rfl (HOWN.out.alloc _) ⟨wr.heap.size, 0, none⟩ 1 1 [.int .i64 k] rfl rfl (cell_one_at _ _ _ rfl) (fun x hx => by simp at hx; subst hx; rfl) (by omega) ?_); intro w1 hown' hgrow; have hc1 : ColsAt w1 g n (cs ++ [k]) := (by unfold ColsAt; rw [ints_snoc, show (cs ++ [k]).length = d + 1 by rw [HD.out]; simp]; exact hown'); have hg1 : W.grownBy w1 (some g) := HG.out.trans ((World.grownBy_alloc wr _ _).trans hgrow); clear hown' hgrow; have HC1 := Lib.hid hc1; have HG1 := Lib.hid hg1; clear hc1 hg1)
            | (go_at_call 144; refine (EI.out w1 HC1.out ⟨Nat.zero_le _, HG1.out⟩).mono ?_; rintro e w2 ⟨rfl, hg2, hc2⟩; have HG2 := Lib.hid (HG1.out.trans hg2); have HC2 := Lib.hid hc2.init; clear hg2 hc2))
          go_roundg (n - (k + 1))
          case measure => omega
          case rel => exact ⟨k + 1, by omega, rfl, by go_num, by rw [HE.out, ← HH.out], HG2.out, HC2.out⟩
      · have hqn : n = k := by omega
        subst hqn
        go_wp2
        go_ret
        exact ⟨by rw [hs0]; rfl, hG, hCo⟩

theorem since_fresh {W w1 w2 : World} (h : W.grownBy w1 none) (h2 : w1.grownBy w2 (some W.heap.size)) : W.Since W.heap.size w2 :=
  ⟨h2.os.trans h.os, h2.tape.trans h.tape, h2.output.trans h.output, Nat.le_trans h.size h2.size, fun k hk => (h2.block k (by have := h.size; omega) (by intro e; injection e with e; omega)).trans (h.block k hk (by simp))⟩

set_option maxRecDepth 100000 in
set_option maxHeartbeats 1000000 in
theorem byOrders_any (a : Option Addr) (cap n : Nat) (l : List (List Int)) (w : World) (hn : l.length = n) (hT : TabIn l) (hw : (l.getD 0 []).length = n) (hm : MatR w a l) :
    Calls Try.prog 136 #[.slice a n cap] w fun e w' => e = .returned (.int .i64 (ordF l n n 0)) ∧ w.Since w.heap.size w' := by
  have h6 := hT.2.1
  rw [hn] at h6
  obtain ⟨i3, hi3⟩ := info3_parts
  have HJ := Lib.hid hi3
  have E := fun (V : World) (hc : ColsAt V w.heap.size n []) (hg : w.grownBy V none) => sumOfOrders_any a cap n l w.heap.size hn hT hw n [] V (by simp) (by simp) hc (fun W' hW' => hm.since (since_fresh hg hW'))
  rw [ordS_all l n h6] at E
  replace E := Lib.hid E
  clear hi3 hn hT hw hm
  go_enter Try.func136, Try.ntmps136
  go_wp2_with (first
    | (at_make; (refine wpList_make_own _ rfl _ _ 36 rfl 0 3 i3 (.int .i64 0) 1 Try.underlying36 HJ.out.1 HJ.out.2.1 HJ.out.2.2.1 .i64 .i64 n n rfl rfl rfl (by rw [HJ.out.2.2.2]; omega) (by unfold maxLen; omega) (Nat.zero_le _) ?_); intro w1 hown hgrow; have HO := Lib.hid (show ColsAt w1 w.heap.size n [] from hown); have HG := Lib.hid hgrow; clear hown hgrow)
    | (go_at_call 144; refine (E.out w1 HO.out HG.out).mono ?_; rintro e w2 ⟨rfl, hg2, hc2⟩; have HS := Lib.hid (since_fresh HG.out hg2); clear hg2 hc2))
  go_ret
  exact ⟨rfl, HS.out⟩

theorem implValueOrders_any (a : Option Addr) (cap n : Nat) (l : List (List Int)) (w : World) (hn : l.length = n) (hsz : szL l ≤ 1048576) (hm : MatR w a l) :
    Calls Try.prog 21 #[.slice a n cap] w (SpecW w (sqB l) (ordF l n n 0)) :=
  implValueOrders_of a cap n l (ordF l n n 0) w hn hsz hm fun hs W' hm' => by
    obtain ⟨hT, hw⟩ := sqB_of hs
    exact byOrders_any a cap n l W' hn hT (by rw [← hw, hn]) hm'

end Go.Proofs.Yteaabemnolacdaa
end

section
namespace Go.Proofs.Yteaabemnolacdaa
open Go.RowKit Go.Deep

set_option maxRecDepth 100000 in
set_option maxHeartbeats 4000000 in
theorem fnValueMake (a : Option Addr) (cap n : Nat) (w : World) (hc : n ≤ cap) (h63 : cap ≤ 9223372036854775807) (hb : BytR w a n) :
    Calls Try.prog 11 #[.slice a n cap] w fun e w' => e = .returned (.bool true) ∧ w.Since w.heap.size w' := by
  by_cases hlen : 1048576 < n
  · have hl' : decide ((1048576 : Int) < (n : Int)) = true := by simp; omega
    clear hb
    go_enter Try.func11, Try.ntmps11
    go_wp2
    go_ret
    exact ⟨rfl, World.Since.refl _ _⟩
  · have hl' : decide ((1048576 : Int) < (n : Int)) = false := by simp; omega
    have ED := Lib.hid (drawMake_any a n cap w hc h63 hb)
    clear hb
    go_enter Try.func11, Try.ntmps11
    go_wp2_with fail
    refine (ED.out).mono ?_
    rintro e w1 ⟨a1, c1, l, a6, c6, u, rfl, hs1, ⟨h1, h5, hlens, hit⟩, ⟨g1, g5, glens, git⟩⟩
    have hsz : szL l ≤ 1048576 := szL_of h5 (fun j hj => (hlens j hj).2) (by decide)
    obtain ⟨nn, hn⟩ : ∃ nn, l.length = nn := ⟨_, rfl⟩
    rw [hn]
    have HN := Lib.hid hn
    have HSZ := Lib.hid hsz
    have HM := Lib.hid (fun (W : World) (h : w1.Since w1.heap.size W) => hit.matR.since h)
    have hszu : szL u ≤ 1048576 := szL_of g5 (fun j hj => (glens j hj).2) (by decide)
    obtain ⟨nu, hu⟩ : ∃ nu, u.length = nu := ⟨_, rfl⟩
    rw [hu]
    have HU := Lib.hid hu
    have HSZU := Lib.hid hszu
    have HMU := Lib.hid (fun (W : World) (h : w1.Since w1.heap.size W) => git.matR.since h)
    have HS1 := Lib.hid hs1
    obtain ⟨ok, hok⟩ : ∃ ok, makeOk l u = ok := ⟨_, rfl⟩
    obtain ⟨M, hM⟩ : ∃ M, resT ok (makeL l u) = M := ⟨_, rfl⟩
    have E1 := implTableMake_any a1 a6 c1 c6 nn nu l u w1 hn hu hsz hszu (hit.matR) (git.matR)
    have E2 := fun (W : World) (h : w1.Since w1.heap.size W) => specTableMake_any a1 a6 c1 c6 nn nu l u W hn hu hsz hszu (hit.matR.since h) (git.matR.since h)
    have hMsz : szL M ≤ 1048576 := by
      rw [← hM]
      cases hok' : ok with
      | false => simp [resT, szL, sumTo]
      | true => rw [hok'] at hok; exact szL_makeOk l u hok
    unfold ImplT at E1
    unfold SpecT at E2
    rw [hok, hM] at E1
    simp only [hok, hM] at E2
    obtain ⟨q, hq⟩ : ∃ q, M.length = q := ⟨_, rfl⟩
    rw [hq] at E1
    simp only [hq] at E2
    have hq63 : q ≤ 9223372036854775807 := by unfold szL at hMsz; omega
    replace E1 := Lib.hid E1
    replace E2 := Lib.hid E2
    have HQ := Lib.hid hq
    have HMS := Lib.hid hMsz
    have HOK := Lib.hid hok
    have HMM := Lib.hid hM
    clear hn hsz hit hs1 h1 h5 hlens hq hMsz hok hM hu hszu git g1 g5 glens
    go_wp2_with fail
    refine (E1.out).mono ?_
    rintro e w2 ⟨a2, c2, rfl, hs2, ho2⟩
    have HO := Lib.hid (fun (W : World) (h : w2.Since w2.heap.size W) => ho2.matR.since h)
    have HS2 := Lib.hid hs2
    clear ho2 hs2
    go_wp2_with fail
    refine (E2.out w2 HS2.out).mono ?_
    rintro e w3 ⟨a3, c3, rfl, hs3, hi3⟩
    have ES := Lib.hid (fun (W : World) (h : w3.Since w3.heap.size W) => sameRows_same a2 a3 c2 c3 q M W HQ.out hq63 (rows_le HMS.out) (HO.out W (hs3.trans (since_mono h hs3.size))) (hi3.matR.since h))
    have HS3 := Lib.hid hs3
    clear hi3 hs3
    go_wp2_with fail
    refine (ES.out w3 (World.Since.refl _ _)).mono ?_
    rintro e w4 ⟨rfl, hd4⟩
    have hs4 := hd4.since w3.heap.size
    have hs14 : w1.Since w1.heap.size w4 := (HS2.out.trans (since_mono HS3.out HS2.out.size)).trans (since_mono hs4 (by have := HS2.out.size; have := HS3.out.size; omega))
    have HS4 := Lib.hid hs14
    have hs24 : w2.Since w2.heap.size w4 := HS3.out.trans (since_mono hs4 HS3.out.size)
    have HS24 := Lib.hid hs24
    cases ok with
    | false =>
      clear hs14 hs24 hd4
      go_wp2_with fail
      refine (ES.out w4 hs4).mono ?_
      rintro e w5 ⟨rfl, hd5⟩
      have HS5 := Lib.hid (hd5.since w4.heap.size)
      clear hd5
      go_wp2
      go_ret
      exact ⟨rfl, HS1.out.trans (since_mono (HS4.out.trans (since_mono HS5.out HS4.out.size)) HS1.out.size)⟩
    | true =>
      have hMl : M = makeL l u := HMM.out.symm
      clear hs4 hd4
      have E5 := implValueOrders_any a1 c1 nn l w4 HN.out HSZ.out (HM.out w4 hs14)
      have E6 := fun (W : World) (h : w1.Since w1.heap.size W) => implValueOrders_any a6 c6 nu u W HU.out HSZU.out (HMU.out W h)
      have E7 := fun (W : World) (h : w2.Since w2.heap.size W) => implValueOrders_any a2 c2 q M W HQ.out HMS.out (HO.out W h)
      unfold SpecW at E5 E6 E7
      have hall : sqB l = true → sqB u = true → sqB M = true ∧ ordF M q q 0 = ordF l nn nn 0 * ordF u nu nu 0 ∧ -1000000000000 ≤ ordF M q q 0 ∧ ordF M q q 0 ≤ 1000000000000 := fun h1 h2 => by
        obtain ⟨k1, k2⟩ := value_make HOK.out h1 h2
        rw [← hMl] at k1 k2
        rw [HQ.out, HN.out, HU.out] at k2
        exact ⟨k1, k2, ordF_b k1 HQ.out⟩
      clear hMl hs14 hs24
      obtain ⟨b1, hb1⟩ : ∃ b, sqB l = b := ⟨_, rfl⟩
      obtain ⟨b2, hb2⟩ : ∃ b, sqB u = b := ⟨_, rfl⟩
      obtain ⟨b3, hb3⟩ : ∃ b, sqB M = b := ⟨_, rfl⟩
      rw [hb1] at E5
      simp only [hb2] at E6
      simp only [hb3] at E7
      rw [hb1, hb2, hb3] at hall
      generalize ordF l nn nn 0 = x at E5 hall
      generalize ordF u nu nu 0 = y at E6 hall
      generalize ordF M q q 0 = z at E7 hall
      replace E5 := Lib.hid E5
      replace E6 := Lib.hid E6
      replace E7 := Lib.hid E7
      clear hb1 hb2 hb3
      cases b1 with
      | false =>
        clear hall
        cases b2 <;> cases b3
        all_goals
          go_wp2_with fail
          refine (E5.out).mono ?_
          rintro e w5 ⟨rfl, hs5⟩
          have HS5 := Lib.hid (HS4.out.trans (since_mono hs5 HS4.out.size))
          have HS25 := Lib.hid (HS24.out.trans (since_mono hs5 HS24.out.size))
          clear hs5
          go_wp2_with fail
          refine (E6.out w5 HS5.out).mono ?_
          rintro e w6 ⟨rfl, hs6⟩
          have HS6 := Lib.hid (HS5.out.trans (since_mono hs6 HS5.out.size))
          have HS26 := Lib.hid (HS25.out.trans (since_mono hs6 HS25.out.size))
          clear hs6
          go_wp2_with fail
          refine (E7.out w6 HS26.out).mono ?_
          rintro e w7 ⟨rfl, hs7⟩
          have HS7 := Lib.hid (HS6.out.trans (since_mono hs7 HS6.out.size))
          clear hs7
          go_wp2
          go_ret
          exact ⟨rfl, HS1.out.trans (since_mono HS7.out HS1.out.size)⟩
      | true =>
        cases b2 with
        | false =>
          clear hall
          cases b3
          all_goals
            go_wp2_with fail
            refine (E5.out).mono ?_
            rintro e w5 ⟨rfl, hs5⟩
            have HS5 := Lib.hid (HS4.out.trans (since_mono hs5 HS4.out.size))
            have HS25 := Lib.hid (HS24.out.trans (since_mono hs5 HS24.out.size))
            clear hs5
            go_wp2_with fail
            refine (E6.out w5 HS5.out).mono ?_
            rintro e w6 ⟨rfl, hs6⟩
            have HS6 := Lib.hid (HS5.out.trans (since_mono hs6 HS5.out.size))
            have HS26 := Lib.hid (HS25.out.trans (since_mono hs6 HS25.out.size))
            clear hs6
            go_wp2_with fail
            refine (E7.out w6 HS26.out).mono ?_
            rintro e w7 ⟨rfl, hs7⟩
            have HS7 := Lib.hid (HS6.out.trans (since_mono hs7 HS6.out.size))
            clear hs7
            go_wp2
            go_ret
            exact ⟨rfl, HS1.out.trans (since_mono HS7.out HS1.out.size)⟩
        | true =>
          obtain ⟨rfl, rfl, hz1, hz2⟩ := hall rfl rfl
          have hw : IntKind.i64.wrap (x * y) = x * y := IntWalk.i64_in _ ⟨by omega, by omega⟩
          clear hz1 hz2
          go_wp2_with fail
          refine (E5.out).mono ?_
          rintro e w5 ⟨rfl, hs5⟩
          have HS5 := Lib.hid (HS4.out.trans (since_mono hs5 HS4.out.size))
          have HS25 := Lib.hid (HS24.out.trans (since_mono hs5 HS24.out.size))
          clear hs5
          go_wp2_with fail
          refine (E6.out w5 HS5.out).mono ?_
          rintro e w6 ⟨rfl, hs6⟩
          have HS6 := Lib.hid (HS5.out.trans (since_mono hs6 HS5.out.size))
          have HS26 := Lib.hid (HS25.out.trans (since_mono hs6 HS25.out.size))
          clear hs6
          go_wp2_with fail
          refine (E7.out w6 HS26.out).mono ?_
          rintro e w7 ⟨rfl, hs7⟩
          have HS7 := Lib.hid (HS6.out.trans (since_mono hs7 HS6.out.size))
          clear hs7
          go_wp2
          go_ret
          exact ⟨rfl, HS1.out.trans (since_mono HS7.out HS1.out.size)⟩

end Go.Proofs.Yteaabemnolacdaa
end

section
namespace Go.Proofs.Yteaabemnolacdaa
open Go.ChangeShapes Go.WideShapes Go.ChangeAt Go.RowKit Go.Deep

theorem below_since' {B : Nat} {w w' : World} (h : Below B w w') : w.Since B w' := ⟨h.os, h.tape, h.output, h.size, h.block⟩
theorem since_below' {B : Nat} {w w' : World} (h : w.Since B w') : Below B w w' := ⟨h.os, h.tape, h.output, h.size, h.block⟩

section
variable {H : Type} {enc : TypeId × Value → H} {P : Program}
theorem post_of_below {f : Func} {s : ChangeSpec} {apart fresh handsOn again : Bool} {W W' : World} {args : Array Value} {v : Value} {ds gs : List (DataW H)} {before pa pv : List MemPlace}
    (hW : DataW.Whole enc P f.params.toList s.vars apart W args.toList ds gs before)
    (hres : ∀ (b : Nat) (sp : Nat → Bool) (hd : Bool), DataW.TrodAll enc P W' b sp hd f.resultTypes.toList (v.resultList f.resultTypes.size) (s.fn H (ds ++ gs)).results [])
    (hargs : ∀ sp : Nat → Bool, (∀ p ∈ before, sp p.block = true) → DataW.TrodAll enc P W' 0 sp true f.params.toList args.toList (s.fn H (ds ++ gs)).args pa)
    (hvars : ∀ sp : Nat → Bool, (∀ p ∈ before, sp p.block = true) → DataW.TrodVars enc P W' sp s.vars (s.fn H (ds ++ gs)).vars pv)
    (hps : before = pa ++ pv) (hb : Below W.heap.size W W') (hag : again = false) :
    s.post enc P f apart fresh handsOn again W args v W' := by
  have hlt : ∀ p ∈ before, p.block < W.heap.size := fun p hp => hW.lt p hp
  have hold : ∀ p ∈ before, (fun b => decide (b < W.heap.size)) p.block = true := fun p hp => by simpa using hlt p hp
  refine ⟨ds, gs, before, [], pa, pv, hW, hres _ _ _, hargs _ hold, hvars _ hold, World.keptBut_mono (fun p hp => ⟨hp, ?_⟩) (hb.frame (· ∈ before)), fun h => ?_⟩
  · rw [hps, List.mem_append] at hp
    exact Or.inr hp
  · rw [hag] at h; cases h

theorem open_mat {W : World} {t e q : TypeId} {a : Option Addr} {n cap : Nat} {d : DataW H} {p : List MemPlace} (ht : P.underlying t = some (.slice e)) (he : P.underlying e = some (.slice q)) (hq : P.underlying q = some (.int .i64))
    (ce : P.cellsOf e = 1) (cq : P.cellsOf q = 1) (h : DataW.Trod enc P W 0 (fun _ => true) true t (.slice a n cap) d p) :
    ∃ l : List (List Int), l.length = n ∧ MatR W a l ∧ n ≤ 9223372036854775807 ∧ ∀ r, r < l.length → (l.getD r []).length ≤ 9223372036854775807 := by
  obtain ⟨fuel, hf⟩ := h
  rcases open_int_rows ht he hq ce cq hf with ⟨hcs, _⟩ | ⟨a', len', cap', A, L, C, Z, hcs, _, hl, hm, _, hrows⟩
  · simp [Value.cells] at hcs
    obtain ⟨rfl, rfl, rfl⟩ := hcs
    exact ⟨[], rfl, (fun h => by simp at h), by omega, fun r hr => by simp at hr⟩
  · simp [Value.cells] at hcs
    obtain ⟨rfl, rfl, rfl⟩ := hcs
    have hmx : maxLen = 9223372036854775807 := rfl
    have hlen : ∀ r, r < n → ((Z r).take (L r)).length = L r := fun r hr => by
      obtain ⟨_, h1, _, h2, _⟩ := hrows r (by omega)
      rw [List.length_take]; omega
    have hget : ∀ r, r < n → ((List.range n).map fun r => (Z r).take (L r)).getD r [] = (Z r).take (L r) := fun r hr => by simp [List.getD, hr]
    refine ⟨(List.range n).map fun r => (Z r).take (L r), by simp, fun h => ?_, by omega, fun r hr => ?_⟩
    · obtain ⟨b, o, spot⟩ := a'
      simp at h
      have hspot : spot = none := by simpa [Addr.add] using World.cell?_spot (hrows 0 (by omega)).1
      subst hspot
      refine ⟨b, o, A, C, rfl, fun r hr => ?_⟩
      simp at hr
      rw [hget r hr, hlen r hr]
      obtain ⟨g1, g2, g3, g4, g5, g6, g7⟩ := hrows r (by omega)
      refine ⟨by rw [← add_plain]; exact g1, fun h0 => ?_⟩
      rw [hlen r hr] at h0
      cases hA : A r with
      | none => have := g6 hA; omega
      | some a'' =>
        obtain ⟨_, hcell⟩ := g7 a'' hA
        obtain ⟨b', o', sp⟩ := a''
        have hs : sp = none := by simpa [Addr.add] using World.cell?_spot (hcell 0 (by omega))
        subst hs
        refine ⟨b', o', rfl, fun i hi => ?_⟩
        rw [hlen r hr] at hi
        rw [← add_plain, hcell i (by omega)]
        congr 2
        simp [List.getD, hi]
    · simp at hr
      rw [hget r hr, hlen r hr]
      obtain ⟨_, h1, h2, _⟩ := hrows r (by omega)
      omega
end

theorem Try.own : ownKnob Try.prog.godebug = none := by kernel_rfl
theorem Try.laidOut : laidOutB Try.prog = true := by kernel_rfl
theorem Try.cellsR : Try.prog.cellsOf 36 = 1 := by kernel_rfl
theorem Try.cellsI : Try.prog.cellsOf 3 = 1 := by kernel_rfl

end Go.Proofs.Yteaabemnolacdaa
end

section
namespace Go.Proofs.Yteaabemnolacdaa
open Go.ChangeShapes Go.WideShapes Go.ChangeAt Go.RowKit Go.Deep

theorem wf_u8_of {n : Int} (h : (Lit.int .u8 n).wf = true) : 0 ≤ n ∧ n ≤ 255 := by
  have h2 : (0 : Int) ≤ n ∧ n ≤ 255 := by simpa [Lit.wf, IntKind.min, IntKind.max, IntKind.signed, IntKind.bits] using h
  exact h2

theorem open_bytes {H : Type} {enc : TypeId × Value → H} {P : Program} {W : World} {t e : TypeId} {a : Option Addr} {n cap : Nat} {d : DataW H} {p : List MemPlace} (ht : P.underlying t = some (.slice e)) (he : P.underlying e = some (.int .u8)) (ce : P.cellsOf e = 1)
    (h : DataW.Trod enc P W 0 (fun _ => true) true t (.slice a n cap) d p) : BytR W a n ∧ n ≤ cap ∧ cap ≤ 9223372036854775807 := by
  obtain ⟨fuel, hf⟩ := h
  rcases open_ints ht he ce hf with ⟨hcs, _⟩ | ⟨a', len, cap', zs, hcs, _, hl, hm, hlen, _, hcell, hwf⟩
  · simp [Value.cells] at hcs
    obtain ⟨rfl, rfl, rfl⟩ := hcs
    exact ⟨fun h => absurd h (by omega), by omega, by omega⟩
  · simp [Value.cells] at hcs
    obtain ⟨rfl, rfl, rfl⟩ := hcs
    have hmx : maxLen = 9223372036854775807 := rfl
    have hzl : zs.length = cap := by simpa using hlen
    refine ⟨fun h0 => ?_, by omega, by omega⟩
    obtain ⟨b, o, spot⟩ := a'
    have hspot : spot = none := by simpa [Addr.add] using World.cell?_spot (hcell 0 (by omega))
    subst hspot
    refine ⟨b, o, rfl, fun i hi => ?_⟩
    have hi' : i < zs.length := by omega
    have hw := wf_u8_of (hwf (zs.getD i 0) (by simp [List.getD, hi']))
    obtain ⟨z, hz⟩ := Int.eq_ofNat_of_zero_le hw.1
    refine ⟨z, by omega, ?_⟩
    rw [← add_plain, hcell i hi', hz]

theorem Try.cellsB : Try.prog.cellsOf 5 = 1 := by kernel_rfl

end Go.Proofs.Yteaabemnolacdaa
end

section
namespace Go.Proofs.Yteaabemnolacdaa
open Go.ChangeShapes Go.WideShapes Go.ChangeAt Go.RowKit Go.Deep

set_option maxRecDepth 100000 in
theorem lifted_FnValueMake (os : Os) (started : os.Started) (H : Type) (enc : TypeId × Value → H) :
    ReturnsInHanded {} Try.checked os 11 .any (Rows.fnValueMakeSpec.pre6 enc Try.prog Try.f11 Rows.fnValueMakeRow.domain false) (Rows.fnValueMakeSpec.post enc Try.prog Try.f11 false true false false) := by
  refine returnsInHanded_of_change (C := Try.checked) Try.own started (by kernel_rfl) Try.func11
    (ChangeSpec.witness6 (enc := enc) (C := Try.checked) false ⟨#[], #[.slice none 0 0], []⟩ 8 (by kernel_rfl) (by kernel_rfl) (by kernel_rfl) (by kernel_rfl)) ?_
  intro W base args ds gs before hval0 hW _ _
  have hval : ∀ (j : Nat) t v, Try.f11.params[j]? = some t → args[j]? = some v → Value.okWide Try.prog W .any base t v := hval0
  have hW' := hW
  obtain ⟨p, q, hA0, hV, rfl, hfz, hnd⟩ := hW
  have hA : DataW.TrodAll enc Try.prog W 0 (fun _ => true) true Try.f11.params.toList args.toList ds p := hA0
  rw [Try.params11] at hA hval
  obtain ⟨v0, d0, rfl, rfl, h0⟩ := trodAll_one hA
  obtain ⟨p0, hp0⟩ : ∃ p0, p0 = p := ⟨_, rfl⟩
  subst hp0
  obtain ⟨rfl, rfl⟩ := trodVars_none hV
  obtain ⟨a0, n0, cap0, rfl⟩ := okWide_slice Try.underlying22 (hval 0 22 v0 rfl rfl)
  obtain ⟨hb0, hc0, h630⟩ := open_bytes Try.underlying22 Try.underlying5 Try.cellsB h0
  clear hA0 hval0
  simp only [List.append_nil] at hW'
  have hlt0 : ∀ x ∈ p0, x.block < W.heap.size := fun x hx => hW'.lt x (by simp [hx])
  refine (fnValueMake a0 cap0 n0 W hc0 h630 hb0).mono fun e W' ⟨he, hs⟩ => ?_
  subst he
  have hb := since_below' hs
  have ht0 : ∀ sp : Nat → Bool, (∀ x ∈ p0, sp x.block = true) → DataW.Trod enc Try.prog W' 0 sp true 22 (.slice a0 n0 cap0) d0 p0 := fun sp hsp =>
    WideElems.Trod_stays Try.laidOut (by kernel_rfl) (of_decide_eq_true (by kernel_rfl)) h0 (fun x hx => hb.same (hlt0 x hx)) hsp
  have hargs : ∀ sp : Nat → Bool, (∀ x ∈ (p0), sp x.block = true) → DataW.TrodAll enc Try.prog W' 0 sp true [22] [.slice a0 n0 cap0] [d0] (p0) := fun sp hsp => by
    have := trodAll_mk1 (enc := enc) (P := Try.prog) (w := W') (base := 0) (spare := sp) (held := true) (ht0 sp (fun x hx => hsp x (by simp [hx])))
    simpa using this
  exact ⟨_, rfl, post_of_below (pa := p0) (pv := []) hW' (fun _ _ _ => trodAll_mk1 (shut_bool Try.underlying4 true)) (fun sp hsp => hargs sp (fun x hx => hsp x (by simpa using hx))) (fun _ _ => rfl) (by simp) hb rfl⟩

theorem FnValueMake_holds : Rows.FnValueMakeSaid :=
  OpenClaim.holds_of_wide 11 Try.f11 rfl rfl rfl rfl rfl rfl rfl ⟨rfl, rfl, rfl, rfl, rfl⟩ rfl rfl rfl rfl rfl (by kernel_rfl) Try.func11 (by kernel_rfl)
    (of_decide_eq_true (by kernel_rfl)) (by unfold Func.isWrapper; first | (rw [if_pos (by decide +kernel)]; kernel_rfl) | (rw [if_neg (by decide +kernel)]; exact ⟨rfl, rfl⟩))
    (fun os started H enc _ => lifted_FnValueMake os started H enc)

end Go.Proofs.Yteaabemnolacdaa
end
