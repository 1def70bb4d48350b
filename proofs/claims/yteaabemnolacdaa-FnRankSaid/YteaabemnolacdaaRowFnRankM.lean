import Derived.Test.YteaabemnolacdaaTable
import Derived.Test.YteaabemnolacdaaHarn2
import Derived.Test.YteaabemnolacdaaTurnSpec
import Derived.Test.YteaabemnolacdaaRankV
import Derived.Test.YteaabemnolacdaaOrdDet
import Derived.Test.YteaabemnolacdaaHasM
import Derived.Test.YteaabemnolacdaaBar
import Derived.Test.YteaabemnolacdaaSwapped
import Derived.Test.YteaabemnolacdaaL2Square
import Derived.Test.YteaabemnolacdaaOrdersI
import Derived.Test.YteaabemnolacdaaSquareV
import Derived.Maps.AppendAt
import Derived.Test.YteaabemnolacdaaRows
import Derived.Test.YteaabemnolacdaaData
import Derived.ProofKit
import Derived.Deep.Matrix
import Derived.Test.YteaabemnolacdaaDraw0

section
namespace Go.Proofs.Yteaabemnolacdaa
open Go.RowKit Go.Deep

theorem BD.inT {B : Nat} {w : World} {v : Value} {l : List (List Int)} {A : Nat → Option Addr} {C : Nat → Nat} (h : BD B w v l A C) : ∃ a cap, v = .slice a l.length cap ∧ InT B w.heap.size w a l := by
  by_cases h0 : 0 < l.length
  · obtain ⟨b, cap, cur, e, hb, hg, hc⟩ := h.top h0
    refine ⟨_, cap, e, fun _ => ⟨b, 0, A, fun r => ((A r).getD default).block, fun _ => 0, C, rfl, ⟨hb, (Array.getElem?_eq_some_iff.1 hg).1⟩, fun r hr => ⟨?_, fun h1 => ?_⟩⟩⟩
    · rw [Nat.zero_add]; simp [World.cell?, hg, hc r hr]
    · obtain ⟨g, e, hB, hw⟩ := h.row hr
      have e' : ((A r).getD default).block = g := by rw [e]; rfl
      dsimp only
      rw [e']
      exact ⟨e, ⟨hB, hw.lt⟩, fun i hi => by rw [Nat.zero_add]; exact hw.cell hi⟩
  · rcases h.own.2 with ⟨hv, hn⟩ | ⟨g, cap, cur, e, _⟩
    · exact ⟨none, 0, by rw [hv, hn], fun h => absurd h h0⟩
    · exact ⟨_, cap, e, fun h => absurd h h0⟩

theorem BD.row_ne {B : Nat} {w : World} {l : List (List Int)} {A : Nat → Option Addr} {C : Nat → Nat} {b cap n : Nat} (h : BD B w (.slice (some ⟨b, 0, none⟩) n cap) l A C) {g : Nat} {x : List Int} (hw : RowB w g x) : g ≠ b := by
  rintro rfl
  obtain ⟨cs, hc, _⟩ := hw
  rcases h.own.2 with ⟨e, _⟩ | ⟨g', cap', cur, e, _, hgg, _⟩
  · cases e
  · injection e with e
    injection e with e
    injection e with e
    rw [← e, hc] at hgg
    injection hgg with hgg
    injection hgg with _ e2 _
    exact absurd e2 (by decide)

theorem BD.addr_ne {B : Nat} {w : World} {v : Value} {l : List (List Int)} {A : Nat → Option Addr} {C : Nat → Nat} (h : BD B w v l A C) {r j g g' : Nat} (hr : r < l.length) (hj : j < l.length) (hA : A r = some ⟨g, 0, none⟩) (hA' : A j = some ⟨g', 0, none⟩) (hne : j ≠ r) : g' ≠ g := by
  rintro rfl
  exact hne (h.apart j r hj hr (by rw [hA, hA']))

theorem BD.cellTop {B : Nat} {w : World} {l : List (List Int)} {A : Nat → Option Addr} {C : Nat → Nat} {b cap n : Nat} (h : BD B w (.slice (some ⟨b, 0, none⟩) n cap) l A C) {r : Nat} (hr : r < l.length) :
    w.cell? ⟨b, r, none⟩ = some (.slice (A r) (l.getD r []).length (C r)) ∧ w.frozen? ⟨b, r, none⟩ = false ∧ b < w.heap.size := by
  obtain ⟨b', cp', cur, hv, _, hcur, hc⟩ := h.top (by omega)
  injection hv with hv _ _
  injection hv with hv
  injection hv with hv
  subst hv
  exact ⟨by simp [World.cell?, hcur, hc r hr], by simp [World.frozen?, hcur], (Array.getElem?_eq_some_iff.1 hcur).1⟩

theorem BD.setRow {B : Nat} {w w5 : World} {l : List (List Int)} {A : Nat → Option Addr} {C : Nat → Nat} {b cap n : Nat} (h : BD B w (.slice (some ⟨b, 0, none⟩) n cap) l A C) {r g : Nat} (hr : r < l.length) (hA : A r = some ⟨g, 0, none⟩) (hg : w.grownBy w5 (some g)) {g2 cp k : Nat} {y : List Int}
    (hy : RW B w5 (.slice (some ⟨g2, 0, none⟩) k cp) y) (hk : y.length = k) (h0 : 0 < k) : InT B w5.heap.size (w5.setCell ⟨b, r, none⟩ (.slice (some ⟨g2, 0, none⟩) k cp)) (some ⟨b, 0, none⟩) (l.set r y) := by
  subst hk
  obtain ⟨b', cap', cur, e, hb, hcur, hc⟩ := h.top (by omega)
  injection e with e en _
  injection e with e
  injection e with e
  subst e
  obtain ⟨g', hA', hBg, hrb⟩ := h.row hr
  rw [hA] at hA'
  injection hA' with hA'
  injection hA' with hA'
  subst hA'
  have hgb := h.row_ne hrb
  have hbl : b < w.heap.size := (Array.getElem?_eq_some_iff.1 hcur).1
  have hcur5 : w5.heap[b]? = some (.cells cur 36 (0, 0)) := (hg.block b hbl (fun e => by injection e with e; omega)).trans hcur
  obtain ⟨hB2, hrb2⟩ := hy.rowB h0
  have hg2b : g2 ≠ b := by
    rintro rfl
    obtain ⟨cs, h1, _⟩ := hrb2
    rw [h1] at hcur5
    injection hcur5 with h2
    injection h2 with _ h2 _
    exact absurd h2 (by decide)
  have hbl5 : b < w5.heap.size := (Array.getElem?_eq_some_iff.1 hcur5).1
  intro _
  refine ⟨b, 0, fun j => if j = r then some ⟨g2, 0, none⟩ else A j, fun j => if j = r then g2 else ((A j).getD default).block, fun _ => 0, fun j => if j = r then cp else C j, rfl, ⟨hb, hbl5⟩, fun j hj => ?_⟩
  rw [List.length_set] at hj
  show (w5.setCell ⟨b, r, none⟩ _).cell? ⟨b, 0 + j, none⟩ = _ ∧ _
  rw [Nat.zero_add]
  by_cases ej : j = r
  · subst ej
    have e1 : (l.set j y).getD j [] = y := by simp [List.getD, hj]
    rw [e1]
    simp only [↓reduceIte]
    refine ⟨World.cell?_setCell_same' _ _ _ (by simp [World.cell?, hcur5, hc j hj]), fun _ => ⟨trivial, ⟨hB2, hrb2.lt⟩, fun i hi => ?_⟩⟩
    rw [Nat.zero_add]
    exact cell_set_far (hrb2.cell hi) hg2b
  · have e1 : (l.set r y).getD j [] = l.getD j [] := by simp [List.getD, List.getElem?_set_ne (Ne.symm ej)]
    rw [e1]
    simp only [if_neg ej]
    obtain ⟨gj, hAj, hBj, hrbj⟩ := h.row hj
    have hgj := h.addr_ne hr hj hA hAj ej
    have hrb5 : RowB w5 gj (l.getD j []) := hrbj.of_block (hg.block gj hrbj.lt (fun e => by injection e with e; omega))
    have hgjb := h.row_ne hrbj
    refine ⟨?_, fun _ => ?_⟩
    · rw [World.cell?_setCell_other _ _ _ _ (fun e => ej (by injection e with _ e; exact e.symm))]
      simp [World.cell?, hcur5, hc j hj]
    · have e' : ((A j).getD default).block = gj := by rw [hAj]; rfl
      rw [e']
      exact ⟨hAj, ⟨hBj, hrb5.lt⟩, fun i hi => by rw [Nat.zero_add]; exact cell_set_far (hrb5.cell hi) hgjb⟩

theorem BD.setNum {B : Nat} {w : World} {l : List (List Int)} {A : Nat → Option Addr} {C : Nat → Nat} {b cap n : Nat} (h : BD B w (.slice (some ⟨b, 0, none⟩) n cap) l A C) {r g k : Nat} (hr : r < l.length) (hA : A r = some ⟨g, 0, none⟩) (hk : k < (l.getD r []).length) (z : Int) :
    InT B w.heap.size (w.setCell ⟨g, k, none⟩ (.int .i64 z)) (some ⟨b, 0, none⟩) (l.set r ((l.getD r []).set k z)) := by
  obtain ⟨b', cap', cur, e, hb, hcur, hc⟩ := h.top (by omega)
  injection e with e en _
  injection e with e
  injection e with e
  subst e
  obtain ⟨g', hA', hBg, hrb⟩ := h.row hr
  rw [hA] at hA'
  injection hA' with hA'
  injection hA' with hA'
  subst hA'
  have hgb := h.row_ne hrb
  intro _
  refine ⟨b, 0, A, fun j => ((A j).getD default).block, fun _ => 0, C, rfl, ⟨hb, (Array.getElem?_eq_some_iff.1 hcur).1⟩, fun j hj => ?_⟩
  rw [List.length_set] at hj
  show (w.setCell ⟨g, k, none⟩ _).cell? ⟨b, 0 + j, none⟩ = _ ∧ _
  rw [Nat.zero_add]
  have hlen : ((l.set r ((l.getD r []).set k z)).getD j []).length = (l.getD j []).length := by
    by_cases ej : j = r
    · subst ej; simp [List.getD, hj]
    · simp [List.getD, List.getElem?_set_ne (Ne.symm ej)]
  rw [hlen]
  refine ⟨cell_set_far (by simp [World.cell?, hcur, hc j hj]) (Ne.symm hgb), fun _ => ?_⟩
  obtain ⟨gj, hAj, hBj, hrbj⟩ := h.row hj
  have e' : ((A j).getD default).block = gj := by rw [hAj]; rfl
  dsimp only
  rw [e']
  refine ⟨hAj, ⟨hBj, hrbj.lt⟩, fun i hi => ?_⟩
  rw [Nat.zero_add]
  by_cases ej : j = r
  · subst ej
    rw [hA] at hAj
    injection hAj with hAj
    injection hAj with hAj
    subst hAj
    have e1 : (l.set j ((l.getD j []).set k z)).getD j [] = (l.getD j []).set k z := by simp [List.getD, hj]
    rw [e1]
    by_cases ei : i = k
    · subst ei
      rw [World.cell?_setCell_same' _ _ _ (by rw [hrbj.cell hi]; rfl)]
      simp [List.getD] at hi ⊢
      simp [hi]
    · rw [World.cell?_setCell_other _ _ _ _ (fun e => ei (by injection e with _ e; exact e.symm)), hrbj.cell hi]
      simp [List.getD, List.getElem?_set_ne (Ne.symm ei)]
  · have hgj := h.addr_ne hr hj hA hAj ej
    have e1 : (l.set r ((l.getD r []).set k z)).getD j [] = l.getD j [] := by simp [List.getD, List.getElem?_set_ne (Ne.symm ej)]
    rw [e1]
    exact cell_set_far (hrbj.cell hi) hgj

theorem InT.kept {lo hi : Nat} {w w' : World} {a : Option Addr} {l : List (List Int)} {G : Nat} (h : InT lo hi w a l) (hg : w.grownBy w' (some G)) (hG : G < lo) : InT lo hi w' a l :=
  h.frame (lo' := G) (hi' := G + 1) ⟨hg.os, hg.tape, hg.output, hg.size, fun k hk ho => hg.block k hk (fun e => by injection e with e; omega)⟩ (.inr (by omega))

end Go.Proofs.Yteaabemnolacdaa
end

section
namespace Go.Proofs.Yteaabemnolacdaa
open Go.RowKit Go.Deep

def Drawn0 (w w' : World) (R K : Nat) (a : Option Addr) (l : List (List Int)) : Prop :=
  1 ≤ l.length ∧ l.length ≤ R ∧ (∀ j, j < l.length → 1 ≤ (l.getD j []).length ∧ (l.getD j []).length ≤ K + 1) ∧ InT w.heap.size w'.heap.size w' a l

theorem lens_set {l : List (List Int)} {r : Nat} {y : List Int} {n m K : Nat} (hl : l.length = n) (h : ∀ j, j < n → (l.getD j []).length = m) (hm : 1 ≤ m ∧ m ≤ K) (hy : 1 ≤ y.length ∧ y.length ≤ K + 1) : ∀ j, j < (l.set r y).length → 1 ≤ ((l.set r y).getD j []).length ∧ ((l.set r y).getD j []).length ≤ K + 1 := by
  intro j hj
  rw [List.length_set] at hj
  by_cases e : j = r
  · subst e
    rw [show (l.set j y).getD j [] = y by simp [List.getD, hj]]
    exact hy
  · rw [show (l.set r y).getD j [] = l.getD j [] by simp [List.getD, List.getElem?_set_ne (Ne.symm e)], h j (by omega)]
    omega

set_option maxRecDepth 100000 in
set_option maxHeartbeats 4000000 in
theorem l91Some_any (w0 w : World) (G nb c p R K : Nat) (a : Option Addr) (h : RD w0 w G a nb c 80 p) (hR1 : 1 ≤ R) (hR : R ≤ 8) (hK1 : 1 ≤ K) (hK : K ≤ 8) (hp : p ≤ 40000) :
    Calls Try.prog 72 #[.pointer (some ⟨G, 0, none⟩), .int .i64 R, .int .i64 K] w fun e w' => ∃ a' cap l p', e = .returned (.slice a' l.length cap) ∧ w.grownBy w' (some G) ∧ RD w0 w' G a nb c 80 p' ∧ p' ≤ p + 600 ∧ Drawn0 w w' R K a' l := by
  obtain ⟨i3, hi3⟩ := info3_parts
  have HJ := Lib.hid hi3
  have hG := h.lt
  have HRD := Lib.hid h
  clear h hi3
  go_enter Try.func72, Try.ntmps72
  go_wp2_with fail
  refine (pick_any w0 _ G nb c _ a _ HRD.out (by omega)).mono ?_
  rintro e w1 ⟨y1, rfl, hy1, hg1, hd1⟩
  obtain ⟨n, hn, hnn⟩ : ∃ n : Nat, IntKind.i64.wrap (1 + (y1 : Int)) = n ∧ n = y1 + 1 := ⟨y1 + 1, (IntWalk.i64_in _ ⟨by omega, by omega⟩).trans (by omega), rfl⟩
  have hn1 : 1 ≤ n ∧ n ≤ R := by omega
  have HD1 := Lib.hid hd1
  have HG1 := Lib.hid hg1
  clear hd1 hg1 hnn hy1 HRD
  go_wp2_with fail
  refine (pick_any w0 _ G nb c _ a _ HD1.out (by omega)).mono ?_
  rintro e w2 ⟨y2, rfl, hy2, hg2, hd2⟩
  obtain ⟨m, hm, hmm⟩ : ∃ m : Nat, IntKind.i64.wrap (1 + (y2 : Int)) = m ∧ m = y2 + 1 := ⟨y2 + 1, (IntWalk.i64_in _ ⟨by omega, by omega⟩).trans (by omega), rfl⟩
  have hm1 : 1 ≤ m ∧ m ≤ K := by omega
  have HD2 := Lib.hid hd2
  have HG2 := Lib.hid (grown_trans HG1.out hg2)
  clear hd2 hg2 hmm hy2 HD1 HG1
  go_wp2_with fail
  refine (l91Table_any w0 _ G nb c _ n m a HD2.out (by omega) (by omega) (by omega) (by omega)).mono ?_
  rintro e w3 ⟨v, l, A, C, p3, rfl, hl, hlm, hg3, hd3, hp3, hB⟩
  obtain ⟨b, cp, cur, hv, hbb, hcur, hc⟩ := hB.top (by omega)
  rw [hl] at hv
  subst hv
  have hG2 := HG2.out.size
  have HD3 := Lib.hid hd3
  have HG3 := Lib.hid (grown_trans HG2.out hg3)
  have HB := Lib.hid hB
  clear hd3 hg3 hcur hc hB HD2
  go_wp2_with fail
  refine (pick_any w0 _ G nb c _ a _ HD3.out (by omega)).mono ?_
  rintro e w4 ⟨y4, rfl, hy4, hg4, hd4⟩
  have HG4 := Lib.hid (grown_trans HG3.out hg4)
  have HB4 := Lib.hid (HB.out.kept hg4 (by omega))
  have HD4 := Lib.hid hd4
  have hz4 := HG4.out.size
  clear hd4 hg4 HB HG3 HD3 hy4
  obtain ⟨g0, hA0, hg0, hrb0⟩ := HB4.out.row (r := 0) (by omega)
  by_cases hy0 : y4 = 0
  · subst hy0
    obtain ⟨t1, _, _⟩ := HB4.out.cellTop (r := 0) (by omega)
    rw [hlm 0 (by omega), hA0] at t1
    have t2 := hrb0.cell (i := 0) (by rw [hlm 0 (by omega)]; omega)
    have t3 := hrb0.frozen 0
    have hIT := HB4.out.setNum (r := 0) (k := 0) (by omega) hA0 (by rw [hlm 0 (by omega)]; omega) 31
    have hll : (l.set 0 ((l.getD 0 []).set 0 31)).length = n := by rw [List.length_set]; exact hl
    have hlens := lens_set (r := 0) (y := (l.getD 0 []).set 0 31) hl hlm hm1 (by rw [List.length_set, hlm 0 (by omega)]; omega)
    have HIT := Lib.hid hIT
    have HLL := Lib.hid hll
    have HLENS := Lib.hid hlens
    have HGS := Lib.hid (grown_set HG4.out (show w.heap.size ≤ g0 by omega) (k := 0) (.int .i64 31))
    have HDS := Lib.hid (HD4.out.grown (grown_set_any w4 g0 0 (.int .i64 31)) (fun i e => by cases e; omega))
    have p1 : 0 < n := by omega
    have p2 : 0 < m := by omega
    clear hrb0 hIT hll hlens hA0 hlm hl
    go_wp2
    go_ret
    exact ⟨_, _, l.set 0 ((l.getD 0 []).set 0 31), _, by rw [HLL.out]; rfl, HGS.out, HDS.out, by omega, by rw [HLL.out]; omega, by rw [HLL.out]; omega, HLENS.out, HIT.out.mono hG2 (by simp)⟩
  · clear hrb0 hA0 hg0
    by_cases hy1 : y4 = 1
    · subst hy1
      obtain ⟨s, hs⟩ : ∃ s, n = s + 1 := ⟨n - 1, by omega⟩
      have hr1 : IntKind.i64.wrap ((n : Int) - 1) = (s : Int) := by rw [show (n : Int) - 1 = s by omega]; exact IntWalk.i64_in _ ⟨by omega, by omega⟩
      have hsr : s < n := by omega
      clear hs
      obtain ⟨g1, hA, hg1, hrb⟩ := HB4.out.row (r := s) (by omega)
      obtain ⟨t1, t2, lb⟩ := HB4.out.cellTop (r := s) (by omega)
      have hRW := (HB4.out.rows s (by omega)).2
      have hls := hlm s hsr
      rw [hls, hA] at t1 hRW
      have hgb := HB4.out.row_ne hrb
      obtain ⟨x, hx⟩ : ∃ x, x = l.getD s [] := ⟨_, rfl⟩
      rw [← hx] at hRW hls
      have HRW := Lib.hid hRW
      have HA := Lib.hid hA
      have HL := Lib.hid hl
      have HLM := Lib.hid hlm
      have t1a := fun ob => cell_alloc_l ob t1
      clear hRW hrb hA hl hlm hx
      go_wp2_with (first
        | (at_builtin; (refine wpList_append_int _ rfl (.tmp 37) (.tmp 38) 36 rfl w2.heap.size i3 Try.underlying36 HJ.out.1 HJ.out.2.1 HJ.out.2.2.1 HJ.out.2.2.2 _ x rfl HRW.out 0 rfl (by omega) (by omega) ?_); intro v' w5 hrw hgr; have hgr : w4.grownBy w5 (some g1) := hgr; obtain ⟨g2, cp2, hv2, hg2b, hrb2⟩ := hrw.form (by simp); rw [show (x ++ [(0 : Int)]).length = m + 1 by rw [List.length_append, hls]; rfl] at hv2; subst hv2; have k1 := hgr.cell t1 (fun e => hgb (by injection e with e; exact e.symm)); have k2 : w5.frozen? ⟨b, s, none⟩ = false := (World.frozen?_of_block (hgr.block b lb (fun e => hgb (by injection e with e; exact e.symm)))).trans t2; have HRW2 := Lib.hid hrw; have HGR := Lib.hid hgr; clear hrw hgr hrb2))
      have hl2 : (x ++ [(0 : Int)]).length = m + 1 := by rw [List.length_append, hls]; rfl
      have hIT := HB4.out.setRow (r := s) (by rw [HL.out]; exact hsr) HA.out HGR.out HRW2.out hl2 (by omega)
      have hll : (l.set s (x ++ [0])).length = n := by rw [List.length_set]; exact HL.out
      have hlens := lens_set (r := s) (y := x ++ [0]) HL.out HLM.out hm1 (by rw [hl2]; omega)
      have hgs := grown_set (grown_new HG4.out HGR.out (fun i e => by cases e; omega)) (show w.heap.size ≤ b by omega) (k := s) (.slice (some ⟨g2, 0, none⟩) (m + 1) cp2)
      have hds := (HD4.out.grown HGR.out (fun i e => by cases e; omega)).grown (grown_set_any w5 b s (.slice (some ⟨g2, 0, none⟩) (m + 1) cp2)) (fun i e => by cases e; omega)
      go_ret
      exact ⟨_, _, l.set s (x ++ [0]), _, by rw [hll]; rfl, hgs, hds, by omega, by rw [hll]; omega, by rw [hll]; omega, hlens, hIT.mono hG2 (by simp)⟩
    · have h1 : ((y4 : Int) == 0) = false := by simp; omega
      have h2 : ((y4 : Int) == 1) = false := by simp; omega
      obtain ⟨a', cap', hv, hIT⟩ := HB4.out.inT
      rw [hl] at hv
      injection hv with hv _ _
      subst hv
      have HL := Lib.hid hl
      have HLM := Lib.hid hlm
      have HIT := Lib.hid hIT
      clear hl hlm hIT
      go_wp2
      go_ret
      exact ⟨_, _, l, _, by rw [HL.out]; rfl, HG4.out, HD4.out, by omega, by rw [HL.out]; omega, by rw [HL.out]; omega, fun j hj => by rw [HLM.out j (by rw [← HL.out]; exact hj)]; omega, HIT.out.mono hG2 (Nat.le_refl _)⟩

end Go.Proofs.Yteaabemnolacdaa
end

section
namespace Go.Proofs.Yteaabemnolacdaa
open Go.RowKit Go.Deep

set_option maxHeartbeats 1000000 in
theorem l6Open_any (a : Option Addr) (nb cb : Nat) (w : World) (hc : nb ≤ cb) (h63 : cb ≤ 9223372036854775807) (hb : BytR w a nb) :
    Calls Try.prog 59 #[.slice a nb cb] w fun e w' => ∃ n' c', e = .returned (.pointer (some ⟨w.heap.size, 0, none⟩)) ∧ w.Since w.heap.size w' ∧ w'.heap.size = w.heap.size + 1 ∧ RD w w' w.heap.size a n' c' 80 0 := by
  by_cases hl : 2000 < nb
  · have hl' : decide ((2000 : Int) < (nb : Int)) = true := by simp; omega
    have h2 : (2000 : Int) ≤ (cb : Int) := by omega
    obtain ⟨b, o, rfl, hcell⟩ := hb (by omega)
    go_enter Try.func59, Try.ntmps59
    go_wp2
    go_ret
    exact ⟨_, _, rfl, (World.Since.refl _ _).alloc (Nat.le_refl _) _, by simp, ⟨heap_alloc_new _ _, Nat.le_refl _, (World.Since.refl _ _).alloc (Nat.le_refl _) _, fun _ => ⟨b, o, rfl, fun i hi => hcell i (by omega)⟩, by omega⟩⟩
  · have hl' : decide ((2000 : Int) < (nb : Int)) = false := by simp; omega
    go_enter Try.func59, Try.ntmps59
    go_wp2
    go_ret
    exact ⟨_, _, rfl, (World.Since.refl _ _).alloc (Nat.le_refl _) _, by simp, ⟨heap_alloc_new _ _, Nat.le_refl _, (World.Since.refl _ _).alloc (Nat.le_refl _) _, hb, by omega⟩⟩

def DrawnT (w w' : World) (R K : Nat) (a : Option Addr) (l : List (List Int)) : Prop :=
  1 ≤ l.length ∧ l.length ≤ R ∧ (∀ j, j < l.length → 1 ≤ (l.getD j []).length ∧ (l.getD j []).length ≤ K + 1) ∧ InT w.heap.size w'.heap.size w' a l

set_option maxHeartbeats 1000000 in
theorem l91One_any (a : Option Addr) (nb cb : Nat) (w : World) (hc : nb ≤ cb) (h63 : cb ≤ 9223372036854775807) (hb : BytR w a nb) :
    Calls Try.prog 100 #[.slice a nb cb] w fun e w' => ∃ a' cap l, e = .returned (.slice a' l.length cap) ∧ w.Since w.heap.size w' ∧ DrawnT w w' 5 5 a' l := by
  have E := Lib.hid (l6Open_any a nb cb w hc h63 hb)
  clear hb
  go_enter Try.func100, Try.ntmps100
  go_wp2_with fail
  refine (E.out).mono ?_
  rintro e w1 ⟨n', c', rfl, hs, hz, hd⟩
  have HD := Lib.hid hd
  clear hd
  go_wp2_with fail
  refine (l91Some_any w w1 w.heap.size n' c' 0 5 5 a HD.out (by omega) (by omega) (by omega) (by omega) (by omega)).mono ?_
  rintro e w2 ⟨a', cap', l, p', rfl, hg, hd2, hp, h1, h5, hl, hit⟩
  go_wp2
  go_ret
  exact ⟨a', cap', l, rfl, hs.trans (since_grown hg (Nat.le_refl _) hs.size), h1, h5, hl, hit.mono hs.size (Nat.le_refl _)⟩

end Go.Proofs.Yteaabemnolacdaa
end

section
namespace Go.Proofs.Yteaabemnolacdaa
open Go.RowKit Go.Deep

set_option maxHeartbeats 1000000 in
theorem drawValueRank_any (a : Option Addr) (nb cb : Nat) (w : World) (hc : nb ≤ cb) (h63 : cb ≤ 9223372036854775807) (hb : BytR w a nb) :
    Calls Try.prog 42 #[.slice a nb cb] w fun e w' => ∃ a' cap l, e = .returned (.slice a' l.length cap) ∧ w.Since w.heap.size w' ∧ DrawnT w w' 5 5 a' l := by
  have E := Lib.hid (l91One_any a nb cb w hc h63 hb)
  clear hb
  go_enter Try.func42, Try.ntmps42
  go_wp2_with fail
  refine (E.out).mono ?_
  rintro e w1 ⟨a', cap', l, rfl, hs, hd⟩
  go_wp2
  go_ret
  exact ⟨a', cap', l, rfl, hs, hd⟩

end Go.Proofs.Yteaabemnolacdaa
end

section
namespace Go.Proofs.Yteaabemnolacdaa
open Go.RowKit Go.Deep

set_option maxHeartbeats 1000000 in
theorem sameInts_same (a b : Option Addr) (ca cb n : Nat) (l : List Int) (w : World) (hn : l.length = n) (h63 : n ≤ 9223372036854775807) (ha : RowR w a l) (hb : RowR w b l) :
    Calls Try.prog 67 #[.slice a n ca, .slice b n cb] w fun e w' => e = .returned (.bool true) ∧ Drawn w w' := by
  have H := Lib.hid hn; clear hn
  go_enter Try.func67, Try.ntmps67
  go_wp2
  go_loopg [5] n (fun g i wr => ∃ k : Nat, k ≤ n ∧ g = n - k ∧ i = .int .i64 k ∧ Drawn w wr)
  case atStart => exact ⟨0, Nat.zero_le _, rfl, rfl, Drawn.refl w⟩
  case round =>
    obtain ⟨k, hk, rfl, rfl, hD⟩ := hrel
    by_cases hlt : k < n
    · obtain ⟨b1, o1, rfl, hc1⟩ := ha (by rw [H.out]; omega)
      obtain ⟨b2, o2, rfl, hc2⟩ := hb (by rw [H.out]; omega)
      have c1 := hc1 k (by rw [H.out]; exact hlt)
      have c2 := hc2 k (by rw [H.out]; exact hlt)
      obtain ⟨x, hx⟩ : ∃ x, x = l.getD k 0 := ⟨_, rfl⟩
      rw [← hx] at c1 c2
      rw [← hD.cell] at c1 c2
      clear hx hc1 hc2 ha hb
      go_wp2
      go_quiet (fail)
      go_wp2
      go_roundg (n - (k + 1))
      case measure => omega
      case rel => exact ⟨k + 1, by omega, rfl, by go_num, hD.trans (Drawn.mk _ _)⟩
    · go_wp2
      go_ret
      exact ⟨rfl, hD⟩

set_option maxHeartbeats 1000000 in
theorem sameRows_same (a b : Option Addr) (ca cb n : Nat) (l : List (List Int)) (w : World) (hn : l.length = n) (h63 : n ≤ 9223372036854775807) (hl : ∀ r, r < l.length → (l.getD r []).length ≤ 9223372036854775807)
    (ha : MatR w a l) (hb : MatR w b l) :
    Calls Try.prog 19 #[.slice a n ca, .slice b n cb] w fun e w' => e = .returned (.bool true) ∧ Drawn w w' := by
  have H := Lib.hid hn; clear hn
  go_enter Try.func19, Try.ntmps19
  go_wp2
  go_loopg [5] n (fun g i wr => ∃ k : Nat, k ≤ n ∧ g = n - k ∧ i = .int .i64 k ∧ Drawn w wr)
  case atStart => exact ⟨0, Nat.zero_le _, rfl, rfl, Drawn.refl w⟩
  case round =>
    obtain ⟨k, hk, rfl, rfl, hD⟩ := hrel
    by_cases hlt : k < n
    · obtain ⟨b1, o1, A1, C1, rfl, hc1⟩ := ha (by rw [H.out]; omega)
      obtain ⟨b2, o2, A2, C2, rfl, hc2⟩ := hb (by rw [H.out]; omega)
      obtain ⟨c1, r1⟩ := hc1 k (by rw [H.out]; exact hlt)
      obtain ⟨c2, r2⟩ := hc2 k (by rw [H.out]; exact hlt)
      have hlk := hl k (by rw [H.out]; exact hlt)
      obtain ⟨x, hx⟩ : ∃ x, x = l.getD k [] := ⟨_, rfl⟩
      rw [← hx] at c1 c2 r1 r2 hlk
      obtain ⟨m, hm⟩ : ∃ m, x.length = m := ⟨_, rfl⟩
      rw [hm] at c1 c2 hlk
      have HM := Lib.hid hm
      clear hx hc1 hc2 ha hb hl hm
      have r1 := r1.drawn hD
      have r2 := r2.drawn hD
      rw [← hD.cell] at c1 c2
      have e1 := fun (p : Nat) => sameInts_same (A1 k) (A2 k) (C1 k) (C2 k) m x (wr.drewN p) HM.out hlk r1 r2
      have E1 := Lib.hid e1; clear e1 r1 r2
      go_wp2
      go_quiet ((go_at_call 67; exact Calls.quiet_of (E1.out _)))
      go_wp2
      go_roundg (n - (k + 1))
      case measure => omega
      case rel => exact ⟨k + 1, by omega, rfl, by go_num, hD.trans (Drawn.mk _ _)⟩
    · go_wp2
      go_ret
      exact ⟨rfl, hD⟩

end Go.Proofs.Yteaabemnolacdaa
end

section
namespace Go.Proofs.Yteaabemnolacdaa
open Go.RowKit Go.Deep

theorem szL_of {l : List (List Int)} {n k : Nat} (h1 : l.length ≤ n) (h2 : ∀ j, j < l.length → (l.getD j []).length ≤ k) (hnk : n * k + n ≤ 1048576) : szL l ≤ 1048576 := by
  have h3 := sumTo_le_mul l k h2 l.length (Nat.le_refl _)
  have h4 : l.length * k ≤ n * k := Nat.mul_le_mul_right _ h1
  have h5 : k * l.length = l.length * k := Nat.mul_comm _ _
  unfold szL
  omega
theorem rows_le {l : List (List Int)} (h : szL l ≤ 1048576) : ∀ r, r < l.length → (l.getD r []).length ≤ 9223372036854775807 := fun r hr => by
  have := row_le l hr
  unfold szL at h
  omega

theorem tab_self {l : List (List Int)} {n m : Nat} (hn : l.length = n) (hm : ∀ r, r < n → (l.getD r []).length = m) : tabF n m (at2 l) = l := by
  refine List.ext_getElem (by rw [tabF_length, hn]) fun r h1 h2 => ?_
  have hr : r < n := by rw [tabF_length] at h1; exact h1
  have e1 : (tabF n m (at2 l))[r] = (tabF n m (at2 l)).getD r [] := by simp [List.getD, h1]
  have e2 : l[r] = l.getD r [] := by simp [List.getD, h2]
  rw [e1, e2, tabF_get _ _ _ _ hr]
  refine List.ext_getElem (by rw [List.length_map, List.length_range, hm r hr]) fun k h3 h4 => ?_
  rw [List.getElem_map, List.getElem_range]
  unfold at2
  obtain ⟨x, hx⟩ : ∃ x, x = l.getD r [] := ⟨_, rfl⟩
  subst hx
  generalize l.getD r [] = x at *
  simp [List.getD, h4]

theorem turnL_turnL {l : List (List Int)} (hT : TabIn l) : turnL (turnL l) = l := by
  have h1 := hT.1
  have hw := hT.width
  have e0 : ((turnL l).getD 0 []).length = l.length := tabF_len _ _ _ _ hw.1
  have e1 : turnL (turnL l) = tabF l.length (l.getD 0 []).length fun k i => at2 (turnL l) i k := by
    show tabF ((turnL l).getD 0 []).length (turnL l).length _ = _
    rw [e0, turnL_length]
  rw [e1]
  have e2 : tabF l.length (l.getD 0 []).length (fun k i => at2 (turnL l) i k) = tabF l.length (l.getD 0 []).length (at2 l) := by
    unfold tabF
    refine List.map_congr_left fun r hr => List.map_congr_left fun k hk => ?_
    exact tabF_at _ _ _ _ _ (List.mem_range.1 hk) (List.mem_range.1 hr)
  rw [e2]
  exact tab_self rfl (fun r hr => hT.row hr)

end Go.Proofs.Yteaabemnolacdaa
end

section
namespace Go.Proofs.Yteaabemnolacdaa
open Go.RowKit Go.Deep

set_option maxRecDepth 100000 in
set_option maxHeartbeats 4000000 in
theorem across_any (a : Option Addr) (cap n : Nat) (l : List (List Int)) (w : World) (hn : l.length = n) (hT : TabIn l) (hm : MatR w a l) :
    Calls Try.prog 32 #[.slice a n cap] w fun e w' => ∃ a' cap', e = .returned (.slice a' (l.getD 0 []).length cap') ∧ w.Since w.heap.size w' ∧ InT w.heap.size w'.heap.size w' a' (turnL l) := by
  obtain ⟨i42, hi42⟩ := info42_parts
  obtain ⟨i3, hi3⟩ := info3_parts
  have HI := Lib.hid hi42
  have HJ := Lib.hid hi3
  clear hi42 hi3
  have hst := bt_start w (fun _ => none) (fun _ => 0) #[] rfl
  have hw := hT.width
  have h6 := hT.2.1
  have h1 := hT.1
  rw [hn] at h6 h1
  obtain ⟨b, o, A0, C0, rfl, hc⟩ := hm (by omega)
  obtain ⟨m, hmm⟩ : ∃ m, (l.getD 0 []).length = m := ⟨_, rfl⟩
  have hcell : ∀ r, r < n → w.cell? ⟨b, o + r, none⟩ = some (.slice (A0 r) m (C0 r)) := fun r hr => by rw [(hc r (by omega)).1, hT.row (by omega), hmm]
  have hent : ∀ i k, i < n → k < m → ∃ b' o', A0 i = some ⟨b', o', none⟩ ∧ w.cell? ⟨b', o' + k, none⟩ = some (.int .i64 (at2 l i k)) := fun i k hi hk => by
    have hrl : (l.getD i []).length = m := by rw [hT.row (by omega), hmm]
    obtain ⟨b', o', e, h3⟩ := (hc i (by omega)).2 (by omega)
    exact ⟨b', o', e, h3 k (by omega)⟩
  have htl : turnL l = turnTo l m := by rw [← hmm]; exact (turnTo_all l).symm
  rw [hmm] at hw ⊢
  rw [htl]
  have HC := Lib.hid hcell
  have HE := Lib.hid hent
  have HN := Lib.hid hn
  clear hc hm hT hcell hent hn hmm htl
  go_enter Try.func32, Try.ntmps32
  go_wp2
  go_loopg [3, 4, 5, 6] m (fun g v k _ _ wr => ∃ r : Nat, ∃ A C, r ≤ m ∧ g = m - r ∧ k = .int .i64 r ∧ BT w wr v (turnTo l r) A C)
  case atStart => exact ⟨0, _, _, Nat.zero_le _, rfl, rfl, hst⟩
  case round =>
    obtain ⟨r, A, C, hr, rfl, rfl, hR⟩ := hrel
    clear hst
    have hc0 : wr.cell? ⟨b, o, none⟩ = some (.slice (A0 0) m (C0 0)) := by
      have h0 := HC.out 0 (by omega)
      rw [Nat.add_zero] at h0
      rw [hR.since.cell (a := ⟨b, o, none⟩) (World.block_lt_of_cell? _ _ h0), h0]
    by_cases hlt : r < m
    · have HR := Lib.hid hR
      have hrb := rb_start wr #[] rfl
      have HRB := Lib.hid hrb
      have hsz := hR.since.size
      have hlen := turnTo_length l r
      obtain ⟨wo, rfl⟩ : ∃ wo : World, wo = wr := ⟨_, rfl⟩
      clear hR hrb
      go_wp2
      go_loopg [5, 6] n (fun g v i wi => ∃ j : Nat, j ≤ n ∧ g = n - j ∧ i = .int .i64 j ∧ RB wo wi v (turnRow l r j))
      case atStart => exact ⟨0, Nat.zero_le _, rfl, rfl, HRB.out⟩
      case round =>
        obtain ⟨j, hj, rfl, rfl, hI⟩ := hrel
        clear HRB hc0
        by_cases hjn : j < n
        · obtain ⟨b', o', hA, hce⟩ := HE.out j r hjn hlt
          have hcj := HC.out j hjn
          rw [hA] at hcj
          have hS := HR.out.since.trans (since_mono hI.since hsz)
          rw [← hS.cell (a := ⟨b, o + j, none⟩) (World.block_lt_of_cell? _ _ hcj)] at hcj
          rw [← hS.cell (a := ⟨b', o' + r, none⟩) (World.block_lt_of_cell? _ _ hce)] at hce
          obtain ⟨y, hy⟩ : ∃ y, y = at2 l j r := ⟨_, rfl⟩
          rw [← hy] at hce
          have HY := Lib.hid hy
          have HII := Lib.hid hI
          have hle := turnRow_length l r j
          have hzi := hI.since.size
          clear hy hI hA hS
          go_wp2_with (at_builtin; (refine wpList_append_own _ rfl _ _ 36 rfl wo.heap.size 3 i3 (.int .i64 0) 1 8 Try.underlying36 HJ.out.1 HJ.out.2.1 HJ.out.2.2.1 HJ.out.2.2.2 rfl (by decide) _ _ _ rfl (HII.out.own.alloc _) ⟨wr.heap.size, 0, none⟩ 1 1 [.int .i64 y] rfl rfl (cell_one_at _ _ _ rfl) (fun x hx => by simp at hx; subst hx; rfl) (by unfold maxLen; omega) (by omega) (by simp; omega) ?_); intro v' w1 hown' hgrow _)
          have hP := HII.out.push hown' hgrow
          rw [HY.out, ← turnRow_succ] at hP
          have HP := Lib.hid hP
          clear hP hown' hgrow hle hcj hce
          go_roundg (n - (j + 1))
          case measure => omega
          case rel => exact ⟨j + 1, by omega, rfl, by go_num, HP.out⟩
        · have hjj : j = n := by omega
          subst hjj
          obtain ⟨ra, rcp, hv, hrow⟩ := hI.slice
          rw [turnRow_length] at hv
          subst hv
          have HII := Lib.hid hI
          have hle := turnRow_length l r j
          have hzi := hI.since.size
          have HROW := Lib.hid hrow
          clear hI hrow
          have hBT := HR.out.later HII.out.since
          have HBT := Lib.hid hBT
          clear hBT
          go_wp2_with (at_builtin; (refine wpList_append_own _ rfl _ _ 24 rfl w.heap.size 36 i42 (.slice none 0 0) 1 24 Try.underlying24 HI.out.1 HI.out.2.1 HI.out.2.2.1 HI.out.2.2.2 rfl (by decide) _ _ _ rfl (HBT.out.own.alloc _) ⟨wr.heap.size, 0, none⟩ 1 1 [.slice ra j rcp] rfl rfl (cell_one_at _ _ _ rfl) (fun x hx => by simp at hx; subst hx; rfl) (by unfold maxLen; omega) (by omega) (by simp; omega) ?_); intro v' w1 hown' hgrow _)
          have hP := HBT.out.push (rv := .slice ra j rcp) (x := turnRow l r j) (a := ra) (cp := rcp) (by rw [turnRow_length]) (fun h => by obtain ⟨G, e, h2, h3⟩ := HROW.out h; exact ⟨G, e, by omega, h3⟩) (fun h => by obtain ⟨G, e, h2, _⟩ := HROW.out h; exact HR.out.fresh e h2) hown' hgrow
          have hjl : l.length = j := HN.out
          have hts := turnTo_succ l r
          rw [hjl] at hts
          rw [← hts] at hP
          have HP := Lib.hid hP
          clear hP hown' hgrow hle hts hjl hlen
          go_roundg (m - (r + 1))
          case measure => omega
          case rel => exact ⟨r + 1, _, _, by omega, rfl, by go_num, HP.out⟩
    · have : r = m := by omega
      subst this
      obtain ⟨ra, rcp, hv, hin⟩ := hR.slice
      rw [turnTo_length] at hv
      subst hv
      have HS := Lib.hid hR.since
      clear hR
      go_wp2
      go_ret
      exact ⟨ra, rcp, rfl, HS.out, hin⟩

end Go.Proofs.Yteaabemnolacdaa
end

section
namespace Go.Proofs.Yteaabemnolacdaa
open Go.RowKit Go.Deep

def nzM (l : List (List Int)) (r c : Nat) : Prop := popcS r = popcS c ∧ ordF (partL l r c) (popcS r) (popcS r) 0 ≠ 0
theorem stepR_ge (l : List (List Int)) (r c b : Nat) : b ≤ stepR l r c b := by
  unfold stepR
  split
  · omega
  · omega
theorem stepR_yes {l : List (List Int)} {r c : Nat} (h : nzM l r c) (b : Nat) : popcS r ≤ stepR l r c b := by
  unfold stepR
  by_cases hb : b < popcS r
  · rw [if_pos ⟨h.1, hb, h.2⟩]; omega
  · have := stepR_ge l r c b
    unfold stepR at this
    omega
theorem stepR_ex (l : List (List Int)) (r c b : Nat) : stepR l r c b = b ∨ (stepR l r c b = popcS r ∧ nzM l r c) := by
  unfold stepR
  split
  · rename_i h; exact .inr ⟨rfl, h.1, h.2.2⟩
  · exact .inl rfl
theorem rkC_step (l : List (List Int)) (r b : Nat) : ∀ c, 1 ≤ c → b ≤ rkC l r b c ∧ (∀ c', 1 ≤ c' → c' < c → nzM l r c' → popcS r ≤ rkC l r b c) ∧ (rkC l r b c = b ∨ (rkC l r b c = popcS r ∧ ∃ c', c' < c ∧ nzM l r c'))
  | 0, h => by omega
  | 1, _ => by rw [rkC_one]; exact ⟨by omega, fun c' h1 h2 => by omega, .inl rfl⟩
  | c + 2, _ => by
    obtain ⟨i1, i2, i3⟩ := rkC_step l r b (c + 1) (by omega)
    rw [rkC_succ l r b (by omega)]
    have g := stepR_ge l r (c + 1) (rkC l r b (c + 1))
    refine ⟨by omega, fun c' h1 h2 hn => ?_, ?_⟩
    · by_cases e : c' = c + 1
      · subst e; exact stepR_yes hn _
      · have := i2 c' h1 (by omega) hn
        omega
    · rcases stepR_ex l r (c + 1) (rkC l r b (c + 1)) with e | ⟨e, hn⟩
      · rw [e]
        rcases i3 with e2 | ⟨e2, c', h1, h2⟩
        · exact .inl e2
        · exact .inr ⟨e2, c', by omega, h2⟩
      · exact .inr ⟨e, c + 1, by omega, hn⟩
theorem rkR_step (l : List (List Int)) (C : Nat) (hC : 1 ≤ C) : ∀ r, 1 ≤ r → (∀ r' c', 1 ≤ r' → r' < r → 1 ≤ c' → c' < C → nzM l r' c' → popcS r' ≤ rkR l C r) ∧ (rkR l C r = 0 ∨ ∃ r' c', r' < r ∧ c' < C ∧ nzM l r' c' ∧ rkR l C r = popcS r')
  | 0, h => by omega
  | 1, _ => by rw [rkR_one]; exact ⟨fun r' c' h1 h2 => by omega, .inl rfl⟩
  | r + 2, _ => by
    obtain ⟨i1, i2⟩ := rkR_step l C hC (r + 1) (by omega)
    rw [rkR_succ l C (by omega)]
    obtain ⟨j1, j2, j3⟩ := rkC_step l (r + 1) (rkR l C (r + 1)) C hC
    refine ⟨fun r' c' h1 h2 h3 h4 hn => ?_, ?_⟩
    · by_cases e : r' = r + 1
      · subst e; exact j2 c' h3 h4 hn
      · have := i1 r' c' h1 (by omega) h3 h4 hn
        omega
    · rcases j3 with e | ⟨e, c', h1, h2⟩
      · rw [e]
        rcases i2 with e2 | ⟨r', c', h1, h2, h3, h4⟩
        · exact .inl e2
        · exact .inr ⟨r', c', by omega, h2, h3, h4⟩
      · exact .inr ⟨r + 1, c', by omega, h1, h2, e⟩
theorem popc_le_n : ∀ n : Fin 7, ∀ s : Fin 64, s.val < 2 ^ n.val → popcS s.val ≤ n.val := by decide +kernel
theorem hasB_iff {l : List (List Int)} {k M1 M2 : Nat} : hasB l k M1 M2 = true ↔ ∃ r c, (r < M1 ∧ popcS r = k) ∧ (c < M2 ∧ popcS c = k) ∧ dt k (at2 (partL l r c)) ≠ 0 := by
  unfold hasB hasR
  rw [List.any_eq_true]
  constructor
  · rintro ⟨r, hr, h⟩
    obtain ⟨c, hc, h⟩ := List.any_eq_true.1 h
    exact ⟨r, c, (setsTo_mem k).1 hr, (setsTo_mem k).1 hc, by simpa using h⟩
  · rintro ⟨r, c, hr, hc, h⟩
    exact ⟨r, (setsTo_mem k).2 hr, List.any_eq_true.2 ⟨c, (setsTo_mem k).2 hc, by simpa using h⟩⟩
theorem rank_down {l : List (List Int)} {n m : Nat} (hn : n ≤ 6) (hm : m ≤ 6) :
    rkR l (2 ^ m) (2 ^ n) ≤ n ∧ rkR l (2 ^ m) (2 ^ n) ≤ m ∧ ∀ k, 1 ≤ k → (hasB l k (2 ^ n) (2 ^ m) = true → k ≤ rkR l (2 ^ m) (2 ^ n)) ∧ (hasB l k (2 ^ n) (2 ^ m) = false → rkR l (2 ^ m) (2 ^ n) ≠ k) := by
  have p1 : 2 ^ n ≤ 2 ^ 6 := Nat.pow_le_pow_right (by omega) hn
  have p2 : 2 ^ m ≤ 2 ^ 6 := Nat.pow_le_pow_right (by omega) hm
  have q1 : 1 ≤ 2 ^ n := Nat.pow_pos (by omega)
  have q2 : 1 ≤ 2 ^ m := Nat.pow_pos (by omega)
  obtain ⟨s1, s2⟩ := rkR_step l (2 ^ m) q2 (2 ^ n) q1
  have hle : rkR l (2 ^ m) (2 ^ n) ≤ n ∧ rkR l (2 ^ m) (2 ^ n) ≤ m := by
    rcases s2 with e | ⟨r, c, h1, h2, h3, h4⟩
    · omega
    · have e1 := popc_le_n ⟨n, by omega⟩ ⟨r, by omega⟩ h1
      have e2 := popc_le_n ⟨m, by omega⟩ ⟨c, by omega⟩ h2
      have := h3.1
      simp only at e1 e2
      omega
  refine ⟨hle.1, hle.2, fun k hk => ⟨fun h => ?_, fun h e => ?_⟩⟩
  · obtain ⟨r, c, ⟨r1, r2⟩, ⟨c1, c2⟩, hd⟩ := hasB_iff.1 h
    have g1 := popcS_pos ⟨r, by omega⟩ (by rw [r2]; exact hk)
    have g2 := popcS_pos ⟨c, by omega⟩ (by rw [c2]; exact hk)
    have hk6 : k ≤ 6 := by rw [← r2]; exact popcS_le r
    have := s1 r c g1 r1 g2 c1 ⟨by omega, by rw [r2, ordF_all _ hk6]; exact hd⟩
    omega
  · rcases s2 with e2 | ⟨r, c, h1, h2, h3, h4⟩
    · omega
    · have hk6 : k ≤ 6 := by rw [← e, h4]; exact popcS_le r
      have hr : popcS r = k := by omega
      have : hasB l k (2 ^ n) (2 ^ m) = true := hasB_iff.2 ⟨r, c, ⟨h1, hr⟩, ⟨h2, by rw [← h3.1]; exact hr⟩, by
        have := h3.2
        rw [hr, ordF_all _ hk6] at this
        exact this⟩
      rw [h] at this
      cases this

end Go.Proofs.Yteaabemnolacdaa
end

section
namespace Go.Proofs.Yteaabemnolacdaa
open Go.RowKit Go.Deep

theorem sumN_more (f : Nat → Int) (n : Nat) : ∀ m, (∀ j, n ≤ j → j < n + m → f j = 0) → sumN f (n + m) = sumN f n
  | 0, _ => rfl
  | m + 1, h => by
    show sumN f (n + m) + f (n + m) = _
    rw [sumN_more f n m (fun j h1 h2 => h j h1 (by omega)), h (n + m) (by omega) (by omega)]
    omega
theorem sumN_one (f : Nat → Int) (k : Nat) : ∀ n, k < n → (∀ j, j < n → j ≠ k → f j = 0) → sumN f n = f k
  | 0, h, _ => by omega
  | n + 1, h, hz => by
    unfold sumN
    by_cases e : k = n
    · subst e
      rw [sumN_none k (fun j hj => hz j (by omega) (by omega))]; omega
    · rw [sumN_one f k n (by omega) (fun j hj hk => hz j (by omega) hk), hz n (by omega) (fun h => e h.symm)]; omega
theorem sumN_mulR (c : Int) (f : Nat → Int) (n : Nat) : sumN (fun j => f j * c) n = sumN f n * c := by
  rw [sumN_congr n (g := fun j => c * f j) (fun j _ => Int.mul_comm _ _), sumN_mul, Int.mul_comm]

theorem dt_block (m : Nat) : ∀ (n : Nat) (f : Nat → Nat → Int), (∀ i j, i < n → n ≤ j → j < n + m → f i j = 0) → dt (n + m) f = dt n f * dt m (fun i j => f (n + i) (n + j))
  | 0, f, _ => by
    rw [dt_zero, Int.one_mul, Nat.zero_add]
    exact dt_congr m fun i j _ _ => by rw [Nat.zero_add, Nat.zero_add]
  | n + 1, f, h => by
    rw [show n + 1 + m = (n + m) + 1 by omega, dt_succ, show n + m + 1 = (n + 1) + m by omega, sumN_more _ (n + 1) m (fun j h1 h2 => by rw [h 0 j (by omega) h1 h2]; simp), dt_succ, ← sumN_mulR]
    refine sumN_congr _ fun k hk => ?_
    rw [dt_block m n (dr k f) (fun i j h1 h2 h3 => by
      show f (i + 1) (skip k j) = 0
      rw [skip_ge (by omega)]
      exact h _ _ (by omega) (by omega) (by omega))]
    have e : dt m (fun i j => dr k f (n + i) (n + j)) = dt m (fun i j => f (n + 1 + i) (n + 1 + j)) := dt_congr m fun i j _ _ => by
      show f (n + i + 1) (skip k (n + j)) = _
      rw [skip_ge (by omega), show n + i + 1 = n + 1 + i by omega, show n + j + 1 = n + 1 + j by omega]
    rw [e, Int.mul_assoc, Int.mul_assoc]

theorem dt_addS {n r : Nat} (f : Nat → Nat → Int) (c : Nat → Int) (s : Nat → Nat) (hr : r < n) : ∀ k, (∀ m, m < k → s m < n ∧ s m ≠ r) → dt n (setR f r (fun j => f r j + sumN (fun m => c m * f (s m) j) k)) = dt n f
  | 0, _ => by
    rw [dt_congr n (g := f) (fun i j _ _ => by
      unfold setR
      split
      · rename_i h; rw [h]; simp [sumN]
      · rfl)]
  | k + 1, h => by
    have e : ∀ i j, setR f r (fun j => f r j + sumN (fun m => c m * f (s m) j) (k + 1)) i j = setR f r (fun j => 1 * (f r j + sumN (fun m => c m * f (s m) j) k) + c k * f (s k) j) i j := fun i j => by
      unfold setR
      split
      · show f r j + (sumN (fun m => c m * f (s m) j) k + c k * f (s k) j) = 1 * (f r j + sumN (fun m => c m * f (s m) j) k) + c k * f (s k) j
        omega
      · rfl
    obtain ⟨h1, h2⟩ := h k (by omega)
    rw [dt_congr n (fun i j _ _ => e i j), dt_lin n r f 1 (c k) _ _ hr, dt_addS f c s hr k (fun m hm => h m (by omega)), dt_sameR (setR f r (fun j => f (s k) j)) (Ne.symm h2) hr h1 (fun j _ => by unfold setR; rw [if_pos rfl, if_neg h2])]
    omega

def mulF (n : Nat) (A B : Nat → Nat → Int) (i j : Nat) : Int := sumN (fun m => A i m * B m j) n
def oneF (i j : Nat) : Int := if i = j then 1 else 0
def blk (n : Nat) (A B : Nat → Nat → Int) (i j : Nat) : Int := if i < n then (if j < n then A i j else 0) else (if j < n then (if i - n = j then -1 else 0) else B (i - n) (j - n))
def blkT (n : Nat) (A B : Nat → Nat → Int) (t i j : Nat) : Int := if i < t then (if j < n then 0 else mulF n A B i (j - n)) else blk n A B i j
theorem dt_blkT (n : Nat) (A B : Nat → Nat → Int) : ∀ t, t ≤ n → dt (n + n) (blkT n A B t) = dt (n + n) (blk n A B)
  | 0, _ => dt_congr _ fun i j _ _ => by unfold blkT; rw [if_neg (by omega)]
  | t + 1, ht => by
    rw [← dt_blkT n A B t (by omega), ← dt_addS (blkT n A B t) (A t) (fun m => n + m) (show t < n + n by omega) n (fun m hm => ⟨by omega, by omega⟩)]
    refine dt_congr _ fun i j _ hj => ?_
    unfold setR
    by_cases hi : i = t
    · subst hi
      rw [if_pos rfl]
      have e1 : blkT n A B (i + 1) i j = if j < n then 0 else mulF n A B i (j - n) := if_pos (by omega)
      have e2 : blkT n A B i i j = if j < n then A i j else 0 := by unfold blkT blk; rw [if_neg (by omega), if_pos (by omega)]
      have e3 : ∀ m, blkT n A B i (n + m) j = if j < n then (if m = j then -1 else 0) else B m (j - n) := fun m => by unfold blkT blk; rw [if_neg (by omega), if_neg (by omega), Nat.add_sub_cancel_left]
      show _ = blkT n A B i i j + sumN (fun m => A i m * blkT n A B i (n + m) j) n
      rw [e1, e2]
      by_cases hjn : j < n
      · rw [if_pos hjn, if_pos hjn, sumN_one (fun m => A i m * blkT n A B i (n + m) j) j n hjn (fun m _ hmj => by rw [e3, if_pos hjn, if_neg hmj]; simp), e3, if_pos hjn, if_pos rfl]
        omega
      · rw [if_neg hjn, if_neg hjn, Int.zero_add]
        exact sumN_congr n fun m _ => by rw [e3, if_neg hjn]
    · rw [if_neg hi]
      unfold blkT
      by_cases h1 : i < t
      · rw [if_pos (by omega), if_pos h1]
      · rw [if_neg (by omega), if_neg h1]
def colT (n t j : Nat) : Nat := if j < t then n + j else if n ≤ j ∧ j < n + t then j - n else j
theorem dt_colT (n : Nat) (f : Nat → Nat → Int) : ∀ t, t ≤ n → dt (n + n) (fun i j => f i (colT n t j)) = sn t * dt (n + n) f
  | 0, _ => by
    rw [sn_zero, Int.one_mul]
    exact dt_congr _ fun i j _ _ => by
      congr 1
      unfold colT
      rw [if_neg (by omega), if_neg (by omega)]
  | t + 1, ht => by
    have h := dt_exC (fun i j => f i (colT n t j)) (show t ≠ n + t by omega) (show t < n + n by omega) (show n + t < n + n by omega)
    rw [dt_colT n f t (by omega)] at h
    rw [sn_succ]
    have e : dt (n + n) (fun i j => f i (colT n (t + 1) j)) = dt (n + n) (fun i j => f i (colT n t (ex t (n + t) j))) := dt_congr _ fun i j _ _ => by
      congr 1
      unfold colT ex
      repeat (first | split | omega)
    rw [e, h]
    grind
theorem dt_oneF : ∀ n, dt n oneF = 1
  | 0 => rfl
  | n + 1 => by
    rw [dt_corner oneF (fun i _ => if_neg (by omega)), show oneF 0 0 = 1 from rfl, Int.one_mul]
    rw [dt_congr n (g := oneF) (fun i j _ _ => by unfold oneF; by_cases h : i = j <;> simp [h])]
    exact dt_oneF n
theorem pw_neg : ∀ n, pw (-1) n = sn n
  | 0 => rfl
  | n + 1 => by rw [sn_succ, ← pw_neg n]; show -1 * pw (-1) n = _; omega
theorem dt_mul (n : Nat) (A B : Nat → Nat → Int) : dt n (mulF n A B) = dt n A * dt n B := by
  have h1 : dt (n + n) (blk n A B) = dt n A * dt n B := by
    rw [dt_block n n (blk n A B) (fun i j h1 h2 _ => by unfold blk; rw [if_pos h1, if_neg (by omega)])]
    congr 1
    · exact dt_congr n fun i j hi hj => by unfold blk; rw [if_pos hi, if_pos hj]
    · exact dt_congr n fun i j _ _ => by unfold blk; rw [if_neg (by omega), if_neg (by omega), Nat.add_sub_cancel_left, Nat.add_sub_cancel_left]
  have h2 := dt_colT n (blkT n A B n) n (Nat.le_refl _)
  rw [dt_blkT n A B n (Nat.le_refl _), h1] at h2
  have h3 : dt (n + n) (fun i j => blkT n A B n i (colT n n j)) = dt n (mulF n A B) * sn n := by
    rw [dt_block n n _ (fun i j h1 h2 h3 => by
      show blkT n A B n i (colT n n j) = 0
      have ec : colT n n j = j - n := by unfold colT; rw [if_neg (by omega), if_pos ⟨h2, h3⟩]
      rw [ec]
      unfold blkT
      rw [if_pos h1, if_pos (by omega)])]
    congr 1
    · refine dt_congr n fun i j hi hj => ?_
      show blkT n A B n i (colT n n j) = _
      have ec : colT n n j = n + j := by unfold colT; rw [if_pos hj]
      rw [ec]
      unfold blkT
      rw [if_pos hi, if_neg (by omega), Nat.add_sub_cancel_left]
    · rw [dt_congr n (g := fun i j => -1 * oneF i j) (fun i j hi hj => by
        show blkT n A B n (n + i) (colT n n (n + j)) = _
        have ec : colT n n (n + j) = j := by unfold colT; rw [if_neg (by omega), if_pos (by omega), Nat.add_sub_cancel_left]
        rw [ec]
        unfold blkT blk oneF
        rw [if_neg (show ¬ n + i < n by omega), if_neg (show ¬ n + i < n by omega), if_pos hj, Nat.add_sub_cancel_left]
        by_cases e : i = j <;> simp [e]), dt_scale (-1) n oneF, dt_oneF, pw_neg]
      omega
  rw [h3] at h2
  have h4 := sn_sq n
  have h5 : dt n (mulF n A B) * (sn n * sn n) = sn n * sn n * (dt n A * dt n B) := by grind
  rw [h4] at h5
  omega

def selN (s n i : Nat) : Nat := ((sel s n n).map (·.1)).getD i 0
theorem pickTo_at (c : Nat) (x : List Int) (m j : Nat) (hj : j < (sel c m m).length) : (pickTo c x m m).getD j 0 = x.getD (selN c m j) 0 := by
  unfold pickTo selN
  simp [List.getD, hj]
theorem partL_at (l : List (List Int)) (s c : Nat) {i j : Nat} (hi : i < (sel s l.length l.length).length) (hj : j < (sel c (l.getD 0 []).length (l.getD 0 []).length).length) :
    at2 (partL l s c) i j = at2 l (selN s l.length i) (selN c (l.getD 0 []).length j) := by
  have e1 : (partL l s c).getD i [] = pickTo c (l.getD (selN s l.length i) []) (l.getD 0 []).length (l.getD 0 []).length := by
    unfold partL partRows selN
    simp [List.getD, hi]
  unfold at2
  rw [e1, pickTo_at _ _ _ _ hj]
theorem selN_but : ∀ n : Fin 7, ∀ k : Fin 6, ∀ j : Fin 6, k.val < n.val → j.val + 1 < n.val → selN (2 ^ n.val - 1 - 2 ^ k.val) n.val j.val = skip k.val j.val := by decide +kernel
theorem sel_but_len : ∀ n : Fin 7, ∀ k : Fin 6, k.val < n.val → (sel (2 ^ n.val - 1 - 2 ^ k.val) n.val n.val).length + 1 = n.val := by decide +kernel
theorem partL_but {l : List (List Int)} {n r k i j : Nat} (hn : l.length = n) (hw : (l.getD 0 []).length = n) (h6 : n ≤ 6) (hr : r < n) (hk : k < n) (hi : i + 1 < n) (hj : j + 1 < n) :
    at2 (partL l (2 ^ n - 1 - 2 ^ r) (2 ^ n - 1 - 2 ^ k)) i j = at2 l (skip r i) (skip k j) := by
  have l1 := sel_but_len ⟨n, by omega⟩ ⟨r, by omega⟩ hr
  have l2 := sel_but_len ⟨n, by omega⟩ ⟨k, by omega⟩ hk
  simp only at l1 l2
  rw [partL_at l _ _ (by rw [hn]; omega) (by rw [hw]; omega), hn, hw]
  have e1 := selN_but ⟨n, by omega⟩ ⟨r, by omega⟩ ⟨i, by omega⟩ hr hi
  have e2 := selN_but ⟨n, by omega⟩ ⟨k, by omega⟩ ⟨j, by omega⟩ hk hj
  simp only at e1 e2
  rw [e1, e2]
theorem rowF_dt : ∀ (d : Nat) (l : List (List Int)), SqD d l → rowF d l = dt d (at2 l)
  | 0, _, _ => rfl
  | d + 1, l, h => by
    obtain ⟨hT, hw⟩ := h.2 (by omega)
    have h6 := hT.2.1
    have hn := h.1
    rw [rowF_succ, dt_succ]
    refine sumN_congr _ fun k hk => ?_
    rw [sg_sn, rowF_dt d _ (minor_sq h hk)]
    have e : dt d (at2 (minorL l (d + 1) k)) = dt d (dr k (at2 l)) := dt_congr d fun i j hi hj => by
      have := partL_but (r := 0) (k := k) (i := i) (j := j) hn hw (by omega) (by omega) hk (by omega) (by omega)
      exact this
    rw [e]

end Go.Proofs.Yteaabemnolacdaa
end

section
namespace Go.Proofs.Yteaabemnolacdaa
open Go.RowKit Go.Deep

theorem selN_lt {s n i : Nat} (h : i < (sel s n n).length) : selN s n i < n := by
  unfold selN
  have e : ((sel s n n).map (·.1)).getD i 0 = ((sel s n n)[i]).1 := by simp [List.getD, h]
  rw [e]
  exact ((sel s n n)[i]).2
theorem has_turn {l : List (List Int)} {n m k : Nat} (hT : TabIn l) (hn : l.length = n) (hmm : (l.getD 0 []).length = m) (h : hasB l k (2 ^ n) (2 ^ m) = true) : hasB (turnL l) k (2 ^ m) (2 ^ n) = true := by
  have h6 := hT.2.1
  have hw := hT.width
  have p1 : 2 ^ n ≤ 2 ^ 6 := Nat.pow_le_pow_right (by omega) (by omega)
  have p2 : 2 ^ m ≤ 2 ^ 6 := Nat.pow_le_pow_right (by omega) (by omega)
  obtain ⟨r, c, ⟨r1, r2⟩, ⟨c1, c2⟩, hd⟩ := hasB_iff.1 h
  refine hasB_iff.2 ⟨c, r, ⟨c1, c2⟩, ⟨r1, r2⟩, ?_⟩
  have e0 : ((turnL l).getD 0 []).length = n := (tabF_len _ _ _ _ (by omega)).trans hn
  have e1 : (turnL l).length = m := (turnL_length l).trans hmm
  have g1 := popcS_sel ⟨n, by omega⟩ ⟨r, by omega⟩ r1
  have g2 := popcS_sel ⟨m, by omega⟩ ⟨c, by omega⟩ c1
  simp only at g1 g2
  have e : dt k (at2 (partL (turnL l) c r)) = dt k (fun i j => at2 (partL l r c) j i) := dt_congr k fun i j hi hj => by
    rw [partL_at (turnL l) c r (by rw [e1]; omega) (by rw [e0]; omega), partL_at l r c (by rw [hn]; omega) (by rw [hmm]; omega), e0, e1, hn, hmm]
    exact tabF_at _ _ _ _ _ (by rw [hmm]; exact selN_lt (by omega)) (by rw [hn]; exact selN_lt (by omega))
  rw [e, dt_turn]
  exact hd
theorem turn_turn {l : List (List Int)} (hT : TabIn l) : TabIn (turnL l) ∧ (turnL l).length = (l.getD 0 []).length ∧ ((turnL l).getD 0 []).length = l.length :=
  ⟨tabIn_of (tabIn_turn hT), turnL_length l, tabF_len _ _ _ _ (by have := hT.width; omega)⟩
theorem turnL_back {l : List (List Int)} {n m k : Nat} (hT : TabIn l) (hn : l.length = n) (hmm : (l.getD 0 []).length = m) (h : hasB (turnL l) k (2 ^ m) (2 ^ n) = true) : hasB l k (2 ^ n) (2 ^ m) = true := by
  obtain ⟨h1, h2, h3⟩ := turn_turn hT
  have := has_turn h1 (h2.trans hmm) (h3.trans hn) h
  rw [turnL_turnL hT] at this
  exact this
theorem rank_turn {l : List (List Int)} {n m : Nat} (hT : TabIn l) (hn : l.length = n) (hmm : (l.getD 0 []).length = m) : rkR (turnL l) (2 ^ n) (2 ^ m) = rkR l (2 ^ m) (2 ^ n) := by
  have h6 := hT.2.1
  have hw := hT.width
  obtain ⟨_, _, a3⟩ := rank_down (l := l) (n := n) (m := m) (by omega) (by omega)
  obtain ⟨_, _, b3⟩ := rank_down (l := turnL l) (n := m) (m := n) (by omega) (by omega)
  have q1 : rkR l (2 ^ m) (2 ^ n) ≤ rkR (turnL l) (2 ^ n) (2 ^ m) := by
    by_cases h0 : 1 ≤ rkR l (2 ^ m) (2 ^ n)
    · cases hb : hasB l (rkR l (2 ^ m) (2 ^ n)) (2 ^ n) (2 ^ m) with
      | false => exact absurd rfl ((a3 _ h0).2 hb)
      | true => exact (b3 _ h0).1 (has_turn hT hn hmm hb)
    · omega
  have q2 : rkR (turnL l) (2 ^ n) (2 ^ m) ≤ rkR l (2 ^ m) (2 ^ n) := by
    by_cases h0 : 1 ≤ rkR (turnL l) (2 ^ n) (2 ^ m)
    · cases hb : hasB (turnL l) (rkR (turnL l) (2 ^ n) (2 ^ m)) (2 ^ m) (2 ^ n) with
      | false => exact absurd rfl ((b3 _ h0).2 hb)
      | true => exact (a3 _ h0).1 (turnL_back hT hn hmm hb)
    · omega
  omega
theorem popc_full : ∀ n : Fin 7, ∀ s : Fin 64, s.val < 2 ^ n.val → popcS s.val = n.val → s.val = 2 ^ n.val - 1 := by decide +kernel
theorem popc_all : ∀ n : Fin 7, popcS (2 ^ n.val - 1) = n.val := by decide +kernel
theorem rank_full {l : List (List Int)} {n : Nat} (h : sqB l = true) (hn : l.length = n) : rkR l (2 ^ n) (2 ^ n) = n ↔ ordF l n n 0 ≠ 0 := by
  obtain ⟨hT, hw⟩ := sqB_of h
  have h6 := hT.2.1
  have h1 := hT.1
  have p1 : 2 ^ n ≤ 2 ^ 6 := Nat.pow_le_pow_right (by omega) (by omega)
  have q1 : 1 ≤ 2 ^ n := Nat.pow_pos (by omega)
  obtain ⟨a1, _, a3⟩ := rank_down (l := l) (n := n) (m := n) (by omega) (by omega)
  obtain ⟨c1, c2⟩ := a3 n (by omega)
  have hf : partL l (2 ^ n - 1) (2 ^ n - 1) = l := by
    have := partL_full hT.rec
    rw [← hw, hn] at this
    exact this
  rw [ordF_all _ (by omega)]
  have e : hasB l n (2 ^ n) (2 ^ n) = true ↔ dt n (at2 l) ≠ 0 := by
    rw [hasB_iff]
    constructor
    · rintro ⟨r, c, ⟨r1, r2⟩, ⟨s1, s2⟩, hd⟩
      have e1 := popc_full ⟨n, by omega⟩ ⟨r, by omega⟩ r1 r2
      have e2 := popc_full ⟨n, by omega⟩ ⟨c, by omega⟩ s1 s2
      simp only at e1 e2
      rw [e1, e2, hf] at hd
      exact hd
    · intro hd
      have e3 := popc_all ⟨n, by omega⟩
      exact ⟨2 ^ n - 1, 2 ^ n - 1, ⟨by omega, e3⟩, ⟨by omega, e3⟩, by rw [hf]; exact hd⟩
  constructor
  · intro hr
    cases hb : hasB l n (2 ^ n) (2 ^ n) with
    | false => exact absurd hr (c2 hb)
    | true => exact e.1 hb
  · intro hd
    have := c1 (e.2 hd)
    omega

end Go.Proofs.Yteaabemnolacdaa
end

section
namespace Go.Proofs.Yteaabemnolacdaa
open Go.RowKit Go.Deep

set_option maxRecDepth 100000 in
set_option maxHeartbeats 2000000 in
theorem rank_any (a : Option Addr) (cap n m : Nat) (l : List (List Int)) (w : World) (hn : l.length = n) (hT : TabIn l) (hmm : (l.getD 0 []).length = m) (hm : MatR w a l) :
    Calls Try.prog 77 #[.slice a n cap] w fun e w' => e = .returned (.int .i64 (rkR l (2 ^ m) (2 ^ n) : Nat)) ∧ w.Since w.heap.size w' := by
  have h6 := hT.2.1
  have h1 := hT.1
  have hw := hT.width
  rw [hn] at h6 h1
  rw [hmm] at hw
  obtain ⟨r1, r2, r3⟩ := rank_down (l := l) h6 hw.2
  obtain ⟨b, hb⟩ : ∃ b, rkR l (2 ^ m) (2 ^ n) = b := ⟨_, rfl⟩
  rw [hb] at r1 r2 r3 ⊢
  have EW := width_any a cap n l w hn (by omega) (by omega) hm
  rw [hmm] at EW
  have EH := Lib.hid (fun (k : Nat) (W : World) (h : w.Since w.heap.size W) => hasMinor_any a cap n m k l W hn hmm hT (hm.since h))
  replace EW := Lib.hid EW
  have R3 := Lib.hid r3
  clear r3 hn hmm hm hT hb
  go_enter Try.func77, Try.ntmps77
  go_wp2_with fail
  refine (EW.out).mono ?_
  rintro e w1 ⟨rfl, rfl⟩
  go_wp2
  all_goals
    go_loopg [3] 6 (fun g v wr => ∃ c : Nat, b ≤ c ∧ c ≤ 6 ∧ c ≤ g ∧ v = .int .i64 c ∧ w.Since w.heap.size wr)
    case atStart => first | exact ⟨n, r1, h6, h6, rfl, World.Since.refl _ _⟩ | exact ⟨m, r2, hw.2, hw.2, rfl, World.Since.refl _ _⟩
    case round =>
      obtain ⟨c, hbc, hc6, hcg, rfl, hS⟩ := hrel
      by_cases hc0 : c = 0
      · have hb0 : b = 0 := by omega
        subst hc0 hb0
        have HS := Lib.hid hS
        clear hS
        go_wp2
        go_ret
        exact ⟨rfl, HS.out⟩
      · have hc1 : decide ((0 : Int) < (c : Int)) = true := by simp; omega
        have E := EH.out c wr hS
        obtain ⟨q1, q2⟩ := R3.out c (by omega)
        obtain ⟨h, hh⟩ : ∃ h, hasB l c (2 ^ n) (2 ^ m) = h := ⟨_, rfl⟩
        rw [hh] at E q1 q2
        replace E := Lib.hid E
        have HS := Lib.hid hS
        clear hS hh
        go_wp2_with fail
        refine (E.out).mono ?_
        rintro e w2 ⟨rfl, hs2⟩
        have HS2 := Lib.hid (HS.out.trans (since_mono hs2 HS.out.size))
        clear hs2
        cases h with
        | true =>
          have hcb : c = b := by have := q1 rfl; omega
          subst hcb
          go_wp2
          go_ret
          exact ⟨rfl, HS2.out⟩
        | false =>
          have hcb := q2 rfl
          go_wp2
          go_roundg (gk - 1)
          case measure => omega
          case rel => exact ⟨c - 1, by omega, by omega, by omega, by go_num, HS2.out⟩

set_option maxHeartbeats 1000000 in
theorem implValueRank_any (a : Option Addr) (cap n : Nat) (l : List (List Int)) (w : World) (hn : l.length = n) (hsz : szL l ≤ 1048576) (hm : MatR w a l) :
    Calls Try.prog 25 #[.slice a n cap] w (SpecW w (tabIn l) (rkR l (2 ^ (l.getD 0 []).length) (2 ^ n) : Nat)) := by
  have E := implTableIn_any a cap n l w hn hsz hm
  cases hT : tabIn l with
  | false =>
    rw [hT] at E
    replace E := Lib.hid E
    clear hT hm hn hsz
    go_enter Try.func25, Try.ntmps25
    go_wp2_with fail
    refine (E.out).mono ?_
    rintro e w1 ⟨rfl, hd⟩
    have HD := Lib.hid hd
    clear hd
    go_wp2
    go_ret2
    exact ⟨rfl, HD.out⟩
  | true =>
    rw [hT] at E
    replace E := Lib.hid E
    have E2 := Lib.hid (fun (W : World) (hd : w.Since w.heap.size W) => rank_any a cap n _ l W hn (tabIn_of hT) rfl (hm.since hd))
    clear hT hm hn hsz
    go_enter Try.func25, Try.ntmps25
    go_wp2_with fail
    refine (E.out).mono ?_
    rintro e w1 ⟨rfl, hd⟩
    have HD := Lib.hid hd
    clear hd
    go_wp2_with fail
    refine (E2.out w1 HD.out).mono ?_
    rintro e w2 ⟨rfl, hs2⟩
    have HS2 := Lib.hid (HD.out.trans (since_mono hs2 HD.out.size))
    clear hs2
    go_wp2
    go_ret2
    exact ⟨rfl, HS2.out⟩

end Go.Proofs.Yteaabemnolacdaa
end

section
namespace Go.Proofs.Yteaabemnolacdaa
open Go.RowKit Go.Deep

def ColsAt (w : World) (g n : Nat) (cs : List Nat) : Prop := w.ownsRow 0 3 1 (.slice (some ⟨g, 0, none⟩) cs.length n) cs.length ((ints cs).map (Value.int .i64))
theorem ColsAt.init {w : World} {g n : Nat} {cs : List Nat} {k : Nat} (h : ColsAt w g n (cs ++ [k])) : ColsAt w g n cs := by
  unfold ColsAt at h ⊢
  rw [show (cs ++ [k]).length = cs.length + 1 by simp] at h
  refine ⟨by simp [ints], ?_⟩
  rcases h.2 with ⟨h', _⟩ | ⟨g', cap', cur, h', hb, hg, hle, hm, hs, ht⟩
  · simp at h'
  · simp only [Value.slice.injEq, Option.some.injEq, Addr.mk.injEq, and_true, true_and] at h'
    obtain ⟨rfl, rfl⟩ := h'
    refine .inr ⟨g, n, cur, rfl, hb, hg, by omega, hm, hs, ?_⟩
    have e := congrArg (List.take cs.length) ht
    rw [List.take_take, Nat.min_eq_left (by omega)] at e
    rw [Nat.mul_one, e]
    simp [ints]
theorem ColsAt.row {w : World} {g n : Nat} {cs : List Nat} (h : ColsAt w g n cs) : RowR w (some ⟨g, 0, none⟩) (ints cs) := fun _ =>
  ⟨g, 0, rfl, fun i hi => by
    have e := World.ownsRow.cellAt h i (by rw [ints_length] at hi; omega)
    rw [Nat.zero_add, e, List.getElem?_map]
    simp [List.getD, hi]⟩
theorem ColsAt.kept {w w' : World} {g n : Nat} {cs : List Nat} (h : ColsAt w g n cs) (hs : w.Since w.heap.size w') : ColsAt w' g n cs := World.ownsRow.kept h (grown_of_since (row := none) hs) (by simp [Value.ownBlock])
theorem ints_snoc (cs : List Nat) (k : Nat) : (ints (cs ++ [k])).map (Value.int .i64) = (ints cs).map (Value.int .i64) ++ [.int .i64 (k : Int)] := by simp [ints]

set_option maxRecDepth 100000 in
set_option maxHeartbeats 4000000 in
theorem sumOfOrders_any (a : Option Addr) (cap n : Nat) (l : List (List Int)) (g : Nat) (hn : l.length = n) (hT : TabIn l) (hw : (l.getD 0 []).length = n) : ∀ (m : Nat) (cs : List Nat) (W : World), cs.length + m = n → (∀ c ∈ cs, c < n) → ColsAt W g n cs → (∀ W', W.grownBy W' (some g) → MatR W' a l) →
    Calls Try.prog 144 #[.slice a n cap, .slice (some ⟨g, 0, none⟩) cs.length n] W fun e w' => e = .returned (.int .i64 (ordS l n m cs)) ∧ W.grownBy w' (some g) ∧ ColsAt w' g n cs := by
  have h6 := hT.2.1
  rw [hn] at h6
  intro m
  induction m with
  | zero =>
    intro cs W hl hc hcols hmat
    have hx : cs.length = n := by omega
    have E := orderedProduct_any a cap n l g n cs W hn hT hw (hmat W (World.grownBy.refl _ _)) hx hc (Nat.le_refl _) (by omega) hcols.row
    rw [hx]
    replace E := Lib.hid E
    have HC := Lib.hid hcols
    clear hmat hcols hl hc hx
    go_enter Try.func144, Try.ntmps144
    go_wp2_with fail
    refine (E.out).mono ?_
    rintro e w1 ⟨rfl, hs⟩
    have HK := HC.out.kept hs
    go_wp2
    go_ret
    exact ⟨rfl, grown_of_since hs, HK⟩
  | succ m ih =>
    intro cs W hl hc hcols hmat
    obtain ⟨i3, hi3⟩ := info3_parts
    have HJ := Lib.hid hi3
    have hbd := fun q (hq : q ≤ n) => ordP_bd (l := l) (n := n) (m := m) (cs := cs) h6 (fun i j hi hj => hT.at (by omega) (by omega)) hl hc hq
    have hb6 := b6_le (m + 1) (by omega)
    have hb6' : b6 (m + 1) = 6 * b6 m := rfl
    rw [ordS_succ]
    obtain ⟨F, hF⟩ : ∃ F : Nat → Int, F = fun k => if k ∈ cs then 0 else ordS l n m (cs ++ [k]) := ⟨_, rfl⟩
    simp only [← hF] at hbd ⊢
    have hd : cs.length < n := by omega
    have hne : ((cs.length : Int) == (n : Int)) = false := by simp; omega
    have HIH := Lib.hid (fun (k : Nat) (hk : k < n) (V : World) (h1 : ColsAt V g n (cs ++ [k])) (h2 : ∀ W', V.grownBy W' (some g) → MatR W' a l) => ih (cs ++ [k]) V (by simp; omega) (fun c h => by
      rcases List.mem_append.1 h with h | h
      · exact hc c h
      · simp at h; omega) h1 h2)
    have HIN := Lib.hid (fun (k : Nat) (V : World) (h1 : ColsAt V g n cs) => contains_any (some ⟨g, 0, none⟩) n cs.length (ints cs) k V (ints_length cs) (by omega) h1.row)
    have HM := Lib.hid hmat
    have HC := Lib.hid hcols
    have HF := Lib.hid hF
    have HB := Lib.hid hbd
    have HMEM : ∀ k : Nat, ((k : Int) ∈ ints cs) ↔ k ∈ cs := fun k => by
      simp only [ints, List.mem_map]
      constructor
      · rintro ⟨c, h1, h2⟩
        have : c = k := by omega
        exact this ▸ h1
      · exact fun h => ⟨k, h, rfl⟩
    have HME := Lib.hid HMEM
    obtain ⟨d, hdd⟩ : ∃ d, d = cs.length := ⟨_, rfl⟩
    have HD := Lib.hid hdd
    rw [← hdd] at hd hne ⊢
    simp only [← hdd] at HIN
    clear ih hmat hcols hF hbd hc hi3 HMEM hdd hT hw hn
    go_enter Try.func144, Try.ntmps144
    go_wp2
    go_loopg [5, 6, 17] n (fun q s _ i wr => ∃ k : Nat, k ≤ n ∧ q = n - k ∧ i = .int .i64 k ∧ s = .int .i64 (sumN F k) ∧ W.grownBy wr (some g) ∧ ColsAt wr g n cs)
    case atStart => exact ⟨0, Nat.zero_le _, rfl, rfl, rfl, World.grownBy.refl _ _, HC.out⟩
    case round =>
      obtain ⟨k, hk, rfl, rfl, rfl, hG, hCo⟩ := hrel
      obtain ⟨s0, hs0⟩ : ∃ s, s = sumN F k := ⟨_, rfl⟩
      have e : sumN F (k + 1) = s0 + F k := by rw [hs0]; rfl
      rw [← hs0]
      by_cases hlt : k < n
      · have hsb := HB.out (k + 1) (by omega)
        rw [e] at hsb
        have E1 := HIN.out k wr hCo
        have HE := Lib.hid e
        have HG := Lib.hid hG
        have HCo := Lib.hid hCo
        clear e hs0 hG
        by_cases hmem : k ∈ cs
        · rw [decide_eq_true ((HME.out k).2 hmem)] at E1
          replace E1 := Lib.hid E1
          have hF0 : F k = 0 := by rw [HF.out]; exact if_pos hmem
          clear hCo
          go_wp2_with fail
          refine (E1.out).mono ?_
          rintro e w' ⟨rfl, rfl⟩
          go_wp2
          go_roundg (n - (k + 1))
          case measure => omega
          case rel => exact ⟨k + 1, by omega, rfl, by go_num, by rw [HE.out, hF0]; simp, HG.out, HCo.out⟩
        · rw [decide_eq_false (fun h => hmem ((HME.out k).1 h))] at E1
          replace E1 := Lib.hid E1
          obtain ⟨f2, hf2⟩ : ∃ f, f = F k := ⟨_, rfl⟩
          rw [← hf2] at hsb
          have hF0 : f2 = ordS l n m (cs ++ [k]) := by rw [hf2, HF.out]; exact if_neg hmem
          have hws : IntKind.i64.wrap (s0 + f2) = s0 + f2 := IntWalk.i64_in _ ⟨by omega, by omega⟩
          have HH := Lib.hid hf2
          have EI := fun (V : World) (h1 : ColsAt V g n (cs ++ [k])) (h2 : V.heap.size ≥ 0 ∧ W.grownBy V (some g)) => HIH.out k hlt V h1 (fun W' hW' => HM.out W' (h2.2.trans hW'))
          rw [show (cs ++ [k]).length = d + 1 by rw [HD.out]; simp, ← hF0] at EI
          replace EI := Lib.hid EI
          have hown : wr.ownsRow 0 3 1 (.slice (some ⟨g, 0, none⟩) d n) d ((ints cs).map (Value.int .i64)) := by rw [HD.out]; exact hCo
          have HOWN := Lib.hid hown
          clear hf2 hsb hF0 hCo hown
          go_wp2_with (first
            | (go_at_call 153; refine (E1.out).mono ?_; rintro e w' ⟨rfl, rfl⟩)
            | (at_builtin; (refine wpList_append_fits _ rfl _ _ 36 rfl 0 3 i3 1 Try.underlying36 HJ.out.1 HJ.out.2.2.1 g d n ((ints cs).map (Value.int .i64)) rfl (HOWN.out.alloc _) ⟨wr.heap.size, 0, none⟩ 1 1 [.int .i64 k] rfl rfl (cell_one_at _ _ _ rfl) (fun x hx => by simp at hx; subst hx; rfl) (by omega) ?_); intro w1 hown' hgrow; have hc1 : ColsAt w1 g n (cs ++ [k]) := (by unfold ColsAt; rw [ints_snoc, show (cs ++ [k]).length = d + 1 by rw [HD.out]; simp]; exact hown'); have hg1 : W.grownBy w1 (some g) := HG.out.trans ((World.grownBy_alloc wr _ _).trans hgrow); clear hown' hgrow; have HC1 := Lib.hid hc1; have HG1 := Lib.hid hg1; clear hc1 hg1)
            | (go_at_call 144; refine (EI.out w1 HC1.out ⟨Nat.zero_le _, HG1.out⟩).mono ?_; rintro e w2 ⟨rfl, hg2, hc2⟩; have HG2 := Lib.hid (HG1.out.trans hg2); have HC2 := Lib.hid hc2.init; clear hg2 hc2))
          go_roundg (n - (k + 1))
          case measure => omega
          case rel => exact ⟨k + 1, by omega, rfl, by go_num, by rw [HE.out, ← HH.out], HG2.out, HC2.out⟩
      · have hqn : n = k := by omega
        subst hqn
        go_wp2
        go_ret
        exact ⟨by rw [hs0]; rfl, hG, hCo⟩

theorem since_fresh {W w1 w2 : World} (h : W.grownBy w1 none) (h2 : w1.grownBy w2 (some W.heap.size)) : W.Since W.heap.size w2 :=
  ⟨h2.os.trans h.os, h2.tape.trans h.tape, h2.output.trans h.output, Nat.le_trans h.size h2.size, fun k hk => (h2.block k (by have := h.size; omega) (by intro e; injection e with e; omega)).trans (h.block k hk (by simp))⟩

set_option maxRecDepth 100000 in
set_option maxHeartbeats 1000000 in
theorem byOrders_any (a : Option Addr) (cap n : Nat) (l : List (List Int)) (w : World) (hn : l.length = n) (hT : TabIn l) (hw : (l.getD 0 []).length = n) (hm : MatR w a l) :
    Calls Try.prog 136 #[.slice a n cap] w fun e w' => e = .returned (.int .i64 (ordF l n n 0)) ∧ w.Since w.heap.size w' := by
  have h6 := hT.2.1
  rw [hn] at h6
  obtain ⟨i3, hi3⟩ := info3_parts
  have HJ := Lib.hid hi3
  have E := fun (V : World) (hc : ColsAt V w.heap.size n []) (hg : w.grownBy V none) => sumOfOrders_any a cap n l w.heap.size hn hT hw n [] V (by simp) (by simp) hc (fun W' hW' => hm.since (since_fresh hg hW'))
  rw [ordS_all l n h6] at E
  replace E := Lib.hid E
  clear hi3 hn hT hw hm
  go_enter Try.func136, Try.ntmps136
  go_wp2_with (first
    | (at_make; (refine wpList_make_own _ rfl _ _ 36 rfl 0 3 i3 (.int .i64 0) 1 Try.underlying36 HJ.out.1 HJ.out.2.1 HJ.out.2.2.1 .i64 .i64 n n rfl rfl rfl (by rw [HJ.out.2.2.2]; omega) (by unfold maxLen; omega) (Nat.zero_le _) ?_); intro w1 hown hgrow; have HO := Lib.hid (show ColsAt w1 w.heap.size n [] from hown); have HG := Lib.hid hgrow; clear hown hgrow)
    | (go_at_call 144; refine (E.out w1 HO.out HG.out).mono ?_; rintro e w2 ⟨rfl, hg2, hc2⟩; have HS := Lib.hid (since_fresh HG.out hg2); clear hg2 hc2))
  go_ret
  exact ⟨rfl, HS.out⟩

theorem implValueOrders_any (a : Option Addr) (cap n : Nat) (l : List (List Int)) (w : World) (hn : l.length = n) (hsz : szL l ≤ 1048576) (hm : MatR w a l) :
    Calls Try.prog 21 #[.slice a n cap] w (SpecW w (sqB l) (ordF l n n 0)) :=
  implValueOrders_of a cap n l (ordF l n n 0) w hn hsz hm fun hs W' hm' => by
    obtain ⟨hT, hw⟩ := sqB_of hs
    exact byOrders_any a cap n l W' hn hT (by rw [← hw, hn]) hm'

end Go.Proofs.Yteaabemnolacdaa
end

section
namespace Go.Proofs.Yteaabemnolacdaa
open Go.RowKit Go.Deep

set_option maxRecDepth 100000 in
set_option maxHeartbeats 4000000 in
theorem fnRank (a : Option Addr) (cap n : Nat) (w : World) (hc : n ≤ cap) (h63 : cap ≤ 9223372036854775807) (hb : BytR w a n) :
    Calls Try.prog 9 #[.slice a n cap] w fun e w' => e = .returned (.bool true) ∧ w.Since w.heap.size w' := by
  by_cases hlen : 1048576 < n
  · have hl' : decide ((1048576 : Int) < (n : Int)) = true := by simp; omega
    clear hb
    go_enter Try.func9, Try.ntmps9
    go_wp2
    go_ret
    exact ⟨rfl, World.Since.refl _ _⟩
  · have hl' : decide ((1048576 : Int) < (n : Int)) = false := by simp; omega
    have ED := Lib.hid (drawValueRank_any a n cap w hc h63 hb)
    clear hb
    go_enter Try.func9, Try.ntmps9
    go_wp2_with fail
    refine (ED.out).mono ?_
    rintro e w1 ⟨a1, c1, l, rfl, hs1, h1, h5, hlens, hit⟩
    have hsz : szL l ≤ 1048576 := szL_of h5 (fun j hj => (hlens j hj).2) (by decide)
    obtain ⟨nn, hn⟩ : ∃ nn, l.length = nn := ⟨_, rfl⟩
    rw [hn]
    have HN := Lib.hid hn
    have HSZ := Lib.hid hsz
    have HM := Lib.hid (fun (W : World) (h : w1.Since w1.heap.size W) => hit.matR.since h)
    have HS1 := Lib.hid hs1
    obtain ⟨ok, hok⟩ : ∃ ok, tabIn l = ok := ⟨_, rfl⟩
    obtain ⟨v, hv⟩ : ∃ v, (if ok = true then ((rkR l (2 ^ (l.getD 0 []).length) (2 ^ nn) : Nat) : Int) else 0) = v := ⟨_, rfl⟩
    have E1 := implValueRank_any a1 c1 nn l w1 hn hsz hit.matR
    have E2 := fun (W : World) (h : w1.Since w1.heap.size W) => specValueRank_any a1 c1 nn l W hn hsz (hit.matR.since h)
    unfold SpecW at E1
    unfold SpecW at E2
    rw [hok, hv] at E1
    simp only [hok, hv] at E2
    replace E1 := Lib.hid E1
    replace E2 := Lib.hid E2
    have HOK := Lib.hid hok
    have HV := Lib.hid hv
    clear hn hsz hit hs1 h1 h5 hlens hok hv
    go_wp2_with fail
    refine (E1.out).mono ?_
    rintro e w2 ⟨rfl, hs2⟩
    have HS2 := Lib.hid hs2
    clear hs2
    go_wp2_with fail
    refine (E2.out w2 HS2.out).mono ?_
    rintro e w3 ⟨rfl, hd3⟩
    have HS3 := Lib.hid (HS2.out.trans (since_mono (hd3) HS2.out.size))
    clear hd3
    cases ok with
    | false =>
      go_wp2
      go_ret
      exact ⟨rfl, HS1.out.trans (since_mono HS3.out HS1.out.size)⟩
    | true =>
      have hv := HV.out
      rw [if_pos rfl] at hv
      have hT := tabIn_of HOK.out
      obtain ⟨t1, t2, t3⟩ := turn_turn hT
      obtain ⟨m, hmm⟩ : ∃ m, (l.getD 0 []).length = m := ⟨_, rfl⟩
      rw [hmm] at hv t2
      rw [HN.out] at t3
      have h1 := hT.1
      have h6 := hT.2.1
      have hw := hT.width
      rw [HN.out] at h1 h6
      rw [hmm] at hw
      have hrt := rank_turn hT HN.out hmm
      obtain ⟨g1, g2, _⟩ := rank_down (l := l) h6 hw.2
      have E5 := across_any a1 c1 nn l w3 HN.out hT (HM.out w3 HS3.out)
      have E6 := fun (a' : Option Addr) (c' : Nat) (W : World) (h : MatR W a' (turnL l)) => implValueRank_any a' c' m (turnL l) W t2 (szL_turn hT) h
      have E7 := fun (W : World) (h : w1.Since w1.heap.size W) => implValueOrders_any a1 c1 nn l W HN.out HSZ.out (HM.out W h)
      unfold SpecW at E6 E7
      rw [hmm] at E5
      simp only [tabIn_true t1, if_true, t3, hrt] at E6
      have hfull : sqB l = true → m = nn ∧ (rkR l (2 ^ m) (2 ^ nn) = nn ↔ ordF l nn nn 0 ≠ 0) := fun h => by
        have e : m = nn := by
          have h2 := (sqB_of h).2
          have h3 := HN.out
          omega
        exact ⟨e, by rw [e]; exact rank_full h HN.out⟩
      obtain ⟨b, hb⟩ : ∃ b, rkR l (2 ^ m) (2 ^ nn) = b := ⟨_, rfl⟩
      rw [hb] at hv g1 g2 hfull
      simp only [hb] at E6
      subst hv
      obtain ⟨x, hx⟩ : ∃ x, ordF l nn nn 0 = x := ⟨_, rfl⟩
      rw [hx] at hfull
      simp only [hx] at E7
      obtain ⟨sq, hsq⟩ : ∃ s, sqB l = s := ⟨_, rfl⟩
      rw [hsq] at hfull
      simp only [hsq] at E7
      have gi1 : decide ((b : Int) ≤ (nn : Int)) = true := by simp; omega
      have gi2 : decide ((b : Int) ≤ (m : Int)) = true := by simp; omega
      obtain ⟨bt, ot, At, Ct, hat, hlen1, _⟩ := (HM.out w1 (World.Since.refl _ _)).grid HN.out hT hmm
      have hc0 := hlen1 0 (by omega)
      rw [Nat.add_zero] at hc0
      subst hat
      replace E5 := Lib.hid E5
      replace E6 := Lib.hid E6
      replace E7 := Lib.hid E7
      have HC0 := Lib.hid (fun (W : World) (h : w1.Since w1.heap.size W) => (h.cell (a := ⟨bt, ot, none⟩) (World.block_lt_of_cell? _ _ hc0)).trans hc0)
      clear hT t1 t2 t3 hrt hb hx hsq hlen1 hc0 hmm
      go_wp2_with fail
      refine (E5.out).mono ?_
      rintro e w5 ⟨a5, c5, rfl, hs5, ho5⟩
      have HS5 := Lib.hid (HS3.out.trans (since_mono hs5 HS3.out.size))
      have HX5 := Lib.hid ho5.matR
      clear hs5 ho5
      go_wp2_with fail
      refine (E6.out a5 c5 w5 HX5.out).mono ?_
      rintro e w6 ⟨rfl, hs6⟩
      have HS6 := Lib.hid (HS5.out.trans (since_mono hs6 HS5.out.size))
      clear hs6
      go_wp2_with fail
      refine (E7.out w6 HS6.out).mono ?_
      rintro e w7 ⟨rfl, hs7⟩
      have HS7 := Lib.hid (HS6.out.trans (since_mono hs7 HS6.out.size))
      have hc7 := HC0.out w7 HS7.out
      clear hs7
      cases sq with
      | false =>
        clear hfull
        go_wp2
        all_goals first
          | (go_ret; exact ⟨rfl, HS1.out.trans (since_mono HS7.out HS1.out.size)⟩)
          | (exfalso; omega)

      | true =>
        obtain ⟨rfl, hiff⟩ := hfull rfl
        by_cases hx0 : x = 0
        · have hbn : ¬ b = m := fun h => (hiff.1 h) hx0
          have e1 : ((b : Int) == (m : Int)) = false := by simp; omega
          subst hx0
          clear hiff
          go_wp2
          all_goals first
            | (go_ret; exact ⟨rfl, HS1.out.trans (since_mono HS7.out HS1.out.size)⟩)
            | (exfalso; omega)

        · have hbn : b = m := hiff.2 hx0
          have e2 : (x == 0) = false := by simpa using hx0
          have e3 : (x != 0) = true := by simpa using hx0
          subst hbn
          clear hiff
          go_wp2
          all_goals first
            | (go_ret; exact ⟨rfl, HS1.out.trans (since_mono HS7.out HS1.out.size)⟩)
            | (exfalso; omega)

end Go.Proofs.Yteaabemnolacdaa
end

section
namespace Go.Proofs.Yteaabemnolacdaa
open Go.ChangeShapes Go.WideShapes Go.ChangeAt Go.RowKit Go.Deep

theorem below_since' {B : Nat} {w w' : World} (h : Below B w w') : w.Since B w' := ⟨h.os, h.tape, h.output, h.size, h.block⟩
theorem since_below' {B : Nat} {w w' : World} (h : w.Since B w') : Below B w w' := ⟨h.os, h.tape, h.output, h.size, h.block⟩

section
variable {H : Type} {enc : TypeId × Value → H} {P : Program}
theorem post_of_below {f : Func} {s : ChangeSpec} {apart fresh handsOn again : Bool} {W W' : World} {args : Array Value} {v : Value} {ds gs : List (DataW H)} {before pa pv : List MemPlace}
    (hW : DataW.Whole enc P f.params.toList s.vars apart W args.toList ds gs before)
    (hres : ∀ (b : Nat) (sp : Nat → Bool) (hd : Bool), DataW.TrodAll enc P W' b sp hd f.resultTypes.toList (v.resultList f.resultTypes.size) (s.fn H (ds ++ gs)).results [])
    (hargs : ∀ sp : Nat → Bool, (∀ p ∈ before, sp p.block = true) → DataW.TrodAll enc P W' 0 sp true f.params.toList args.toList (s.fn H (ds ++ gs)).args pa)
    (hvars : ∀ sp : Nat → Bool, (∀ p ∈ before, sp p.block = true) → DataW.TrodVars enc P W' sp s.vars (s.fn H (ds ++ gs)).vars pv)
    (hps : before = pa ++ pv) (hb : Below W.heap.size W W') (hag : again = false) :
    s.post enc P f apart fresh handsOn again W args v W' := by
  have hlt : ∀ p ∈ before, p.block < W.heap.size := fun p hp => hW.lt p hp
  have hold : ∀ p ∈ before, (fun b => decide (b < W.heap.size)) p.block = true := fun p hp => by simpa using hlt p hp
  refine ⟨ds, gs, before, [], pa, pv, hW, hres _ _ _, hargs _ hold, hvars _ hold, World.keptBut_mono (fun p hp => ⟨hp, ?_⟩) (hb.frame (· ∈ before)), fun h => ?_⟩
  · rw [hps, List.mem_append] at hp
    exact Or.inr hp
  · rw [hag] at h; cases h

theorem open_mat {W : World} {t e q : TypeId} {a : Option Addr} {n cap : Nat} {d : DataW H} {p : List MemPlace} (ht : P.underlying t = some (.slice e)) (he : P.underlying e = some (.slice q)) (hq : P.underlying q = some (.int .i64))
    (ce : P.cellsOf e = 1) (cq : P.cellsOf q = 1) (h : DataW.Trod enc P W 0 (fun _ => true) true t (.slice a n cap) d p) :
    ∃ l : List (List Int), l.length = n ∧ MatR W a l ∧ n ≤ 9223372036854775807 ∧ ∀ r, r < l.length → (l.getD r []).length ≤ 9223372036854775807 := by
  obtain ⟨fuel, hf⟩ := h
  rcases open_int_rows ht he hq ce cq hf with ⟨hcs, _⟩ | ⟨a', len', cap', A, L, C, Z, hcs, _, hl, hm, _, hrows⟩
  · simp [Value.cells] at hcs
    obtain ⟨rfl, rfl, rfl⟩ := hcs
    exact ⟨[], rfl, (fun h => by simp at h), by omega, fun r hr => by simp at hr⟩
  · simp [Value.cells] at hcs
    obtain ⟨rfl, rfl, rfl⟩ := hcs
    have hmx : maxLen = 9223372036854775807 := rfl
    have hlen : ∀ r, r < n → ((Z r).take (L r)).length = L r := fun r hr => by
      obtain ⟨_, h1, _, h2, _⟩ := hrows r (by omega)
      rw [List.length_take]; omega
    have hget : ∀ r, r < n → ((List.range n).map fun r => (Z r).take (L r)).getD r [] = (Z r).take (L r) := fun r hr => by simp [List.getD, hr]
    refine ⟨(List.range n).map fun r => (Z r).take (L r), by simp, fun h => ?_, by omega, fun r hr => ?_⟩
    · obtain ⟨b, o, spot⟩ := a'
      simp at h
      have hspot : spot = none := by simpa [Addr.add] using World.cell?_spot (hrows 0 (by omega)).1
      subst hspot
      refine ⟨b, o, A, C, rfl, fun r hr => ?_⟩
      simp at hr
      rw [hget r hr, hlen r hr]
      obtain ⟨g1, g2, g3, g4, g5, g6, g7⟩ := hrows r (by omega)
      refine ⟨by rw [← add_plain]; exact g1, fun h0 => ?_⟩
      rw [hlen r hr] at h0
      cases hA : A r with
      | none => have := g6 hA; omega
      | some a'' =>
        obtain ⟨_, hcell⟩ := g7 a'' hA
        obtain ⟨b', o', sp⟩ := a''
        have hs : sp = none := by simpa [Addr.add] using World.cell?_spot (hcell 0 (by omega))
        subst hs
        refine ⟨b', o', rfl, fun i hi => ?_⟩
        rw [hlen r hr] at hi
        rw [← add_plain, hcell i (by omega)]
        congr 2
        simp [List.getD, hi]
    · simp at hr
      rw [hget r hr, hlen r hr]
      obtain ⟨_, h1, h2, _⟩ := hrows r (by omega)
      omega
end

theorem Try.own : ownKnob Try.prog.godebug = none := by kernel_rfl
theorem Try.laidOut : laidOutB Try.prog = true := by kernel_rfl
theorem Try.cellsR : Try.prog.cellsOf 36 = 1 := by kernel_rfl
theorem Try.cellsI : Try.prog.cellsOf 3 = 1 := by kernel_rfl

end Go.Proofs.Yteaabemnolacdaa
end

section
namespace Go.Proofs.Yteaabemnolacdaa
open Go.ChangeShapes Go.WideShapes Go.ChangeAt Go.RowKit Go.Deep

theorem wf_u8_of {n : Int} (h : (Lit.int .u8 n).wf = true) : 0 ≤ n ∧ n ≤ 255 := by
  have h2 : (0 : Int) ≤ n ∧ n ≤ 255 := by simpa [Lit.wf, IntKind.min, IntKind.max, IntKind.signed, IntKind.bits] using h
  exact h2

theorem open_bytes {H : Type} {enc : TypeId × Value → H} {P : Program} {W : World} {t e : TypeId} {a : Option Addr} {n cap : Nat} {d : DataW H} {p : List MemPlace} (ht : P.underlying t = some (.slice e)) (he : P.underlying e = some (.int .u8)) (ce : P.cellsOf e = 1)
    (h : DataW.Trod enc P W 0 (fun _ => true) true t (.slice a n cap) d p) : BytR W a n ∧ n ≤ cap ∧ cap ≤ 9223372036854775807 := by
  obtain ⟨fuel, hf⟩ := h
  rcases open_ints ht he ce hf with ⟨hcs, _⟩ | ⟨a', len, cap', zs, hcs, _, hl, hm, hlen, _, hcell, hwf⟩
  · simp [Value.cells] at hcs
    obtain ⟨rfl, rfl, rfl⟩ := hcs
    exact ⟨fun h => absurd h (by omega), by omega, by omega⟩
  · simp [Value.cells] at hcs
    obtain ⟨rfl, rfl, rfl⟩ := hcs
    have hmx : maxLen = 9223372036854775807 := rfl
    have hzl : zs.length = cap := by simpa using hlen
    refine ⟨fun h0 => ?_, by omega, by omega⟩
    obtain ⟨b, o, spot⟩ := a'
    have hspot : spot = none := by simpa [Addr.add] using World.cell?_spot (hcell 0 (by omega))
    subst hspot
    refine ⟨b, o, rfl, fun i hi => ?_⟩
    have hi' : i < zs.length := by omega
    have hw := wf_u8_of (hwf (zs.getD i 0) (by simp [List.getD, hi']))
    obtain ⟨z, hz⟩ := Int.eq_ofNat_of_zero_le hw.1
    refine ⟨z, by omega, ?_⟩
    rw [← add_plain, hcell i hi', hz]

theorem Try.cellsB : Try.prog.cellsOf 5 = 1 := by kernel_rfl

end Go.Proofs.Yteaabemnolacdaa
end

section
namespace Go.Proofs.Yteaabemnolacdaa
open Go.ChangeShapes Go.WideShapes Go.ChangeAt Go.RowKit Go.Deep

set_option maxRecDepth 100000 in
theorem lifted_FnRank (os : Os) (started : os.Started) (H : Type) (enc : TypeId × Value → H) :
    ReturnsInHanded {} Try.checked os 9 .any (Rows.fnRankSpec.pre6 enc Try.prog Try.f9 Rows.fnRankRow.domain false) (Rows.fnRankSpec.post enc Try.prog Try.f9 false true false false) := by
  refine returnsInHanded_of_change (C := Try.checked) Try.own started (by kernel_rfl) Try.func9
    (ChangeSpec.witness6 (enc := enc) (C := Try.checked) false ⟨#[], #[.slice none 0 0], []⟩ 8 (by kernel_rfl) (by kernel_rfl) (by kernel_rfl) (by kernel_rfl)) ?_
  intro W base args ds gs before hval0 hW _ _
  have hval : ∀ (j : Nat) t v, Try.f9.params[j]? = some t → args[j]? = some v → Value.okWide Try.prog W .any base t v := hval0
  have hW' := hW
  obtain ⟨p, q, hA0, hV, rfl, hfz, hnd⟩ := hW
  have hA : DataW.TrodAll enc Try.prog W 0 (fun _ => true) true Try.f9.params.toList args.toList ds p := hA0
  rw [Try.params9] at hA hval
  obtain ⟨v0, d0, rfl, rfl, h0⟩ := trodAll_one hA
  obtain ⟨p0, hp0⟩ : ∃ p0, p0 = p := ⟨_, rfl⟩
  subst hp0
  obtain ⟨rfl, rfl⟩ := trodVars_none hV
  obtain ⟨a0, n0, cap0, rfl⟩ := okWide_slice Try.underlying22 (hval 0 22 v0 rfl rfl)
  obtain ⟨hb0, hc0, h630⟩ := open_bytes Try.underlying22 Try.underlying5 Try.cellsB h0
  clear hA0 hval0
  simp only [List.append_nil] at hW'
  have hlt0 : ∀ x ∈ p0, x.block < W.heap.size := fun x hx => hW'.lt x (by simp [hx])
  refine (fnRank a0 cap0 n0 W hc0 h630 hb0).mono fun e W' ⟨he, hs⟩ => ?_
  subst he
  have hb := since_below' hs
  have ht0 : ∀ sp : Nat → Bool, (∀ x ∈ p0, sp x.block = true) → DataW.Trod enc Try.prog W' 0 sp true 22 (.slice a0 n0 cap0) d0 p0 := fun sp hsp =>
    WideElems.Trod_stays Try.laidOut (by kernel_rfl) (of_decide_eq_true (by kernel_rfl)) h0 (fun x hx => hb.same (hlt0 x hx)) hsp
  have hargs : ∀ sp : Nat → Bool, (∀ x ∈ (p0), sp x.block = true) → DataW.TrodAll enc Try.prog W' 0 sp true [22] [.slice a0 n0 cap0] [d0] (p0) := fun sp hsp => by
    have := trodAll_mk1 (enc := enc) (P := Try.prog) (w := W') (base := 0) (spare := sp) (held := true) (ht0 sp (fun x hx => hsp x (by simp [hx])))
    simpa using this
  exact ⟨_, rfl, post_of_below (pa := p0) (pv := []) hW' (fun _ _ _ => trodAll_mk1 (shut_bool Try.underlying4 true)) (fun sp hsp => hargs sp (fun x hx => hsp x (by simpa using hx))) (fun _ _ => rfl) (by simp) hb rfl⟩

theorem FnRank_holds : Rows.FnRankSaid :=
  OpenClaim.holds_of_wide 9 Try.f9 rfl rfl rfl rfl rfl rfl rfl ⟨rfl, rfl, rfl, rfl, rfl⟩ rfl rfl rfl rfl rfl (by kernel_rfl) Try.func9 (by kernel_rfl)
    (of_decide_eq_true (by kernel_rfl)) (by unfold Func.isWrapper; first | (rw [if_pos (by decide +kernel)]; kernel_rfl) | (rw [if_neg (by decide +kernel)]; exact ⟨rfl, rfl⟩))
    (fun os started H enc _ => lifted_FnRank os started H enc)

end Go.Proofs.Yteaabemnolacdaa
end
