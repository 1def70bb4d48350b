import Derived.Test.YtkfondipmhjhjaaTable
import Derived.Test.YtkfondipmhjhjaaHarn2
import Derived.Test.YtkfondipmhjhjaaRoads
import Derived.Test.YtkfondipmhjhjaaSig
import Derived.Test.YtkfondipmhjhjaaOrdersI
import Derived.Maps.AppendAt
import Derived.Test.YtkfondipmhjhjaaDetMul
import Derived.Test.YtkfondipmhjhjaaOtherV
import Derived.Test.YtkfondipmhjhjaaL2Square
import Derived.Test.YtkfondipmhjhjaaBar
import Derived.Test.YtkfondipmhjhjaaMakeImpl
import Derived.Test.YtkfondipmhjhjaaOrdF
import Derived.Test.YtkfondipmhjhjaaPartImpl
import Derived.Test.YtkfondipmhjhjaaOrdDet
import Derived.Test.YtkfondipmhjhjaaCopy
import Derived.StillTailTactics
import Derived.Test.YtkfondipmhjhjaaWR
import Derived.Deep.DeepCutAuto
import Derived.Test.YtkfondipmhjhjaaSeek
import Derived.Test.YtkfondipmhjhjaaRows
import Derived.Test.YtkfondipmhjhjaaData
import Derived.ProofKit
import Derived.Deep.Matrix
import Derived.Test.YtkfondipmhjhjaaDraw0

section
/- A drawn table: how it is read, and how one of its cells or rows is replaced. -/
namespace Go.Proofs.Ytkfondipmhjhjaa
open Go.RowKit Go.Deep

theorem BD.inT {B : Nat} {w : World} {v : Value} {l : List (List Int)} {A : Nat → Option Addr} {C : Nat → Nat} (h : BD B w v l A C) : ∃ a cap, v = .slice a l.length cap ∧ InT B w.heap.size w a l := by
  by_cases h0 : 0 < l.length
  · obtain ⟨b, cap, cur, e, hb, hg, hc⟩ := h.top h0
    refine ⟨_, cap, e, fun _ => ⟨b, 0, A, fun r => ((A r).getD default).block, fun _ => 0, C, rfl, ⟨hb, (Array.getElem?_eq_some_iff.1 hg).1⟩, fun r hr => ⟨?_, fun h1 => ?_⟩⟩⟩
    · rw [Nat.zero_add]; simp [World.cell?, hg, hc r hr]
    · obtain ⟨g, e, hB, hw⟩ := h.row hr
      have e' : ((A r).getD default).block = g := by rw [e]; rfl
      dsimp only
      rw [e']
      exact ⟨e, ⟨hB, hw.lt⟩, fun i hi => by rw [Nat.zero_add]; exact hw.cell hi⟩
  · rcases h.own.2 with ⟨hv, hn⟩ | ⟨g, cap, cur, e, _⟩
    · exact ⟨none, 0, by rw [hv, hn], fun h => absurd h h0⟩
    · exact ⟨_, cap, e, fun h => absurd h h0⟩

theorem BD.row_ne {B : Nat} {w : World} {l : List (List Int)} {A : Nat → Option Addr} {C : Nat → Nat} {b cap n : Nat} (h : BD B w (.slice (some ⟨b, 0, none⟩) n cap) l A C) {g : Nat} {x : List Int} (hw : RowB w g x) : g ≠ b := by
  rintro rfl
  obtain ⟨cs, hc, _⟩ := hw
  rcases h.own.2 with ⟨e, _⟩ | ⟨g', cap', cur, e, _, hgg, _⟩
  · cases e
  · injection e with e
    injection e with e
    injection e with e
    rw [← e, hc] at hgg
    injection hgg with hgg
    injection hgg with _ e2 _
    exact absurd e2 (by decide)

theorem BD.addr_ne {B : Nat} {w : World} {v : Value} {l : List (List Int)} {A : Nat → Option Addr} {C : Nat → Nat} (h : BD B w v l A C) {r j g g' : Nat} (hr : r < l.length) (hj : j < l.length) (hA : A r = some ⟨g, 0, none⟩) (hA' : A j = some ⟨g', 0, none⟩) (hne : j ≠ r) : g' ≠ g := by
  rintro rfl
  exact hne (h.apart j r hj hr (by rw [hA, hA']))

theorem BD.cellTop {B : Nat} {w : World} {l : List (List Int)} {A : Nat → Option Addr} {C : Nat → Nat} {b cap n : Nat} (h : BD B w (.slice (some ⟨b, 0, none⟩) n cap) l A C) {r : Nat} (hr : r < l.length) :
    w.cell? ⟨b, r, none⟩ = some (.slice (A r) (l.getD r []).length (C r)) ∧ w.frozen? ⟨b, r, none⟩ = false ∧ b < w.heap.size := by
  obtain ⟨b', cp', cur, hv, _, hcur, hc⟩ := h.top (by omega)
  injection hv with hv _ _
  injection hv with hv
  injection hv with hv
  subst hv
  exact ⟨by simp [World.cell?, hcur, hc r hr], by simp [World.frozen?, hcur], (Array.getElem?_eq_some_iff.1 hcur).1⟩

/-- A row is replaced. -/
theorem BD.setRow {B : Nat} {w w5 : World} {l : List (List Int)} {A : Nat → Option Addr} {C : Nat → Nat} {b cap n : Nat} (h : BD B w (.slice (some ⟨b, 0, none⟩) n cap) l A C) {r g : Nat} (hr : r < l.length) (hA : A r = some ⟨g, 0, none⟩) (hg : w.grownBy w5 (some g)) {g2 cp k : Nat} {y : List Int}
    (hy : RW B w5 (.slice (some ⟨g2, 0, none⟩) k cp) y) (hk : y.length = k) (h0 : 0 < k) : InT B w5.heap.size (w5.setCell ⟨b, r, none⟩ (.slice (some ⟨g2, 0, none⟩) k cp)) (some ⟨b, 0, none⟩) (l.set r y) := by
  subst hk
  obtain ⟨b', cap', cur, e, hb, hcur, hc⟩ := h.top (by omega)
  injection e with e en _
  injection e with e
  injection e with e
  subst e
  obtain ⟨g', hA', hBg, hrb⟩ := h.row hr
  rw [hA] at hA'
  injection hA' with hA'
  injection hA' with hA'
  subst hA'
  have hgb := h.row_ne hrb
  have hbl : b < w.heap.size := (Array.getElem?_eq_some_iff.1 hcur).1
  have hcur5 : w5.heap[b]? = some (.cells cur 28 (0, 0)) := (hg.block b hbl (fun e => by injection e with e; omega)).trans hcur
  obtain ⟨hB2, hrb2⟩ := hy.rowB h0
  have hg2b : g2 ≠ b := by
    rintro rfl
    obtain ⟨cs, h1, _⟩ := hrb2
    rw [h1] at hcur5
    injection hcur5 with h2
    injection h2 with _ h2 _
    exact absurd h2 (by decide)
  have hbl5 : b < w5.heap.size := (Array.getElem?_eq_some_iff.1 hcur5).1
  intro _
  refine ⟨b, 0, fun j => if j = r then some ⟨g2, 0, none⟩ else A j, fun j => if j = r then g2 else ((A j).getD default).block, fun _ => 0, fun j => if j = r then cp else C j, rfl, ⟨hb, hbl5⟩, fun j hj => ?_⟩
  rw [List.length_set] at hj
  show (w5.setCell ⟨b, r, none⟩ _).cell? ⟨b, 0 + j, none⟩ = _ ∧ _
  rw [Nat.zero_add]
  by_cases ej : j = r
  · subst ej
    have e1 : (l.set j y).getD j [] = y := by simp [List.getD, hj]
    rw [e1]
    simp only [↓reduceIte]
    refine ⟨World.cell?_setCell_same' _ _ _ (by simp [World.cell?, hcur5, hc j hj]), fun _ => ⟨trivial, ⟨hB2, hrb2.lt⟩, fun i hi => ?_⟩⟩
    rw [Nat.zero_add]
    exact cell_set_far (hrb2.cell hi) hg2b
  · have e1 : (l.set r y).getD j [] = l.getD j [] := by simp [List.getD, List.getElem?_set_ne (Ne.symm ej)]
    rw [e1]
    simp only [if_neg ej]
    obtain ⟨gj, hAj, hBj, hrbj⟩ := h.row hj
    have hgj := h.addr_ne hr hj hA hAj ej
    have hrb5 : RowB w5 gj (l.getD j []) := hrbj.of_block (hg.block gj hrbj.lt (fun e => by injection e with e; omega))
    have hgjb := h.row_ne hrbj
    refine ⟨?_, fun _ => ?_⟩
    · rw [World.cell?_setCell_other _ _ _ _ (fun e => ej (by injection e with _ e; exact e.symm))]
      simp [World.cell?, hcur5, hc j hj]
    · have e' : ((A j).getD default).block = gj := by rw [hAj]; rfl
      rw [e']
      exact ⟨hAj, ⟨hBj, hrb5.lt⟩, fun i hi => by rw [Nat.zero_add]; exact cell_set_far (hrb5.cell hi) hgjb⟩

/-- A number is replaced. -/
theorem BD.setNum {B : Nat} {w : World} {l : List (List Int)} {A : Nat → Option Addr} {C : Nat → Nat} {b cap n : Nat} (h : BD B w (.slice (some ⟨b, 0, none⟩) n cap) l A C) {r g k : Nat} (hr : r < l.length) (hA : A r = some ⟨g, 0, none⟩) (hk : k < (l.getD r []).length) (z : Int) :
    InT B w.heap.size (w.setCell ⟨g, k, none⟩ (.int .i64 z)) (some ⟨b, 0, none⟩) (l.set r ((l.getD r []).set k z)) := by
  obtain ⟨b', cap', cur, e, hb, hcur, hc⟩ := h.top (by omega)
  injection e with e en _
  injection e with e
  injection e with e
  subst e
  obtain ⟨g', hA', hBg, hrb⟩ := h.row hr
  rw [hA] at hA'
  injection hA' with hA'
  injection hA' with hA'
  subst hA'
  have hgb := h.row_ne hrb
  intro _
  refine ⟨b, 0, A, fun j => ((A j).getD default).block, fun _ => 0, C, rfl, ⟨hb, (Array.getElem?_eq_some_iff.1 hcur).1⟩, fun j hj => ?_⟩
  rw [List.length_set] at hj
  show (w.setCell ⟨g, k, none⟩ _).cell? ⟨b, 0 + j, none⟩ = _ ∧ _
  rw [Nat.zero_add]
  have hlen : ((l.set r ((l.getD r []).set k z)).getD j []).length = (l.getD j []).length := by
    by_cases ej : j = r
    · subst ej; simp [List.getD, hj]
    · simp [List.getD, List.getElem?_set_ne (Ne.symm ej)]
  rw [hlen]
  refine ⟨cell_set_far (by simp [World.cell?, hcur, hc j hj]) (Ne.symm hgb), fun _ => ?_⟩
  obtain ⟨gj, hAj, hBj, hrbj⟩ := h.row hj
  have e' : ((A j).getD default).block = gj := by rw [hAj]; rfl
  dsimp only
  rw [e']
  refine ⟨hAj, ⟨hBj, hrbj.lt⟩, fun i hi => ?_⟩
  rw [Nat.zero_add]
  by_cases ej : j = r
  · subst ej
    rw [hA] at hAj
    injection hAj with hAj
    injection hAj with hAj
    subst hAj
    have e1 : (l.set j ((l.getD j []).set k z)).getD j [] = (l.getD j []).set k z := by simp [List.getD, hj]
    rw [e1]
    by_cases ei : i = k
    · subst ei
      rw [World.cell?_setCell_same' _ _ _ (by rw [hrbj.cell hi]; rfl)]
      simp [List.getD] at hi ⊢
      simp [hi]
    · rw [World.cell?_setCell_other _ _ _ _ (fun e => ei (by injection e with _ e; exact e.symm)), hrbj.cell hi]
      simp [List.getD, List.getElem?_set_ne (Ne.symm ei)]
  · have hgj := h.addr_ne hr hj hA hAj ej
    have e1 : (l.set r ((l.getD r []).set k z)).getD j [] = l.getD j [] := by simp [List.getD, List.getElem?_set_ne (Ne.symm ej)]
    rw [e1]
    exact cell_set_far (hrbj.cell hi) hgj

/-- What the reader does leaves a drawn table. -/
theorem InT.kept {lo hi : Nat} {w w' : World} {a : Option Addr} {l : List (List Int)} {G : Nat} (h : InT lo hi w a l) (hg : w.grownBy w' (some G)) (hG : G < lo) : InT lo hi w' a l :=
  h.frame (lo' := G) (hi' := G + 1) ⟨hg.os, hg.tape, hg.output, hg.size, fun k hk ho => hg.block k hk (fun e => by injection e with e; omega)⟩ (.inr (by omega))

end Go.Proofs.Ytkfondipmhjhjaa
end

section
/- The contract of spec.l91Some. -/
namespace Go.Proofs.Ytkfondipmhjhjaa
open Go.RowKit Go.Deep

/-- A table that a call has drawn: at least one row, no row empty. -/
def Drawn0 (w w' : World) (R K : Nat) (a : Option Addr) (l : List (List Int)) : Prop :=
  1 ≤ l.length ∧ l.length ≤ R ∧ (∀ j, j < l.length → 1 ≤ (l.getD j []).length ∧ (l.getD j []).length ≤ K + 1) ∧ InT w.heap.size w'.heap.size w' a l

theorem lens_set {l : List (List Int)} {r : Nat} {y : List Int} {n m K : Nat} (hl : l.length = n) (h : ∀ j, j < n → (l.getD j []).length = m) (hm : 1 ≤ m ∧ m ≤ K) (hy : 1 ≤ y.length ∧ y.length ≤ K + 1) : ∀ j, j < (l.set r y).length → 1 ≤ ((l.set r y).getD j []).length ∧ ((l.set r y).getD j []).length ≤ K + 1 := by
  intro j hj
  rw [List.length_set] at hj
  by_cases e : j = r
  · subst e
    rw [show (l.set j y).getD j [] = y by simp [List.getD, hj]]
    exact hy
  · rw [show (l.set r y).getD j [] = l.getD j [] by simp [List.getD, List.getElem?_set_ne (Ne.symm e)], h j (by omega)]
    omega

set_option maxRecDepth 100000 in
set_option maxHeartbeats 4000000 in
theorem l91Some_any (w0 w : World) (G nb c p R K : Nat) (a : Option Addr) (h : RD w0 w G a nb c 81 p) (hR1 : 1 ≤ R) (hR : R ≤ 8) (hK1 : 1 ≤ K) (hK : K ≤ 8) (hp : p ≤ 40000) :
    Calls Try.prog 84 #[.pointer (some ⟨G, 0, none⟩), .int .i64 R, .int .i64 K] w fun e w' => ∃ a' cap l p', e = .returned (.slice a' l.length cap) ∧ w.grownBy w' (some G) ∧ RD w0 w' G a nb c 81 p' ∧ p' ≤ p + 600 ∧ Drawn0 w w' R K a' l := by
  obtain ⟨i3, hi3⟩ := info3_parts
  have HJ := Lib.hid hi3
  have hG := h.lt
  have HRD := Lib.hid h
  clear h hi3
  go_enter Try.func84, Try.ntmps84
  go_wp2_with fail
  refine (pick_any w0 _ G nb c _ a _ HRD.out (by omega)).mono ?_
  rintro e w1 ⟨y1, rfl, hy1, hg1, hd1⟩
  obtain ⟨n, hn, hnn⟩ : ∃ n : Nat, IntKind.i64.wrap (1 + (y1 : Int)) = n ∧ n = y1 + 1 := ⟨y1 + 1, (IntWalk.i64_in _ ⟨by omega, by omega⟩).trans (by omega), rfl⟩
  have hn1 : 1 ≤ n ∧ n ≤ R := by omega
  have HD1 := Lib.hid hd1
  have HG1 := Lib.hid hg1
  clear hd1 hg1 hnn hy1 HRD
  go_wp2_with fail
  refine (pick_any w0 _ G nb c _ a _ HD1.out (by omega)).mono ?_
  rintro e w2 ⟨y2, rfl, hy2, hg2, hd2⟩
  obtain ⟨m, hm, hmm⟩ : ∃ m : Nat, IntKind.i64.wrap (1 + (y2 : Int)) = m ∧ m = y2 + 1 := ⟨y2 + 1, (IntWalk.i64_in _ ⟨by omega, by omega⟩).trans (by omega), rfl⟩
  have hm1 : 1 ≤ m ∧ m ≤ K := by omega
  have HD2 := Lib.hid hd2
  have HG2 := Lib.hid (grown_trans HG1.out hg2)
  clear hd2 hg2 hmm hy2 HD1 HG1
  go_wp2_with fail
  refine (l91Table_any w0 _ G nb c _ n m a HD2.out (by omega) (by omega) (by omega) (by omega)).mono ?_
  rintro e w3 ⟨v, l, A, C, p3, rfl, hl, hlm, hg3, hd3, hp3, hB⟩
  obtain ⟨b, cp, cur, hv, hbb, hcur, hc⟩ := hB.top (by omega)
  rw [hl] at hv
  subst hv
  have hG2 := HG2.out.size
  have HD3 := Lib.hid hd3
  have HG3 := Lib.hid (grown_trans HG2.out hg3)
  have HB := Lib.hid hB
  clear hd3 hg3 hcur hc hB HD2
  go_wp2_with fail
  refine (pick_any w0 _ G nb c _ a _ HD3.out (by omega)).mono ?_
  rintro e w4 ⟨y4, rfl, hy4, hg4, hd4⟩
  have HG4 := Lib.hid (grown_trans HG3.out hg4)
  have HB4 := Lib.hid (HB.out.kept hg4 (by omega))
  have HD4 := Lib.hid hd4
  have hz4 := HG4.out.size
  clear hd4 hg4 HB HG3 HD3 hy4
  obtain ⟨g0, hA0, hg0, hrb0⟩ := HB4.out.row (r := 0) (by omega)
  by_cases hy0 : y4 = 0
  · subst hy0
    obtain ⟨t1, _, _⟩ := HB4.out.cellTop (r := 0) (by omega)
    rw [hlm 0 (by omega), hA0] at t1
    have t2 := hrb0.cell (i := 0) (by rw [hlm 0 (by omega)]; omega)
    have t3 := hrb0.frozen 0
    have hIT := HB4.out.setNum (r := 0) (k := 0) (by omega) hA0 (by rw [hlm 0 (by omega)]; omega) 31
    have hll : (l.set 0 ((l.getD 0 []).set 0 31)).length = n := by rw [List.length_set]; exact hl
    have hlens := lens_set (r := 0) (y := (l.getD 0 []).set 0 31) hl hlm hm1 (by rw [List.length_set, hlm 0 (by omega)]; omega)
    have HIT := Lib.hid hIT
    have HLL := Lib.hid hll
    have HLENS := Lib.hid hlens
    have HGS := Lib.hid (grown_set HG4.out (show w.heap.size ≤ g0 by omega) (k := 0) (.int .i64 31))
    have HDS := Lib.hid (HD4.out.grown (grown_set_any w4 g0 0 (.int .i64 31)) (fun i e => by cases e; omega))
    have p1 : 0 < n := by omega
    have p2 : 0 < m := by omega
    clear hrb0 hIT hll hlens hA0 hlm hl
    go_wp2
    go_ret
    exact ⟨_, _, l.set 0 ((l.getD 0 []).set 0 31), _, by rw [HLL.out]; rfl, HGS.out, HDS.out, by omega, by rw [HLL.out]; omega, by rw [HLL.out]; omega, HLENS.out, HIT.out.mono hG2 (by simp)⟩
  · clear hrb0 hA0 hg0
    by_cases hy1 : y4 = 1
    · subst hy1
      obtain ⟨s, hs⟩ : ∃ s, n = s + 1 := ⟨n - 1, by omega⟩
      have hr1 : IntKind.i64.wrap ((n : Int) - 1) = (s : Int) := by rw [show (n : Int) - 1 = s by omega]; exact IntWalk.i64_in _ ⟨by omega, by omega⟩
      have hsr : s < n := by omega
      clear hs
      obtain ⟨g1, hA, hg1, hrb⟩ := HB4.out.row (r := s) (by omega)
      obtain ⟨t1, t2, lb⟩ := HB4.out.cellTop (r := s) (by omega)
      have hRW := (HB4.out.rows s (by omega)).2
      have hls := hlm s hsr
      rw [hls, hA] at t1 hRW
      have hgb := HB4.out.row_ne hrb
      obtain ⟨x, hx⟩ : ∃ x, x = l.getD s [] := ⟨_, rfl⟩
      rw [← hx] at hRW hls
      have HRW := Lib.hid hRW
      have HA := Lib.hid hA
      have HL := Lib.hid hl
      have HLM := Lib.hid hlm
      have t1a := fun ob => cell_alloc_l ob t1
      clear hRW hrb hA hl hlm hx
      go_wp2_with (first
        | (at_builtin; (refine wpList_append_int _ rfl (.tmp 37) (.tmp 38) 28 rfl w2.heap.size i3 Try.underlying28 HJ.out.1 HJ.out.2.1 HJ.out.2.2.1 HJ.out.2.2.2 _ x rfl HRW.out 0 rfl (by omega) (by omega) ?_); intro v' w5 hrw hgr; have hgr : w4.grownBy w5 (some g1) := hgr; obtain ⟨g2, cp2, hv2, hg2b, hrb2⟩ := hrw.form (by simp); rw [show (x ++ [(0 : Int)]).length = m + 1 by rw [List.length_append, hls]; rfl] at hv2; subst hv2; have k1 := hgr.cell t1 (fun e => hgb (by injection e with e; exact e.symm)); have k2 : w5.frozen? ⟨b, s, none⟩ = false := (World.frozen?_of_block (hgr.block b lb (fun e => hgb (by injection e with e; exact e.symm)))).trans t2; have HRW2 := Lib.hid hrw; have HGR := Lib.hid hgr; clear hrw hgr hrb2))
      have hl2 : (x ++ [(0 : Int)]).length = m + 1 := by rw [List.length_append, hls]; rfl
      have hIT := HB4.out.setRow (r := s) (by rw [HL.out]; exact hsr) HA.out HGR.out HRW2.out hl2 (by omega)
      have hll : (l.set s (x ++ [0])).length = n := by rw [List.length_set]; exact HL.out
      have hlens := lens_set (r := s) (y := x ++ [0]) HL.out HLM.out hm1 (by rw [hl2]; omega)
      have hgs := grown_set (grown_new HG4.out HGR.out (fun i e => by cases e; omega)) (show w.heap.size ≤ b by omega) (k := s) (.slice (some ⟨g2, 0, none⟩) (m + 1) cp2)
      have hds := (HD4.out.grown HGR.out (fun i e => by cases e; omega)).grown (grown_set_any w5 b s (.slice (some ⟨g2, 0, none⟩) (m + 1) cp2)) (fun i e => by cases e; omega)
      go_ret
      exact ⟨_, _, l.set s (x ++ [0]), _, by rw [hll]; rfl, hgs, hds, by omega, by rw [hll]; omega, by rw [hll]; omega, hlens, hIT.mono hG2 (by simp)⟩
    · have h1 : ((y4 : Int) == 0) = false := by simp; omega
      have h2 : ((y4 : Int) == 1) = false := by simp; omega
      obtain ⟨a', cap', hv, hIT⟩ := HB4.out.inT
      rw [hl] at hv
      injection hv with hv _ _
      subst hv
      have HL := Lib.hid hl
      have HLM := Lib.hid hlm
      have HIT := Lib.hid hIT
      clear hl hlm hIT
      go_wp2
      go_ret
      exact ⟨_, _, l, _, by rw [HL.out]; rfl, HG4.out, HD4.out, by omega, by rw [HL.out]; omega, by rw [HL.out]; omega, fun j hj => by rw [HLM.out j (by rw [← HL.out]; exact hj)]; omega, HIT.out.mono hG2 (Nat.le_refl _)⟩

end Go.Proofs.Ytkfondipmhjhjaa
end

section
/- The contract of spec.l6Open, and of what draws one table. -/
namespace Go.Proofs.Ytkfondipmhjhjaa
open Go.RowKit Go.Deep

set_option maxHeartbeats 1000000 in
theorem l6Open_any (a : Option Addr) (nb cb : Nat) (w : World) (hc : nb ≤ cb) (h63 : cb ≤ 9223372036854775807) (hb : BytR w a nb) :
    Calls Try.prog 57 #[.slice a nb cb] w fun e w' => ∃ n' c', e = .returned (.pointer (some ⟨w.heap.size, 0, none⟩)) ∧ w.Since w.heap.size w' ∧ w'.heap.size = w.heap.size + 1 ∧ RD w w' w.heap.size a n' c' 81 0 := by
  by_cases hl : 2000 < nb
  · have hl' : decide ((2000 : Int) < (nb : Int)) = true := by simp; omega
    have h2 : (2000 : Int) ≤ (cb : Int) := by omega
    obtain ⟨b, o, rfl, hcell⟩ := hb (by omega)
    go_enter Try.func57, Try.ntmps57
    go_wp2
    go_ret
    exact ⟨_, _, rfl, (World.Since.refl _ _).alloc (Nat.le_refl _) _, by simp, ⟨heap_alloc_new _ _, Nat.le_refl _, (World.Since.refl _ _).alloc (Nat.le_refl _) _, fun _ => ⟨b, o, rfl, fun i hi => hcell i (by omega)⟩, by omega⟩⟩
  · have hl' : decide ((2000 : Int) < (nb : Int)) = false := by simp; omega
    go_enter Try.func57, Try.ntmps57
    go_wp2
    go_ret
    exact ⟨_, _, rfl, (World.Since.refl _ _).alloc (Nat.le_refl _) _, by simp, ⟨heap_alloc_new _ _, Nat.le_refl _, (World.Since.refl _ _).alloc (Nat.le_refl _) _, hb, by omega⟩⟩

/-- A call has drawn a table. -/
def DrawnT (w w' : World) (R K : Nat) (a : Option Addr) (l : List (List Int)) : Prop :=
  1 ≤ l.length ∧ l.length ≤ R ∧ (∀ j, j < l.length → 1 ≤ (l.getD j []).length ∧ (l.getD j []).length ≤ K + 1) ∧ InT w.heap.size w'.heap.size w' a l

end Go.Proofs.Ytkfondipmhjhjaa
end

section
/- The contracts of the functions that draw a square. -/
namespace Go.Proofs.Ytkfondipmhjhjaa
open Go.RowKit Go.Deep

set_option maxRecDepth 100000 in
set_option maxHeartbeats 4000000 in
theorem l91Square_any (w0 w : World) (G nb c p R : Nat) (a : Option Addr) (h : RD w0 w G a nb c 81 p) (hR1 : 1 ≤ R) (hR : R ≤ 8) (hp : p ≤ 40000) :
    Calls Try.prog 58 #[.pointer (some ⟨G, 0, none⟩), .int .i64 R] w fun e w' => ∃ a' cap l p', e = .returned (.slice a' l.length cap) ∧ w.grownBy w' (some G) ∧ RD w0 w' G a nb c 81 p' ∧ p' ≤ p + 1200 ∧ Drawn0 w w' R R a' l := by
  have hG := h.lt
  have HRD := Lib.hid h
  clear h
  go_enter Try.func58, Try.ntmps58
  go_wp2_with fail
  refine (pick_any w0 _ G nb c _ a _ HRD.out (by omega)).mono ?_
  rintro e w1 ⟨y1, rfl, hy1, hg1, hd1⟩
  obtain ⟨n, hn, hnn⟩ : ∃ n : Nat, IntKind.i64.wrap (1 + (y1 : Int)) = n ∧ n = y1 + 1 := ⟨y1 + 1, (IntWalk.i64_in _ ⟨by omega, by omega⟩).trans (by omega), rfl⟩
  have hn1 : 1 ≤ n ∧ n ≤ R := by omega
  have HD2 := Lib.hid hd1
  have HG2 := Lib.hid hg1
  clear hd1 hg1 hnn hy1 HRD
  go_wp2_with fail
  refine (l91Table_any w0 _ G nb c _ n n a HD2.out (by omega) (by omega) (by omega) (by omega)).mono ?_
  rintro e w3 ⟨v, l, A, C, p3, rfl, hl, hlm, hg3, hd3, hp3, hB⟩
  obtain ⟨b, cp, cur, hv, hbb, hcur, hc⟩ := hB.top (by omega)
  rw [hl] at hv
  subst hv
  have hG2 := HG2.out.size
  have HD3 := Lib.hid hd3
  have HG3 := Lib.hid (grown_trans HG2.out hg3)
  have HB := Lib.hid hB
  clear hd3 hg3 hcur hc hB HD2
  go_wp2_with fail
  refine (pick_any w0 _ G nb c _ a _ HD3.out (by omega)).mono ?_
  rintro e w4 ⟨y4, rfl, hy4, hg4, hd4⟩
  have HG4 := Lib.hid (grown_trans HG3.out hg4)
  have HB4 := Lib.hid (HB.out.kept hg4 (by omega))
  have HD4 := Lib.hid hd4
  have hz4 := HG4.out.size
  clear hd4 hg4 HB HG3 HD3 hy4
  obtain ⟨g0, hA0, hg0, hrb0⟩ := HB4.out.row (r := 0) (by omega)
  by_cases hy0 : y4 = 0
  · subst hy0
    obtain ⟨t1, _, _⟩ := HB4.out.cellTop (r := 0) (by omega)
    rw [hlm 0 (by omega), hA0] at t1
    have t2 := hrb0.cell (i := 0) (by rw [hlm 0 (by omega)]; omega)
    have t3 := hrb0.frozen 0
    have hIT := HB4.out.setNum (r := 0) (k := 0) (by omega) hA0 (by rw [hlm 0 (by omega)]; omega) 31
    have hll : (l.set 0 ((l.getD 0 []).set 0 31)).length = n := by rw [List.length_set]; exact hl
    have hlens := lens_set (K := R) (r := 0) (y := (l.getD 0 []).set 0 31) hl hlm (by omega) (by rw [List.length_set, hlm 0 (by omega)]; omega)
    have HIT := Lib.hid hIT
    have HLL := Lib.hid hll
    have HLENS := Lib.hid hlens
    have HGS := Lib.hid (grown_set HG4.out (show w.heap.size ≤ g0 by omega) (k := 0) (.int .i64 31))
    have HDS := Lib.hid (HD4.out.grown (grown_set_any w4 g0 0 (.int .i64 31)) (fun i e => by cases e; omega))
    have p1 : 0 < n := by omega
    clear hrb0 hIT hll hlens hA0 hlm hl
    go_wp2
    go_ret
    exact ⟨_, _, l.set 0 ((l.getD 0 []).set 0 31), _, by rw [HLL.out]; rfl, HGS.out, HDS.out, by omega, by rw [HLL.out]; omega, by rw [HLL.out]; omega, HLENS.out, HIT.out.mono hG2 (by simp)⟩
  · clear hrb0 hA0 hg0
    by_cases hy1 : y4 = 1
    · subst hy1
      clear hlm hl HB4
      have hnp : IntKind.i64.wrap ((n : Int) + 1) = ((n + 1 : Nat) : Int) := (IntWalk.i64_in _ ⟨by omega, by omega⟩).trans (by omega)
      have E5 := l91Table_any w0 w4 G nb c _ n (n + 1) a HD4.out (by omega) (by omega) (by omega) (by omega)
      rw [show ((n + 1 : Nat) : Int) = (n : Int) + 1 by omega] at E5
      replace E5 := Lib.hid E5
      go_wp2_with fail
      refine (E5.out).mono ?_
      rintro e w5 ⟨v, l5, A5, C5, p5, rfl, hl, hlm, hg5, hd5, hp5, hB⟩
      obtain ⟨a', cap', hv, hIT⟩ := hB.inT
      rw [hl] at hv
      subst hv
      have HL := Lib.hid hl
      have HLM := Lib.hid hlm
      have HIT := Lib.hid hIT
      have HG5 := Lib.hid (grown_trans HG4.out hg5)
      have HD5 := Lib.hid hd5
      have hG4 := HG4.out.size
      clear hl hlm hIT hB hg5 hd5
      go_wp2
      go_ret
      exact ⟨_, _, l5, _, by rw [HL.out]; rfl, HG5.out, HD5.out, by omega, by rw [HL.out]; omega, by rw [HL.out]; omega, fun j hj => by rw [HLM.out j (by rw [← HL.out]; exact hj)]; omega, HIT.out.mono hG4 (Nat.le_refl _)⟩
    · have h1 : ((y4 : Int) == 0) = false := by simp; omega
      have h2 : ((y4 : Int) == 1) = false := by simp; omega
      obtain ⟨a', cap', hv, hIT⟩ := HB4.out.inT
      rw [hl] at hv
      injection hv with hv _ _
      subst hv
      have HL := Lib.hid hl
      have HLM := Lib.hid hlm
      have HIT := Lib.hid hIT
      clear hl hlm hIT
      go_wp2
      go_ret
      exact ⟨_, _, l, _, by rw [HL.out]; rfl, HG4.out, HD4.out, by omega, by rw [HL.out]; omega, by rw [HL.out]; omega, fun j hj => by rw [HLM.out j (by rw [← HL.out]; exact hj)]; omega, HIT.out.mono hG2 (Nat.le_refl _)⟩

set_option maxHeartbeats 1000000 in
theorem l91Squared_any (a : Option Addr) (nb cb : Nat) (w : World) (hc : nb ≤ cb) (h63 : cb ≤ 9223372036854775807) (hb : BytR w a nb) :
    Calls Try.prog 71 #[.slice a nb cb] w fun e w' => ∃ a' cap l, e = .returned (.slice a' l.length cap) ∧ w.Since w.heap.size w' ∧ DrawnT w w' 5 5 a' l := by
  have E := Lib.hid (l6Open_any a nb cb w hc h63 hb)
  clear hb
  go_enter Try.func71, Try.ntmps71
  go_wp2_with fail
  refine (E.out).mono ?_
  rintro e w1 ⟨n', c', rfl, hs, hz, hd⟩
  have HD := Lib.hid hd
  clear hd
  go_wp2_with fail
  refine (l91Square_any w w1 w.heap.size n' c' 0 5 a HD.out (by omega) (by omega) (by omega)).mono ?_
  rintro e w2 ⟨a', cap', l, p', rfl, hg, hd2, hp, h1, h5, hl, hit⟩
  go_wp2
  go_ret
  exact ⟨a', cap', l, rfl, hs.trans (since_grown hg (Nat.le_refl _) hs.size), h1, h5, hl, hit.mono hs.size (Nat.le_refl _)⟩



set_option maxHeartbeats 1000000 in
theorem drawValueOther_any (a : Option Addr) (nb cb : Nat) (w : World) (hc : nb ≤ cb) (h63 : cb ≤ 9223372036854775807) (hb : BytR w a nb) :
    Calls Try.prog 53 #[.slice a nb cb] w fun e w' => ∃ a' cap l, e = .returned (.slice a' l.length cap) ∧ w.Since w.heap.size w' ∧ DrawnT w w' 5 5 a' l := by
  have E := Lib.hid (l91Squared_any a nb cb w hc h63 hb)
  clear hb
  go_enter Try.func53, Try.ntmps53
  go_wp2_with fail
  refine (E.out).mono ?_
  rintro e w1 ⟨a', cap', l, rfl, hs, hd⟩
  go_wp2
  go_ret
  exact ⟨a', cap', l, rfl, hs, hd⟩

set_option maxHeartbeats 1000000 in
theorem drawValueTrace_any (a : Option Addr) (nb cb : Nat) (w : World) (hc : nb ≤ cb) (h63 : cb ≤ 9223372036854775807) (hb : BytR w a nb) :
    Calls Try.prog 34 #[.slice a nb cb] w fun e w' => ∃ a' cap l, e = .returned (.slice a' l.length cap) ∧ w.Since w.heap.size w' ∧ DrawnT w w' 5 5 a' l := by
  have E := Lib.hid (l91Squared_any a nb cb w hc h63 hb)
  clear hb
  go_enter Try.func34, Try.ntmps34
  go_wp2_with fail
  refine (E.out).mono ?_
  rintro e w1 ⟨a', cap', l, rfl, hs, hd⟩
  go_wp2
  go_ret
  exact ⟨a', cap', l, rfl, hs, hd⟩

end Go.Proofs.Ytkfondipmhjhjaa
end

section
/- The contract of the function that draws for ValueCondense. -/
namespace Go.Proofs.Ytkfondipmhjhjaa
open Go.RowKit Go.Deep

/-- A number is replaced: the table is one's own as before. -/
theorem BD.num {B : Nat} {w : World} {l : List (List Int)} {A : Nat → Option Addr} {C : Nat → Nat} {b cap n : Nat} (h : BD B w (.slice (some ⟨b, 0, none⟩) n cap) l A C) {r g k : Nat} (hr : r < l.length) (hA : A r = some ⟨g, 0, none⟩) (hk : k < (l.getD r []).length) (z : Int) :
    BD B (w.setCell ⟨g, k, none⟩ (.int .i64 z)) (.slice (some ⟨b, 0, none⟩) n cap) (l.set r ((l.getD r []).set k z)) A C := by
  obtain ⟨g', hA', hBg, hrb⟩ := h.row hr
  rw [hA] at hA'
  injection hA' with hA'
  injection hA' with hA'
  subst hA'
  have hgb := h.row_ne hrb
  have hlen : ∀ j, j < l.length → ((l.set r ((l.getD r []).set k z)).getD j []).length = (l.getD j []).length := fun j hj => by
    by_cases ej : j = r
    · subst ej; simp [List.getD, hj]
    · simp [List.getD, List.getElem?_set_ne (Ne.symm ej)]
  refine ⟨?_, fun j hj => ?_, fun j j' h1 h2 e => h.apart j j' (by simpa using h1) (by simpa using h2) e⟩
  · rw [List.length_set]
    have e : ((List.range l.length).map fun j => Value.slice (A j) ((l.set r ((l.getD r []).set k z)).getD j []).length (C j)) = (List.range l.length).map fun j => Value.slice (A j) (l.getD j []).length (C j) :=
      List.map_congr_left fun j hj => by rw [hlen j (List.mem_range.1 hj)]
    rw [e]
    exact World.ownsRow.kept h.own (grown_set_any w g k (.int .i64 z)) (.inr (fun e => by simp [Value.ownBlock] at e; exact hgb e.symm))
  · rw [List.length_set] at hj
    refine ⟨by rw [hlen j hj]; exact (h.rows j hj).1, ?_⟩
    rw [hlen j hj]
    have hw := (h.rows j hj).2
    by_cases ej : j = r
    · subst ej
      have e1 : (l.set j ((l.getD j []).set k z)).getD j [] = (l.getD j []).set k z := by simp [List.getD, hj]
      rw [e1]
      rw [hA] at hw ⊢
      exact RW.set hw hk z
    · have e1 : (l.set r ((l.getD r []).set k z)).getD j [] = l.getD j [] := by simp [List.getD, List.getElem?_set_ne (Ne.symm ej)]
      rw [e1]
      obtain ⟨gj, hAj, hBj, hrbj⟩ := h.row hj
      have hgj := h.addr_ne hr hj hA hAj ej
      exact World.ownsRow.kept hw (grown_set_any w g k (.int .i64 z)) (.inr (fun e => by rw [hAj] at e; simp [Value.ownBlock] at e; exact hgj e))

set_option maxRecDepth 100000 in
set_option maxHeartbeats 4000000 in
theorem l91SquareB_any (w0 w : World) (G nb c p R : Nat) (a : Option Addr) (h : RD w0 w G a nb c 81 p) (hR1 : 1 ≤ R) (hR : R ≤ 8) (hp : p ≤ 40000) :
    Calls Try.prog 58 #[.pointer (some ⟨G, 0, none⟩), .int .i64 R] w fun e w' => ∃ v B A C l p', e = .returned v ∧ w.heap.size ≤ B ∧ BD B w' v l A C ∧ w.grownBy w' (some G) ∧ RD w0 w' G a nb c 81 p' ∧ p' ≤ p + 1200 ∧ 1 ≤ l.length ∧ l.length ≤ R ∧ ∀ j, j < l.length → 1 ≤ (l.getD j []).length ∧ (l.getD j []).length ≤ R + 1 := by
  have hG := h.lt
  have HRD := Lib.hid h
  clear h
  go_enter Try.func58, Try.ntmps58
  go_wp2_with fail
  refine (pick_any w0 _ G nb c _ a _ HRD.out (by omega)).mono ?_
  rintro e w1 ⟨y1, rfl, hy1, hg1, hd1⟩
  obtain ⟨n, hn, hnn⟩ : ∃ n : Nat, IntKind.i64.wrap (1 + (y1 : Int)) = n ∧ n = y1 + 1 := ⟨y1 + 1, (IntWalk.i64_in _ ⟨by omega, by omega⟩).trans (by omega), rfl⟩
  have hn1 : 1 ≤ n ∧ n ≤ R := by omega
  have HD2 := Lib.hid hd1
  have HG2 := Lib.hid hg1
  clear hd1 hg1 hnn hy1 HRD
  go_wp2_with fail
  refine (l91Table_any w0 _ G nb c _ n n a HD2.out (by omega) (by omega) (by omega) (by omega)).mono ?_
  rintro e w3 ⟨v, l, A, C, p3, rfl, hl, hlm, hg3, hd3, hp3, hB⟩
  obtain ⟨b, cp, cur, hv, hbb, hcur, hc⟩ := hB.top (by omega)
  rw [hl] at hv
  subst hv
  have hG2 := HG2.out.size
  have HD3 := Lib.hid hd3
  have HG3 := Lib.hid (grown_trans HG2.out hg3)
  have HB := Lib.hid hB
  clear hd3 hg3 hcur hc hB HD2
  go_wp2_with fail
  refine (pick_any w0 _ G nb c _ a _ HD3.out (by omega)).mono ?_
  rintro e w4 ⟨y4, rfl, hy4, hg4, hd4⟩
  have HG4 := Lib.hid (grown_trans HG3.out hg4)
  have HB4 := Lib.hid (HB.out.kept hg4 (by omega))
  have HD4 := Lib.hid hd4
  have hz4 := HG4.out.size
  clear hd4 hg4 HB HG3 HD3 hy4
  obtain ⟨g0, hA0, hg0, hrb0⟩ := HB4.out.row (r := 0) (by omega)
  by_cases hy0 : y4 = 0
  · subst hy0
    obtain ⟨t1, _, _⟩ := HB4.out.cellTop (r := 0) (by omega)
    rw [hlm 0 (by omega), hA0] at t1
    have t2 := hrb0.cell (i := 0) (by rw [hlm 0 (by omega)]; omega)
    have t3 := hrb0.frozen 0
    have hIT := HB4.out.num (r := 0) (k := 0) (by omega) hA0 (by rw [hlm 0 (by omega)]; omega) 31
    have hll : (l.set 0 ((l.getD 0 []).set 0 31)).length = n := by rw [List.length_set]; exact hl
    have hlens := lens_set (K := R) (r := 0) (y := (l.getD 0 []).set 0 31) hl hlm (by omega) (by rw [List.length_set, hlm 0 (by omega)]; omega)
    have HIT := Lib.hid hIT
    have HLL := Lib.hid hll
    have HLENS := Lib.hid hlens
    have HGS := Lib.hid (grown_set HG4.out (show w.heap.size ≤ g0 by omega) (k := 0) (.int .i64 31))
    have HDS := Lib.hid (HD4.out.grown (grown_set_any w4 g0 0 (.int .i64 31)) (fun i e => by cases e; omega))
    have p1 : 0 < n := by omega
    clear hrb0 hIT hll hlens hA0 hlm hl
    go_wp2
    go_ret
    exact ⟨_, _, A, C, l.set 0 ((l.getD 0 []).set 0 31), _, rfl, hG2, HIT.out, HGS.out, HDS.out, by omega, by rw [HLL.out]; omega, by rw [HLL.out]; omega, HLENS.out⟩
  · clear hrb0 hA0 hg0
    by_cases hy1 : y4 = 1
    · subst hy1
      clear hlm hl HB4
      have hnp : IntKind.i64.wrap ((n : Int) + 1) = ((n + 1 : Nat) : Int) := (IntWalk.i64_in _ ⟨by omega, by omega⟩).trans (by omega)
      have E5 := l91Table_any w0 w4 G nb c _ n (n + 1) a HD4.out (by omega) (by omega) (by omega) (by omega)
      rw [show ((n + 1 : Nat) : Int) = (n : Int) + 1 by omega] at E5
      replace E5 := Lib.hid E5
      go_wp2_with fail
      refine (E5.out).mono ?_
      rintro e w5 ⟨v, l5, A5, C5, p5, rfl, hl, hlm, hg5, hd5, hp5, hB⟩
      have HL := Lib.hid hl
      have HLM := Lib.hid hlm
      have HIT := Lib.hid hB
      have HG5 := Lib.hid (grown_trans HG4.out hg5)
      have HD5 := Lib.hid hd5
      have hG4 := HG4.out.size
      clear hl hlm hB hg5 hd5
      go_wp2
      go_ret
      exact ⟨_, _, A5, C5, l5, _, rfl, hG4, HIT.out, HG5.out, HD5.out, by omega, by rw [HL.out]; omega, by rw [HL.out]; omega, fun j hj => by rw [HLM.out j (by rw [← HL.out]; exact hj)]; omega⟩
    · have h1 : ((y4 : Int) == 0) = false := by simp; omega
      have h2 : ((y4 : Int) == 1) = false := by simp; omega
      have HL := Lib.hid hl
      have HLM := Lib.hid hlm
      clear hl hlm
      go_wp2
      go_ret
      exact ⟨_, _, A, C, l, _, rfl, hG2, HB4.out, HG4.out, HD4.out, by omega, by rw [HL.out]; omega, by rw [HL.out]; omega, fun j hj => by rw [HLM.out j (by rw [← HL.out]; exact hj)]; omega⟩

theorem len_num {l : List (List Int)} {r k : Nat} {z : Int} : ∀ j, j < l.length → ((l.set r ((l.getD r []).set k z)).getD j []).length = (l.getD j []).length := fun j hj => by
  by_cases ej : j = r
  · subst ej; simp [List.getD, hj]
  · simp [List.getD, List.getElem?_set_ne (Ne.symm ej)]

set_option maxRecDepth 100000 in
set_option maxHeartbeats 4000000 in
theorem drawValueCondense_any (a : Option Addr) (nb cb : Nat) (w : World) (hc : nb ≤ cb) (h63 : cb ≤ 9223372036854775807) (hb : BytR w a nb) :
    Calls Try.prog 16 #[.slice a nb cb] w fun e w' => ∃ a' cap l, e = .returned (.slice a' l.length cap) ∧ w.Since w.heap.size w' ∧ DrawnT w w' 5 5 a' l := by
  have E := Lib.hid (l6Open_any a nb cb w hc h63 hb)
  clear hb
  go_enter Try.func16, Try.ntmps16
  go_wp2_with fail
  refine (E.out).mono ?_
  rintro e w1 ⟨n', c', rfl, hs, hz, hd⟩
  have HD0 := Lib.hid hd
  have HS1 := Lib.hid hs
  have hz1 : w.heap.size < w1.heap.size := by omega
  clear hd hz hs
  go_wp2_with fail
  refine (l91SquareB_any w w1 w.heap.size n' c' 0 5 a HD0.out (by omega) (by omega) (by omega)).mono ?_
  rintro e w2 ⟨v, B, A, C, l, p0, rfl, hBw, hB, hg, hd2, hp, h1, h5, hl⟩
  obtain ⟨b, cp, cur, hv, hbb, _, _⟩ := hB.top (by omega)
  obtain ⟨n, hn⟩ : ∃ n, l.length = n := ⟨_, rfl⟩
  rw [hn] at hv h1 h5 hl
  subst hv
  obtain ⟨G, hG⟩ : ∃ G, w.heap.size = G := ⟨_, rfl⟩
  rw [hG] at hd2 hg ⊢
  have HGG := Lib.hid hG
  obtain ⟨W, hW⟩ : ∃ W : Nat → Nat, W = fun j => (l.getD j []).length := ⟨_, rfl⟩
  have HB := Lib.hid hB
  have HG0 := Lib.hid hg
  have HD := Lib.hid hd2
  have HN := Lib.hid hn
  have hWl : ∀ j, j < n → (l.getD j []).length = W j := fun j _ => by rw [hW]
  have hWb : ∀ j, j < n → 1 ≤ W j ∧ W j ≤ 6 := fun j hj => by rw [← hWl j hj]; exact hl j hj
  have HWL := Lib.hid hWl
  have HWB := Lib.hid hWb
  have hGB : G < B := by omega
  have hz2 := hg.size
  clear hB hg hd2 hn hl hWl hWb hW hG
  go_wp2
  go_loopg [5, 6] n (fun g i _ wr => ∃ j p L, j ≤ n ∧ g = n - j ∧ i = .int .i64 (j : Nat) ∧ List.length L = n ∧ (∀ q, q < n → (List.getD L q []).length = W q) ∧ BD B wr (.slice (some ⟨b, 0, none⟩) n cp) L A C ∧ w1.grownBy wr (some G) ∧ RD w wr G a n' c' 81 p ∧ p ≤ 1200 + 10 * j)
  case atStart => exact ⟨0, p0, l, Nat.zero_le _, rfl, rfl, HN.out, HWL.out, HB.out, HG0.out, HD.out, by omega⟩
  case round =>
    obtain ⟨j, p, L, hj, rfl, rfl, hL, hLW, hB, hg, hd, hpp⟩ := hrel
    clear HB HG0 HD HN HWL
    have HB := Lib.hid hB
    have HG0 := Lib.hid hg
    have HD := Lib.hid hd
    have HL := Lib.hid hL
    have HLW := Lib.hid hLW
    have hzr := hg.size
    clear hB hg hd hL hLW
    have HEND := Lib.hid (fun (W' : World) (L' : List (List Int)) (hL' : L'.length = n) (hW' : ∀ q, q < n → (L'.getD q []).length = W q) (hB' : BD B W' (.slice (some ⟨b, 0, none⟩) n cp) L' A C) (hg' : w1.grownBy W' (some G)) => show ∃ a' cap l, Ending.returned (Value.slice (some ⟨b, 0, none⟩) n cp) = .returned (.slice a' l.length cap) ∧ w.Since w.heap.size W' ∧ DrawnT w W' 5 5 a' l from by
      obtain ⟨a', cap', hv, hit⟩ := hB'.inT
      refine ⟨a', cap', L', by rw [hv], HS1.out.trans (since_grown hg' (by have := HGG.out; omega) HS1.out.size), ⟨by omega, by omega, fun q hq => ?_, hit.mono (by have := HS1.out.size; omega) (Nat.le_refl _)⟩⟩
      rw [hW' q (by omega)]
      exact HWB.out q (by omega))
    by_cases hjn : j < n
    · go_wp2_with fail
      refine (pick_any w _ G n' c' _ a _ HD.out (by omega)).mono ?_
      rintro e w3 ⟨y, rfl, hy, hg3, hd3⟩
      have HB3 := Lib.hid (HB.out.kept hg3 hGB)
      have HG3 := Lib.hid (grown_trans HG0.out hg3)
      have HD3 := Lib.hid hd3
      clear hg3 hd3
      by_cases hy0 : y = 0
      · subst hy0
        have HR := Lib.hid (HEND.out w3 L HL.out HLW.out HB3.out HG3.out)
        go_wp2
        go_ret
        exact HR.out
      · have hpos : 0 < y := by omega
        obtain ⟨m, hm⟩ : ∃ m, W j = m := ⟨_, rfl⟩
        have hmb := HWB.out j hjn
        rw [hm] at hmb
        have HM := Lib.hid hm
        clear hm HEND
        go_wp2
        go_loopg [6] m (fun g k wi => ∃ q p' L', q ≤ m ∧ g = m - q ∧ k = .int .i64 (q : Nat) ∧ List.length L' = n ∧ (∀ q, q < n → (List.getD L' q []).length = W q) ∧ BD B wi (.slice (some ⟨b, 0, none⟩) n cp) L' A C ∧ w1.grownBy wi (some G) ∧ RD w wi G a n' c' 81 p' ∧ p' ≤ p + 1 + q)
        case atStart => exact ⟨0, p + 1, L, Nat.zero_le _, rfl, rfl, HL.out, HLW.out, HB3.out, HG3.out, HD3.out, by omega⟩
        case round =>
          obtain ⟨q, p', L', hq, rfl, rfl, hL', hLW', hB', hg', hd', hpp'⟩ := hrel
          clear HB3 HG3 HD3 HB HG0 HD
          have HL' := Lib.hid hL'
          have HLW' := Lib.hid hLW'
          have HB := Lib.hid hB'
          have HG := Lib.hid hg'
          have HD := Lib.hid hd'
          obtain ⟨c1, c2, c3⟩ := hB'.cellTop (r := j) (by rw [hL']; exact hjn)
          obtain ⟨g, hA, hge, hrb⟩ := hB'.row (r := j) (by rw [hL']; exact hjn)
          have hlm : (L'.getD j []).length = m := by rw [hLW' j hjn, HM.out]
          rw [hA, hlm] at c1
          have hbne : b ≠ g := fun e => hB'.row_ne hrb e.symm
          have hz5 := hg'.size
          clear hL' hLW' hB' hg' hd' c2 c3
          by_cases hqm : q < m
          · have s1 := hrb.cell (i := q) (by rw [hlm]; exact hqm)
            have s2 := hrb.frozen q
            have hNum := Lib.hid (fun (W' : World) (z : Int) (h : BD B W' (.slice (some ⟨b, 0, none⟩) n cp) L' A C) => h.num (r := j) (g := g) (k := q) (by rw [HL'.out]; exact hjn) hA (by rw [hlm]; exact hqm) z)
            have hgB : G ≠ g := by omega
            have hGb : G ≠ b := by omega
            obtain ⟨z, hz⟩ : ∃ z, (L'.getD j []).getD q 0 = z := ⟨_, rfl⟩
            rw [hz] at s1
            clear hrb hlm hz
            by_cases hz0 : z = 0
            · subst hz0
              go_wp2
              go_region_held3 (fun w' => w'.cell? ⟨b, j, none⟩ = some (.slice (some ⟨g, 0, none⟩) m (C j)))
                (first | exact c1 | exact q1 | exact cell_set_far q1 (by show b ≠ g; omega))
                (first
                  | (go_at_call 59; refine (pick_any w _ G n' c' _ a _ (HD.out.later (World.Since.refl _ _).drew) (by omega)).mono ?_; rintro e w4 ⟨y4, rfl, hy4, hg4, hd4⟩; have hg4 := grown_undrew' hg4; have HB := Lib.hid (HB.out.kept hg4 hGB); have HG := Lib.hid (grown_trans HG.out hg4); have HD := Lib.hid hd4; have q1 := cell_grown c1 hg4 (show b ≠ G by omega); have k1 := cell_grown s1 hg4 (show g ≠ G by omega); have k2 : w4.frozen? ⟨g, q, none⟩ = false := (World.frozen?_of_block (hg4.block g (World.block_lt_of_cell? _ _ s1) (fun e => by injection e with e; omega))).trans s2; clear hg4 hd4))
              go_wp2
              have hlens := fun (z : Int) (x : Nat) (hx : x < n) => (len_num (l := L') (r := j) (k := q) (z := z) x (by rw [HL'.out]; exact hx)).trans (HLW'.out x hx)
              go_roundg (m - (q + 1))
              case measure => omega
              case rel => exact ⟨q + 1, _, L'.set j ((L'.getD j []).set q _), by omega, rfl, by go_num, by rw [List.length_set]; exact HL'.out, hlens _, hNum.out w4 _ HB.out, grown_set HG.out (show w1.heap.size ≤ g by omega) _, HD.out.grown (row := some g) (grown_set_any _ _ _ _) (fun i e => by cases e; omega), by omega⟩
            · have hzb : (z == 0) = false := by simpa using hz0
              go_wp2
              go_roundg (m - (q + 1))
              case measure => omega
              case rel => exact ⟨q + 1, p', L', by omega, rfl, by go_num, HL'.out, HLW'.out, HB.out, HG.out, HD.out, by omega⟩
          · have hqq : q = m := by omega
            subst hqq
            go_wp2
            go_roundg (n - (j + 1))
            case measure => omega
            case rel => exact ⟨j + 1, p', L', by omega, rfl, by go_num, HL'.out, HLW'.out, HB.out, HG.out, HD.out, by omega⟩
    · have hjj : j = n := by omega
      subst hjj
      have HR := Lib.hid (HEND.out wr L HL.out HLW.out HB.out HG0.out)
      go_wp2
      go_ret
      exact HR.out

end Go.Proofs.Ytkfondipmhjhjaa
end

section
/- The contracts of laws.sameInts and laws.sameRows. -/
namespace Go.Proofs.Ytkfondipmhjhjaa
open Go.RowKit Go.Deep

set_option maxHeartbeats 1000000 in
/-- Two slices that read as one list are equal. -/
theorem sameInts_same (a b : Option Addr) (ca cb n : Nat) (l : List Int) (w : World) (hn : l.length = n) (h63 : n ≤ 9223372036854775807) (ha : RowR w a l) (hb : RowR w b l) :
    Calls Try.prog 23 #[.slice a n ca, .slice b n cb] w fun e w' => e = .returned (.bool true) ∧ Drawn w w' := by
  have H := Lib.hid hn; clear hn
  go_enter Try.func23, Try.ntmps23
  go_wp2
  go_loopg [5] n (fun g i wr => ∃ k : Nat, k ≤ n ∧ g = n - k ∧ i = .int .i64 k ∧ Drawn w wr)
  case atStart => exact ⟨0, Nat.zero_le _, rfl, rfl, Drawn.refl w⟩
  case round =>
    obtain ⟨k, hk, rfl, rfl, hD⟩ := hrel
    by_cases hlt : k < n
    · obtain ⟨b1, o1, rfl, hc1⟩ := ha (by rw [H.out]; omega)
      obtain ⟨b2, o2, rfl, hc2⟩ := hb (by rw [H.out]; omega)
      have c1 := hc1 k (by rw [H.out]; exact hlt)
      have c2 := hc2 k (by rw [H.out]; exact hlt)
      obtain ⟨x, hx⟩ : ∃ x, x = l.getD k 0 := ⟨_, rfl⟩
      rw [← hx] at c1 c2
      rw [← hD.cell] at c1 c2
      clear hx hc1 hc2 ha hb
      go_wp2
      go_quiet (fail)
      go_wp2
      go_roundg (n - (k + 1))
      case measure => omega
      case rel => exact ⟨k + 1, by omega, rfl, by go_num, hD.trans (Drawn.mk _ _)⟩
    · go_wp2
      go_ret
      exact ⟨rfl, hD⟩

set_option maxHeartbeats 1000000 in
/-- Two slices of slices that read as one list of lists are equal. -/
theorem sameRows_same (a b : Option Addr) (ca cb n : Nat) (l : List (List Int)) (w : World) (hn : l.length = n) (h63 : n ≤ 9223372036854775807) (hl : ∀ r, r < l.length → (l.getD r []).length ≤ 9223372036854775807)
    (ha : MatR w a l) (hb : MatR w b l) :
    Calls Try.prog 40 #[.slice a n ca, .slice b n cb] w fun e w' => e = .returned (.bool true) ∧ Drawn w w' := by
  have H := Lib.hid hn; clear hn
  go_enter Try.func40, Try.ntmps40
  go_wp2
  go_loopg [5] n (fun g i wr => ∃ k : Nat, k ≤ n ∧ g = n - k ∧ i = .int .i64 k ∧ Drawn w wr)
  case atStart => exact ⟨0, Nat.zero_le _, rfl, rfl, Drawn.refl w⟩
  case round =>
    obtain ⟨k, hk, rfl, rfl, hD⟩ := hrel
    by_cases hlt : k < n
    · obtain ⟨b1, o1, A1, C1, rfl, hc1⟩ := ha (by rw [H.out]; omega)
      obtain ⟨b2, o2, A2, C2, rfl, hc2⟩ := hb (by rw [H.out]; omega)
      obtain ⟨c1, r1⟩ := hc1 k (by rw [H.out]; exact hlt)
      obtain ⟨c2, r2⟩ := hc2 k (by rw [H.out]; exact hlt)
      have hlk := hl k (by rw [H.out]; exact hlt)
      obtain ⟨x, hx⟩ : ∃ x, x = l.getD k [] := ⟨_, rfl⟩
      rw [← hx] at c1 c2 r1 r2 hlk
      obtain ⟨m, hm⟩ : ∃ m, x.length = m := ⟨_, rfl⟩
      rw [hm] at c1 c2 hlk
      have HM := Lib.hid hm
      clear hx hc1 hc2 ha hb hl hm
      have r1 := r1.drawn hD
      have r2 := r2.drawn hD
      rw [← hD.cell] at c1 c2
      have e1 := fun (p : Nat) => sameInts_same (A1 k) (A2 k) (C1 k) (C2 k) m x (wr.drewN p) HM.out hlk r1 r2
      have E1 := Lib.hid e1; clear e1 r1 r2
      go_wp2
      go_quiet ((go_at_call 23; exact Calls.quiet_of (E1.out _)))
      go_wp2
      go_roundg (n - (k + 1))
      case measure => omega
      case rel => exact ⟨k + 1, by omega, rfl, by go_num, hD.trans (Drawn.mk _ _)⟩
    · go_wp2
      go_ret
      exact ⟨rfl, hD⟩

end Go.Proofs.Ytkfondipmhjhjaa
end

section
/- The walk of laws.FnTurn. -/
namespace Go.Proofs.Ytkfondipmhjhjaa
open Go.RowKit Go.Deep

theorem szL_of {l : List (List Int)} {n k : Nat} (h1 : l.length ≤ n) (h2 : ∀ j, j < l.length → (l.getD j []).length ≤ k) (hnk : n * k + n ≤ 1048576) : szL l ≤ 1048576 := by
  have h3 := sumTo_le_mul l k h2 l.length (Nat.le_refl _)
  have h4 : l.length * k ≤ n * k := Nat.mul_le_mul_right _ h1
  have h5 : k * l.length = l.length * k := Nat.mul_comm _ _
  unfold szL
  omega
theorem rows_le {l : List (List Int)} (h : szL l ≤ 1048576) : ∀ r, r < l.length → (l.getD r []).length ≤ 9223372036854775807 := fun r hr => by
  have := row_le l hr
  unfold szL at h
  omega

theorem tab_self {l : List (List Int)} {n m : Nat} (hn : l.length = n) (hm : ∀ r, r < n → (l.getD r []).length = m) : tabF n m (at2 l) = l := by
  refine List.ext_getElem (by rw [tabF_length, hn]) fun r h1 h2 => ?_
  have hr : r < n := by rw [tabF_length] at h1; exact h1
  have e1 : (tabF n m (at2 l))[r] = (tabF n m (at2 l)).getD r [] := by simp [List.getD, h1]
  have e2 : l[r] = l.getD r [] := by simp [List.getD, h2]
  rw [e1, e2, tabF_get _ _ _ _ hr]
  refine List.ext_getElem (by rw [List.length_map, List.length_range, hm r hr]) fun k h3 h4 => ?_
  rw [List.getElem_map, List.getElem_range]
  unfold at2
  obtain ⟨x, hx⟩ : ∃ x, x = l.getD r [] := ⟨_, rfl⟩
  subst hx
  generalize l.getD r [] = x at *
  simp [List.getD, h4]

theorem turnL_turnL {l : List (List Int)} (hT : TabIn l) : turnL (turnL l) = l := by
  have h1 := hT.1
  have hw := hT.width
  have e0 : ((turnL l).getD 0 []).length = l.length := tabF_len _ _ _ _ hw.1
  have e1 : turnL (turnL l) = tabF l.length (l.getD 0 []).length fun k i => at2 (turnL l) i k := by
    show tabF ((turnL l).getD 0 []).length (turnL l).length _ = _
    rw [e0, turnL_length]
  rw [e1]
  have e2 : tabF l.length (l.getD 0 []).length (fun k i => at2 (turnL l) i k) = tabF l.length (l.getD 0 []).length (at2 l) := by
    unfold tabF
    refine List.map_congr_left fun r hr => List.map_congr_left fun k hk => ?_
    exact tabF_at _ _ _ _ _ (List.mem_range.1 hk) (List.mem_range.1 hr)
  rw [e2]
  exact tab_self rfl (fun r hr => hT.row hr)

end Go.Proofs.Ytkfondipmhjhjaa
end

section
/- The contracts of anyValue and squareValue over those of the roads. -/
namespace Go.Proofs.Ytkfondipmhjhjaa
open Go.RowKit Go.Deep

theorem since_of_map {W w' : World} {o : Obj} (hg : (W.alloc o).grownBy w' (some W.heap.size)) : W.Since W.heap.size w' := by
  have h0 := (World.Since.refl W.heap.size W).alloc (Nat.le_refl _) o
  have h1 := hg.size
  simp only [World.size_alloc] at h1
  exact ⟨hg.os.trans h0.os, hg.tape.trans h0.tape, hg.output.trans h0.output, by omega, fun k hk => (hg.block k (by simp; omega) (by intro e; injection e with e; omega)).trans (h0.block k hk)⟩

set_option maxHeartbeats 400000 in
theorem anyValue_of (rb : Nat) (a : Option Addr) (n cap : Nat) (x : Int) (W : World) (hr : RoadsAt W rb) (ht : ∀ W', W.grownBy W' (some rb) → Calls Try.prog 122 #[.slice a n cap] W' (fun e w' => e = .returned (.int .i64 x) ∧ W'.Since W'.heap.size w')) :
    Calls Try.prog 65 #[.map (some rb), .slice a n cap] W (fun e w' => e = .returned (.int .i64 x) ∧ W.grownBy w' (some rb) ∧ RoadsAt w' rb) := by
  have E := Lib.hid (roads_2 rb a n cap x W hr ht)
  clear hr ht
  go_enter Try.func65, Try.ntmps65
  go_wp2_with fail
  refine (E.out).mono ?_
  rintro e w' ⟨rfl, hg, hr⟩
  go_wp2
  go_ret
  exact ⟨rfl, hg, hr⟩

set_option maxHeartbeats 800000 in
theorem square_0 (a : Option Addr) (cap n : Nat) (l : List (List Int)) (x : Int) (w : World) (hn : l.length = n) (hsz : szL l ≤ 1048576) (hm : MatR w a l) (ht : sqB l = true → ∀ W', MatR W' a l → Calls Try.prog 120 #[.slice a n cap] W' (fun e w' => e = .returned (.int .i64 x) ∧ W'.Since W'.heap.size w')) :
    Calls Try.prog 60 #[.slice a n cap, .int .i64 0] w (SpecW w (sqB l) x) := by
  have E := isSquare_any a cap n l w hn hsz hm
  cases hs : sqB l with
  | false =>
    rw [hs] at E
    replace E := Lib.hid E
    clear hs hm hn hsz ht
    go_enter Try.func60, Try.ntmps60
    go_wp2_with fail
    refine (E.out).mono ?_
    rintro e w1 ⟨rfl, hd⟩
    have HD := Lib.hid hd
    clear hd
    go_wp2
    go_ret2
    exact ⟨rfl, HD.out⟩
  | true =>
    rw [hs] at E
    replace E := Lib.hid E
    have E2 := Lib.hid (fun (W : World) (hd : w.Since w.heap.size W) => roads_0 W.heap.size a n cap x (W.alloc (.map #[] 0)) (roads_made W) (fun W' hg => ht hs W' (hm.since (hd.trans (since_mono (since_of_map hg) hd.size)))))
    clear hs hm hn hsz ht
    have hmm := @run_makeMap Try.prog
    go_enter Try.func60, Try.ntmps60
    go_wp2_with fail
    refine (E.out).mono ?_
    rintro e w1 ⟨rfl, hd⟩
    have HD := Lib.hid hd
    clear hd
    go_wp2_with fail
    refine (E2.out w1 HD.out).mono ?_
    rintro e w2 ⟨rfl, hg, hr⟩
    have HS2 := Lib.hid (HD.out.trans (since_mono (since_of_map hg) HD.out.size))
    clear hg hr
    go_wp2
    go_ret2
    exact ⟨rfl, HS2.out⟩

set_option maxHeartbeats 400000 in
theorem implValueOrders_of (a : Option Addr) (cap n : Nat) (l : List (List Int)) (x : Int) (w : World) (hn : l.length = n) (hsz : szL l ≤ 1048576) (hm : MatR w a l) (ht : sqB l = true → ∀ W', MatR W' a l → Calls Try.prog 120 #[.slice a n cap] W' (fun e w' => e = .returned (.int .i64 x) ∧ W'.Since W'.heap.size w')) :
    Calls Try.prog 19 #[.slice a n cap] w (SpecW w (sqB l) x) := by
  have E := square_0 a cap n l x w hn hsz hm ht
  unfold SpecW at E ⊢
  generalize (if (sqB l) = true then x else 0) = y at E ⊢
  generalize (sqB l) = b at E ⊢
  replace E := Lib.hid E
  clear hn hsz hm ht
  go_enter Try.func19, Try.ntmps19
  go_wp2_with fail
  refine (E.out).mono ?_
  rintro e w1 ⟨rfl, hd⟩
  go_wp2
  go_ret2
  exact ⟨rfl, hd⟩

set_option maxHeartbeats 800000 in
theorem square_1 (a : Option Addr) (cap n : Nat) (l : List (List Int)) (x : Int) (w : World) (hn : l.length = n) (hsz : szL l ≤ 1048576) (hm : MatR w a l) (ht : sqB l = true → ∀ W', MatR W' a l → Calls Try.prog 121 #[.slice a n cap] W' (fun e w' => e = .returned (.int .i64 x) ∧ W'.Since W'.heap.size w')) :
    Calls Try.prog 60 #[.slice a n cap, .int .i64 1] w (SpecW w (sqB l) x) := by
  have E := isSquare_any a cap n l w hn hsz hm
  cases hs : sqB l with
  | false =>
    rw [hs] at E
    replace E := Lib.hid E
    clear hs hm hn hsz ht
    go_enter Try.func60, Try.ntmps60
    go_wp2_with fail
    refine (E.out).mono ?_
    rintro e w1 ⟨rfl, hd⟩
    have HD := Lib.hid hd
    clear hd
    go_wp2
    go_ret2
    exact ⟨rfl, HD.out⟩
  | true =>
    rw [hs] at E
    replace E := Lib.hid E
    have E2 := Lib.hid (fun (W : World) (hd : w.Since w.heap.size W) => roads_1 W.heap.size a n cap x (W.alloc (.map #[] 0)) (roads_made W) (fun W' hg => ht hs W' (hm.since (hd.trans (since_mono (since_of_map hg) hd.size)))))
    clear hs hm hn hsz ht
    have hmm := @run_makeMap Try.prog
    go_enter Try.func60, Try.ntmps60
    go_wp2_with fail
    refine (E.out).mono ?_
    rintro e w1 ⟨rfl, hd⟩
    have HD := Lib.hid hd
    clear hd
    go_wp2_with fail
    refine (E2.out w1 HD.out).mono ?_
    rintro e w2 ⟨rfl, hg, hr⟩
    have HS2 := Lib.hid (HD.out.trans (since_mono (since_of_map hg) HD.out.size))
    clear hg hr
    go_wp2
    go_ret2
    exact ⟨rfl, HS2.out⟩

set_option maxHeartbeats 800000 in
theorem square_2 (a : Option Addr) (cap n : Nat) (l : List (List Int)) (x : Int) (w : World) (hn : l.length = n) (hsz : szL l ≤ 1048576) (hm : MatR w a l) (ht : sqB l = true → ∀ W', MatR W' a l → Calls Try.prog 122 #[.slice a n cap] W' (fun e w' => e = .returned (.int .i64 x) ∧ W'.Since W'.heap.size w')) :
    Calls Try.prog 60 #[.slice a n cap, .int .i64 2] w (SpecW w (sqB l) x) := by
  have E := isSquare_any a cap n l w hn hsz hm
  cases hs : sqB l with
  | false =>
    rw [hs] at E
    replace E := Lib.hid E
    clear hs hm hn hsz ht
    go_enter Try.func60, Try.ntmps60
    go_wp2_with fail
    refine (E.out).mono ?_
    rintro e w1 ⟨rfl, hd⟩
    have HD := Lib.hid hd
    clear hd
    go_wp2
    go_ret2
    exact ⟨rfl, HD.out⟩
  | true =>
    rw [hs] at E
    replace E := Lib.hid E
    have E2 := Lib.hid (fun (W : World) (hd : w.Since w.heap.size W) => roads_2 W.heap.size a n cap x (W.alloc (.map #[] 0)) (roads_made W) (fun W' hg => ht hs W' (hm.since (hd.trans (since_mono (since_of_map hg) hd.size)))))
    clear hs hm hn hsz ht
    have hmm := @run_makeMap Try.prog
    go_enter Try.func60, Try.ntmps60
    go_wp2_with fail
    refine (E.out).mono ?_
    rintro e w1 ⟨rfl, hd⟩
    have HD := Lib.hid hd
    clear hd
    go_wp2_with fail
    refine (E2.out w1 HD.out).mono ?_
    rintro e w2 ⟨rfl, hg, hr⟩
    have HS2 := Lib.hid (HD.out.trans (since_mono (since_of_map hg) HD.out.size))
    clear hg hr
    go_wp2
    go_ret2
    exact ⟨rfl, HS2.out⟩

set_option maxHeartbeats 800000 in
theorem square_3 (a : Option Addr) (cap n : Nat) (l : List (List Int)) (x : Int) (ok : Bool) (w : World) (hn : l.length = n) (hsz : szL l ≤ 1048576) (hm : MatR w a l) (ht : sqB l = true → ∀ W', MatR W' a l → Calls Try.prog 123 #[.slice a n cap] W' (fun e w' => e = .returned (.tuple #[.int .i64 (if ok then x else 0), .bool ok]) ∧ W'.Since W'.heap.size w')) :
    Calls Try.prog 60 #[.slice a n cap, .int .i64 3] w (SpecW w (sqB l && ok) x) := by
  have E := isSquare_any a cap n l w hn hsz hm
  cases hs : sqB l with
  | false =>
    rw [hs] at E
    replace E := Lib.hid E
    clear hs hm hn hsz ht
    go_enter Try.func60, Try.ntmps60
    go_wp2_with fail
    refine (E.out).mono ?_
    rintro e w1 ⟨rfl, hd⟩
    have HD := Lib.hid hd
    clear hd
    go_wp2
    go_ret2
    exact ⟨rfl, HD.out⟩
  | true =>
    rw [hs] at E
    replace E := Lib.hid E
    have E2 := Lib.hid (fun (W : World) (hd : w.Since w.heap.size W) => roads_3 W.heap.size a n cap (if ok then x else 0) ok (W.alloc (.map #[] 0)) (roads_made W) (fun W' hg => ht hs W' (hm.since (hd.trans (since_mono (since_of_map hg) hd.size)))))
    clear hs hm hn hsz ht
    generalize hy : (if ok = true then x else 0) = y at E2
    have hmm := @run_makeMap Try.prog
    go_enter Try.func60, Try.ntmps60
    go_wp2_with fail
    refine (E.out).mono ?_
    rintro e w1 ⟨rfl, hd⟩
    have HD := Lib.hid hd
    clear hd
    go_wp2_with fail
    refine (E2.out w1 HD.out).mono ?_
    rintro e w2 ⟨rfl, hg, hr⟩
    have HS2 := Lib.hid (HD.out.trans (since_mono (since_of_map hg) HD.out.size))
    clear hg hr
    go_wp2
    go_ret2
    exact ⟨by rw [← hy]; cases ok <;> rfl, HS2.out⟩

set_option maxHeartbeats 400000 in
theorem implValueCondense_of (a : Option Addr) (cap n : Nat) (l : List (List Int)) (x : Int) (ok : Bool) (w : World) (hn : l.length = n) (hsz : szL l ≤ 1048576) (hm : MatR w a l) (ht : sqB l = true → ∀ W', MatR W' a l → Calls Try.prog 123 #[.slice a n cap] W' (fun e w' => e = .returned (.tuple #[.int .i64 (if ok then x else 0), .bool ok]) ∧ W'.Since W'.heap.size w')) :
    Calls Try.prog 17 #[.slice a n cap] w (SpecW w (sqB l && ok) x) := by
  have E := square_3 a cap n l x ok w hn hsz hm ht
  unfold SpecW at E ⊢
  generalize (if (sqB l && ok) = true then x else 0) = y at E ⊢
  generalize (sqB l && ok) = b at E ⊢
  replace E := Lib.hid E
  clear hn hsz hm ht
  go_enter Try.func17, Try.ntmps17
  go_wp2_with fail
  refine (E.out).mono ?_
  rintro e w1 ⟨rfl, hd⟩
  go_wp2
  go_ret2
  exact ⟨rfl, hd⟩

end Go.Proofs.Ytkfondipmhjhjaa
end

section
/- The contracts of sumOfOrders, valueByOrders and ValueOrders. -/
namespace Go.Proofs.Ytkfondipmhjhjaa
open Go.RowKit Go.Deep

/-- The columns so far, in a row of n. -/
def ColsAt (w : World) (g n : Nat) (cs : List Nat) : Prop := w.ownsRow 0 3 1 (.slice (some ⟨g, 0, none⟩) cs.length n) cs.length ((ints cs).map (Value.int .i64))
theorem ColsAt.init {w : World} {g n : Nat} {cs : List Nat} {k : Nat} (h : ColsAt w g n (cs ++ [k])) : ColsAt w g n cs := by
  unfold ColsAt at h ⊢
  rw [show (cs ++ [k]).length = cs.length + 1 by simp] at h
  refine ⟨by simp [ints], ?_⟩
  rcases h.2 with ⟨h', _⟩ | ⟨g', cap', cur, h', hb, hg, hle, hm, hs, ht⟩
  · simp at h'
  · simp only [Value.slice.injEq, Option.some.injEq, Addr.mk.injEq, and_true, true_and] at h'
    obtain ⟨rfl, rfl⟩ := h'
    refine .inr ⟨g, n, cur, rfl, hb, hg, by omega, hm, hs, ?_⟩
    have e := congrArg (List.take cs.length) ht
    rw [List.take_take, Nat.min_eq_left (by omega)] at e
    rw [Nat.mul_one, e]
    simp [ints]
theorem ColsAt.row {w : World} {g n : Nat} {cs : List Nat} (h : ColsAt w g n cs) : RowR w (some ⟨g, 0, none⟩) (ints cs) := fun _ =>
  ⟨g, 0, rfl, fun i hi => by
    have e := World.ownsRow.cellAt h i (by rw [ints_length] at hi; omega)
    rw [Nat.zero_add, e, List.getElem?_map]
    simp [List.getD, hi]⟩
theorem ColsAt.kept {w w' : World} {g n : Nat} {cs : List Nat} (h : ColsAt w g n cs) (hs : w.Since w.heap.size w') : ColsAt w' g n cs := World.ownsRow.kept h (grown_of_since (row := none) hs) (by simp [Value.ownBlock])
theorem ints_snoc (cs : List Nat) (k : Nat) : (ints (cs ++ [k])).map (Value.int .i64) = (ints cs).map (Value.int .i64) ++ [.int .i64 (k : Int)] := by simp [ints]

set_option maxRecDepth 100000 in
set_option maxHeartbeats 4000000 in
theorem sumOfOrders_any (a : Option Addr) (cap n : Nat) (l : List (List Int)) (g : Nat) (hn : l.length = n) (hT : TabIn l) (hw : (l.getD 0 []).length = n) : ∀ (m : Nat) (cs : List Nat) (W : World), cs.length + m = n → (∀ c ∈ cs, c < n) → ColsAt W g n cs → (∀ W', W.grownBy W' (some g) → MatR W' a l) →
    Calls Try.prog 131 #[.slice a n cap, .slice (some ⟨g, 0, none⟩) cs.length n] W fun e w' => e = .returned (.int .i64 (ordS l n m cs)) ∧ W.grownBy w' (some g) ∧ ColsAt w' g n cs := by
  have h6 := hT.2.1
  rw [hn] at h6
  intro m
  induction m with
  | zero =>
    intro cs W hl hc hcols hmat
    have hx : cs.length = n := by omega
    have E := orderedProduct_any a cap n l g n cs W hn hT hw (hmat W (World.grownBy.refl _ _)) hx hc (Nat.le_refl _) (by omega) hcols.row
    rw [hx]
    replace E := Lib.hid E
    have HC := Lib.hid hcols
    clear hmat hcols hl hc hx
    go_enter Try.func131, Try.ntmps131
    go_wp2_with fail
    refine (E.out).mono ?_
    rintro e w1 ⟨rfl, hs⟩
    have HK := HC.out.kept hs
    go_wp2
    go_ret
    exact ⟨rfl, grown_of_since hs, HK⟩
  | succ m ih =>
    intro cs W hl hc hcols hmat
    obtain ⟨i3, hi3⟩ := info3_parts
    have HJ := Lib.hid hi3
    have hbd := fun q (hq : q ≤ n) => ordP_bd (l := l) (n := n) (m := m) (cs := cs) h6 (fun i j hi hj => hT.at (by omega) (by omega)) hl hc hq
    have hb6 := b6_le (m + 1) (by omega)
    have hb6' : b6 (m + 1) = 6 * b6 m := rfl
    rw [ordS_succ]
    obtain ⟨F, hF⟩ : ∃ F : Nat → Int, F = fun k => if k ∈ cs then 0 else ordS l n m (cs ++ [k]) := ⟨_, rfl⟩
    simp only [← hF] at hbd ⊢
    have hd : cs.length < n := by omega
    have hne : ((cs.length : Int) == (n : Int)) = false := by simp; omega
    have HIH := Lib.hid (fun (k : Nat) (hk : k < n) (V : World) (h1 : ColsAt V g n (cs ++ [k])) (h2 : ∀ W', V.grownBy W' (some g) → MatR W' a l) => ih (cs ++ [k]) V (by simp; omega) (fun c h => by
      rcases List.mem_append.1 h with h | h
      · exact hc c h
      · simp at h; omega) h1 h2)
    have HIN := Lib.hid (fun (k : Nat) (V : World) (h1 : ColsAt V g n cs) => contains_any (some ⟨g, 0, none⟩) n cs.length (ints cs) k V (ints_length cs) (by omega) h1.row)
    have HM := Lib.hid hmat
    have HC := Lib.hid hcols
    have HF := Lib.hid hF
    have HB := Lib.hid hbd
    have HMEM : ∀ k : Nat, ((k : Int) ∈ ints cs) ↔ k ∈ cs := fun k => by
      simp only [ints, List.mem_map]
      constructor
      · rintro ⟨c, h1, h2⟩
        have : c = k := by omega
        exact this ▸ h1
      · exact fun h => ⟨k, h, rfl⟩
    have HME := Lib.hid HMEM
    obtain ⟨d, hdd⟩ : ∃ d, d = cs.length := ⟨_, rfl⟩
    have HD := Lib.hid hdd
    rw [← hdd] at hd hne ⊢
    simp only [← hdd] at HIN
    clear ih hmat hcols hF hbd hc hi3 HMEM hdd hT hw hn
    go_enter Try.func131, Try.ntmps131
    go_wp2
    go_loopg [5, 6, 17] n (fun q s _ i wr => ∃ k : Nat, k ≤ n ∧ q = n - k ∧ i = .int .i64 k ∧ s = .int .i64 (sumN F k) ∧ W.grownBy wr (some g) ∧ ColsAt wr g n cs)
    case atStart => exact ⟨0, Nat.zero_le _, rfl, rfl, rfl, World.grownBy.refl _ _, HC.out⟩
    case round =>
      obtain ⟨k, hk, rfl, rfl, rfl, hG, hCo⟩ := hrel
      obtain ⟨s0, hs0⟩ : ∃ s, s = sumN F k := ⟨_, rfl⟩
      have e : sumN F (k + 1) = s0 + F k := by rw [hs0]; rfl
      rw [← hs0]
      by_cases hlt : k < n
      · have hsb := HB.out (k + 1) (by omega)
        rw [e] at hsb
        have E1 := HIN.out k wr hCo
        have HE := Lib.hid e
        have HG := Lib.hid hG
        have HCo := Lib.hid hCo
        clear e hs0 hG
        by_cases hmem : k ∈ cs
        · rw [decide_eq_true ((HME.out k).2 hmem)] at E1
          replace E1 := Lib.hid E1
          have hF0 : F k = 0 := by rw [HF.out]; exact if_pos hmem
          clear hCo
          go_wp2_with fail
          refine (E1.out).mono ?_
          rintro e w' ⟨rfl, rfl⟩
          go_wp2
          go_roundg (n - (k + 1))
          case measure => omega
          case rel => exact ⟨k + 1, by omega, rfl, by go_num, by rw [HE.out, hF0]; simp, HG.out, HCo.out⟩
        · rw [decide_eq_false (fun h => hmem ((HME.out k).1 h))] at E1
          replace E1 := Lib.hid E1
          obtain ⟨f2, hf2⟩ : ∃ f, f = F k := ⟨_, rfl⟩
          rw [← hf2] at hsb
          have hF0 : f2 = ordS l n m (cs ++ [k]) := by rw [hf2, HF.out]; exact if_neg hmem
          have hws : IntKind.i64.wrap (s0 + f2) = s0 + f2 := IntWalk.i64_in _ ⟨by omega, by omega⟩
          have HH := Lib.hid hf2
          have EI := fun (V : World) (h1 : ColsAt V g n (cs ++ [k])) (h2 : V.heap.size ≥ 0 ∧ W.grownBy V (some g)) => HIH.out k hlt V h1 (fun W' hW' => HM.out W' (h2.2.trans hW'))
          rw [show (cs ++ [k]).length = d + 1 by rw [HD.out]; simp, ← hF0] at EI
          replace EI := Lib.hid EI
          have hown : wr.ownsRow 0 3 1 (.slice (some ⟨g, 0, none⟩) d n) d ((ints cs).map (Value.int .i64)) := by rw [HD.out]; exact hCo
          have HOWN := Lib.hid hown
          clear hf2 hsb hF0 hCo hown
          go_wp2_with (first
            | (go_at_call 141; refine (E1.out).mono ?_; rintro e w' ⟨rfl, rfl⟩)
            | (at_builtin; (refine wpList_append_fits _ rfl _ _ 28 rfl 0 3 i3 1 Try.underlying28 HJ.out.1 HJ.out.2.2.1 g d n ((ints cs).map (Value.int .i64)) rfl (HOWN.out.alloc _) ⟨wr.heap.size, 0, none⟩ 1 1 [.int .i64 k] rfl rfl (cell_one_at _ _ _ rfl) (fun x hx => by simp at hx; subst hx; rfl) (by omega) ?_); intro w1 hown' hgrow; have hc1 : ColsAt w1 g n (cs ++ [k]) := (by unfold ColsAt; rw [ints_snoc, show (cs ++ [k]).length = d + 1 by rw [HD.out]; simp]; exact hown'); have hg1 : W.grownBy w1 (some g) := HG.out.trans ((World.grownBy_alloc wr _ _).trans hgrow); clear hown' hgrow; have HC1 := Lib.hid hc1; have HG1 := Lib.hid hg1; clear hc1 hg1)
            | (go_at_call 131; refine (EI.out w1 HC1.out ⟨Nat.zero_le _, HG1.out⟩).mono ?_; rintro e w2 ⟨rfl, hg2, hc2⟩; have HG2 := Lib.hid (HG1.out.trans hg2); have HC2 := Lib.hid hc2.init; clear hg2 hc2))
          go_roundg (n - (k + 1))
          case measure => omega
          case rel => exact ⟨k + 1, by omega, rfl, by go_num, by rw [HE.out, ← HH.out], HG2.out, HC2.out⟩
      · have hqn : n = k := by omega
        subst hqn
        go_wp2
        go_ret
        exact ⟨by rw [hs0]; rfl, hG, hCo⟩

theorem since_fresh {W w1 w2 : World} (h : W.grownBy w1 none) (h2 : w1.grownBy w2 (some W.heap.size)) : W.Since W.heap.size w2 :=
  ⟨h2.os.trans h.os, h2.tape.trans h.tape, h2.output.trans h.output, Nat.le_trans h.size h2.size, fun k hk => (h2.block k (by have := h.size; omega) (by intro e; injection e with e; omega)).trans (h.block k hk (by simp))⟩

set_option maxRecDepth 100000 in
set_option maxHeartbeats 1000000 in
theorem byOrders_any (a : Option Addr) (cap n : Nat) (l : List (List Int)) (w : World) (hn : l.length = n) (hT : TabIn l) (hw : (l.getD 0 []).length = n) (hm : MatR w a l) :
    Calls Try.prog 120 #[.slice a n cap] w fun e w' => e = .returned (.int .i64 (ordF l n n 0)) ∧ w.Since w.heap.size w' := by
  have h6 := hT.2.1
  rw [hn] at h6
  obtain ⟨i3, hi3⟩ := info3_parts
  have HJ := Lib.hid hi3
  have E := fun (V : World) (hc : ColsAt V w.heap.size n []) (hg : w.grownBy V none) => sumOfOrders_any a cap n l w.heap.size hn hT hw n [] V (by simp) (by simp) hc (fun W' hW' => hm.since (since_fresh hg hW'))
  rw [ordS_all l n h6] at E
  replace E := Lib.hid E
  clear hi3 hn hT hw hm
  go_enter Try.func120, Try.ntmps120
  go_wp2_with (first
    | (at_make; (refine wpList_make_own _ rfl _ _ 28 rfl 0 3 i3 (.int .i64 0) 1 Try.underlying28 HJ.out.1 HJ.out.2.1 HJ.out.2.2.1 .i64 .i64 n n rfl rfl rfl (by rw [HJ.out.2.2.2]; omega) (by unfold maxLen; omega) (Nat.zero_le _) ?_); intro w1 hown hgrow; have HO := Lib.hid (show ColsAt w1 w.heap.size n [] from hown); have HG := Lib.hid hgrow; clear hown hgrow)
    | (go_at_call 131; refine (E.out w1 HO.out HG.out).mono ?_; rintro e w2 ⟨rfl, hg2, hc2⟩; have HS := Lib.hid (since_fresh HG.out hg2); clear hg2 hc2))
  go_ret
  exact ⟨rfl, HS.out⟩

theorem implValueOrders_any (a : Option Addr) (cap n : Nat) (l : List (List Int)) (w : World) (hn : l.length = n) (hsz : szL l ≤ 1048576) (hm : MatR w a l) :
    Calls Try.prog 19 #[.slice a n cap] w (SpecW w (sqB l) (ordF l n n 0)) :=
  implValueOrders_of a cap n l (ordF l n n 0) w hn hsz hm fun hs W' hm' => by
    obtain ⟨hT, hw⟩ := sqB_of hs
    exact byOrders_any a cap n l W' hn hT (by rw [← hw, hn]) hm'

end Go.Proofs.Ytkfondipmhjhjaa
end

section
/- A square times its other: the pure side. -/
namespace Go.Proofs.Ytkfondipmhjhjaa
open Go.RowKit Go.Deep

/-- Row r first. -/
def mv (r i : Nat) : Nat := if i = 0 then r else if i ≤ r then i - 1 else i
theorem mv_zero (i : Nat) : mv 0 i = i := by unfold mv; repeat (first | split | omega)
theorem mv_succ (r i : Nat) : ex r (r + 1) (mv r i) = mv (r + 1) i := by unfold mv ex; repeat (first | split | omega)
theorem mv_skip (r i : Nat) : mv r (i + 1) = skip r i := by unfold mv skip; repeat (first | split | omega)
theorem dt_mv {n : Nat} : ∀ (r : Nat) (f : Nat → Nat → Int), r < n → dt n (fun i j => f (mv r i) j) = sn r * dt n f
  | 0, f, _ => by
    rw [sn_zero, Int.one_mul]
    exact dt_congr n fun i j _ _ => by rw [mv_zero]
  | r + 1, f, h => by
    have e : (fun i j => f (mv (r + 1) i) j) = fun i j => (fun i j => f (ex r (r + 1) i) j) (mv r i) j := by
      funext i j
      show _ = f (ex r (r + 1) (mv r i)) j
      rw [mv_succ]
    rw [e, dt_mv r (fun i j => f (ex r (r + 1) i) j) (by omega), dt_exR f (by omega) (by omega) h, sn_succ]
    rw [Int.mul_neg, Int.neg_mul]
/-- By row r. -/
theorem dt_row {n r : Nat} (f : Nat → Nat → Int) (h : r < n + 1) : dt (n + 1) f = sumN (fun k => f r k * (sn (r + k) * dt n (fun i j => f (skip r i) (skip k j)))) (n + 1) := by
  have e := dt_mv r f h
  have e2 : sn r * (sn r * dt (n + 1) f) = dt (n + 1) f := by rw [← Int.mul_assoc, sn_sq, Int.one_mul]
  rw [← e2, ← e, dt_succ, ← sumN_mul]
  refine sumN_congr _ fun k _ => ?_
  have e3 : dr k (fun i j => f (mv r i) j) = fun i j => f (skip r i) (skip k j) := by
    funext i j
    show f (mv r (i + 1)) (skip k j) = _
    rw [mv_skip]
  rw [e3, sn_add]
  show sn r * (sn k * (f (mv r 0) k * _)) = _
  have e4 : mv r 0 = r := rfl
  rw [e4]
  grind
/-- The numbers of row s with the signed minors of row r. -/
theorem dt_alien {n r s : Nat} (f : Nat → Nat → Int) (hr : r < n + 1) (hs : s < n + 1) : sumN (fun k => f s k * (sn (r + k) * dt n (fun i j => f (skip r i) (skip k j)))) (n + 1) = if s = r then dt (n + 1) f else 0 := by
  by_cases e : s = r
  · subst e
    rw [if_pos rfl, ← dt_row f hs]
  · rw [if_neg e, ← dt_sameR (n := n + 1) (setR f r (f s)) (p := s) (q := r) e hs hr (fun j _ => by unfold setR; rw [if_neg e, if_pos rfl]), dt_row _ hr]
    refine sumN_congr _ fun k _ => ?_
    have e3 : (fun i j => setR f r (f s) (skip r i) (skip k j)) = fun i j => f (skip r i) (skip k j) := by
      funext i j
      unfold setR
      rw [if_neg (by unfold skip; split <;> omega)]
    rw [e3]
    unfold setR
    rw [if_pos rfl]
theorem othF_dt {l : List (List Int)} {n i k : Nat} (hT : TabIn l) (hn : l.length = n) (hw : (l.getD 0 []).length = n) (hi : i < n) (hk : k < n) : othF l n i k = sn (k + i) * dt (n - 1) (fun a b => at2 l (skip k a) (skip i b)) := by
  have h6 := hT.2.1
  unfold othF
  rw [sg_sn, ordF_all _ (by omega), Nat.add_comm i k]
  congr 1
  exact dt_congr _ fun a b ha hb => partL_but hn hw (by omega) hk hi (by omega) (by omega)
theorem other_left {l : List (List Int)} {n i k : Nat} (hT : TabIn l) (hn : l.length = n) (hw : (l.getD 0 []).length = n) (hi : i < n) (hk : k < n) :
    sumN (fun j => at2 l i j * othF l n j k) n = if i = k then dt n (at2 l) else 0 := by
  obtain ⟨m, rfl⟩ : ∃ m, n = m + 1 := ⟨n - 1, by omega⟩
  rw [← dt_alien (at2 l) hk hi]
  exact sumN_congr _ fun j hj => by rw [othF_dt hT hn hw hj hk]; rfl
theorem other_right {l : List (List Int)} {n i k : Nat} (hT : TabIn l) (hn : l.length = n) (hw : (l.getD 0 []).length = n) (hi : i < n) (hk : k < n) :
    sumN (fun j => othF l n i j * at2 l j k) n = if i = k then dt n (at2 l) else 0 := by
  obtain ⟨m, rfl⟩ : ∃ m, n = m + 1 := ⟨n - 1, by omega⟩
  have h := dt_alien (fun a b => at2 l b a) (r := i) (s := k) hi hk
  rw [dt_turn] at h
  have e : (if i = k then dt (m + 1) (at2 l) else 0) = if k = i then dt (m + 1) (at2 l) else 0 := by
    by_cases e : i = k
    · rw [if_pos e, if_pos e.symm]
    · rw [if_neg e, if_neg (fun h => e h.symm)]
  rw [e, ← h]
  refine sumN_congr _ fun j hj => ?_
  rw [othF_dt hT hn hw hi hj, Nat.add_comm j i, Int.mul_comm]
  show at2 l j k * _ = at2 l j k * (sn (i + j) * dt m (fun a b => at2 l (skip j b) (skip i a)))
  rw [← dt_turn m (fun a b => at2 l (skip j b) (skip i a))]
  rfl
theorem othF_bd {l : List (List Int)} {n i k : Nat} (hT : TabIn l) (hn : l.length = n) (hw : (l.getD 0 []).length = n) (hi : i < n) (hk : k < n) : -10000000000 ≤ othF l n i k ∧ othF l n i k ≤ 10000000000 := by
  have h6 := hT.2.1
  rw [othF_dt hT hn hw hi hk, ← sg_sn]
  refine sg_bd ?_
  have hb := dt_bd (n - 1) (fun a b => at2 l (skip k a) (skip i b)) (by omega) (fun a b ha hb => hT.at (by have := skip_bd (k := k) ha; omega) (by have := skip_bd (k := i) hb; omega))
  have hB : bdN (n - 1) ≤ 10000000000 := by
    have : n - 1 ≤ 5 := by omega
    match n - 1, this with
    | 0, _ => decide
    | 1, _ => decide
    | 2, _ => decide
    | 3, _ => decide
    | 4, _ => decide
    | 5, _ => decide
  omega
theorem rec_tabF {n m : Nat} (f : Nat → Nat → Int) (hn : 1 ≤ n ∧ n ≤ 6) (hm : 1 ≤ m ∧ m ≤ 6) : Rec (tabF n m f) := by
  have h0 : ((tabF n m f).getD 0 []).length = m := tabF_len _ _ _ _ (by omega)
  exact ⟨by rw [tabF_length]; omega, by rw [tabF_length]; omega, by rw [h0]; exact hm, fun hr => by rw [h0]; rw [tabF_length] at hr; exact tabF_len _ _ _ _ hr⟩
structure OtherM (l M : List (List Int)) (n : Nat) (v : Int) : Prop where
  len : M.length = n
  wid : (M.getD 0 []).length = n
  rec1 : Rec M
  b1 : ∀ i j k, i < n → j < n → k < (M.getD 0 []).length → -1000000000000 ≤ at2 l i j * at2 M j k ∧ at2 l i j * at2 M j k ≤ 1000000000000
  b2 : ∀ i j k, i < n → j < n → k < (l.getD 0 []).length → -1000000000000 ≤ at2 M i j * at2 l j k ∧ at2 M i j * at2 l j k ≤ 1000000000000
  l1 : (makeL l M).length = n
  l2 : (makeL M l).length = n
  w1 : ((makeL l M).getD 0 []).length = n
  w2 : ((makeL M l).getD 0 []).length = n
  r1 : Rec (makeL l M)
  r2 : Rec (makeL M l)
  e1 : ∀ i k, i < n → k < n → at2 (makeL l M) i k = if i = k then v else 0
  e2 : ∀ i k, i < n → k < n → at2 (makeL M l) i k = if i = k then v else 0
theorem otherM_of {l : List (List Int)} {n : Nat} (h : sqB l = true) (hn : l.length = n) : OtherM l (tabF n n (othF l n)) n (ordF l n n 0) := by
  obtain ⟨hT, hw⟩ := sqB_of h
  have h1 := hT.1
  have h6 := hT.2.1
  have hwn : (l.getD 0 []).length = n := by omega
  have hl : (tabF n n (othF l n)).length = n := tabF_length _ _ _
  have hmw : ((tabF n n (othF l n)).getD 0 []).length = n := tabF_len _ _ _ _ (by omega)
  have hat : ∀ i j, i < n → j < n → at2 (tabF n n (othF l n)) i j = othF l n i j := fun i j hi hj => tabF_at _ _ _ i j hi hj
  have hp : ∀ i j k, i < n → j < n → k < n → -1000000000000 ≤ at2 l i j * othF l n j k ∧ at2 l i j * othF l n j k ≤ 1000000000000 := fun i j k hi hj hk => by
    have b := hT.at (i := i) (k := j) (by omega) (by omega)
    have c := othF_bd hT hn hwn hj hk
    have := mul_bdB b.1 b.2 c.1 c.2
    omega
  have hp2 : ∀ i j k, i < n → j < n → k < n → -1000000000000 ≤ othF l n i j * at2 l j k ∧ othF l n i j * at2 l j k ≤ 1000000000000 := fun i j k hi hj hk => by
    have b := hT.at (i := j) (k := k) (by omega) (by omega)
    have c := othF_bd hT hn hwn hi hj
    have := mul_bdB b.1 b.2 c.1 c.2
    rw [Int.mul_comm]
    omega
  have g1 : 1 ≤ n ∧ n ≤ 6 := by omega
  have q1 : makeL l (tabF n n (othF l n)) = tabF n n fun i k => sumN (dotF l (tabF n n (othF l n)) i k) n := by unfold makeL; rw [hn, hl, hmw]
  have q2 : makeL (tabF n n (othF l n)) l = tabF n n fun i k => sumN (dotF (tabF n n (othF l n)) l i k) n := by unfold makeL; rw [hn, hl, hwn]
  refine ⟨hl, hmw, rec_tabF _ g1 g1, fun i j k hi hj hk => ?_, fun i j k hi hj hk => ?_, by rw [q1, tabF_length], by rw [q2, tabF_length], by rw [q1]; exact tabF_len _ _ _ _ (by omega), by rw [q2]; exact tabF_len _ _ _ _ (by omega), by rw [q1]; exact rec_tabF _ g1 g1, by rw [q2]; exact rec_tabF _ g1 g1, fun i k hi hk => ?_, fun i k hi hk => ?_⟩
  · rw [hmw] at hk
    rw [hat j k hj hk]
    exact hp i j k hi hj hk
  · rw [hwn] at hk
    rw [hat i j hi hj]
    exact hp2 i j k hi hj hk
  · rw [q1, show at2 (tabF n n fun i k => sumN (dotF l (tabF n n (othF l n)) i k) n) i k = sumN (dotF l (tabF n n (othF l n)) i k) n from tabF_at _ _ _ i k hi hk, ordF_all _ (by omega), ← other_left hT hn hwn hi hk]
    exact sumN_congr _ fun j hj => by show at2 l i j * at2 _ j k = _; rw [hat j k hj hk]
  · rw [q2, show at2 (tabF n n fun i k => sumN (dotF (tabF n n (othF l n)) l i k) n) i k = sumN (dotF (tabF n n (othF l n)) l i k) n from tabF_at _ _ _ i k hi hk, ordF_all _ (by omega), ← other_right hT hn hwn hi hk]
    exact sumN_congr _ fun j hj => by show at2 _ i j * at2 l j k = _; rw [hat i j hi hj]

end Go.Proofs.Ytkfondipmhjhjaa
end

section
/- Solutions by columns put in place of others (Cramer): the pure side. -/
namespace Go.Proofs.Ytkfondipmhjhjaa
open Go.RowKit Go.Deep

/-- Column k put in place. -/
def setC (f : Nat → Nat → Int) (k : Nat) (b : Nat → Int) (i j : Nat) : Int := if j = k then b i else f i j
theorem dt_setC {n k : Nat} (f : Nat → Nat → Int) (b : Nat → Int) (hk : k < n + 1) : dt (n + 1) (setC f k b) = sumN (fun j => b j * (sn (j + k) * dt n (fun a c => f (skip j a) (skip k c)))) (n + 1) := by
  rw [← dt_turn, dt_row _ hk]
  refine sumN_congr _ fun j _ => ?_
  have e1 : setC f k b j k = b j := if_pos rfl
  have e2 : (fun a c => setC f k b (skip j c) (skip k a)) = fun a c => f (skip j c) (skip k a) := by
    funext a c
    unfold setC
    rw [if_neg (by unfold skip; split <;> omega)]
  show setC f k b j k * (sn (k + j) * dt n (fun a c => setC f k b (skip j c) (skip k a))) = _
  rw [e1, e2, Nat.add_comm k j, ← dt_turn n (fun a c => f (skip j a) (skip k c))]
/-- Row i times the values of the columns put in place. -/
theorem dt_solve {n i : Nat} (f : Nat → Nat → Int) (b : Nat → Int) (hi : i < n) : sumN (fun k => f i k * dt n (setC f k b)) n = dt n f * b i := by
  obtain ⟨m, rfl⟩ : ∃ m, n = m + 1 := ⟨n - 1, by omega⟩
  have e1 : sumN (fun k => f i k * dt (m + 1) (setC f k b)) (m + 1) = sumN (fun k => sumN (fun j => b j * (f i k * (sn (j + k) * dt m (fun a c => f (skip j a) (skip k c))))) (m + 1)) (m + 1) :=
    sumN_congr _ fun k hk => by
      rw [dt_setC f b hk, ← sumN_mul]
      exact sumN_congr _ fun j _ => by grind
  rw [e1, sumN_comm]
  have e2 : sumN (fun j => sumN (fun k => b j * (f i k * (sn (j + k) * dt m (fun a c => f (skip j a) (skip k c))))) (m + 1)) (m + 1) = sumN (fun j => b j * (if i = j then dt (m + 1) f else 0)) (m + 1) :=
    sumN_congr _ fun j hj => by rw [sumN_mul, dt_alien f hj hi]
  rw [e2, sumN_one _ i (m + 1) hi (fun j _ hji => by rw [if_neg (fun h => hji h.symm), Int.mul_zero]), if_pos rfl, Int.mul_comm]

end Go.Proofs.Ytkfondipmhjhjaa
end

section
/- Minors around a block (Sylvester), and squares by those beside each other (Desnanot and Jacobi): the pure side. -/
namespace Go.Proofs.Ytkfondipmhjhjaa
open Go.RowKit Go.Deep

theorem dt_scal (a : Int) : ∀ p, dt p (fun i j => if i = j then a else 0) = pw a p
  | 0 => rfl
  | p + 1 => by
    rw [dt_corner _ (fun i _ => by rw [if_neg (by omega)]), if_pos rfl]
    show a * _ = a * pw a p
    rw [← dt_scal a p]
    congr 1
    exact dt_congr p fun i j _ _ => by
      by_cases e : i = j
      · rw [if_pos e, if_pos (by omega)]
      · rw [if_neg e, if_neg (by omega)]

/-- The value of the block and one row and one column more, over the block's. -/
def bord (n : Nat) (M : Nat → Nat → Int) (r s : Nat) : Int := M (n + r) (n + s) * dt n M - sumN (fun k => M (n + r) k * dt n (setC M k (fun i => M i (n + s)))) n
/-- What makes noughts at the right of the block. -/
def sylN (n : Nat) (M : Nat → Nat → Int) (i j : Nat) : Int := if j < n then (if i = j then 1 else 0) else if i < n then -(dt n (setC M i (fun q => M q j))) else if i = j then dt n M else 0

theorem sumN_split (f : Nat → Int) (n : Nat) : ∀ m, sumN f (n + m) = sumN f n + sumN (fun j => f (n + j)) m
  | 0 => by simp [sumN]
  | m + 1 => by
    show sumN f (n + m) + f (n + m) = sumN f n + (sumN (fun j => f (n + j)) m + f (n + m))
    rw [sumN_split f n m]; omega

theorem mul_sylN {n p : Nat} (M : Nat → Nat → Int) {i j : Nat} (hj : j < n + p) : mulF (n + p) M (sylN n M) i j = if j < n then M i j else (M i j * dt n M - sumN (fun k => M i k * dt n (setC M k (fun q => M q j))) n) := by
  unfold mulF
  by_cases hn : j < n
  · rw [if_pos hn, sumN_one _ j (n + p) hj (fun k _ hk => by unfold sylN; rw [if_pos hn, if_neg hk, Int.mul_zero])]
    unfold sylN; rw [if_pos hn, if_pos rfl, Int.mul_one]
  · rw [if_neg hn, sumN_split, sumN_one (fun q => M i (n + q) * sylN n M (n + q) j) (j - n) p (by omega) (fun k _ hk => by unfold sylN; rw [if_neg hn, if_neg (by omega), if_neg (by omega), Int.mul_zero])]
    rw [sumN_congr n (g := fun k => -(M i k * dt n (setC M k (fun q => M q j)))) (fun k hk => by unfold sylN; rw [if_neg hn, if_pos hk, Int.mul_neg]), sumN_neg]
    rw [show n + (j - n) = j by omega]
    unfold sylN
    rw [if_neg hn, if_neg hn, if_pos rfl]
    omega

theorem dt_sylN (n p : Nat) (M : Nat → Nat → Int) : dt (n + p) (sylN n M) = pw (dt n M) p := by
  rw [← dt_turn, dt_block p n _ (fun i j hi hj _ => by unfold sylN; rw [if_pos hi, if_neg (by omega)])]
  rw [dt_congr n (g := oneF) (fun i j hi hj => by
    unfold sylN oneF
    rw [if_pos hi]
    by_cases e : i = j
    · rw [if_pos e, if_pos e.symm]
    · rw [if_neg e, if_neg (fun h => e h.symm)]), dt_oneF, Int.one_mul, ← dt_scal]
  exact dt_congr p fun i j _ _ => by
    unfold sylN
    rw [if_neg (by omega), if_neg (by omega)]
    by_cases e : i = j
    · rw [if_pos e, if_pos (by omega)]
    · rw [if_neg e, if_neg (by omega)]

theorem dt_sylv (n p : Nat) (M : Nat → Nat → Int) : dt (n + p) M * pw (dt n M) p = dt n M * dt p (bord n M) := by
  rw [← dt_sylN n p M, ← dt_mul, dt_block p n _ (fun i j hi hj hp => by
    rw [mul_sylN M hp, if_neg (by omega), dt_solve M (fun q => M q j) hi, Int.mul_comm]; omega)]
  congr 1
  · exact dt_congr n fun i j _ hj => by rw [mul_sylN M (by omega), if_pos hj]
  · exact dt_congr p fun i j _ hj => by rw [mul_sylN M (by omega), if_neg (by omega)]; rfl

/-- One row and one column more. -/
theorem dt_bord {n : Nat} (M : Nat → Nat → Int) (r s : Nat) (h : dt n M ≠ 0) : bord n M r s = dt (n + 1) (fun i j => M (if i < n then i else n + r) (if j < n then j else n + s)) := by
  obtain ⟨F, hF⟩ : ∃ F : Nat → Nat → Int, F = fun i j => M (if i < n then i else n + r) (if j < n then j else n + s) := ⟨_, rfl⟩
  have e := dt_sylv n 1 F
  have e0 : dt n F = dt n M := dt_congr n fun i j hi hj => by rw [hF]; show M _ _ = _; rw [if_pos hi, if_pos hj]
  have e1 : dt 1 (bord n F) = bord n M r s := by
    rw [dt_one]
    unfold bord
    rw [e0]
    have a1 : F (n + 0) (n + 0) = M (n + r) (n + s) := by rw [hF]; show M _ _ = _; rw [if_neg (by omega), if_neg (by omega)]
    rw [a1]
    congr 1
    refine sumN_congr n fun k hk => ?_
    have a2 : F (n + 0) k = M (n + r) k := by rw [hF]; show M _ _ = _; rw [if_neg (by omega), if_pos hk]
    rw [a2]
    congr 1
    refine dt_congr n fun i j hi hj => ?_
    unfold setC
    have a3 : F i (n + 0) = M i (n + s) := by rw [hF]; show M _ _ = _; rw [if_pos hi, if_neg (by omega)]
    have a4 : F i j = M i j := by rw [hF]; show M _ _ = _; rw [if_pos hi, if_pos hj]
    rw [a4]
    by_cases e : j = k
    · rw [if_pos e, if_pos e]; exact a3
    · rw [if_neg e, if_neg e]
  rw [e0, e1] at e
  rw [← hF]
  have e2 : pw (dt n M) 1 = dt n M := by simp [pw]
  rw [e2, Int.mul_comm] at e
  exact (Int.eq_of_mul_eq_mul_left h e).symm

/-- The row ahead put behind n others. -/
def cyc (n i : Nat) : Nat := if i < n then i + 1 else if i = n then 0 else i
theorem cyc_succ (n i : Nat) : cyc (n + 1) i = cyc n (ex1 n i) := by unfold cyc ex1; repeat (first | split | omega)
theorem dt_cycC (N : Nat) : ∀ (n : Nat) (f : Nat → Nat → Int), n < N → dt N (fun i j => f i (cyc n j)) = sn n * dt N f
  | 0, f, _ => by
    rw [dt_congr N (g := f) (fun i j _ _ => by congr 1; unfold cyc; repeat (first | split | omega)), sn_zero, Int.one_mul]
  | n + 1, f, h => by
    have e := dt_ex1 n N (fun i j => f i (cyc n j)) h
    rw [dt_cycC N n f (by omega)] at e
    rw [dt_congr N (g := fun i j => f i (cyc n (ex1 n j))) (fun i j _ _ => by rw [cyc_succ]), e, sn_succ, Int.neg_mul]
theorem dt_cycR (N n : Nat) (f : Nat → Nat → Int) (h : n < N) : dt N (fun i j => f (cyc n i) j) = sn n * dt N f := by
  rw [← dt_turn, dt_cycC N n (fun i j => f j i) h, dt_turn]

/-- Squares by those beside each other, and the one in the middle. -/
theorem dt_dj (n : Nat) (f : Nat → Nat → Int) (h : dt n (fun i j => f (i + 1) (j + 1)) ≠ 0) :
    dt (n + 1) f * dt (n + 1) (fun i j => f (i + 1) (j + 1)) - dt (n + 1) (fun i j => f i (j + 1)) * dt (n + 1) (fun i j => f (i + 1) j) = dt n (fun i j => f (i + 1) (j + 1)) * dt (n + 2) f := by
  obtain ⟨M, hM⟩ : ∃ M : Nat → Nat → Int, M = fun i j => f (cyc n i) (cyc n j) := ⟨_, rfl⟩
  have e0 : dt n M = dt n (fun i j => f (i + 1) (j + 1)) := dt_congr n fun i j hi hj => by rw [hM]; show f _ _ = _; unfold cyc; rw [if_pos hi, if_pos hj]
  have e1 : dt (n + 2) M = dt (n + 2) f := by
    rw [hM, dt_cycR (n + 2) n (fun i j => f i (cyc n j)) (by omega), dt_cycC (n + 2) n f (by omega), ← Int.mul_assoc, sn_sq, Int.one_mul]
  have hne : dt n M ≠ 0 := by rw [e0]; exact h
  have ca : ∀ i, i < n + 1 → cyc n (if i < n then i else n + 0) = cyc n i := fun i hi => by
    split
    · rfl
    · congr 1; omega
  have cb : ∀ i, i < n + 1 → cyc n (if i < n then i else n + 1) = i + 1 := fun i hi => by unfold cyc; repeat (first | split | omega)
  have b00 : bord n M 0 0 = dt (n + 1) f := by
    rw [dt_bord M 0 0 hne, dt_congr (n + 1) (g := fun i j => f (cyc n i) (cyc n j)) (fun i j hi hj => by rw [hM]; show f _ _ = _; rw [ca i hi, ca j hj]), dt_cycR (n + 1) n (fun i j => f i (cyc n j)) (by omega), dt_cycC (n + 1) n f (by omega), ← Int.mul_assoc, sn_sq, Int.one_mul]
  have b11 : bord n M 1 1 = dt (n + 1) (fun i j => f (i + 1) (j + 1)) := by
    rw [dt_bord M 1 1 hne]
    exact dt_congr (n + 1) fun i j hi hj => by rw [hM]; show f _ _ = _; rw [cb i hi, cb j hj]
  have b01 : bord n M 0 1 = sn n * dt (n + 1) (fun i j => f i (j + 1)) := by
    rw [dt_bord M 0 1 hne, ← dt_cycR (n + 1) n (fun i j => f i (j + 1)) (by omega)]
    exact dt_congr (n + 1) fun i j hi hj => by rw [hM]; show f _ _ = _; rw [ca i hi, cb j hj]
  have b10 : bord n M 1 0 = sn n * dt (n + 1) (fun i j => f (i + 1) j) := by
    rw [dt_bord M 1 0 hne, ← dt_cycC (n + 1) n (fun i j => f (i + 1) j) (by omega)]
    exact dt_congr (n + 1) fun i j hi hj => by rw [hM]; show f _ _ = _; rw [cb i hi, ca j hj]
  have e := dt_sylv n 2 M
  rw [dt_two, b00, b11, b01, b10, e1, e0] at e
  have e2 : pw (dt n (fun i j => f (i + 1) (j + 1))) 2 = dt n (fun i j => f (i + 1) (j + 1)) * dt n (fun i j => f (i + 1) (j + 1)) := by simp [pw]
  have e3 : sn n * dt (n + 1) (fun i j => f i (j + 1)) * (sn n * dt (n + 1) (fun i j => f (i + 1) j)) = dt (n + 1) (fun i j => f i (j + 1)) * dt (n + 1) (fun i j => f (i + 1) j) := by
    have := sn_sq n
    grind
  rw [e2, e3] at e
  have e4 : dt n (fun i j => f (i + 1) (j + 1)) * (dt n (fun i j => f (i + 1) (j + 1)) * dt (n + 2) f) = dt n (fun i j => f (i + 1) (j + 1)) * (dt (n + 1) f * dt (n + 1) (fun i j => f (i + 1) (j + 1)) - dt (n + 1) (fun i j => f i (j + 1)) * dt (n + 1) (fun i j => f (i + 1) j)) := by
    rw [← e]; grind
  exact (Int.eq_of_mul_eq_mul_left h e4).symm

end Go.Proofs.Ytkfondipmhjhjaa
end

section
/- Condensing: the numbers are values of squares beside each other: the pure side. -/
namespace Go.Proofs.Ytkfondipmhjhjaa
open Go.RowKit Go.Deep

/-- The value of the square of d rows that begins at i and k. -/
def cn (F : Nat → Nat → Int) (d i k : Nat) : Int := dt d (fun r c => F (i + r) (k + c))
theorem cn_zero (F : Nat → Nat → Int) (i k : Nat) : cn F 0 i k = 1 := rfl
theorem cn_one (F : Nat → Nat → Int) (i k : Nat) : cn F 1 i k = F i k := by unfold cn; rw [dt_one]; rfl
theorem cn_all (F : Nat → Nat → Int) (n : Nat) : cn F n 0 0 = dt n F := by
  unfold cn
  exact dt_congr n fun i j _ _ => by rw [Nat.zero_add, Nat.zero_add]
theorem cn_step (F : Nat → Nat → Int) (d i k : Nat) (h : cn F d (i + 1) (k + 1) ≠ 0) :
    cn F (d + 1) i k * cn F (d + 1) (i + 1) (k + 1) - cn F (d + 1) i (k + 1) * cn F (d + 1) (i + 1) k = cn F d (i + 1) (k + 1) * cn F (d + 2) i k := by
  have e : ∀ m, cn F m (i + 1) (k + 1) = dt m (fun r c => F (i + (r + 1)) (k + (c + 1))) := fun m => by
    unfold cn
    exact dt_congr m fun r c _ _ => by rw [show i + 1 + r = i + (r + 1) by omega, show k + 1 + c = k + (c + 1) by omega]
  have e1 : cn F (d + 1) i (k + 1) = dt (d + 1) (fun r c => F (i + r) (k + (c + 1))) := by
    unfold cn
    exact dt_congr _ fun r c _ _ => by rw [show k + 1 + c = k + (c + 1) by omega]
  have e2 : cn F (d + 1) (i + 1) k = dt (d + 1) (fun r c => F (i + (r + 1)) (k + c)) := by
    unfold cn
    exact dt_congr _ fun r c _ _ => by rw [show i + 1 + r = i + (r + 1) by omega]
  rw [e] at h
  rw [e, e, e1, e2]
  exact dt_dj d (fun r c => F (i + r) (k + c)) h
theorem cn_bd {n : Nat} {F : Nat → Nat → Int} (hF : ∀ i j, i < n → j < n → -30 ≤ F i j ∧ F i j ≤ 30) {d i k : Nat} (hd : d ≤ 6) (hi : i + d ≤ n) (hk : k + d ≤ n) : -bdN d ≤ cn F d i k ∧ cn F d i k ≤ bdN d :=
  dt_bd d _ hd fun r c hr hc => hF _ _ (by omega) (by omega)

/-- None of the numbers inside is 0. -/
def ConOk (n : Nat) (F : Nat → Nat → Int) : Prop := ∀ d i k, i + d + 1 < n → k + d + 1 < n → cn F d (i + 1) (k + 1) ≠ 0
open Classical in
noncomputable def conB (n : Nat) (F : Nat → Nat → Int) : Bool := decide (ConOk n F)
theorem conB_true {n : Nat} {F : Nat → Nat → Int} (h : ConOk n F) : conB n F = true := by simp [conB, h]
theorem conB_false {n : Nat} {F : Nat → Nat → Int} {d i k : Nat} (hi : i + d + 1 < n) (hk : k + d + 1 < n) (h : cn F d (i + 1) (k + 1) = 0) : conB n F = false := by
  have : ¬ ConOk n F := fun H => H d i k hi hk h
  simp [conB, this]
/-- .. as far as has been asked. -/
def ConTo (n : Nat) (F : Nat → Nat → Int) (m : Nat) : Prop := ∀ d i k, d < m → i + d + 1 < n → k + d + 1 < n → cn F d (i + 1) (k + 1) ≠ 0
theorem ConTo.start (n : Nat) (F : Nat → Nat → Int) : ConTo n F 0 := fun _ _ _ h => absurd h (Nat.not_lt_zero _)
theorem ConTo.next {n : Nat} {F : Nat → Nat → Int} {m : Nat} (h : ConTo n F m) (h2 : ∀ i k, i + m + 1 < n → k + m + 1 < n → cn F m (i + 1) (k + 1) ≠ 0) : ConTo n F (m + 1) := fun d i k hd hi hk => by
  by_cases e : d = m
  · subst e; exact h2 i k hi hk
  · exact h d i k (by omega) hi hk
theorem ConTo.all {n : Nat} {F : Nat → Nat → Int} {m : Nat} (h : ConTo n F m) (hm : n ≤ m + 1) : ConOk n F := fun d i k hi hk => h d i k (by omega) hi hk

theorem mul_bdR {x y B : Int} (hx : -B ≤ x ∧ x ≤ B) (hy : -B ≤ y ∧ y ≤ B) : -(B * B) ≤ x * y ∧ x * y ≤ B * B := by
  have hB : 0 ≤ B := by omega
  have e1 : (B - x) * (B - y) ≥ 0 := Int.mul_nonneg (by omega) (by omega)
  have e2 : (B + x) * (B + y) ≥ 0 := Int.mul_nonneg (by omega) (by omega)
  have e3 : (B - x) * (B + y) ≥ 0 := Int.mul_nonneg (by omega) (by omega)
  have e4 : (B + x) * (B - y) ≥ 0 := Int.mul_nonneg (by omega) (by omega)
  simp only [Int.sub_mul, Int.add_mul, Int.mul_sub, Int.mul_add] at e1 e2 e3 e4
  have c1 := Int.mul_comm B y
  have c2 := Int.mul_comm x B
  omega

/-- One number more: what is taken, and what it is divided by. -/
theorem cn_num {n : Nat} {F : Nat → Nat → Int} (h6 : n ≤ 6) (hF : ∀ i j, i < n → j < n → -30 ≤ F i j ∧ F i j ≤ 30) {d i k : Nat} (hi : i + d + 1 < n) (hk : k + d + 1 < n) (h : cn F d (i + 1) (k + 1) ≠ 0) :
    IntKind.i64.wrap (cn F (d + 1) i k * cn F (d + 1) (i + 1) (k + 1)) = cn F (d + 1) i k * cn F (d + 1) (i + 1) (k + 1) ∧
    IntKind.i64.wrap (cn F (d + 1) i (k + 1) * cn F (d + 1) (i + 1) k) = cn F (d + 1) i (k + 1) * cn F (d + 1) (i + 1) k ∧
    IntKind.i64.wrap (cn F (d + 1) i k * cn F (d + 1) (i + 1) (k + 1) - cn F (d + 1) i (k + 1) * cn F (d + 1) (i + 1) k) = cn F d (i + 1) (k + 1) * cn F (d + 2) i k ∧
    IntKind.i64.wrap (cn F (d + 2) i k) = cn F (d + 2) i k ∧
    Int.tdiv (cn F d (i + 1) (k + 1) * cn F (d + 2) i k) (cn F d (i + 1) (k + 1)) = cn F (d + 2) i k := by
  have a1 := cn_bd hF (d := d + 1) (i := i) (k := k) (by omega) (by omega) (by omega)
  have a2 := cn_bd hF (d := d + 1) (i := i + 1) (k := k + 1) (by omega) (by omega) (by omega)
  have a3 := cn_bd hF (d := d + 1) (i := i) (k := k + 1) (by omega) (by omega) (by omega)
  have a4 := cn_bd hF (d := d + 1) (i := i + 1) (k := k) (by omega) (by omega) (by omega)
  have a5 := cn_bd hF (d := d + 2) (i := i) (k := k) (by omega) (by omega) (by omega)
  have b1 : bdN (d + 1) ≤ 1944000000 := by
    have h : d = 0 ∨ d = 1 ∨ d = 2 ∨ d = 3 ∨ d = 4 := by omega
    rcases h with h | h | h | h | h <;> (subst h; decide)
  have b2 : bdN (d + 2) ≤ 349920000000 := by
    have h : d = 0 ∨ d = 1 ∨ d = 2 ∨ d = 3 ∨ d = 4 := by omega
    rcases h with h | h | h | h | h <;> (subst h; decide)
  have hs := cn_step F d i k h
  have m1 := mul_bdR (B := 1944000000) (show -1944000000 ≤ cn F (d + 1) i k ∧ cn F (d + 1) i k ≤ 1944000000 by omega) (show -1944000000 ≤ cn F (d + 1) (i + 1) (k + 1) ∧ cn F (d + 1) (i + 1) (k + 1) ≤ 1944000000 by omega)
  have m2 := mul_bdR (B := 1944000000) (show -1944000000 ≤ cn F (d + 1) i (k + 1) ∧ cn F (d + 1) i (k + 1) ≤ 1944000000 by omega) (show -1944000000 ≤ cn F (d + 1) (i + 1) k ∧ cn F (d + 1) (i + 1) k ≤ 1944000000 by omega)
  exact ⟨IntWalk.i64_in _ ⟨by omega, by omega⟩, IntWalk.i64_in _ ⟨by omega, by omega⟩, (IntWalk.i64_in _ ⟨by omega, by omega⟩).trans hs, IntWalk.i64_in _ ⟨by omega, by omega⟩, Int.mul_tdiv_cancel_left _ h⟩

/-- Does condensing lead to the value? -/
noncomputable def conOk (l : List (List Int)) (n : Nat) : Bool := sqB l && conB n (at2 l)
def conV (l : List (List Int)) (n : Nat) : Int := dt n (at2 l)

/-- A square at an address, read by row and column. -/
def GR (w : World) (a : Option Addr) (n : Nat) (f : Nat → Nat → Int) : Prop :=
  ∃ (b o : Nat) (A : Nat → Option Addr) (C : Nat → Nat), a = some ⟨b, o, none⟩ ∧ (∀ i, i < n → w.cell? ⟨b, o + i, none⟩ = some (.slice (A i) n (C i))) ∧
    ∀ i j, i < n → j < n → ∃ b' o', w.cell? ⟨b, o + i, none⟩ = some (.slice (some ⟨b', o', none⟩) n (C i)) ∧ w.cell? ⟨b', o' + j, none⟩ = some (.int .i64 (f i j))
theorem GR.since {w w' : World} {a : Option Addr} {n : Nat} {f : Nat → Nat → Int} (h : GR w a n f) (hs : w.Since w.heap.size w') : GR w' a n f := by
  obtain ⟨b, o, A, C, e, h1, h2⟩ := h
  have hk : ∀ (p : Addr) (v : Value), w.cell? p = some v → w'.cell? p = some v := fun p v hv => (hs.cell (World.block_lt_of_cell? _ _ hv)).trans hv
  refine ⟨b, o, A, C, e, fun i hi => hk _ _ (h1 i hi), fun i j hi hj => ?_⟩
  obtain ⟨b', o', g1, g2⟩ := h2 i j hi hj
  exact ⟨b', o', hk _ _ g1, hk _ _ g2⟩
theorem GR.congr {w : World} {a : Option Addr} {n : Nat} {f g : Nat → Nat → Int} (h : GR w a n f) (e : ∀ i j, i < n → j < n → f i j = g i j) : GR w a n g := by
  obtain ⟨b, o, A, C, e1, h1, h2⟩ := h
  refine ⟨b, o, A, C, e1, h1, fun i j hi hj => ?_⟩
  obtain ⟨b', o', g1, g2⟩ := h2 i j hi hj
  exact ⟨b', o', g1, by rw [← e i j hi hj]; exact g2⟩
theorem GR.of_mat {w : World} {a : Option Addr} {l : List (List Int)} {n : Nat} {f : Nat → Nat → Int} (h : MatR w a l) (hn : l.length = n) (h1 : 1 ≤ n) (hw : ∀ r, r < n → (l.getD r []).length = n) (he : ∀ i j, i < n → j < n → at2 l i j = f i j) : GR w a n f := by
  subst hn
  obtain ⟨b, o, A, C, e, hc⟩ := h h1
  refine ⟨b, o, A, C, e, fun i hi => by rw [(hc i hi).1, hw i hi], fun i j hi hj => ?_⟩
  obtain ⟨hc1, hc2⟩ := hc i hi
  have hrl := hw i hi
  obtain ⟨b', o', e', h3⟩ := hc2 (by omega)
  rw [e', hrl] at hc1
  exact ⟨b', o', hc1, by rw [← he i j hi hj]; exact h3 j (by omega)⟩
theorem GR.of_tab {w : World} {a : Option Addr} {n : Nat} {f : Nat → Nat → Int} (h : MatR w a (tabF n n f)) (h1 : 1 ≤ n) : GR w a n f :=
  GR.of_mat h (tabF_length _ _ _) h1 (fun _ hr => tabF_len _ _ _ _ hr) (fun i j hi hj => tabF_at _ _ _ i j hi hj)

/-- Rows and numbers made so far. -/
def condR (f : Nat → Nat → Int) (i j : Nat) : List Int := (List.range j).map fun k => f i k
theorem condR_succ (f : Nat → Nat → Int) (i j : Nat) : condR f i (j + 1) = condR f i j ++ [f i j] := by simp [condR, List.range_succ]
theorem condR_length (f : Nat → Nat → Int) (i j : Nat) : (condR f i j).length = j := by simp [condR]
def condT (f : Nat → Nat → Int) (m r : Nat) : List (List Int) := (List.range r).map fun i => condR f i m
theorem condT_succ (f : Nat → Nat → Int) (m r : Nat) : condT f m (r + 1) = condT f m r ++ [condR f r m] := by simp [condT, List.range_succ]
theorem condT_length (f : Nat → Nat → Int) (m r : Nat) : (condT f m r).length = r := by simp [condT]
theorem condT_all (f : Nat → Nat → Int) (m : Nat) : condT f m m = tabF m m f := rfl

end Go.Proofs.Ytkfondipmhjhjaa
end

section
/- The contract of spec.ValueCondense. -/
namespace Go.Proofs.Ytkfondipmhjhjaa
open Go.RowKit Go.Deep

set_option maxRecDepth 100000 in
set_option maxHeartbeats 8000000 in
theorem specValueCondense_yes (a : Option Addr) (cap n : Nat) (l : List (List Int)) (w : World) (hn : l.length = n) (hsz : szL l ≤ 1048576) (hs : sqB l = true) (hm : MatR w a l) :
    Calls Try.prog 18 #[.slice a n cap] w (SpecW w (conB n (at2 l)) (dt n (at2 l))) := by
  have E := l2Square_any a cap n l w hn hsz hm
  rw [hs] at E
  replace E := Lib.hid E
  obtain ⟨hT, hw⟩ := sqB_of hs
  have h6 := hT.2.1
  have h1 := hT.1
  rw [hn] at h6 h1 hw
  have hA : ∀ i j, i < n → j < n → -30 ≤ at2 l i j ∧ at2 l i j ≤ 30 := fun i j hi hj => hT.at (by omega) (by omega)
  have hrow : ∀ r, r < n → (l.getD r []).length = n := fun r hr => by rw [hT.row (by omega), ← hw]
  have E1 := Lib.hid (fun (W : World) (hd : w.Since w.heap.size W) => l1Copy_top a cap n l W hn hT (hm.since hd))
  have HGR := Lib.hid (fun (W : World) (a' : Option Addr) (h : MatR W a' l) => GR.of_mat (f := cn (at2 l) 1) h hn h1 hrow (fun i j _ _ => (cn_one (at2 l) i j).symm))
  obtain ⟨F, hFF⟩ : ∃ F, F = at2 l := ⟨_, rfl⟩
  rw [← hFF] at hA HGR ⊢
  have HA := Lib.hid hA
  obtain ⟨i42, hi42⟩ := info42_parts
  obtain ⟨i3, hi3⟩ := info3_parts
  have HI := Lib.hid hi42
  have HJ := Lib.hid hi3
  have hmix : Try.prog.follows .mixedOrders = true := by kernel_rfl
  clear hi42 hi3 hA hrow hm hT hw hn hs hsz hFF
  go_enter Try.func18, Try.ntmps18
  go_wp2_with fail
  refine (E.out).mono ?_
  rintro e w1 ⟨rfl, hd⟩
  have HD := Lib.hid (hd.since w.heap.size)
  clear hd
  go_wp2_with fail
  refine (E1.out _ ?_).mono ?_
  · exact HD.out.alloc HD.out.size _
  rintro e w2 ⟨a2, c2, rfl, hs2, ho2, _⟩
  have HG2 := Lib.hid (HGR.out _ _ ho2.matR)
  have hz1 := HD.out.size
  have HS2 := Lib.hid ((HD.out.alloc HD.out.size _).trans (since_mono hs2 (by simp; omega)))
  clear hs2 ho2
  go_wp2
  go_loopg [4, 5, 6, 7, 8, 9, 10] n (fun g ah nw _ _ _ _ _ wr => ∃ (d q ca c' : Nat) (aa an : Option Addr), d < n ∧ g = n - d ∧ ah = .slice aa q ca ∧ nw = .slice an (n - d) c' ∧ ((d = 0 ∧ q = 0) ∨ (0 < d ∧ q = n - d + 1)) ∧ GR wr an (n - d) (cn F (d + 1)) ∧ (0 < d → GR wr aa (n - d + 1) (cn F d)) ∧ ConTo n F d ∧ w.Since w.heap.size wr)
  case atStart => exact ⟨0, 0, _, _, _, _, by omega, rfl, rfl, rfl, .inl ⟨rfl, rfl⟩, HG2.out, fun h => absurd h (by omega), ConTo.start n F, HS2.out⟩
  case round =>
    obtain ⟨d, q, ca, c', aa, an, hd, rfl, rfl, rfl, hq, hN, hP, hC, hS⟩ := hrel
    clear HG2 HS2
    have HN := Lib.hid hN
    have HP := Lib.hid hP
    have HC := Lib.hid hC
    have HS := Lib.hid hS
    have HQ := Lib.hid hq
    clear hN hP hC hS hq
    obtain ⟨m, hm⟩ : ∃ m, n - d = m := ⟨_, rfl⟩
    have HM := Lib.hid hm
    rw [hm]
    rw [hm] at HN HP HQ
    by_cases hgt : 1 < m
    · have hm' := hm
      clear hm
      have hgt' : decide ((1 : Int) < (m : Int)) = true := by simp; omega
      obtain ⟨wo, hwo⟩ : ∃ wo : World, wo = wr := ⟨_, rfl⟩
      have hst := Lib.hid (bt_start wr (fun _ => none) (fun _ => 0) #[] rfl)
      go_wp2
      subst hwo
      go_loopg [6, 7, 8, 9, 10] m (fun g v i _ _ _ wk => ∃ (r p : Nat) (A : Nat → Option Addr) (C : Nat → Nat), r + 1 ≤ m ∧ g = m - r ∧ i = .int .i64 p ∧ p = r + 1 ∧ BT wo wk v (condT (cn F (d + 2)) (m - 1) r) A C ∧ ∀ i k, i < r → k + 1 < m → cn F d (i + 1) (k + 1) ≠ 0)
      case atStart => exact ⟨0, 1, _, _, by omega, rfl, rfl, rfl, hst.out, fun i k hi => absurd hi (Nat.not_lt_zero _)⟩
      case round =>
        obtain ⟨r, p, A, C, hr, rfl, rfl, hp, hR, hZ⟩ := hrel
        clear hst
        have HR := Lib.hid hR
        have HZ := Lib.hid hZ
        have HPR := Lib.hid hp
        have hlen := condT_length (cn F (d + 2)) (m - 1) r
        have hsz := hR.since.size
        clear hR hZ
        by_cases hlt : p < m
        · obtain ⟨wi, hwi⟩ : ∃ wi : World, wi = wr := ⟨_, rfl⟩
          have HRB := Lib.hid (rb_start wr #[] rfl)
          have hwp : IntKind.i64.wrap ((p : Int) - 1) = (r : Int) := (IntWalk.i64_in _ ⟨by omega, by omega⟩).trans (by omega)
          have hrm : r < m := by omega
          clear hp
          go_wp2
          subst hwi
          go_loopg [8, 9, 10] m (fun g v kk _ wj => ∃ j k : Nat, j + 1 ≤ m ∧ g = m - j ∧ kk = .int .i64 k ∧ k = j + 1 ∧ RB wi wj v (condR (cn F (d + 2)) r j) ∧ ∀ k, k < j → cn F d (r + 1) (k + 1) ≠ 0)
          case atStart => exact ⟨0, 1, by omega, rfl, rfl, rfl, HRB.out, fun k hk => absurd hk (Nat.not_lt_zero _)⟩
          case round =>
            obtain ⟨j, k, hj, rfl, rfl, hk, hI, hY⟩ := hrel
            clear HRB
            have HII := Lib.hid hI
            have HY := Lib.hid hY
            have HK := Lib.hid hk
            have hle := condR_length (cn F (d + 2)) r j
            have hzi := hI.since.size
            clear hI hY
            by_cases hjn : k < m
            · have hwk : IntKind.i64.wrap ((k : Int) - 1) = (j : Int) := (IntWalk.i64_in _ ⟨by omega, by omega⟩).trans (by omega)
              have hjm : j < m := by omega
              have hso : wo.Since wo.heap.size wr := HR.out.since.trans (since_mono HII.out.since hsz)
              have HSO := Lib.hid hso
              obtain ⟨bn, on, An, Cn, ean, gtop, gcell⟩ := HN.out.since hso
              obtain ⟨b1, o1, t1, c1⟩ := gcell r j hrm hjm
              obtain ⟨b2, o2, t2, c2⟩ := gcell p k hlt hjn
              obtain ⟨b3, o3, t3, c3⟩ := gcell r k hrm hjn
              obtain ⟨b4, o4, t4, c4⟩ := gcell p j hlt hjm
              have e13 := t1.symm.trans t3
              have e24 := t2.symm.trans t4
              simp only [Option.some.injEq, Value.slice.injEq, Addr.mk.injEq, and_true] at e13 e24
              obtain ⟨rfl, rfl⟩ := e13
              obtain ⟨rfl, rfl⟩ := e24
              have hnum := fun (h : cn F d (r + 1) (j + 1) ≠ 0) => cn_num h6 HA.out (d := d) (i := r) (k := j) (by have := HM.out; have := HPR.out; omega) (by have := HM.out; omega) h
              rw [← HPR.out, ← hk] at hnum
              have hcz := fun (h : cn F d (r + 1) (j + 1) = 0) => conB_false (n := n) (F := F) (d := d) (i := r) (k := j) (by have := HM.out; have := HPR.out; omega) (by have := HM.out; omega) h
              rw [← HPR.out, ← hk] at hcz
              obtain ⟨y1, h1'⟩ : ∃ y, cn F (d + 1) r j = y := ⟨_, rfl⟩
              obtain ⟨y2, h2'⟩ : ∃ y, cn F (d + 1) p k = y := ⟨_, rfl⟩
              obtain ⟨y3, h3'⟩ : ∃ y, cn F (d + 1) r k = y := ⟨_, rfl⟩
              obtain ⟨y4, h4'⟩ : ∃ y, cn F (d + 1) p j = y := ⟨_, rfl⟩
              obtain ⟨z, hz'⟩ : ∃ z, cn F (d + 2) r j = z := ⟨_, rfl⟩
              obtain ⟨v, hv'⟩ : ∃ v, cn F d p k = v := ⟨_, rfl⟩
              have HZV := Lib.hid hz'
              rw [h1'] at c1
              rw [h2'] at c2
              rw [h3'] at c3
              rw [h4'] at c4
              rw [h1', h2', h3', h4', hz', hv'] at hnum
              rw [hv'] at hcz
              have HNUM := Lib.hid hnum
              have HCZ := Lib.hid hcz
              have HV := Lib.hid hv'
              have hrk : r + 1 = p := HPR.out.symm
              have hjk : j + 1 = k := hk.symm
              have HNE0 := Lib.hid (fun (h : v ≠ 0) => show cn F d (r + 1) (j + 1) ≠ 0 by rw [hrk, hjk, hv']; exact h)
              have hd1 : d = 0 → v = 1 := fun h => by subst h; rw [← hv']; rfl
              subst ean
              clear hnum hcz h1' h2' h3' h4' hz' gtop gcell hso hk
              by_cases hd0 : d = 0
              · have hv1 := hd1 hd0
                subst hv1
                obtain ⟨w1', w2', w3', w4', w5'⟩ := HNUM.out (by omega)
                rw [Int.one_mul] at w3'
                have HNE := Lib.hid (HNE0.out (by omega))
                have hq0 : q = 0 := by rcases HQ.out with ⟨_, h⟩ | ⟨h, _⟩ <;> omega
                have HQ2 := HQ
                clear HQ
                subst hq0
                have HII2 := Lib.hid (HII.out.drewN 1)
                clear w5' hd1 hv'
                go_wp2
                go_still_tail 35, hmix
                go_wp2_with (at_builtin; (refine wpList_append_own _ rfl _ _ 28 rfl wi.heap.size 3 i3 (.int .i64 0) 1 8 Try.underlying28 HJ.out.1 HJ.out.2.1 HJ.out.2.2.1 HJ.out.2.2.2 rfl (by decide) _ _ _ rfl (HII2.out.own.alloc _) ⟨wr.heap.size, 0, none⟩ 1 1 [.int .i64 z] rfl rfl (cell_one_at _ _ _ rfl) (fun x hx => by simp at hx; subst hx; rfl) (by unfold maxLen; omega) (by omega) (by simp; omega) ?_); intro v' w5 hown' hgrow _)
                have hP := HII2.out.push hown' hgrow
                rw [← HZV.out, ← condR_succ] at hP
                have HP2 := Lib.hid hP
                clear hP hown' hgrow
                go_roundg (m - (j + 1))
                case measure => omega
                case rel => exact ⟨j + 1, k + 1, by omega, rfl, by go_num, by rw [HK.out], HP2.out, fun k' hk' => by
                  by_cases e : k' = j
                  · rw [e]; exact HNE.out
                  · exact HY.out k' (by omega)⟩
              · obtain ⟨hd0', hqm⟩ : 0 < d ∧ q = m + 1 := by rcases HQ.out with ⟨h, _⟩ | h <;> omega
                subst hqm
                have hq1 : 0 < m + 1 := by omega
                obtain ⟨ba, oa, Aa, Ca, eaa, ptop, pcell⟩ := (HP.out hd0').since HSO.out
                obtain ⟨b5, o5, t5, c5⟩ := pcell p k (by omega) (by omega)
                rw [hv'] at c5
                subst eaa
                have HII2 := Lib.hid (HII.out.drewN 1)
                clear ptop pcell hv' HQ
                by_cases hv0 : v = 0
                · have hcb := Lib.hid (HCZ.out hv0)
                  subst hv0
                  clear hd1 HII2 HNUM HNE0
                  go_wp2
                  go_still_tail 35, hmix
                  go_wp2
                  go_ret2
                  exact ⟨by rw [hcb.out]; rfl, HS.out.trans (since_mono (since_drewN HSO.out 1) HS.out.size)⟩
                · obtain ⟨w1', w2', w3', w4', w5'⟩ := HNUM.out hv0
                  have HNE := Lib.hid (HNE0.out hv0)
                  have hvb : (v == 0) = false := by simpa using hv0
                  clear hd1
                  go_wp2
                  go_still_tail 35, hmix
                  go_wp2_with (at_builtin; (refine wpList_append_own _ rfl _ _ 28 rfl wi.heap.size 3 i3 (.int .i64 0) 1 8 Try.underlying28 HJ.out.1 HJ.out.2.1 HJ.out.2.2.1 HJ.out.2.2.2 rfl (by decide) _ _ _ rfl (HII2.out.own.alloc _) ⟨wr.heap.size, 0, none⟩ 1 1 [.int .i64 z] rfl rfl (cell_one_at _ _ _ rfl) (fun x hx => by simp at hx; subst hx; rfl) (by unfold maxLen; omega) (by omega) (by simp; omega) ?_); intro v' w5 hown' hgrow _)
                  have hP := HII2.out.push hown' hgrow
                  rw [← HZV.out, ← condR_succ] at hP
                  have HP2 := Lib.hid hP
                  clear hP hown' hgrow
                  go_roundg (m - (j + 1))
                  case measure => omega
                  case rel => exact ⟨j + 1, k + 1, by omega, rfl, by go_num, by rw [HK.out], HP2.out, fun k' hk' => by
                    by_cases e : k' = j
                    · rw [e]; exact HNE.out
                    · exact HY.out k' (by omega)⟩
            · have hjm : j = m - 1 := by omega
              subst hjm
              obtain ⟨ra, rcp, hv, hrow⟩ := HII.out.slice
              rw [condR_length] at hv
              subst hv
              have HROW := Lib.hid hrow
              have HBT := Lib.hid (HR.out.later HII.out.since)
              obtain ⟨m1, hm1⟩ : ∃ x, m - 1 = x := ⟨_, rfl⟩
              have hm1' : m1 ≤ 5 := by omega
              have hkm : k = m := by omega
              clear hrow hk
              rw [hm1]
              rw [hm1] at hle hlen
              simp only [hm1] at HROW HY HBT HII HR
              go_wp2_with (at_builtin; (refine wpList_append_own _ rfl _ _ 23 rfl wo.heap.size 28 i42 (.slice none 0 0) 1 24 Try.underlying23 HI.out.1 HI.out.2.1 HI.out.2.2.1 HI.out.2.2.2 rfl (by decide) _ _ _ rfl (HBT.out.own.alloc _) ⟨wr.heap.size, 0, none⟩ 1 1 [.slice ra m1 rcp] rfl rfl (cell_one_at _ _ _ rfl) (fun x hx => by simp at hx; subst hx; rfl) (by unfold maxLen; omega) (by omega) (by simp; omega) ?_); intro v' w5 hown' hgrow _)
              have hP := HBT.out.push (rv := .slice ra m1 rcp) (x := condR (cn F (d + 2)) r m1) (a := ra) (cp := rcp) (by rw [condR_length]) (fun h => by obtain ⟨G, e, h2, h3⟩ := HROW.out h; exact ⟨G, e, by omega, h3⟩) (fun h => by obtain ⟨G, e, h2, _⟩ := HROW.out h; exact HR.out.fresh e h2) hown' hgrow
              rw [← condT_succ] at hP
              have HP2 := Lib.hid hP
              clear hP hown' hgrow hle hlen
              go_roundg (m - (r + 1))
              case measure => omega
              case rel => exact ⟨r + 1, p + 1, _, _, by have := HPR.out; omega, rfl, by go_num, by rw [HPR.out], by rw [hm1]; exact HP2.out, fun i k' hi hk' => by
                by_cases e : i = r
                · rw [e]; exact HY.out k' (by omega)
                · exact HZ.out i k' (by omega) hk'⟩
        · have hrm : r = m - 1 := by omega
          subst hrm
          obtain ⟨ra, rcp, hv, hin⟩ := HR.out.slice
          rw [condT_length] at hv
          rw [condT_all] at hin
          subst hv
          have hG := Lib.hid (GR.of_tab hin.matR (by omega))
          have hS3 := Lib.hid (HS.out.trans (since_mono HR.out.since HS.out.size))
          have hN3 := Lib.hid (HN.out.since HR.out.since)
          have hpm : p = m := by omega
          obtain ⟨m1, hm1⟩ : ∃ x, m - 1 = x := ⟨_, rfl⟩
          have hC3 := Lib.hid (HC.out.next (fun i k hi hk => HZ.out i k (by have := HM.out; omega) (by have := HM.out; omega)))
          rw [hm1] at hG ⊢
          clear hin hp HR
          go_wp2
          go_roundg (n - (d + 1))
          case measure => omega
          case rel =>
            have e1 : n - (d + 1) = m1 := by omega
            exact ⟨d + 1, m, _, rcp, _, ra, by omega, rfl, rfl, by rw [e1], .inr ⟨by omega, by omega⟩, by rw [e1]; exact hG.out, fun _ => by rw [e1, show m1 + 1 = m by omega]; exact hN3.out, hC3.out, hS3.out⟩
    · have hm1 : m = 1 := by omega
      have hdn : d + 1 = n := by omega
      obtain ⟨bn, on, An, Cn, ean, gtop, gcell⟩ := HN.out
      obtain ⟨b1, o1, t1, c1⟩ := gcell 0 0 (by omega) (by omega)
      rw [hdn, cn_all] at c1
      rw [Nat.add_zero] at t1 c1
      have hcb := Lib.hid (conB_true (HC.out.all (by omega)))
      obtain ⟨x, hx⟩ : ∃ x, dt n F = x := ⟨_, rfl⟩
      rw [hx] at c1
      have HX := Lib.hid hx
      subst ean
      have hgt' : decide ((1 : Int) < (m : Int)) = false := by simp; omega
      clear gtop gcell hm hx
      subst hm1
      go_wp2
      go_ret2
      exact ⟨by rw [hcb.out, HX.out]; rfl, HS.out⟩

set_option maxHeartbeats 1000000 in
theorem specValueCondense_any (a : Option Addr) (cap n : Nat) (l : List (List Int)) (w : World) (hn : l.length = n) (hsz : szL l ≤ 1048576) (hm : MatR w a l) :
    Calls Try.prog 18 #[.slice a n cap] w (SpecW w (conOk l n) (conV l n)) := by
  unfold conOk conV
  cases hs : sqB l with
  | true =>
    have E := specValueCondense_yes a cap n l w hn hsz hs hm
    rw [Bool.true_and]
    exact E
  | false =>
    have E := l2Square_any a cap n l w hn hsz hm
    rw [hs] at E
    rw [Bool.false_and]
    replace E := Lib.hid E
    clear hs hm hn hsz
    go_enter Try.func18, Try.ntmps18
    go_wp2_with fail
    refine (E.out).mono ?_
    rintro e w1 ⟨rfl, hd⟩
    have HD := Lib.hid (hd.since w.heap.size)
    clear hd
    go_wp2
    go_ret2
    exact ⟨rfl, HD.out⟩

end Go.Proofs.Ytkfondipmhjhjaa
end

section
/- Two rows of a table exchanged: the contract of the method swapped. -/
namespace Go.Proofs.Ytkfondipmhjhjaa
open Go.RowKit Go.Deep

/-- The row that comes to row r. -/
def sw (i k r : Nat) : Nat := if r = k then i else if r = i then k else r
def swapL (l : List (List Int)) (i k : Nat) : List (List Int) := (List.range l.length).map fun r => l.getD (sw i k r) []
theorem swapL_length (l : List (List Int)) (i k : Nat) : (swapL l i k).length = l.length := by simp [swapL]
theorem swapL_get (l : List (List Int)) (i k : Nat) {r : Nat} (h : r < l.length) : (swapL l i k).getD r [] = l.getD (sw i k r) [] := by simp [swapL, List.getD, h]
theorem sw_lt {i k r n : Nat} (hi : i < n) (hk : k < n) (hr : r < n) : sw i k r < n := by unfold sw; split <;> (try split) <;> omega
theorem sw_sw (i k r : Nat) : sw i k (sw i k r) = r := by
  unfold sw
  by_cases h1 : r = k
  · subst h1
    by_cases h2 : i = r
    · subst h2; simp
    · simp [h2]
  · by_cases h2 : r = i
    · subst h2; simp
    · simp [h1, h2]
theorem sw_inj {i k r r' : Nat} (h : sw i k r = sw i k r') : r = r' := by
  have := congrArg (sw i k) h
  rwa [sw_sw, sw_sw] at this
theorem swapL_tab {l : List (List Int)} {i k : Nat} (hT : TabIn l) (hi : i < l.length) (hk : k < l.length) : TabIn (swapL l i k) := by
  have h1 := hT.1
  have h2 := hT.2.1
  refine ⟨by rw [swapL_length]; exact h1, by rw [swapL_length]; exact h2, fun r hr => ?_⟩
  rw [swapL_length] at hr
  rw [swapL_get l i k (show 0 < l.length by omega), swapL_get l i k hr]
  have h3 := hT.2.2 _ (sw_lt hi hk hr)
  rw [hT.row (sw_lt hi hk (show 0 < l.length by omega))]
  exact h3

theorem sel_full (n k : Nat) (hk : k ≤ n) : (sel (2 ^ n - 1) n k).map (·.1) = List.range k := by
  induction k with
  | zero => rfl
  | succ k ih =>
    rw [sel_yes _ _ _ (by omega) (by rw [Nat.testBit_two_pow_sub_one]; simp; omega), List.map_append, ih (by omega), List.range_succ]
    rfl
theorem range_getD {α : Type} (x : List α) (d : α) : (List.range x.length).map (fun j => x.getD j d) = x := by
  refine List.ext_getElem (by simp) fun i h1 h2 => ?_
  simp [List.getD, h2]
theorem pickTo_full (x : List Int) (m : Nat) (h : x.length = m) : pickTo (2 ^ m - 1) x m m = x := by
  have e : pickTo (2 ^ m - 1) x m m = ((sel (2 ^ m - 1) m m).map (·.1)).map (fun j => x.getD j 0) := by rw [List.map_map]; rfl
  rw [e, sel_full m m (Nat.le_refl _), ← h, range_getD]
theorem partL_full {l : List (List Int)} (hT : Rec l) : partL l (2 ^ l.length - 1) (2 ^ (l.getD 0 []).length - 1) = l := by
  have e : partL l (2 ^ l.length - 1) (2 ^ (l.getD 0 []).length - 1) = ((sel (2 ^ l.length - 1) l.length l.length).map (·.1)).map (fun r => pickTo (2 ^ (l.getD 0 []).length - 1) (l.getD r []) (l.getD 0 []).length (l.getD 0 []).length) := by rw [List.map_map]; rfl
  rw [e, sel_full _ _ (Nat.le_refl _)]
  have h : (List.range l.length).map (fun r => pickTo (2 ^ (l.getD 0 []).length - 1) (l.getD r []) (l.getD 0 []).length (l.getD 0 []).length) = (List.range l.length).map (fun r => l.getD r []) :=
    List.map_congr_left fun r hr => pickTo_full _ _ (hT.row (List.mem_range.1 hr))
  rw [h, range_getD]

/-- Two rows are exchanged. -/
theorem OwnD.swap {lo hi : Nat} {w : World} {b : Nat} {A : Nat → Option Addr} {G C : Nat → Nat} {n m : Nat} {Z : Nat → Nat → Int} (h : OwnD lo hi w b A G C n (fun _ => m) Z) {i k : Nat} (hi' : i < n) (hk : k < n) :
    OwnD lo hi ((w.setCell ⟨b, i, none⟩ (.slice (A k) m (C k))).setCell ⟨b, k, none⟩ (.slice (A i) m (C i))) b (fun r => A (sw i k r)) (fun r => G (sw i k r)) (fun r => C (sw i k r)) n (fun _ => m) (fun r c => Z (sw i k r) c) := by
  refine ⟨fun r hr => ?_, fun r hr h0 => h.addr _ (sw_lt hi' hk hr) h0, fun r hr h0 => h.inside _ (sw_lt hi' hk hr) h0, fun r hr c hc => ?_, fun r hr c hc => by rw [World.frozen?_setCell, World.frozen?_setCell]; exact h.free _ (sw_lt hi' hk hr) c hc, fun r r' hr hr' h0 h0' e => sw_inj (h.apart _ _ (sw_lt hi' hk hr) (sw_lt hi' hk hr') h0 h0' e)⟩
  · by_cases e1 : r = k
    · subst e1
      have : sw i r r = i := by simp [sw]
      rw [this]
      refine World.cell?_setCell_same' _ _ _ ?_
      by_cases e2 : i = r
      · subst e2
        rw [World.cell?_setCell_same' _ _ _ (by rw [h.top i hi']; rfl)]; rfl
      · rw [World.cell?_setCell_other _ _ _ _ (fun e => e2 (by injection e)), h.top r hk]; rfl
    · rw [World.cell?_setCell_other _ _ _ _ (fun e => e1 (by injection e with _ e; exact e.symm))]
      by_cases e2 : r = i
      · subst e2
        have : sw r k r = k := by simp [sw, e1]
        rw [this]
        exact World.cell?_setCell_same' _ _ _ (by rw [h.top r hr]; rfl)
      · have : sw i k r = r := by simp [sw, e1, e2]
        rw [this, World.cell?_setCell_other _ _ _ _ (fun e => e2 (by injection e with _ e; exact e.symm))]
        exact h.top r hr
  · have hl := sw_lt hi' hk hr
    have hin := h.inside _ hl (by omega)
    rw [World.cell?_setCell_other _ _ _ _ (fun e => hin.2.2 (by injection e with e; exact e.symm)), World.cell?_setCell_other _ _ _ _ (fun e => hin.2.2 (by injection e with e; exact e.symm))]
    exact h.cell _ hl c hc
theorem OwnD.swapT {lo hi : Nat} {w : World} {b : Nat} {A : Nat → Option Addr} {G C : Nat → Nat} {n m : Nat} {Z : Nat → Nat → Int} {l : List (List Int)} (h : OwnD lo hi w b A G C n (fun _ => m) Z) {i k : Nat} (hi' : i < n) (hk : k < n) (hb : lo ≤ b ∧ b < hi)
    (hn : l.length = n) (hm : ∀ r, r < n → (l.getD r []).length = m) (hZ : ∀ r c, r < n → c < m → Z r c = at2 l r c) : OwnT lo hi ((w.setCell ⟨b, i, none⟩ (.slice (A k) m (C k))).setCell ⟨b, k, none⟩ (.slice (A i) m (C i))) (some ⟨b, 0, none⟩) (swapL l i k) :=
  (h.swap hi' hk).ownT hb ((swapL_length _ _ _).trans hn) (fun r hr => by rw [swapL_get l i k (by omega)]; exact hm _ (sw_lt hi' hk hr)) (fun r hr c hc => by rw [swapL_get l i k (by omega)]; exact (hZ _ c (sw_lt hi' hk hr) hc).symm)

set_option maxRecDepth 100000 in
set_option maxHeartbeats 2000000 in
theorem swapped_any (a : Option Addr) (cap n i k : Nat) (l : List (List Int)) (w : World) (hn : l.length = n) (hT : Rec l) (hi : i < n) (hk : k < n) (hm : MatR w a l) :
    Calls Try.prog 133 #[.slice a n cap, .int .i64 i, .int .i64 k] w fun e w' => ∃ a' cap', e = .returned (.slice a' n cap') ∧ w.Since w.heap.size w' ∧ OwnT w.heap.size w'.heap.size w' a' (swapL l i k) := by
  have h6 := hT.high
  have h1 := hT.low
  have hw := hT.width
  rw [hn] at h6 h1
  obtain ⟨m, hmm⟩ : ∃ m, (l.getD 0 []).length = m := ⟨_, rfl⟩
  have E1 := Lib.hid (allRows_any a cap n w h6)
  have E2 := width_any a cap n l w hn (by omega) (by omega) hm
  rw [hmm] at E2 hw
  replace E2 := Lib.hid E2
  have E3 := Lib.hid (fullSet_any m hw.2 w)
  have p1 : 2 ^ n ≤ 2 ^ 6 := Nat.pow_le_pow_right (by omega) h6
  have p2 : 2 ^ m ≤ 2 ^ 6 := Nat.pow_le_pow_right (by omega) hw.2
  have E4 := part_rec a cap n (2 ^ n - 1) (2 ^ m - 1) l w hn hT (by omega) (by omega) hm
  have hfull := partL_full hT
  rw [hn, hmm] at hfull
  rw [hfull, hn] at E4
  replace E4 := Lib.hid E4
  have hrow : ∀ r, r < n → (l.getD r []).length = m := fun r hr => by rw [hT.row (by omega), hmm]
  have HN := Lib.hid hn
  have HROW := Lib.hid hrow
  clear hm hT hfull hrow hmm hn p1 p2
  go_enter Try.func133, Try.ntmps133
  go_wp2_with fail
  refine (E1.out).mono ?_
  rintro e w1 ⟨rfl, rfl⟩
  go_wp2_with fail
  refine (E2.out).mono ?_
  rintro e w1 ⟨rfl, rfl⟩
  go_wp2_with fail
  refine (E3.out).mono ?_
  rintro e w1 ⟨rfl, rfl⟩
  go_wp2_with fail
  refine (E4.out).mono ?_
  rintro e w2 ⟨a2, cap2, rfl, hs2, ho2, hfr⟩
  obtain ⟨b, A, G, C, rfl, hb, hWR⟩ := ho2.wr HN.out (by omega) HROW.out hs2 (fun _ _ => 0)
  have hO := hWR.own
  have c1 := hO.top i hi
  have c2 := hO.top k hk
  have HF := Lib.hid (hO.swapT hi hk hb HN.out HROW.out (fun r c _ _ => by unfold updF; rw [if_neg (by omega)]))
  have f1 := hfr b i rfl hi
  have f2 := hfr b k rfl hk
  have HS := Lib.hid (show w.Since w.heap.size ((w2.setCell ⟨b, i, none⟩ (.slice (A k) m (C k))).setCell ⟨b, k, none⟩ (.slice (A i) m (C i))) from (hs2.setCell hb.1 _).setCell hb.1 _)
  have HZ := Lib.hid (show ((w2.setCell ⟨b, i, none⟩ (.slice (A k) m (C k))).setCell ⟨b, k, none⟩ (.slice (A i) m (C i))).heap.size = w2.heap.size by simp)
  obtain ⟨y1, hy1⟩ : ∃ y, y = A i := ⟨_, rfl⟩
  obtain ⟨y2, hy2⟩ : ∃ y, y = A k := ⟨_, rfl⟩
  obtain ⟨z1, hz1⟩ : ∃ y, y = C i := ⟨_, rfl⟩
  obtain ⟨z2, hz2⟩ : ∃ y, y = C k := ⟨_, rfl⟩
  rw [← hy1, ← hy2, ← hz1, ← hz2] at HF HS HZ
  rw [← hy1, ← hz1] at c1
  rw [← hy2, ← hz2] at c2
  obtain ⟨Y, hY⟩ : ∃ Y, (w2.setCell ⟨b, i, none⟩ (.slice y2 m z2)).cell? ⟨b, k, none⟩ = some Y := by
    by_cases e : i = k
    · subst e; exact ⟨_, World.cell?_setCell_same' _ _ _ (by rw [c1]; rfl)⟩
    · exact ⟨_, (World.cell?_setCell_other _ _ _ _ (fun e' => e (by injection e'))).trans c2⟩
  clear hWR hO ho2 hfr hs2 hy1 hy2 hz1 hz2
  go_wp2
  go_region
  go_wp2
  go_ret
  exact ⟨_, _, rfl, HS.out.drew, (HF.out.mono (Nat.le_refl _) (by rw [World.size_drew, HZ.out]; exact Nat.le_refl _))⟩

end Go.Proofs.Ytkfondipmhjhjaa
end

section
/- The contracts of firstFilled and behind. -/
namespace Go.Proofs.Ytkfondipmhjhjaa
open Go.RowKit Go.Deep

set_option maxHeartbeats 400000 in
theorem filled1_any (r : Option Addr) (c m : Nat) (x : List Int) (w : World) (hx : x.length = m) (h1 : 1 ≤ m) (hr : RowR w r x) :
    Calls Try.prog 143 #[.slice r m c] w fun e w' => e = .returned (.bool (x.getD 0 0 != 0)) ∧ w = w' := by
  obtain ⟨b, o, rfl, hc⟩ := hr (by omega)
  have c0 := hc 0 (by omega)
  rw [Nat.add_zero] at c0
  obtain ⟨y, hy⟩ : ∃ y, y = x.getD 0 0 := ⟨_, rfl⟩
  rw [← hy] at c0 ⊢
  clear hc hr hx hy
  go_enter Try.func143, Try.ntmps143
  go_wp2
  go_ret
  exact ⟨rfl, rfl⟩

set_option maxHeartbeats 400000 in
theorem firstFilled_any (a : Option Addr) (cap n : Nat) (l : List (List Int)) (w : World) (hn : l.length = n) (hT : Rec l) (hm : MatR w a l) :
    Calls Try.prog 132 #[.slice a n cap] w fun e w' => ∃ r, e = .returned (.int .i64 r) ∧ FirstAt (fun i => at2 l i 0 != 0) n r ∧ w = w' := by
  have h6 := hT.high
  rw [hn] at h6
  have E := Lib.hid (indexFunc_any 143 (fun i => at2 l i 0 != 0) a cap n l w hn hm (enters_of Try.func143 (by kernel_rfl) rfl) (by omega)
    (fun i r c hi hr => filled1_any r c _ (l.getD i []) w rfl (by rw [hT.row (by omega)]; exact hT.width.1) hr))
  clear hn hT hm h6
  go_enter Try.func132, Try.ntmps132
  go_wp2_with fail
  refine (E.out).mono ?_
  rintro e w' ⟨r, rfl, hr, rfl⟩
  go_wp2
  go_ret
  exact ⟨r, rfl, hr, rfl⟩

theorem mul_bdQ {x y B : Int} (hx : -B ≤ x ∧ x ≤ B) (hy : -B ≤ y ∧ y ≤ B) : -(B * B) ≤ x * y ∧ x * y ≤ B * B := by
  have hB : 0 ≤ B := by omega
  have e1 : (B - x) * (B - y) ≥ 0 := Int.mul_nonneg (by omega) (by omega)
  have e2 : (B + x) * (B + y) ≥ 0 := Int.mul_nonneg (by omega) (by omega)
  have e3 : (B - x) * (B + y) ≥ 0 := Int.mul_nonneg (by omega) (by omega)
  have e4 : (B + x) * (B - y) ≥ 0 := Int.mul_nonneg (by omega) (by omega)
  simp only [Int.sub_mul, Int.add_mul, Int.mul_sub, Int.mul_add] at e1 e2 e3 e4
  have c1 := Int.mul_comm B y
  have c2 := Int.mul_comm x B
  omega

set_option maxHeartbeats 2000000 in
theorem behindEntry_any (p r i k n cap : Nat) (q X : Int) (a : Option Addr) (l : List (List Int)) (w : World) (hn : l.length = n) (hT : Rec l) (hw : (l.getD 0 []).length = n) (hq : q ≠ 0) (hX : chio (at2 l) i k = q * X) (hXb : -4611686018427387904 ≤ X ∧ X ≤ 4611686018427387904) (hb : ∀ i j, i < n → j < n → -1944000000 ≤ at2 l i j ∧ at2 l i j ≤ 1944000000)
    (hbox : w.cell? ⟨p, 0, none⟩ = some (.slice a n cap)) (hbox2 : w.cell? ⟨r, 0, none⟩ = some (.int .i64 q)) (hm : MatR w a l) (hi : i + 1 < n) (hk : k + 1 < n) :
    Calls Try.prog 144 #[.int .i64 i, .int .i64 k, .pointer (some ⟨p, 0, none⟩), .pointer (some ⟨r, 0, none⟩)] w fun e w' => e = .returned (.int .i64 X) ∧ w.Since w.heap.size w' := by
  have h6 := hT.high
  rw [hn] at h6
  have hr1 : (l.getD (i + 1) []).length = n := by rw [hT.row (by omega), hw]
  obtain ⟨b, o, A, C, rfl, hc⟩ := hm (by omega)
  obtain ⟨r1, s1⟩ := hc (i + 1) (by omega)
  obtain ⟨r0, s0⟩ := hc 0 (by omega)
  obtain ⟨b1, o1, e1, t1⟩ := s1 (by omega)
  obtain ⟨b0, o0, e0, t0⟩ := s0 (by omega)
  have x11 := t1 (k + 1) (by omega)
  have x10 := t1 0 (by omega)
  have x01 := t0 (k + 1) (by omega)
  have x00 := t0 0 (by omega)
  rw [e1, hr1] at r1
  rw [e0, hw, Nat.add_zero] at r0
  rw [Nat.add_zero] at x10 x00
  have b11 := hb (i + 1) (k + 1) (by omega) (by omega)
  have b10 := hb (i + 1) 0 (by omega) (by omega)
  have b01 := hb 0 (k + 1) (by omega) (by omega)
  have b00 := hb 0 0 (by omega) (by omega)
  have hX' : at2 l (i + 1) (k + 1) * at2 l 0 0 - at2 l 0 (k + 1) * at2 l (i + 1) 0 = q * X := hX
  obtain ⟨y11, h11⟩ : ∃ y, at2 l (i + 1) (k + 1) = y := ⟨_, rfl⟩
  obtain ⟨y10, h10⟩ : ∃ y, at2 l (i + 1) 0 = y := ⟨_, rfl⟩
  obtain ⟨y01, h01⟩ : ∃ y, at2 l 0 (k + 1) = y := ⟨_, rfl⟩
  obtain ⟨y00, h00⟩ : ∃ y, at2 l 0 0 = y := ⟨_, rfl⟩
  rw [h11, h00, h01, h10] at hX'
  rw [h11] at b11
  rw [h10] at b10
  rw [h01] at b01
  rw [h00] at b00
  rw [show (l.getD (i + 1) []).getD (k + 1) 0 = y11 from h11] at x11
  rw [show (l.getD (i + 1) []).getD 0 0 = y10 from h10] at x10
  rw [show (l.getD 0 []).getD (k + 1) 0 = y01 from h01] at x01
  rw [show (l.getD 0 []).getD 0 0 = y00 from h00] at x00
  have m1 := mul_bdQ b11 b00
  have m2 := mul_bdQ b01 b10
  have w1 : IntKind.i64.wrap (y11 * y00) = y11 * y00 := IntWalk.i64_in _ ⟨by omega, by omega⟩
  have w2 : IntKind.i64.wrap (y01 * y10) = y01 * y10 := IntWalk.i64_in _ ⟨by omega, by omega⟩
  have w3 : IntKind.i64.wrap (y11 * y00 - y01 * y10) = q * X := (IntWalk.i64_in _ ⟨by omega, by omega⟩).trans hX'
  have w4 : Int.tdiv (q * X) q = X := Int.mul_tdiv_cancel_left _ hq
  have w5 : IntKind.i64.wrap X = X := IntWalk.i64_in _ ⟨by omega, by omega⟩
  have hq0 : (q == 0) = false := by simpa using hq
  clear hX hX' hb hm hc s1 s0 t1 t0 e1 e0 h11 h10 h01 h00 hT hn hw hr1 b11 b10 b01 b00 m1 m2 hXb
  go_enter Try.func144, Try.ntmps144
  go_wp2
  go_quiet (fail)
  go_wp2
  go_ret
  exact ⟨rfl, since_drewN (World.Since.refl _ _) _⟩

set_option maxRecDepth 100000 in
set_option maxHeartbeats 2000000 in
theorem behind_any (n cap : Nat) (q : Int) (X : Nat → Nat → Int) (a : Option Addr) (l : List (List Int)) (w : World) (hn : l.length = n) (hT : Rec l) (hw : (l.getD 0 []).length = n) (hq : q ≠ 0) (hX : ∀ i k, i + 1 < n → k + 1 < n → chio (at2 l) i k = q * X i k) (hXb : ∀ i k, i + 1 < n → k + 1 < n → -4611686018427387904 ≤ X i k ∧ X i k ≤ 4611686018427387904)
    (hb : 2 ≤ n → ∀ i j, i < n → j < n → -1944000000 ≤ at2 l i j ∧ at2 l i j ≤ 1944000000) (hm : MatR w a l) :
    Calls Try.prog 134 #[.slice a n cap, .int .i64 q] w fun e w' => e = .returned (.slice (some ⟨w.heap.size + 1 + 1, 0, none⟩) (n - 1) (n - 1)) ∧ w.Since w.heap.size w' ∧ OwnT w.heap.size w'.heap.size w' (some ⟨w.heap.size + 1 + 1, 0, none⟩) (tabF (n - 1) (n - 1) X) := by
  have h6 := hT.high
  have h1 := hT.low
  rw [hn] at h6 h1
  have hnt := fun (W : World) (hs : w.Since w.heap.size W) (hb0 : W.cell? ⟨w.heap.size, 0, none⟩ = some (.slice a n cap)) (hb1 : W.cell? ⟨w.heap.size + 1, 0, none⟩ = some (.int .i64 q)) =>
    newTable_any 144 #[.pointer (some ⟨w.heap.size, 0, none⟩), .pointer (some ⟨w.heap.size + 1, 0, none⟩)] (n - 1) (n - 1) X W (by omega) (by omega) (enters_of Try.func144 (by kernel_rfl) rfl)
      (fun W' i k hs' hi hk => behindEntry_any w.heap.size (w.heap.size + 1) i k n cap q (X i k) a l W' hn hT hw hq (hX i k (by omega) (by omega)) (hXb i k (by omega) (by omega)) (hb (by omega)) ((hs'.cell (a := ⟨w.heap.size, 0, none⟩) (World.block_lt_of_cell? _ _ hb0)).trans hb0) ((hs'.cell (a := ⟨w.heap.size + 1, 0, none⟩) (World.block_lt_of_cell? _ _ hb1)).trans hb1) (hm.since (hs.trans (since_mono hs' hs.size))) (by omega) (by omega))
  have HS1 := Lib.hid (show w.Since w.heap.size ((w.alloc (.cells #[.slice a n cap] 58)).alloc (.cells #[.int .i64 q] 3)) from (((World.Since.refl _ _).alloc (Nat.le_refl _) _).alloc (by simp) _))
  have hc0 := cell_new_l w (.slice a n cap) 58
  have hc1 := cell_new_l (w.alloc (.cells #[.slice a n cap] 58)) (.int .i64 q) 3
  simp only [World.size_alloc] at hc1
  have hcb0 : ((w.alloc (.cells #[.slice a n cap] 58)).alloc (.cells #[.int .i64 q] 3)).cell? ⟨w.heap.size, 0, none⟩ = some (.slice a n cap) := cell_alloc_l _ hc0.1
  have hcb1 := hc1.1
  have E := hnt _ HS1.out hcb0 hcb1
  have hz : ((w.alloc (.cells #[.slice a n cap] 58)).alloc (.cells #[.int .i64 q] 3)).heap.size = w.heap.size + 1 + 1 := by simp
  rw [hz] at E
  obtain ⟨m, hmm⟩ : ∃ m, n - 1 = m := ⟨_, rfl⟩
  have hnm : (n : Int) - 1 = (m : Int) := by omega
  rw [hmm] at E ⊢
  replace E := Lib.hid E
  clear hnt hm hT hn hc0 hc1 hw hq hX hXb hb hcb0 hcb1 hmm hz
  go_enter Try.func134, Try.ntmps134
  go_wp2_with fail
  refine (E.out).mono ?_
  rintro e w1 ⟨rfl, hs2, ho⟩
  go_wp2
  go_ret
  exact ⟨rfl, HS1.out.trans (since_mono hs2 (by omega)), ho.mono (by omega) (Nat.le_refl _)⟩

end Go.Proofs.Ytkfondipmhjhjaa
end

section
/- The contracts of middle, hasZero and condensed. -/
namespace Go.Proofs.Ytkfondipmhjhjaa
open Go.RowKit Go.Deep

theorem sel_mid : ∀ m : Fin 7, 1 ≤ m.val → (sel (2 ^ m.val - 2) (m.val + 1) (m.val + 1)).map (·.1) = (List.range (m.val - 1)).map (· + 1) := by decide +kernel
theorem mid_wrap : ∀ m : Fin 7, 1 ≤ m.val → IntKind.i64.wrap (((2 ^ (m.val - 1) - 1 : Nat) : Int) * 2) = ((2 ^ m.val - 2 : Nat) : Int) ∧ 2 ^ m.val - 2 ≤ 63 := by decide +kernel
theorem tabF_rec7 {m : Nat} (h1 : 1 ≤ m) (h6 : m ≤ 7) (X : Nat → Nat → Int) : Rec7 (tabF m m X) := by
  refine ⟨by rw [tabF_length]; exact h1, by rw [tabF_length]; exact h6, by rw [tabF_len _ _ _ _ (by omega)]; omega, fun {r} hr => ?_⟩
  rw [tabF_length] at hr
  rw [tabF_len _ _ _ _ hr, tabF_len _ _ _ _ (by omega)]
theorem partL_mid {m : Nat} (h1 : 1 ≤ m) (h6 : m ≤ 6) (f : Nat → Nat → Int) : partL (tabF (m + 1) (m + 1) f) (2 ^ m - 2) (2 ^ m - 2) = tabF (m - 1) (m - 1) (fun i k => f (i + 1) (k + 1)) := by
  have e := sel_mid ⟨m, by omega⟩ h1
  simp only at e
  have hl : (tabF (m + 1) (m + 1) f).length = m + 1 := tabF_length _ _ _
  have hw : ((tabF (m + 1) (m + 1) f).getD 0 []).length = m + 1 := tabF_len _ _ _ _ (by omega)
  have hp : ∀ x : List Int, pickTo (2 ^ m - 2) x (m + 1) (m + 1) = (List.range (m - 1)).map (fun k => x.getD (k + 1) 0) := fun x => by
    have e2 : pickTo (2 ^ m - 2) x (m + 1) (m + 1) = ((sel (2 ^ m - 2) (m + 1) (m + 1)).map (·.1)).map (fun j => x.getD j 0) := by rw [List.map_map]; rfl
    rw [e2, e, List.map_map]; rfl
  have e3 : partL (tabF (m + 1) (m + 1) f) (2 ^ m - 2) (2 ^ m - 2) = ((sel (2 ^ m - 2) (m + 1) (m + 1)).map (·.1)).map (fun r => pickTo (2 ^ m - 2) ((tabF (m + 1) (m + 1) f).getD r []) (m + 1) (m + 1)) := by
    unfold partL partRows
    rw [hl, hw, List.map_map]; rfl
  rw [e3, e, List.map_map]
  unfold tabF
  refine List.map_congr_left fun i hi => ?_
  have hi' := List.mem_range.1 hi
  show pickTo _ ((tabF (m + 1) (m + 1) f).getD (i + 1) []) _ _ = _
  rw [hp]
  refine List.map_congr_left fun k hk => ?_
  have hk' := List.mem_range.1 hk
  exact tabF_at _ _ _ (i + 1) (k + 1) (by omega) (by omega)

set_option maxRecDepth 100000 in
set_option maxHeartbeats 1000000 in
theorem middle_any (a : Option Addr) (cap m M : Nat) (f : Nat → Nat → Int) (w : World) (h2 : 2 ≤ m) (h6 : m ≤ 6) (hM : M = m + 1) (hm : MatR w a (tabF M M f)) :
    Calls Try.prog 136 #[.slice a M cap] w fun e w' => ∃ a' cap', e = .returned (.slice a' (m - 1) cap') ∧ w.Since w.heap.size w' ∧ MatR w' a' (tabF (m - 1) (m - 1) (fun i k => f (i + 1) (k + 1))) := by
  obtain ⟨e1, e2⟩ := mid_wrap ⟨m, by omega⟩ (by show 1 ≤ m; omega)
  simp only at e1 e2
  have E1 := fullSet_any (m - 1) (by omega) w
  have hpm := partL_mid (m := m) (by omega) h6 f
  subst hM
  have E2 := part_rec7 a cap (m + 1) (2 ^ m - 2) (2 ^ m - 2) (tabF (m + 1) (m + 1) f) w (tabF_length _ _ _) (tabF_rec7 (by omega) (by omega) f) e2 e2 hm
  rw [hpm, tabF_length] at E2
  obtain ⟨M, hM⟩ : ∃ M, m + 1 = M := ⟨_, rfl⟩
  have hsub : IntKind.i64.wrap ((M : Int) - 2) = ((m - 1 : Nat) : Int) := (IntWalk.i64_in _ ⟨by omega, by omega⟩).trans (by omega)
  rw [hM] at E2 ⊢
  obtain ⟨S, hS⟩ : ∃ S, 2 ^ m - 2 = S := ⟨_, rfl⟩
  obtain ⟨q, hq⟩ : ∃ q, m - 1 = q := ⟨_, rfl⟩
  obtain ⟨B, hB⟩ : ∃ B, 2 ^ q - 1 = B := ⟨_, rfl⟩
  rw [hS] at E2 e1
  rw [hq] at E1 E2 e1 hsub ⊢
  rw [hB] at E1 e1
  replace E1 := Lib.hid E1
  replace E2 := Lib.hid E2
  clear hm hpm hS e2 hB hM hq
  go_enter Try.func136, Try.ntmps136
  go_wp2_with fail
  refine (E1.out).mono ?_
  rintro e w' ⟨rfl, rfl⟩
  go_wp2_with fail
  refine (E2.out).mono ?_
  rintro e w2 ⟨a', c', rfl, hs, ho, _⟩
  go_wp2
  go_ret
  exact ⟨a', c', rfl, hs, ho.matR⟩

set_option maxHeartbeats 400000 in
theorem hasZero1_any (r : Option Addr) (c m : Nat) (x : List Int) (w : World) (hx : x.length = m) (hm : m ≤ 1048576) (hr : RowR w r x) :
    Calls Try.prog 146 #[.slice r m c] w fun e w' => e = .returned (.bool (decide ((0 : Int) ∈ x))) ∧ w = w' := by
  have E := Lib.hid (contains_any r c m x 0 w hx hm hr)
  clear hx hr
  go_enter Try.func146, Try.ntmps146
  go_wp2_with fail
  refine (E.out).mono ?_
  rintro e w' ⟨rfl, rfl⟩
  go_wp2
  go_ret
  exact ⟨rfl, rfl⟩

set_option maxHeartbeats 400000 in
theorem containsFunc_any (K : Nat) (p : Nat → Bool) (a : Option Addr) (cap n : Nat) (l : List (List Int)) (w : World) (hn : l.length = n) (hm : MatR w a l) (eg : ∀ args w, (callFunc K args).run Try.prog w = .ok (.enter K args) w) (h63 : n ≤ 1048576)
    (hp : ∀ (i : Nat) (r : Option Addr) (c : Nat), i < n → RowR w r (l.getD i []) → Calls Try.prog K #[.slice r (l.getD i []).length c] w fun e w' => e = .returned (.bool (p i)) ∧ w = w') :
    Calls Try.prog 145 #[.slice a n cap, .func (.func K) #[] #[]] w fun e w' => w = w' ∧ ((e = .returned (.bool true) ∧ ∃ i, i < n ∧ p i = true) ∨ (e = .returned (.bool false) ∧ ∀ i, i < n → p i = false)) := by
  have E := Lib.hid (indexFunc_any K p a cap n l w hn hm eg h63 hp)
  clear hn hm hp
  go_enter Try.func145, Try.ntmps145
  go_wp2_with fail
  refine (E.out).mono ?_
  rintro e w' ⟨r, rfl, hr, rfl⟩
  rcases hr with ⟨i, hi, rfl, hpi, _⟩ | ⟨rfl, hno⟩
  · have hge : (i : Int) ≥ 0 := by omega
    have HP := Lib.hid hpi
    clear hpi
    go_wp2
    go_ret
    exact ⟨rfl, .inl ⟨by first | rfl | simp, i, hi, HP.out⟩⟩
  · have HP := Lib.hid hno
    clear hno
    go_wp2
    go_ret
    exact ⟨rfl, .inr ⟨by first | rfl | simp, HP.out⟩⟩

theorem mem_tabF {q : Nat} {f : Nat → Nat → Int} {i : Nat} (hi : i < q) : ((0 : Int) ∈ (tabF q q f).getD i []) ↔ ∃ k, k < q ∧ f i k = 0 := by
  rw [tabF_get _ _ _ _ hi]
  simp only [List.mem_map, List.mem_range]

set_option maxHeartbeats 400000 in
theorem hasZero_any (a : Option Addr) (cap q : Nat) (f : Nat → Nat → Int) (w : World) (h6 : q ≤ 6) (hm : MatR w a (tabF q q f)) :
    Calls Try.prog 137 #[.slice a q cap] w fun e w' => w = w' ∧ ((e = .returned (.bool true) ∧ ∃ i k, i < q ∧ k < q ∧ f i k = 0) ∨ (e = .returned (.bool false) ∧ ∀ i k, i < q → k < q → f i k ≠ 0)) := by
  have E := Lib.hid (containsFunc_any 146 (fun i => decide ((0 : Int) ∈ (tabF q q f).getD i [])) a cap q (tabF q q f) w (tabF_length _ _ _) hm (enters_of Try.func146 (by kernel_rfl) rfl) (by omega)
    (fun i r c hi hr => hasZero1_any r c _ _ w rfl (by rw [tabF_len _ _ _ _ hi]; omega) hr))
  clear hm
  go_enter Try.func137, Try.ntmps137
  go_wp2_with fail
  refine (E.out).mono ?_
  rintro e w' ⟨rfl, ⟨rfl, i, hi, hp⟩ | ⟨rfl, hno⟩⟩
  · have HP := Lib.hid ((mem_tabF hi).1 (of_decide_eq_true hp))
    clear hp
    go_wp2
    go_ret
    obtain ⟨k, hk, h0⟩ := HP.out
    exact ⟨rfl, .inl ⟨rfl, i, k, hi, hk, h0⟩⟩
  · have HP := Lib.hid hno
    clear hno
    go_wp2
    go_ret
    exact ⟨rfl, .inr ⟨rfl, fun i k hi hk h0 => of_decide_eq_false (HP.out i hi) ((mem_tabF hi).2 ⟨k, hk, h0⟩)⟩⟩

/-- What a number is made of. -/
structure CNum (y1 y2 y3 y4 v z : Int) : Prop where
  ne : v ≠ 0
  w1 : IntKind.i64.wrap (y1 * y2) = y1 * y2
  w2 : IntKind.i64.wrap (y3 * y4) = y3 * y4
  w3 : IntKind.i64.wrap (y1 * y2 - y3 * y4) = v * z
  w4 : IntKind.i64.wrap z = z
  w5 : Int.tdiv (v * z) v = z

set_option maxHeartbeats 2000000 in
theorem condEntry_any (p r i k m q cap cap2 : Nat) (a a2 : Option Addr) (T G X : Nat → Nat → Int) (w : World) (hq : q + 1 = m) (h6 : m ≤ 6) (hT : GR w a m T) (hG : GR w a2 q G) (hX : CNum (T i k) (T (i + 1) (k + 1)) (T i (k + 1)) (T (i + 1) k) (G i k) (X i k))
    (hbox : w.cell? ⟨p, 0, none⟩ = some (.slice a m cap)) (hbox2 : w.cell? ⟨r, 0, none⟩ = some (.slice a2 q cap2)) (hi : i < q) (hk : k < q) :
    Calls Try.prog 147 #[.int .i64 i, .int .i64 k, .pointer (some ⟨p, 0, none⟩), .pointer (some ⟨r, 0, none⟩)] w fun e w' => e = .returned (.int .i64 (X i k)) ∧ w.Since w.heap.size w' := by
  obtain ⟨ip, hip⟩ : ∃ x, i + 1 = x := ⟨_, rfl⟩
  obtain ⟨kp, hkp⟩ : ∃ x, k + 1 = x := ⟨_, rfl⟩
  rw [hip, hkp] at hX
  obtain ⟨b, o, A, C, rfl, gtop, gc⟩ := hT
  obtain ⟨d, s, A2, C2, rfl, htop, hc⟩ := hG
  obtain ⟨b1, o1, t1, c1⟩ := gc i k (by omega) (by omega)
  obtain ⟨b2, o2, t2, c2⟩ := gc ip kp (by omega) (by omega)
  obtain ⟨b3, o3, t3, c3⟩ := gc i kp (by omega) (by omega)
  obtain ⟨b4, o4, t4, c4⟩ := gc ip k (by omega) (by omega)
  have e13 := t1.symm.trans t3
  have e24 := t2.symm.trans t4
  simp only [Option.some.injEq, Value.slice.injEq, Addr.mk.injEq, and_true] at e13 e24
  obtain ⟨rfl, rfl⟩ := e13
  obtain ⟨rfl, rfl⟩ := e24
  obtain ⟨b5, o5, t5, c5⟩ := hc i k hi hk
  obtain ⟨h0, w1, w2, w3, w4, w5⟩ := hX
  have hv0 : (G i k == 0) = false := by simpa using h0
  have hvn : G i k ≠ 0 := h0
  obtain ⟨y1, h1'⟩ : ∃ y, T i k = y := ⟨_, rfl⟩
  obtain ⟨y2, h2'⟩ : ∃ y, T ip kp = y := ⟨_, rfl⟩
  obtain ⟨y3, h3'⟩ : ∃ y, T i kp = y := ⟨_, rfl⟩
  obtain ⟨y4, h4'⟩ : ∃ y, T ip k = y := ⟨_, rfl⟩
  obtain ⟨z, hz'⟩ : ∃ z, X i k = z := ⟨_, rfl⟩
  obtain ⟨v, hv'⟩ : ∃ v, G i k = v := ⟨_, rfl⟩
  rw [h1'] at c1 w1 w3
  rw [h2'] at c2 w1 w3
  rw [h3'] at c3 w2 w3
  rw [h4'] at c4 w2 w3
  rw [hz'] at w3 w4 w5 ⊢
  rw [hv'] at c5 w3 w5 hv0 hvn
  have hi6 : i ≤ 5 := by omega
  have wi' : IntKind.i64.wrap ((i : Int) + 1) = (ip : Int) := (IntWalk.i64_in _ ⟨by omega, by omega⟩).trans (by omega)
  have wk' : IntKind.i64.wrap ((k : Int) + 1) = (kp : Int) := (IntWalk.i64_in _ ⟨by omega, by omega⟩).trans (by omega)
  have hk6 : k ≤ 5 := by omega
  have hi1 : i < m := by omega
  have hk1 : k < m := by omega
  have hi2 : ip < m := by omega
  have hk2 : kp < m := by omega
  clear hip hkp gc hc gtop htop h0 h1' h2' h3' h4' hz' hv' hq
  go_enter Try.func147, Try.ntmps147
  go_wp2
  go_quiet (fail)
  go_wp2
  go_ret
  exact ⟨rfl, since_drewN (World.Since.refl _ _) _⟩

set_option maxRecDepth 100000 in
set_option maxHeartbeats 2000000 in
theorem condensed_any (m q cap cap2 : Nat) (a a2 : Option Addr) (T G X : Nat → Nat → Int) (w : World) (hq : q + 1 = m) (h6 : m ≤ 6) (hT : GR w a m T) (hG : GR w a2 q G) (hX : ∀ i k, i < q → k < q → CNum (T i k) (T (i + 1) (k + 1)) (T i (k + 1)) (T (i + 1) k) (G i k) (X i k)) :
    Calls Try.prog 138 #[.slice a m cap, .slice a2 q cap2] w fun e w' => e = .returned (.slice (some ⟨w.heap.size + 1 + 1, 0, none⟩) q q) ∧ w.Since w.heap.size w' ∧ OwnT w.heap.size w'.heap.size w' (some ⟨w.heap.size + 1 + 1, 0, none⟩) (tabF q q X) := by
  have hnt := fun (W : World) (hs : w.Since w.heap.size W) (hb0 : W.cell? ⟨w.heap.size, 0, none⟩ = some (.slice a m cap)) (hb1 : W.cell? ⟨w.heap.size + 1, 0, none⟩ = some (.slice a2 q cap2)) =>
    newTable_any 147 #[.pointer (some ⟨w.heap.size, 0, none⟩), .pointer (some ⟨w.heap.size + 1, 0, none⟩)] q q X W (by omega) (by omega) (enters_of Try.func147 (by kernel_rfl) rfl)
      (fun W' i k hs' hi hk => condEntry_any w.heap.size (w.heap.size + 1) i k m q cap cap2 a a2 T G X W' hq h6 (hT.since (hs.trans (since_mono hs' hs.size))) (hG.since (hs.trans (since_mono hs' hs.size))) (hX i k hi hk) ((hs'.cell (a := ⟨w.heap.size, 0, none⟩) (World.block_lt_of_cell? _ _ hb0)).trans hb0) ((hs'.cell (a := ⟨w.heap.size + 1, 0, none⟩) (World.block_lt_of_cell? _ _ hb1)).trans hb1) hi hk)
  have HS1 := Lib.hid (show w.Since w.heap.size ((w.alloc (.cells #[.slice a m cap] 58)).alloc (.cells #[.slice a2 q cap2] 58)) from (((World.Since.refl _ _).alloc (Nat.le_refl _) _).alloc (by simp) _))
  have hc0 := cell_new_l w (.slice a m cap) 58
  have hc1 := cell_new_l (w.alloc (.cells #[.slice a m cap] 58)) (.slice a2 q cap2) 58
  simp only [World.size_alloc] at hc1
  have hcb0 : ((w.alloc (.cells #[.slice a m cap] 58)).alloc (.cells #[.slice a2 q cap2] 58)).cell? ⟨w.heap.size, 0, none⟩ = some (.slice a m cap) := cell_alloc_l _ hc0.1
  have hcb1 := hc1.1
  have E := hnt _ HS1.out hcb0 hcb1
  have hz : ((w.alloc (.cells #[.slice a m cap] 58)).alloc (.cells #[.slice a2 q cap2] 58)).heap.size = w.heap.size + 1 + 1 := by simp
  rw [hz] at E
  replace E := Lib.hid E
  clear hnt hT hG hX hc0 hc1 hz hcb0
  go_enter Try.func138, Try.ntmps138
  go_wp2_with fail
  refine (E.out).mono ?_
  rintro e w1 ⟨rfl, hs2, ho⟩
  go_wp2
  go_ret
  exact ⟨rfl, HS1.out.trans (since_mono hs2 (by omega)), ho.mono (by omega) (Nat.le_refl _)⟩

set_option maxHeartbeats 400000 in
theorem ones1_any (i k : Nat) (w : World) : Calls Try.prog 135 #[.int .i64 i, .int .i64 k] w fun e w' => e = .returned (.int .i64 1) ∧ w.Since w.heap.size w' := by
  go_enter Try.func135, Try.ntmps135
  go_wp2
  go_ret
  exact ⟨rfl, World.Since.refl _ _⟩

theorem ones_any (M : Nat) (hM : M ≤ 1000) (w : World) : Calls Try.prog 93 #[.int .i64 M, .int .i64 M, .func (.func 135) #[] #[]] w fun e w' => e = .returned (.slice (some ⟨w.heap.size, 0, none⟩) M M) ∧ w.Since w.heap.size w' ∧ OwnT w.heap.size w'.heap.size w' (some ⟨w.heap.size, 0, none⟩) (tabF M M (fun _ _ => 1)) :=
  newTable_any 135 #[] M M (fun _ _ => 1) w hM hM (enters_of Try.func135 (by kernel_rfl) rfl) (fun W i k _ _ _ => ones1_any i k W)

end Go.Proofs.Ytkfondipmhjhjaa
end

section
/- The contract of impl.ValueCondense. -/
namespace Go.Proofs.Ytkfondipmhjhjaa
open Go.RowKit Go.Deep

theorem tabF_self {l : List (List Int)} {n : Nat} (hn : l.length = n) (hrow : ∀ r, r < n → (l.getD r []).length = n) : tabF n n (at2 l) = l := by
  have h : (List.range n).map (fun r => (List.range n).map (at2 l r)) = (List.range n).map (fun r => l.getD r []) :=
    List.map_congr_left fun r hr => by
      have hr' := hrow r (List.mem_range.1 hr)
      have e := range_getD (l.getD r []) (0 : Int)
      rw [hr'] at e
      exact e
  show (List.range n).map (fun r => (List.range n).map (at2 l r)) = l
  rw [h, ← hn, range_getD]

set_option maxRecDepth 100000 in
set_option maxHeartbeats 1500000 in
theorem byCondensing_any (n : Nat) (l : List (List Int)) (a : Option Addr) (cap : Nat) (w : World) (hn : l.length = n) (hT : TabIn l) (hw : (l.getD 0 []).length = n) (hm : MatR w a l) :
    Calls Try.prog 123 #[.slice a n cap] w fun e w' => e = .returned (.tuple #[.int .i64 (if conB n (at2 l) = true then dt n (at2 l) else 0), .bool (conB n (at2 l))]) ∧ w.Since w.heap.size w' := by
  have h6 := hT.2.1
  have h1 := hT.1
  rw [hn] at h6 h1
  have hA : ∀ i j, i < n → j < n → -30 ≤ at2 l i j ∧ at2 l i j ≤ 30 := fun i j hi hj => hT.at (by omega) (by omega)
  have hrow : ∀ r, r < n → (l.getD r []).length = n := fun r hr => by rw [hT.row (by omega), hw]
  have hmt : MatR w a (tabF n n (cn (at2 l) 1)) := by
    have e : cn (at2 l) 1 = at2 l := by funext i k; exact cn_one _ i k
    rw [e, tabF_self hn hrow]; exact hm
  have HG := Lib.hid hmt
  clear hmt
  obtain ⟨F, hFF⟩ : ∃ F, F = at2 l := ⟨_, rfl⟩
  rw [← hFF] at hA HG ⊢
  have HA := Lib.hid hA
  obtain ⟨b, hb⟩ : ∃ b, conB n F = b := ⟨_, rfl⟩
  obtain ⟨y, hy⟩ : ∃ y, (if conB n F = true then dt n F else 0) = y := ⟨_, rfl⟩
  rw [hy, hb]
  have HNO := Lib.hid (fun (h : conB n F = false) => show b = false ∧ y = 0 from ⟨by rw [← hb, h], by rw [← hy, h]; rfl⟩)
  have HYES := Lib.hid (fun (h : conB n F = true) => show b = true ∧ y = dt n F from ⟨by rw [← hb, h], by rw [← hy, h, if_pos rfl]⟩)
  clear hb hy
  have EO := Lib.hid (ones_any (n + 1) (by omega) w)
  clear hA hrow hm hT hw hn hFF
  go_enter Try.func123, Try.ntmps123
  go_wp2_with fail
  refine (EO.out).mono ?_
  rintro e w1 ⟨rfl, hs1, ho1⟩
  have HM1 := Lib.hid ho1.matR
  have HS1 := Lib.hid hs1
  have HG1 := Lib.hid (HG.out.since hs1)
  clear ho1 hs1
  go_wp2
  go_loopg [0, 4, 5] n (fun g t ah _ wr => ∃ (d M ca ct : Nat) (aa ta : Option Addr), d < n ∧ g = n - d ∧ M = n - d + 1 ∧ t = .slice ta (n - d) ct ∧ ah = .slice aa M ca ∧ MatR wr ta (tabF (n - d) (n - d) (cn F (d + 1))) ∧ MatR wr aa (tabF M M (cn F d)) ∧ ConTo n F d ∧ w.Since w.heap.size wr)
  case atStart => exact ⟨0, n + 1, _, _, _, _, by omega, rfl, rfl, rfl, rfl, HG1.out, HM1.out, ConTo.start n F, HS1.out⟩
  case round =>
    obtain ⟨d, M, ca, ct, aa, ta, hd, rfl, hM, rfl, rfl, hG, hP, hC, hS⟩ := hrel
    clear HG1 HM1 HS1
    have HGT := Lib.hid hG
    have HGG := Lib.hid (GR.of_tab hG (by omega))
    have HC := Lib.hid hC
    have HS := Lib.hid hS
    obtain ⟨m, hm⟩ : ∃ m, n - d = m := ⟨_, rfl⟩
    have HM := Lib.hid hm
    rw [hm] at hM ⊢
    rw [hm] at HGG HGT
    clear hG hC hS
    by_cases hgt : 1 < m
    · have hgt' : decide ((1 : Int) < (m : Int)) = true := by simp; omega
      have EM := Lib.hid (middle_any aa ca m M (cn F d) wr (by omega) (by omega) hM hP)
      clear hP hM
      go_wp2_with fail
      refine (EM.out).mono ?_
      rintro e w2 ⟨am, cm, rfl, hs2, hm2⟩
      have EZ := Lib.hid (hasZero_any am cm (m - 1) (fun i k => cn F d (i + 1) (k + 1)) w2 (by omega) hm2)
      have HGM := Lib.hid (GR.of_tab hm2 (by omega))
      have HS2 := Lib.hid (HS.out.trans (since_mono hs2 HS.out.size))
      have HG2 := Lib.hid (HGG.out.since hs2)
      obtain ⟨q, hq⟩ : ∃ q, m - 1 = q := ⟨_, rfl⟩
      rw [hq] at EZ HGM ⊢
      have HQ := Lib.hid hq
      have HS22 := Lib.hid hs2
      clear hm2 hs2
      go_wp2_with fail
      refine (EZ.out).mono ?_
      rintro e w3 ⟨rfl, ⟨rfl, i, k, hi, hk, h0⟩ | ⟨rfl, hno⟩⟩
      · obtain ⟨rfl, rfl⟩ := HNO.out (conB_false (n := n) (F := F) (d := d) (i := i) (k := k) (by omega) (by omega) h0)
        clear h0 hq HNO HYES
        go_wp2
        go_ret2
        exact ⟨rfl, HS2.out⟩
      · have hnum : ∀ i k, i < q → k < q → CNum (cn F (d + 1) i k) (cn F (d + 1) (i + 1) (k + 1)) (cn F (d + 1) i (k + 1)) (cn F (d + 1) (i + 1) k) ((fun i k => cn F d (i + 1) (k + 1)) i k) (cn F (d + 2) i k) := fun i k hi hk => by
          obtain ⟨y1, y2, y3, y4, y5⟩ := cn_num h6 HA.out (d := d) (i := i) (k := k) (by omega) (by omega) (hno i k hi hk)
          exact ⟨hno i k hi hk, y1, y2, y3, y4, y5⟩
        have EC := Lib.hid (condensed_any m q ct cm ta am (cn F (d + 1)) (fun i k => cn F d (i + 1) (k + 1)) (cn F (d + 2)) w2 (by omega) (by omega) HG2.out HGM.out hnum)
        have hCN := Lib.hid (HC.out.next (fun i k hi hk => hno i k (by omega) (by omega)))
        clear hno hnum hq
        go_wp2_with fail
        refine (EC.out).mono ?_
        rintro e w4 ⟨rfl, hs4, ho4⟩
        have HG4 := Lib.hid ho4.matR
        have HS4 := Lib.hid (HS2.out.trans (since_mono hs4 HS2.out.size))
        have HT4 := Lib.hid (HGT.out.since (HS22.out.trans (since_mono hs4 HS22.out.size)))
        clear hs4 ho4
        go_wp2
        go_roundg (n - (d + 1))
        case measure => omega
        case rel =>
          have e1 : n - (d + 1) = q := by have := HQ.out; omega
          have e2 : m = q + 1 := by have := HQ.out; omega
          exact ⟨d + 1, m, ct, q, ta, _, by omega, rfl, by rw [e1]; exact e2, by rw [e1], rfl, by rw [e1]; exact HG4.out, HT4.out, hCN.out, HS4.out⟩
    · have hm1 : m = 1 := by omega
      have hdn : d + 1 = n := by omega
      obtain ⟨bn, on, An, Cn, ean, gtop, gcell⟩ := HGG.out
      obtain ⟨b1, o1, t1, c1⟩ := gcell 0 0 (by omega) (by omega)
      rw [hdn, cn_all] at c1
      rw [Nat.add_zero] at t1 c1
      obtain ⟨rfl, hyd⟩ := HYES.out (conB_true (HC.out.all (by omega)))
      rw [← hyd] at c1
      subst ean
      have hgt' : decide ((1 : Int) < (m : Int)) = false := by simp; omega
      clear gtop gcell hm hM hP HYES HNO hyd
      subst hm1
      go_wp2
      go_ret2
      exact ⟨rfl, HS.out⟩

theorem implValueCondense_any (a : Option Addr) (cap n : Nat) (l : List (List Int)) (w : World) (hn : l.length = n) (hsz : szL l ≤ 1048576) (hm : MatR w a l) :
    Calls Try.prog 17 #[.slice a n cap] w (SpecW w (conOk l n) (conV l n)) := by
  unfold conOk conV
  exact implValueCondense_of a cap n l (dt n (at2 l)) (conB n (at2 l)) w hn hsz hm fun hs W' hm' => by
    obtain ⟨hT, hw⟩ := sqB_of hs
    exact byCondensing_any n l a cap W' hn hT (by rw [← hw, hn]) hm'

end Go.Proofs.Ytkfondipmhjhjaa
end

section
/- The walk of laws.FnCondense. -/
namespace Go.Proofs.Ytkfondipmhjhjaa
open Go.RowKit Go.Deep

set_option maxRecDepth 100000 in
set_option maxHeartbeats 4000000 in
theorem fnCondense (a : Option Addr) (cap n : Nat) (w : World) (hc : n ≤ cap) (h63 : cap ≤ 9223372036854775807) (hb : BytR w a n) :
    Calls Try.prog 3 #[.slice a n cap] w fun e w' => e = .returned (.bool true) ∧ w.Since w.heap.size w' := by
  by_cases hlen : 1048576 < n
  · have hl' : decide ((1048576 : Int) < (n : Int)) = true := by simp; omega
    clear hb
    go_enter Try.func3, Try.ntmps3
    go_wp2
    go_ret
    exact ⟨rfl, World.Since.refl _ _⟩
  · have hl' : decide ((1048576 : Int) < (n : Int)) = false := by simp; omega
    have ED := Lib.hid (drawValueCondense_any a n cap w hc h63 hb)
    clear hb
    go_enter Try.func3, Try.ntmps3
    go_wp2_with fail
    refine (ED.out).mono ?_
    rintro e w1 ⟨a1, c1, l, rfl, hs1, h1, h5, hlens, hit⟩
    have hsz : szL l ≤ 1048576 := szL_of h5 (fun j hj => (hlens j hj).2) (by decide)
    obtain ⟨nn, hn⟩ : ∃ nn, l.length = nn := ⟨_, rfl⟩
    rw [hn]
    have HN := Lib.hid hn
    have HSZ := Lib.hid hsz
    have HM := Lib.hid (fun (W : World) (h : w1.Since w1.heap.size W) => hit.matR.since h)
    have HS1 := Lib.hid hs1
    obtain ⟨ok, hok⟩ : ∃ ok, conOk l nn = ok := ⟨_, rfl⟩
    obtain ⟨v, hv⟩ : ∃ v, (if ok = true then conV l nn else 0) = v := ⟨_, rfl⟩
    have E1 := implValueCondense_any a1 c1 nn l w1 hn hsz hit.matR
    have E2 := fun (W : World) (h : w1.Since w1.heap.size W) => specValueCondense_any a1 c1 nn l W hn hsz (hit.matR.since h)
    unfold SpecW at E1
    unfold SpecW at E2
    rw [hok, hv] at E1
    simp only [hok, hv] at E2
    replace E1 := Lib.hid E1
    replace E2 := Lib.hid E2
    have HOK := Lib.hid hok
    have HV := Lib.hid hv
    clear hn hsz hit hs1 h1 h5 hlens hok hv
    go_wp2_with fail
    refine (E1.out).mono ?_
    rintro e w2 ⟨rfl, hs2⟩
    have HS2 := Lib.hid hs2
    clear hs2
    go_wp2_with fail
    refine (E2.out w2 HS2.out).mono ?_
    rintro e w3 ⟨rfl, hd3⟩
    have HS3 := Lib.hid (HS2.out.trans (since_mono (hd3) HS2.out.size))
    clear hd3
    cases ok with
    | false =>
      go_wp2
      go_ret
      exact ⟨rfl, HS1.out.trans (since_mono HS3.out HS1.out.size)⟩
    | true =>
      have hv := HV.out
      rw [if_pos rfl] at hv
      obtain ⟨hsq, hd⟩ : sqB l = true ∧ ordF l nn nn 0 = v := by
        have h := HOK.out
        unfold conOk at h
        rw [Bool.and_eq_true] at h
        obtain ⟨hT, _⟩ := sqB_of h.1
        have h6 := hT.2.1
        have hn := HN.out
        exact ⟨h.1, by rw [← hv, ordF_all l (by omega)]; rfl⟩
      clear hv
      have E5 := implValueOrders_any a1 c1 nn l w3 HN.out HSZ.out (HM.out w3 HS3.out)
      unfold SpecW at E5
      rw [hsq, if_pos rfl, hd] at E5
      replace E5 := Lib.hid E5
      go_wp2_with fail
      refine (E5.out).mono ?_
      rintro e w5 ⟨rfl, hs5⟩
      have HS5 := Lib.hid (HS3.out.trans (since_mono hs5 HS3.out.size))
      clear hs5
      go_wp2
      go_ret
      exact ⟨rfl, HS1.out.trans (since_mono HS5.out HS1.out.size)⟩

end Go.Proofs.Ytkfondipmhjhjaa
end

section
/- What an argument reads as, in the words of the walks; the last step of a row. -/
namespace Go.Proofs.Ytkfondipmhjhjaa
open Go.ChangeShapes Go.WideShapes Go.ChangeAt Go.RowKit Go.Deep

theorem below_since' {B : Nat} {w w' : World} (h : Below B w w') : w.Since B w' := ⟨h.os, h.tape, h.output, h.size, h.block⟩
theorem since_below' {B : Nat} {w w' : World} (h : w.Since B w') : Below B w w' := ⟨h.os, h.tape, h.output, h.size, h.block⟩

section
variable {H : Type} {enc : TypeId × Value → H} {P : Program}
theorem post_of_below {f : Func} {s : ChangeSpec} {apart fresh handsOn again : Bool} {W W' : World} {args : Array Value} {v : Value} {ds gs : List (DataW H)} {before pa pv : List MemPlace}
    (hW : DataW.Whole enc P f.params.toList s.vars apart W args.toList ds gs before)
    (hres : ∀ (b : Nat) (sp : Nat → Bool) (hd : Bool), DataW.TrodAll enc P W' b sp hd f.resultTypes.toList (v.resultList f.resultTypes.size) (s.fn H (ds ++ gs)).results [])
    (hargs : ∀ sp : Nat → Bool, (∀ p ∈ before, sp p.block = true) → DataW.TrodAll enc P W' 0 sp true f.params.toList args.toList (s.fn H (ds ++ gs)).args pa)
    (hvars : ∀ sp : Nat → Bool, (∀ p ∈ before, sp p.block = true) → DataW.TrodVars enc P W' sp s.vars (s.fn H (ds ++ gs)).vars pv)
    (hps : before = pa ++ pv) (hb : Below W.heap.size W W') (hag : again = false) :
    s.post enc P f apart fresh handsOn again W args v W' := by
  have hlt : ∀ p ∈ before, p.block < W.heap.size := fun p hp => hW.lt p hp
  have hold : ∀ p ∈ before, (fun b => decide (b < W.heap.size)) p.block = true := fun p hp => by simpa using hlt p hp
  refine ⟨ds, gs, before, [], pa, pv, hW, hres _ _ _, hargs _ hold, hvars _ hold, World.keptBut_mono (fun p hp => ⟨hp, ?_⟩) (hb.frame (· ∈ before)), fun h => ?_⟩
  · rw [hps, List.mem_append] at hp
    exact Or.inr hp
  · rw [hag] at h; cases h

/-- An argument of slices of integers reads as a list of lists. -/
theorem open_mat {W : World} {t e q : TypeId} {a : Option Addr} {n cap : Nat} {d : DataW H} {p : List MemPlace} (ht : P.underlying t = some (.slice e)) (he : P.underlying e = some (.slice q)) (hq : P.underlying q = some (.int .i64))
    (ce : P.cellsOf e = 1) (cq : P.cellsOf q = 1) (h : DataW.Trod enc P W 0 (fun _ => true) true t (.slice a n cap) d p) :
    ∃ l : List (List Int), l.length = n ∧ MatR W a l ∧ n ≤ 9223372036854775807 ∧ ∀ r, r < l.length → (l.getD r []).length ≤ 9223372036854775807 := by
  obtain ⟨fuel, hf⟩ := h
  rcases open_int_rows ht he hq ce cq hf with ⟨hcs, _⟩ | ⟨a', len', cap', A, L, C, Z, hcs, _, hl, hm, _, hrows⟩
  · simp [Value.cells] at hcs
    obtain ⟨rfl, rfl, rfl⟩ := hcs
    exact ⟨[], rfl, (fun h => by simp at h), by omega, fun r hr => by simp at hr⟩
  · simp [Value.cells] at hcs
    obtain ⟨rfl, rfl, rfl⟩ := hcs
    have hmx : maxLen = 9223372036854775807 := rfl
    have hlen : ∀ r, r < n → ((Z r).take (L r)).length = L r := fun r hr => by
      obtain ⟨_, h1, _, h2, _⟩ := hrows r (by omega)
      rw [List.length_take]; omega
    have hget : ∀ r, r < n → ((List.range n).map fun r => (Z r).take (L r)).getD r [] = (Z r).take (L r) := fun r hr => by simp [List.getD, hr]
    refine ⟨(List.range n).map fun r => (Z r).take (L r), by simp, fun h => ?_, by omega, fun r hr => ?_⟩
    · obtain ⟨b, o, spot⟩ := a'
      simp at h
      have hspot : spot = none := by simpa [Addr.add] using World.cell?_spot (hrows 0 (by omega)).1
      subst hspot
      refine ⟨b, o, A, C, rfl, fun r hr => ?_⟩
      simp at hr
      rw [hget r hr, hlen r hr]
      obtain ⟨g1, g2, g3, g4, g5, g6, g7⟩ := hrows r (by omega)
      refine ⟨by rw [← add_plain]; exact g1, fun h0 => ?_⟩
      rw [hlen r hr] at h0
      cases hA : A r with
      | none => have := g6 hA; omega
      | some a'' =>
        obtain ⟨_, hcell⟩ := g7 a'' hA
        obtain ⟨b', o', sp⟩ := a''
        have hs : sp = none := by simpa [Addr.add] using World.cell?_spot (hcell 0 (by omega))
        subst hs
        refine ⟨b', o', rfl, fun i hi => ?_⟩
        rw [hlen r hr] at hi
        rw [← add_plain, hcell i (by omega)]
        congr 2
        simp [List.getD, hi]
    · simp at hr
      rw [hget r hr, hlen r hr]
      obtain ⟨_, h1, h2, _⟩ := hrows r (by omega)
      omega
end

theorem Try.own : ownKnob Try.prog.godebug = none := by kernel_rfl
theorem Try.laidOut : laidOutB Try.prog = true := by kernel_rfl
theorem Try.cellsR : Try.prog.cellsOf 28 = 1 := by kernel_rfl
theorem Try.cellsI : Try.prog.cellsOf 3 = 1 := by kernel_rfl

end Go.Proofs.Ytkfondipmhjhjaa
end

section
/- An argument of bytes reads as bytes. -/
namespace Go.Proofs.Ytkfondipmhjhjaa
open Go.ChangeShapes Go.WideShapes Go.ChangeAt Go.RowKit Go.Deep

theorem wf_u8_of {n : Int} (h : (Lit.int .u8 n).wf = true) : 0 ≤ n ∧ n ≤ 255 := by
  have h2 : (0 : Int) ≤ n ∧ n ≤ 255 := by simpa [Lit.wf, IntKind.min, IntKind.max, IntKind.signed, IntKind.bits] using h
  exact h2

theorem open_bytes {H : Type} {enc : TypeId × Value → H} {P : Program} {W : World} {t e : TypeId} {a : Option Addr} {n cap : Nat} {d : DataW H} {p : List MemPlace} (ht : P.underlying t = some (.slice e)) (he : P.underlying e = some (.int .u8)) (ce : P.cellsOf e = 1)
    (h : DataW.Trod enc P W 0 (fun _ => true) true t (.slice a n cap) d p) : BytR W a n ∧ n ≤ cap ∧ cap ≤ 9223372036854775807 := by
  obtain ⟨fuel, hf⟩ := h
  rcases open_ints ht he ce hf with ⟨hcs, _⟩ | ⟨a', len, cap', zs, hcs, _, hl, hm, hlen, _, hcell, hwf⟩
  · simp [Value.cells] at hcs
    obtain ⟨rfl, rfl, rfl⟩ := hcs
    exact ⟨fun h => absurd h (by omega), by omega, by omega⟩
  · simp [Value.cells] at hcs
    obtain ⟨rfl, rfl, rfl⟩ := hcs
    have hmx : maxLen = 9223372036854775807 := rfl
    have hzl : zs.length = cap := by simpa using hlen
    refine ⟨fun h0 => ?_, by omega, by omega⟩
    obtain ⟨b, o, spot⟩ := a'
    have hspot : spot = none := by simpa [Addr.add] using World.cell?_spot (hcell 0 (by omega))
    subst hspot
    refine ⟨b, o, rfl, fun i hi => ?_⟩
    have hi' : i < zs.length := by omega
    have hw := wf_u8_of (hwf (zs.getD i 0) (by simp [List.getD, hi']))
    obtain ⟨z, hz⟩ := Int.eq_ofNat_of_zero_le hw.1
    refine ⟨z, by omega, ?_⟩
    rw [← add_plain, hcell i hi', hz]

theorem Try.cellsB : Try.prog.cellsOf 5 = 1 := by kernel_rfl

end Go.Proofs.Ytkfondipmhjhjaa
end
