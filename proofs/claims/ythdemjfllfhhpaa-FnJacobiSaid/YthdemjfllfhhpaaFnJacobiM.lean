import Derived.Test.YthdemjfllfhhpaaTable
import Derived.Test.YthdemjfllfhhpaaTurnImpl
import Derived.Test.YthdemjfllfhhpaaWR
import Derived.Test.YthdemjfllfhhpaaGrid
import Derived.Test.YthdemjfllfhhpaaMakeEntry
import Derived.Test.YthdemjfllfhhpaaDetMul
import Derived.Test.YthdemjfllfhhpaaOtherV
import Derived.Test.YthdemjfllfhhpaaL2Square
import Derived.Test.YthdemjfllfhhpaaBar
import Derived.Test.YthdemjfllfhhpaaOrdF
import Derived.Test.YthdemjfllfhhpaaPartImpl
import Derived.Test.YthdemjfllfhhpaaSig
import Derived.Test.YthdemjfllfhhpaaSquareV
import Derived.Test.YthdemjfllfhhpaaPivotsI
import Derived.Test.YthdemjfllfhhpaaOrdDet
import Derived.Test.YthdemjfllfhhpaaMinorV
import Derived.Test.YthdemjfllfhhpaaNewTableX
import Derived.Test.YthdemjfllfhhpaaHarn2
import Derived.Test.YthdemjfllfhhpaaOrdersK
import Derived.Test.YthdemjfllfhhpaaRows
import Derived.Test.YthdemjfllfhhpaaData
import Derived.ProofKit
import Derived.Deep.Matrix
import Derived.Test.YthdemjfllfhhpaaDraw0

section
namespace Go.Proofs.Ythdemjfllfhhpaa
open Go.RowKit Go.Deep

theorem BD.inT {B : Nat} {w : World} {v : Value} {l : List (List Int)} {A : Nat → Option Addr} {C : Nat → Nat} (h : BD B w v l A C) : ∃ a cap, v = .slice a l.length cap ∧ InT B w.heap.size w a l := by
  by_cases h0 : 0 < l.length
  · obtain ⟨b, cap, cur, e, hb, hg, hc⟩ := h.top h0
    refine ⟨_, cap, e, fun _ => ⟨b, 0, A, fun r => ((A r).getD default).block, fun _ => 0, C, rfl, ⟨hb, (Array.getElem?_eq_some_iff.1 hg).1⟩, fun r hr => ⟨?_, fun h1 => ?_⟩⟩⟩
    · rw [Nat.zero_add]; simp [World.cell?, hg, hc r hr]
    · obtain ⟨g, e, hB, hw⟩ := h.row hr
      have e' : ((A r).getD default).block = g := by rw [e]; rfl
      dsimp only
      rw [e']
      exact ⟨e, ⟨hB, hw.lt⟩, fun i hi => by rw [Nat.zero_add]; exact hw.cell hi⟩
  · rcases h.own.2 with ⟨hv, hn⟩ | ⟨g, cap, cur, e, _⟩
    · exact ⟨none, 0, by rw [hv, hn], fun h => absurd h h0⟩
    · exact ⟨_, cap, e, fun h => absurd h h0⟩

theorem BD.row_ne {B : Nat} {w : World} {l : List (List Int)} {A : Nat → Option Addr} {C : Nat → Nat} {b cap n : Nat} (h : BD B w (.slice (some ⟨b, 0, none⟩) n cap) l A C) {g : Nat} {x : List Int} (hw : RowB w g x) : g ≠ b := by
  rintro rfl
  obtain ⟨cs, hc, _⟩ := hw
  rcases h.own.2 with ⟨e, _⟩ | ⟨g', cap', cur, e, _, hgg, _⟩
  · cases e
  · injection e with e
    injection e with e
    injection e with e
    rw [← e, hc] at hgg
    injection hgg with hgg
    injection hgg with _ e2 _
    exact absurd e2 (by decide)

theorem BD.addr_ne {B : Nat} {w : World} {v : Value} {l : List (List Int)} {A : Nat → Option Addr} {C : Nat → Nat} (h : BD B w v l A C) {r j g g' : Nat} (hr : r < l.length) (hj : j < l.length) (hA : A r = some ⟨g, 0, none⟩) (hA' : A j = some ⟨g', 0, none⟩) (hne : j ≠ r) : g' ≠ g := by
  rintro rfl
  exact hne (h.apart j r hj hr (by rw [hA, hA']))

theorem BD.cellTop {B : Nat} {w : World} {l : List (List Int)} {A : Nat → Option Addr} {C : Nat → Nat} {b cap n : Nat} (h : BD B w (.slice (some ⟨b, 0, none⟩) n cap) l A C) {r : Nat} (hr : r < l.length) :
    w.cell? ⟨b, r, none⟩ = some (.slice (A r) (l.getD r []).length (C r)) ∧ w.frozen? ⟨b, r, none⟩ = false ∧ b < w.heap.size := by
  obtain ⟨b', cp', cur, hv, _, hcur, hc⟩ := h.top (by omega)
  injection hv with hv _ _
  injection hv with hv
  injection hv with hv
  subst hv
  exact ⟨by simp [World.cell?, hcur, hc r hr], by simp [World.frozen?, hcur], (Array.getElem?_eq_some_iff.1 hcur).1⟩

theorem BD.setRow {B : Nat} {w w5 : World} {l : List (List Int)} {A : Nat → Option Addr} {C : Nat → Nat} {b cap n : Nat} (h : BD B w (.slice (some ⟨b, 0, none⟩) n cap) l A C) {r g : Nat} (hr : r < l.length) (hA : A r = some ⟨g, 0, none⟩) (hg : w.grownBy w5 (some g)) {g2 cp k : Nat} {y : List Int}
    (hy : RW B w5 (.slice (some ⟨g2, 0, none⟩) k cp) y) (hk : y.length = k) (h0 : 0 < k) : InT B w5.heap.size (w5.setCell ⟨b, r, none⟩ (.slice (some ⟨g2, 0, none⟩) k cp)) (some ⟨b, 0, none⟩) (l.set r y) := by
  subst hk
  obtain ⟨b', cap', cur, e, hb, hcur, hc⟩ := h.top (by omega)
  injection e with e en _
  injection e with e
  injection e with e
  subst e
  obtain ⟨g', hA', hBg, hrb⟩ := h.row hr
  rw [hA] at hA'
  injection hA' with hA'
  injection hA' with hA'
  subst hA'
  have hgb := h.row_ne hrb
  have hbl : b < w.heap.size := (Array.getElem?_eq_some_iff.1 hcur).1
  have hcur5 : w5.heap[b]? = some (.cells cur 37 (0, 0)) := (hg.block b hbl (fun e => by injection e with e; omega)).trans hcur
  obtain ⟨hB2, hrb2⟩ := hy.rowB h0
  have hg2b : g2 ≠ b := by
    rintro rfl
    obtain ⟨cs, h1, _⟩ := hrb2
    rw [h1] at hcur5
    injection hcur5 with h2
    injection h2 with _ h2 _
    exact absurd h2 (by decide)
  have hbl5 : b < w5.heap.size := (Array.getElem?_eq_some_iff.1 hcur5).1
  intro _
  refine ⟨b, 0, fun j => if j = r then some ⟨g2, 0, none⟩ else A j, fun j => if j = r then g2 else ((A j).getD default).block, fun _ => 0, fun j => if j = r then cp else C j, rfl, ⟨hb, hbl5⟩, fun j hj => ?_⟩
  rw [List.length_set] at hj
  show (w5.setCell ⟨b, r, none⟩ _).cell? ⟨b, 0 + j, none⟩ = _ ∧ _
  rw [Nat.zero_add]
  by_cases ej : j = r
  · subst ej
    have e1 : (l.set j y).getD j [] = y := by simp [List.getD, hj]
    rw [e1]
    simp only [↓reduceIte]
    refine ⟨World.cell?_setCell_same' _ _ _ (by simp [World.cell?, hcur5, hc j hj]), fun _ => ⟨trivial, ⟨hB2, hrb2.lt⟩, fun i hi => ?_⟩⟩
    rw [Nat.zero_add]
    exact cell_set_far (hrb2.cell hi) hg2b
  · have e1 : (l.set r y).getD j [] = l.getD j [] := by simp [List.getD, List.getElem?_set_ne (Ne.symm ej)]
    rw [e1]
    simp only [if_neg ej]
    obtain ⟨gj, hAj, hBj, hrbj⟩ := h.row hj
    have hgj := h.addr_ne hr hj hA hAj ej
    have hrb5 : RowB w5 gj (l.getD j []) := hrbj.of_block (hg.block gj hrbj.lt (fun e => by injection e with e; omega))
    have hgjb := h.row_ne hrbj
    refine ⟨?_, fun _ => ?_⟩
    · rw [World.cell?_setCell_other _ _ _ _ (fun e => ej (by injection e with _ e; exact e.symm))]
      simp [World.cell?, hcur5, hc j hj]
    · have e' : ((A j).getD default).block = gj := by rw [hAj]; rfl
      rw [e']
      exact ⟨hAj, ⟨hBj, hrb5.lt⟩, fun i hi => by rw [Nat.zero_add]; exact cell_set_far (hrb5.cell hi) hgjb⟩

theorem BD.setNum {B : Nat} {w : World} {l : List (List Int)} {A : Nat → Option Addr} {C : Nat → Nat} {b cap n : Nat} (h : BD B w (.slice (some ⟨b, 0, none⟩) n cap) l A C) {r g k : Nat} (hr : r < l.length) (hA : A r = some ⟨g, 0, none⟩) (hk : k < (l.getD r []).length) (z : Int) :
    InT B w.heap.size (w.setCell ⟨g, k, none⟩ (.int .i64 z)) (some ⟨b, 0, none⟩) (l.set r ((l.getD r []).set k z)) := by
  obtain ⟨b', cap', cur, e, hb, hcur, hc⟩ := h.top (by omega)
  injection e with e en _
  injection e with e
  injection e with e
  subst e
  obtain ⟨g', hA', hBg, hrb⟩ := h.row hr
  rw [hA] at hA'
  injection hA' with hA'
  injection hA' with hA'
  subst hA'
  have hgb := h.row_ne hrb
  intro _
  refine ⟨b, 0, A, fun j => ((A j).getD default).block, fun _ => 0, C, rfl, ⟨hb, (Array.getElem?_eq_some_iff.1 hcur).1⟩, fun j hj => ?_⟩
  rw [List.length_set] at hj
  show (w.setCell ⟨g, k, none⟩ _).cell? ⟨b, 0 + j, none⟩ = _ ∧ _
  rw [Nat.zero_add]
  have hlen : ((l.set r ((l.getD r []).set k z)).getD j []).length = (l.getD j []).length := by
    by_cases ej : j = r
    · subst ej; simp [List.getD, hj]
    · simp [List.getD, List.getElem?_set_ne (Ne.symm ej)]
  rw [hlen]
  refine ⟨cell_set_far (by simp [World.cell?, hcur, hc j hj]) (Ne.symm hgb), fun _ => ?_⟩
  obtain ⟨gj, hAj, hBj, hrbj⟩ := h.row hj
  have e' : ((A j).getD default).block = gj := by rw [hAj]; rfl
  dsimp only
  rw [e']
  refine ⟨hAj, ⟨hBj, hrbj.lt⟩, fun i hi => ?_⟩
  rw [Nat.zero_add]
  by_cases ej : j = r
  · subst ej
    rw [hA] at hAj
    injection hAj with hAj
    injection hAj with hAj
    subst hAj
    have e1 : (l.set j ((l.getD j []).set k z)).getD j [] = (l.getD j []).set k z := by simp [List.getD, hj]
    rw [e1]
    by_cases ei : i = k
    · subst ei
      rw [World.cell?_setCell_same' _ _ _ (by rw [hrbj.cell hi]; rfl)]
      simp [List.getD] at hi ⊢
      simp [hi]
    · rw [World.cell?_setCell_other _ _ _ _ (fun e => ei (by injection e with _ e; exact e.symm)), hrbj.cell hi]
      simp [List.getD, List.getElem?_set_ne (Ne.symm ei)]
  · have hgj := h.addr_ne hr hj hA hAj ej
    have e1 : (l.set r ((l.getD r []).set k z)).getD j [] = l.getD j [] := by simp [List.getD, List.getElem?_set_ne (Ne.symm ej)]
    rw [e1]
    exact cell_set_far (hrbj.cell hi) hgj

theorem InT.kept {lo hi : Nat} {w w' : World} {a : Option Addr} {l : List (List Int)} {G : Nat} (h : InT lo hi w a l) (hg : w.grownBy w' (some G)) (hG : G < lo) : InT lo hi w' a l :=
  h.frame (lo' := G) (hi' := G + 1) ⟨hg.os, hg.tape, hg.output, hg.size, fun k hk ho => hg.block k hk (fun e => by injection e with e; omega)⟩ (.inr (by omega))

end Go.Proofs.Ythdemjfllfhhpaa
end

section
namespace Go.Proofs.Ythdemjfllfhhpaa
open Go.RowKit Go.Deep

def Drawn0 (w w' : World) (R K : Nat) (a : Option Addr) (l : List (List Int)) : Prop :=
  1 ≤ l.length ∧ l.length ≤ R ∧ (∀ j, j < l.length → 1 ≤ (l.getD j []).length ∧ (l.getD j []).length ≤ K + 1) ∧ InT w.heap.size w'.heap.size w' a l

theorem lens_set {l : List (List Int)} {r : Nat} {y : List Int} {n m K : Nat} (hl : l.length = n) (h : ∀ j, j < n → (l.getD j []).length = m) (hm : 1 ≤ m ∧ m ≤ K) (hy : 1 ≤ y.length ∧ y.length ≤ K + 1) : ∀ j, j < (l.set r y).length → 1 ≤ ((l.set r y).getD j []).length ∧ ((l.set r y).getD j []).length ≤ K + 1 := by
  intro j hj
  rw [List.length_set] at hj
  by_cases e : j = r
  · subst e
    rw [show (l.set j y).getD j [] = y by simp [List.getD, hj]]
    exact hy
  · rw [show (l.set r y).getD j [] = l.getD j [] by simp [List.getD, List.getElem?_set_ne (Ne.symm e)], h j (by omega)]
    omega

set_option maxRecDepth 100000 in
set_option maxHeartbeats 4000000 in
theorem l91Some_any (w0 w : World) (G nb c p R K : Nat) (a : Option Addr) (h : RD w0 w G a nb c 75 p) (hR1 : 1 ≤ R) (hR : R ≤ 8) (hK1 : 1 ≤ K) (hK : K ≤ 8) (hp : p ≤ 40000) :
    Calls Try.prog 47 #[.pointer (some ⟨G, 0, none⟩), .int .i64 R, .int .i64 K] w fun e w' => ∃ a' cap l p', e = .returned (.slice a' l.length cap) ∧ w.grownBy w' (some G) ∧ RD w0 w' G a nb c 75 p' ∧ p' ≤ p + 600 ∧ Drawn0 w w' R K a' l := by
  obtain ⟨i3, hi3⟩ := info3_parts
  have HJ := Lib.hid hi3
  have hG := h.lt
  have HRD := Lib.hid h
  clear h hi3
  go_enter Try.func47, Try.ntmps47
  go_wp2_with fail
  refine (pick_any w0 _ G nb c _ a _ HRD.out (by omega)).mono ?_
  rintro e w1 ⟨y1, rfl, hy1, hg1, hd1⟩
  obtain ⟨n, hn, hnn⟩ : ∃ n : Nat, IntKind.i64.wrap (1 + (y1 : Int)) = n ∧ n = y1 + 1 := ⟨y1 + 1, (IntWalk.i64_in _ ⟨by omega, by omega⟩).trans (by omega), rfl⟩
  have hn1 : 1 ≤ n ∧ n ≤ R := by omega
  have HD1 := Lib.hid hd1
  have HG1 := Lib.hid hg1
  clear hd1 hg1 hnn hy1 HRD
  go_wp2_with fail
  refine (pick_any w0 _ G nb c _ a _ HD1.out (by omega)).mono ?_
  rintro e w2 ⟨y2, rfl, hy2, hg2, hd2⟩
  obtain ⟨m, hm, hmm⟩ : ∃ m : Nat, IntKind.i64.wrap (1 + (y2 : Int)) = m ∧ m = y2 + 1 := ⟨y2 + 1, (IntWalk.i64_in _ ⟨by omega, by omega⟩).trans (by omega), rfl⟩
  have hm1 : 1 ≤ m ∧ m ≤ K := by omega
  have HD2 := Lib.hid hd2
  have HG2 := Lib.hid (grown_trans HG1.out hg2)
  clear hd2 hg2 hmm hy2 HD1 HG1
  go_wp2_with fail
  refine (l91Table_any w0 _ G nb c _ n m a HD2.out (by omega) (by omega) (by omega) (by omega)).mono ?_
  rintro e w3 ⟨v, l, A, C, p3, rfl, hl, hlm, hg3, hd3, hp3, hB⟩
  obtain ⟨b, cp, cur, hv, hbb, hcur, hc⟩ := hB.top (by omega)
  rw [hl] at hv
  subst hv
  have hG2 := HG2.out.size
  have HD3 := Lib.hid hd3
  have HG3 := Lib.hid (grown_trans HG2.out hg3)
  have HB := Lib.hid hB
  clear hd3 hg3 hcur hc hB HD2
  go_wp2_with fail
  refine (pick_any w0 _ G nb c _ a _ HD3.out (by omega)).mono ?_
  rintro e w4 ⟨y4, rfl, hy4, hg4, hd4⟩
  have HG4 := Lib.hid (grown_trans HG3.out hg4)
  have HB4 := Lib.hid (HB.out.kept hg4 (by omega))
  have HD4 := Lib.hid hd4
  have hz4 := HG4.out.size
  clear hd4 hg4 HB HG3 HD3 hy4
  obtain ⟨g0, hA0, hg0, hrb0⟩ := HB4.out.row (r := 0) (by omega)
  by_cases hy0 : y4 = 0
  · subst hy0
    obtain ⟨t1, _, _⟩ := HB4.out.cellTop (r := 0) (by omega)
    rw [hlm 0 (by omega), hA0] at t1
    have t2 := hrb0.cell (i := 0) (by rw [hlm 0 (by omega)]; omega)
    have t3 := hrb0.frozen 0
    have hIT := HB4.out.setNum (r := 0) (k := 0) (by omega) hA0 (by rw [hlm 0 (by omega)]; omega) 31
    have hll : (l.set 0 ((l.getD 0 []).set 0 31)).length = n := by rw [List.length_set]; exact hl
    have hlens := lens_set (r := 0) (y := (l.getD 0 []).set 0 31) hl hlm hm1 (by rw [List.length_set, hlm 0 (by omega)]; omega)
    have HIT := Lib.hid hIT
    have HLL := Lib.hid hll
    have HLENS := Lib.hid hlens
    have HGS := Lib.hid (grown_set HG4.out (show w.heap.size ≤ g0 by omega) (k := 0) (.int .i64 31))
    have HDS := Lib.hid (HD4.out.grown (grown_set_any w4 g0 0 (.int .i64 31)) (fun i e => by cases e; omega))
    have p1 : 0 < n := by omega
    have p2 : 0 < m := by omega
    clear hrb0 hIT hll hlens hA0 hlm hl
    go_wp2
    go_ret
    exact ⟨_, _, l.set 0 ((l.getD 0 []).set 0 31), _, by rw [HLL.out]; rfl, HGS.out, HDS.out, by omega, by rw [HLL.out]; omega, by rw [HLL.out]; omega, HLENS.out, HIT.out.mono hG2 (by simp)⟩
  · clear hrb0 hA0 hg0
    by_cases hy1 : y4 = 1
    · subst hy1
      obtain ⟨s, hs⟩ : ∃ s, n = s + 1 := ⟨n - 1, by omega⟩
      have hr1 : IntKind.i64.wrap ((n : Int) - 1) = (s : Int) := by rw [show (n : Int) - 1 = s by omega]; exact IntWalk.i64_in _ ⟨by omega, by omega⟩
      have hsr : s < n := by omega
      clear hs
      obtain ⟨g1, hA, hg1, hrb⟩ := HB4.out.row (r := s) (by omega)
      obtain ⟨t1, t2, lb⟩ := HB4.out.cellTop (r := s) (by omega)
      have hRW := (HB4.out.rows s (by omega)).2
      have hls := hlm s hsr
      rw [hls, hA] at t1 hRW
      have hgb := HB4.out.row_ne hrb
      obtain ⟨x, hx⟩ : ∃ x, x = l.getD s [] := ⟨_, rfl⟩
      rw [← hx] at hRW hls
      have HRW := Lib.hid hRW
      have HA := Lib.hid hA
      have HL := Lib.hid hl
      have HLM := Lib.hid hlm
      have t1a := fun ob => cell_alloc_l ob t1
      clear hRW hrb hA hl hlm hx
      go_wp2_with (first
        | (at_builtin; (refine wpList_append_int _ rfl (.tmp 37) (.tmp 38) 37 rfl w2.heap.size i3 Try.underlying37 HJ.out.1 HJ.out.2.1 HJ.out.2.2.1 HJ.out.2.2.2 _ x rfl HRW.out 0 rfl (by omega) (by omega) ?_); intro v' w5 hrw hgr; have hgr : w4.grownBy w5 (some g1) := hgr; obtain ⟨g2, cp2, hv2, hg2b, hrb2⟩ := hrw.form (by simp); rw [show (x ++ [(0 : Int)]).length = m + 1 by rw [List.length_append, hls]; rfl] at hv2; subst hv2; have k1 := hgr.cell t1 (fun e => hgb (by injection e with e; exact e.symm)); have k2 : w5.frozen? ⟨b, s, none⟩ = false := (World.frozen?_of_block (hgr.block b lb (fun e => hgb (by injection e with e; exact e.symm)))).trans t2; have HRW2 := Lib.hid hrw; have HGR := Lib.hid hgr; clear hrw hgr hrb2))
      have hl2 : (x ++ [(0 : Int)]).length = m + 1 := by rw [List.length_append, hls]; rfl
      have hIT := HB4.out.setRow (r := s) (by rw [HL.out]; exact hsr) HA.out HGR.out HRW2.out hl2 (by omega)
      have hll : (l.set s (x ++ [0])).length = n := by rw [List.length_set]; exact HL.out
      have hlens := lens_set (r := s) (y := x ++ [0]) HL.out HLM.out hm1 (by rw [hl2]; omega)
      have hgs := grown_set (grown_new HG4.out HGR.out (fun i e => by cases e; omega)) (show w.heap.size ≤ b by omega) (k := s) (.slice (some ⟨g2, 0, none⟩) (m + 1) cp2)
      have hds := (HD4.out.grown HGR.out (fun i e => by cases e; omega)).grown (grown_set_any w5 b s (.slice (some ⟨g2, 0, none⟩) (m + 1) cp2)) (fun i e => by cases e; omega)
      go_ret
      exact ⟨_, _, l.set s (x ++ [0]), _, by rw [hll]; rfl, hgs, hds, by omega, by rw [hll]; omega, by rw [hll]; omega, hlens, hIT.mono hG2 (by simp)⟩
    · have h1 : ((y4 : Int) == 0) = false := by simp; omega
      have h2 : ((y4 : Int) == 1) = false := by simp; omega
      obtain ⟨a', cap', hv, hIT⟩ := HB4.out.inT
      rw [hl] at hv
      injection hv with hv _ _
      subst hv
      have HL := Lib.hid hl
      have HLM := Lib.hid hlm
      have HIT := Lib.hid hIT
      clear hl hlm hIT
      go_wp2
      go_ret
      exact ⟨_, _, l, _, by rw [HL.out]; rfl, HG4.out, HD4.out, by omega, by rw [HL.out]; omega, by rw [HL.out]; omega, fun j hj => by rw [HLM.out j (by rw [← HL.out]; exact hj)]; omega, HIT.out.mono hG2 (Nat.le_refl _)⟩

end Go.Proofs.Ythdemjfllfhhpaa
end

section
namespace Go.Proofs.Ythdemjfllfhhpaa
open Go.RowKit Go.Deep

set_option maxHeartbeats 1000000 in
theorem l6Open_any (a : Option Addr) (nb cb : Nat) (w : World) (hc : nb ≤ cb) (h63 : cb ≤ 9223372036854775807) (hb : BytR w a nb) :
    Calls Try.prog 46 #[.slice a nb cb] w fun e w' => ∃ n' c', e = .returned (.pointer (some ⟨w.heap.size, 0, none⟩)) ∧ w.Since w.heap.size w' ∧ w'.heap.size = w.heap.size + 1 ∧ RD w w' w.heap.size a n' c' 75 0 := by
  by_cases hl : 2000 < nb
  · have hl' : decide ((2000 : Int) < (nb : Int)) = true := by simp; omega
    have h2 : (2000 : Int) ≤ (cb : Int) := by omega
    obtain ⟨b, o, rfl, hcell⟩ := hb (by omega)
    go_enter Try.func46, Try.ntmps46
    go_wp2
    go_ret
    exact ⟨_, _, rfl, (World.Since.refl _ _).alloc (Nat.le_refl _) _, by simp, ⟨heap_alloc_new _ _, Nat.le_refl _, (World.Since.refl _ _).alloc (Nat.le_refl _) _, fun _ => ⟨b, o, rfl, fun i hi => hcell i (by omega)⟩, by omega⟩⟩
  · have hl' : decide ((2000 : Int) < (nb : Int)) = false := by simp; omega
    go_enter Try.func46, Try.ntmps46
    go_wp2
    go_ret
    exact ⟨_, _, rfl, (World.Since.refl _ _).alloc (Nat.le_refl _) _, by simp, ⟨heap_alloc_new _ _, Nat.le_refl _, (World.Since.refl _ _).alloc (Nat.le_refl _) _, hb, by omega⟩⟩

def DrawnT (w w' : World) (R K : Nat) (a : Option Addr) (l : List (List Int)) : Prop :=
  1 ≤ l.length ∧ l.length ≤ R ∧ (∀ j, j < l.length → 1 ≤ (l.getD j []).length ∧ (l.getD j []).length ≤ K + 1) ∧ InT w.heap.size w'.heap.size w' a l

set_option maxHeartbeats 1000000 in
theorem l91One_any (a : Option Addr) (nb cb : Nat) (w : World) (hc : nb ≤ cb) (h63 : cb ≤ 9223372036854775807) (hb : BytR w a nb) :
    Calls Try.prog 68 #[.slice a nb cb] w fun e w' => ∃ a' cap l, e = .returned (.slice a' l.length cap) ∧ w.Since w.heap.size w' ∧ DrawnT w w' 5 5 a' l := by
  have E := Lib.hid (l6Open_any a nb cb w hc h63 hb)
  clear hb
  go_enter Try.func68, Try.ntmps68
  go_wp2_with fail
  refine (E.out).mono ?_
  rintro e w1 ⟨n', c', rfl, hs, hz, hd⟩
  have HD := Lib.hid hd
  clear hd
  go_wp2_with fail
  refine (l91Some_any w w1 w.heap.size n' c' 0 5 5 a HD.out (by omega) (by omega) (by omega) (by omega) (by omega)).mono ?_
  rintro e w2 ⟨a', cap', l, p', rfl, hg, hd2, hp, h1, h5, hl, hit⟩
  go_wp2
  go_ret
  exact ⟨a', cap', l, rfl, hs.trans (since_grown hg (Nat.le_refl _) hs.size), h1, h5, hl, hit.mono hs.size (Nat.le_refl _)⟩

end Go.Proofs.Ythdemjfllfhhpaa
end

section
namespace Go.Proofs.Ythdemjfllfhhpaa
open Go.RowKit Go.Deep

set_option maxRecDepth 100000 in
set_option maxHeartbeats 4000000 in
theorem l91Square_any (w0 w : World) (G nb c p R : Nat) (a : Option Addr) (h : RD w0 w G a nb c 75 p) (hR1 : 1 ≤ R) (hR : R ≤ 8) (hp : p ≤ 40000) :
    Calls Try.prog 86 #[.pointer (some ⟨G, 0, none⟩), .int .i64 R] w fun e w' => ∃ a' cap l p', e = .returned (.slice a' l.length cap) ∧ w.grownBy w' (some G) ∧ RD w0 w' G a nb c 75 p' ∧ p' ≤ p + 1200 ∧ Drawn0 w w' R R a' l := by
  have hG := h.lt
  have HRD := Lib.hid h
  clear h
  go_enter Try.func86, Try.ntmps86
  go_wp2_with fail
  refine (pick_any w0 _ G nb c _ a _ HRD.out (by omega)).mono ?_
  rintro e w1 ⟨y1, rfl, hy1, hg1, hd1⟩
  obtain ⟨n, hn, hnn⟩ : ∃ n : Nat, IntKind.i64.wrap (1 + (y1 : Int)) = n ∧ n = y1 + 1 := ⟨y1 + 1, (IntWalk.i64_in _ ⟨by omega, by omega⟩).trans (by omega), rfl⟩
  have hn1 : 1 ≤ n ∧ n ≤ R := by omega
  have HD2 := Lib.hid hd1
  have HG2 := Lib.hid hg1
  clear hd1 hg1 hnn hy1 HRD
  go_wp2_with fail
  refine (l91Table_any w0 _ G nb c _ n n a HD2.out (by omega) (by omega) (by omega) (by omega)).mono ?_
  rintro e w3 ⟨v, l, A, C, p3, rfl, hl, hlm, hg3, hd3, hp3, hB⟩
  obtain ⟨b, cp, cur, hv, hbb, hcur, hc⟩ := hB.top (by omega)
  rw [hl] at hv
  subst hv
  have hG2 := HG2.out.size
  have HD3 := Lib.hid hd3
  have HG3 := Lib.hid (grown_trans HG2.out hg3)
  have HB := Lib.hid hB
  clear hd3 hg3 hcur hc hB HD2
  go_wp2_with fail
  refine (pick_any w0 _ G nb c _ a _ HD3.out (by omega)).mono ?_
  rintro e w4 ⟨y4, rfl, hy4, hg4, hd4⟩
  have HG4 := Lib.hid (grown_trans HG3.out hg4)
  have HB4 := Lib.hid (HB.out.kept hg4 (by omega))
  have HD4 := Lib.hid hd4
  have hz4 := HG4.out.size
  clear hd4 hg4 HB HG3 HD3 hy4
  obtain ⟨g0, hA0, hg0, hrb0⟩ := HB4.out.row (r := 0) (by omega)
  by_cases hy0 : y4 = 0
  · subst hy0
    obtain ⟨t1, _, _⟩ := HB4.out.cellTop (r := 0) (by omega)
    rw [hlm 0 (by omega), hA0] at t1
    have t2 := hrb0.cell (i := 0) (by rw [hlm 0 (by omega)]; omega)
    have t3 := hrb0.frozen 0
    have hIT := HB4.out.setNum (r := 0) (k := 0) (by omega) hA0 (by rw [hlm 0 (by omega)]; omega) 31
    have hll : (l.set 0 ((l.getD 0 []).set 0 31)).length = n := by rw [List.length_set]; exact hl
    have hlens := lens_set (K := R) (r := 0) (y := (l.getD 0 []).set 0 31) hl hlm (by omega) (by rw [List.length_set, hlm 0 (by omega)]; omega)
    have HIT := Lib.hid hIT
    have HLL := Lib.hid hll
    have HLENS := Lib.hid hlens
    have HGS := Lib.hid (grown_set HG4.out (show w.heap.size ≤ g0 by omega) (k := 0) (.int .i64 31))
    have HDS := Lib.hid (HD4.out.grown (grown_set_any w4 g0 0 (.int .i64 31)) (fun i e => by cases e; omega))
    have p1 : 0 < n := by omega
    clear hrb0 hIT hll hlens hA0 hlm hl
    go_wp2
    go_ret
    exact ⟨_, _, l.set 0 ((l.getD 0 []).set 0 31), _, by rw [HLL.out]; rfl, HGS.out, HDS.out, by omega, by rw [HLL.out]; omega, by rw [HLL.out]; omega, HLENS.out, HIT.out.mono hG2 (by simp)⟩
  · clear hrb0 hA0 hg0
    by_cases hy1 : y4 = 1
    · subst hy1
      clear hlm hl HB4
      have hnp : IntKind.i64.wrap ((n : Int) + 1) = ((n + 1 : Nat) : Int) := (IntWalk.i64_in _ ⟨by omega, by omega⟩).trans (by omega)
      have E5 := l91Table_any w0 w4 G nb c _ n (n + 1) a HD4.out (by omega) (by omega) (by omega) (by omega)
      rw [show ((n + 1 : Nat) : Int) = (n : Int) + 1 by omega] at E5
      replace E5 := Lib.hid E5
      go_wp2_with fail
      refine (E5.out).mono ?_
      rintro e w5 ⟨v, l5, A5, C5, p5, rfl, hl, hlm, hg5, hd5, hp5, hB⟩
      obtain ⟨a', cap', hv, hIT⟩ := hB.inT
      rw [hl] at hv
      subst hv
      have HL := Lib.hid hl
      have HLM := Lib.hid hlm
      have HIT := Lib.hid hIT
      have HG5 := Lib.hid (grown_trans HG4.out hg5)
      have HD5 := Lib.hid hd5
      have hG4 := HG4.out.size
      clear hl hlm hIT hB hg5 hd5
      go_wp2
      go_ret
      exact ⟨_, _, l5, _, by rw [HL.out]; rfl, HG5.out, HD5.out, by omega, by rw [HL.out]; omega, by rw [HL.out]; omega, fun j hj => by rw [HLM.out j (by rw [← HL.out]; exact hj)]; omega, HIT.out.mono hG4 (Nat.le_refl _)⟩
    · have h1 : ((y4 : Int) == 0) = false := by simp; omega
      have h2 : ((y4 : Int) == 1) = false := by simp; omega
      obtain ⟨a', cap', hv, hIT⟩ := HB4.out.inT
      rw [hl] at hv
      injection hv with hv _ _
      subst hv
      have HL := Lib.hid hl
      have HLM := Lib.hid hlm
      have HIT := Lib.hid hIT
      clear hl hlm hIT
      go_wp2
      go_ret
      exact ⟨_, _, l, _, by rw [HL.out]; rfl, HG4.out, HD4.out, by omega, by rw [HL.out]; omega, by rw [HL.out]; omega, fun j hj => by rw [HLM.out j (by rw [← HL.out]; exact hj)]; omega, HIT.out.mono hG2 (Nat.le_refl _)⟩

set_option maxHeartbeats 1000000 in
theorem l91Squared_any (a : Option Addr) (nb cb : Nat) (w : World) (hc : nb ≤ cb) (h63 : cb ≤ 9223372036854775807) (hb : BytR w a nb) :
    Calls Try.prog 77 #[.slice a nb cb] w fun e w' => ∃ a' cap l, e = .returned (.slice a' l.length cap) ∧ w.Since w.heap.size w' ∧ DrawnT w w' 5 5 a' l := by
  have E := Lib.hid (l6Open_any a nb cb w hc h63 hb)
  clear hb
  go_enter Try.func77, Try.ntmps77
  go_wp2_with fail
  refine (E.out).mono ?_
  rintro e w1 ⟨n', c', rfl, hs, hz, hd⟩
  have HD := Lib.hid hd
  clear hd
  go_wp2_with fail
  refine (l91Square_any w w1 w.heap.size n' c' 0 5 a HD.out (by omega) (by omega) (by omega)).mono ?_
  rintro e w2 ⟨a', cap', l, p', rfl, hg, hd2, hp, h1, h5, hl, hit⟩
  go_wp2
  go_ret
  exact ⟨a', cap', l, rfl, hs.trans (since_grown hg (Nat.le_refl _) hs.size), h1, h5, hl, hit.mono hs.size (Nat.le_refl _)⟩

set_option maxHeartbeats 1000000 in
theorem drawValueOther_any (a : Option Addr) (nb cb : Nat) (w : World) (hc : nb ≤ cb) (h63 : cb ≤ 9223372036854775807) (hb : BytR w a nb) :
    Calls Try.prog 31 #[.slice a nb cb] w fun e w' => ∃ a' cap l, e = .returned (.slice a' l.length cap) ∧ w.Since w.heap.size w' ∧ DrawnT w w' 5 5 a' l := by
  have E := Lib.hid (l91Squared_any a nb cb w hc h63 hb)
  clear hb
  go_enter Try.func31, Try.ntmps31
  go_wp2_with fail
  refine (E.out).mono ?_
  rintro e w1 ⟨a', cap', l, rfl, hs, hd⟩
  go_wp2
  go_ret
  exact ⟨a', cap', l, rfl, hs, hd⟩

end Go.Proofs.Ythdemjfllfhhpaa
end

section
namespace Go.Proofs.Ythdemjfllfhhpaa
open Go.RowKit Go.Deep

def timesL (l : List (List Int)) (f : Int) : List (List Int) := tabF l.length (l.getD 0 []).length fun i k => at2 l i k * f
theorem timesL_length (l : List (List Int)) (f : Int) : (timesL l f).length = l.length := tabF_length _ _ _
theorem mul_bd {a b : Int} (h1 : -30 ≤ a) (h2 : a ≤ 30) (h3 : -30 ≤ b) (h4 : b ≤ 30) : -900 ≤ a * b ∧ a * b ≤ 900 := by
  have h : ∀ x : Nat, ∀ y : Nat, x ≤ 30 → y ≤ 30 → x * y ≤ 900 := fun x y hx hy => Nat.le_trans (Nat.mul_le_mul hx hy) (by decide)
  have h5 := h a.natAbs b.natAbs (by omega) (by omega)
  rw [← Int.natAbs_mul] at h5
  omega

set_option maxHeartbeats 1000000 in
theorem timesEntry_any (p r i k n cap : Nat) (f : Int) (a : Option Addr) (l : List (List Int)) (w : World) (hn : l.length = n) (hT : TabIn l) (hbox : w.cell? ⟨p, 0, none⟩ = some (.slice a n cap)) (hbox2 : w.cell? ⟨r, 0, none⟩ = some (.int .i64 f)) (hm : MatR w a l) (hi : i < n) (hk : k < (l.getD 0 []).length)
    (hf1 : -30 ≤ f) (hf2 : f ≤ 30) :
    Calls Try.prog 127 #[.int .i64 i, .int .i64 k, .pointer (some ⟨p, 0, none⟩), .pointer (some ⟨r, 0, none⟩)] w fun e w' => e = .returned (.int .i64 (at2 l i k * f)) ∧ w.Since w.heap.size w' := by
  have hb := hT.at (i := i) (k := k) (by rw [hn]; exact hi) hk
  have hkr : k < (l.getD i []).length := by rw [hT.row (by rw [hn]; exact hi)]; exact hk
  obtain ⟨b, o, b', o', c, rfl, h1, h2⟩ := hm.entry (by rw [hn]; exact hi) hkr
  obtain ⟨y, hy⟩ : ∃ y, y = at2 l i k := ⟨_, rfl⟩
  obtain ⟨m, hmm⟩ : ∃ m, m = (l.getD i []).length := ⟨_, rfl⟩
  rw [← hy] at h2 hb ⊢
  rw [← hmm] at h1 hkr
  have hp := mul_bd hb.1 hb.2 hf1 hf2
  have hwr : IntKind.i64.wrap (y * f) = y * f := IntWalk.i64_in _ ⟨by omega, by omega⟩
  clear hy hmm hn hm hT hb hk hf1 hf2
  go_enter Try.func127, Try.ntmps127
  go_wp2
  go_quiet (fail)
  go_wp2
  go_ret
  exact ⟨rfl, since_drewN (World.Since.refl _ _) _⟩

set_option maxRecDepth 100000 in
set_option maxHeartbeats 2000000 in
theorem times_any (a : Option Addr) (cap n : Nat) (l : List (List Int)) (f : Int) (w : World) (hn : l.length = n) (hT : TabIn l) (hm : MatR w a l) (hf1 : -30 ≤ f) (hf2 : f ≤ 30) :
    Calls Try.prog 113 #[.slice a n cap, .int .i64 f] w fun e w' => e = .returned (.slice (some ⟨w.heap.size + 1 + 1, 0, none⟩) n n) ∧ w.Since w.heap.size w' ∧ OwnT w.heap.size w'.heap.size w' (some ⟨w.heap.size + 1 + 1, 0, none⟩) (timesL l f) := by
  have hw := hT.width
  have h6 := hT.2.1
  rw [hn] at h6
  have h1 := hT.1
  rw [hn] at h1
  have hwid := fun (W : World) (hs : w.Since w.heap.size W) => width_any a cap n l W hn (by omega) (by omega) (hm.since hs)
  have hnt := fun (W : World) (hs : w.Since w.heap.size W) (hb0 : W.cell? ⟨w.heap.size, 0, none⟩ = some (.slice a n cap)) (hb1 : W.cell? ⟨w.heap.size + 1, 0, none⟩ = some (.int .i64 f)) =>
    newTable_any 127 #[.pointer (some ⟨w.heap.size, 0, none⟩), .pointer (some ⟨w.heap.size + 1, 0, none⟩)] n (l.getD 0 []).length (fun i k => at2 l i k * f) W (by omega) (by omega) (enters_of Try.func127 (by kernel_rfl) rfl)
      (fun W' i k hs' hi hk => timesEntry_any w.heap.size (w.heap.size + 1) i k n cap f a l W' hn hT ((hs'.cell (a := ⟨w.heap.size, 0, none⟩) (World.block_lt_of_cell? _ _ hb0)).trans hb0) ((hs'.cell (a := ⟨w.heap.size + 1, 0, none⟩) (World.block_lt_of_cell? _ _ hb1)).trans hb1) (hm.since (hs.trans (since_mono hs' hs.size))) hi hk hf1 hf2)
  obtain ⟨m, hmm⟩ : ∃ m, (l.getD 0 []).length = m := ⟨_, rfl⟩
  have htl : timesL l f = tabF n m (fun i k => at2 l i k * f) := by unfold timesL; rw [hmm, hn]
  rw [hmm] at hwid hnt hw
  rw [htl]
  have HW := Lib.hid hwid
  have HNT := Lib.hid hnt
  have HS1 := Lib.hid (show w.Since w.heap.size ((w.alloc (.cells #[.slice a n cap] 48)).alloc (.cells #[.int .i64 f] 3)) from (((World.Since.refl _ _).alloc (Nat.le_refl _) _).alloc (by simp) _))
  have hc0 := cell_new_l w (.slice a n cap) 48
  have hc1 := cell_new_l (w.alloc (.cells #[.slice a n cap] 48)) (.int .i64 f) 3
  simp only [World.size_alloc] at hc1
  have hcb0 : ((w.alloc (.cells #[.slice a n cap] 48)).alloc (.cells #[.int .i64 f] 3)).cell? ⟨w.heap.size, 0, none⟩ = some (.slice a n cap) := (cell_alloc_l _ hc0.1)
  have hcb1 : ((w.alloc (.cells #[.slice a n cap] 48)).alloc (.cells #[.int .i64 f] 3)).cell? ⟨w.heap.size + 1, 0, none⟩ = some (.int .i64 f) := hc1.1
  clear hwid hnt hm hT hn hmm htl hc0 hc1
  go_enter Try.func113, Try.ntmps113
  go_wp2
  go_region_held3 (fun w' => w'.cell? ⟨w.heap.size, 0, none⟩ = some (.slice a n cap)) (go_keep)
    (first
      | (go_at_call 58; refine (HW.out _ ?_).mono ?_; (exact World.Since.drew HS1.out); rintro e w1 ⟨rfl, rfl⟩)
      | (go_at_call 79; refine (HNT.out _ ?_ ?_ ?_).mono ?_; (exact World.Since.drew HS1.out); (exact hcb0); (exact hcb1); rintro e w1 ⟨rfl, hs2, ho⟩; have hcc := hs2.cell (a := ⟨w.heap.size, 0, none⟩) (World.block_lt_of_cell? _ _ hcb0); simp only [World.cell?_drew, hcb0] at hcc))
  all_goals
    go_wp2
    go_ret
    refine ⟨rfl, HS1.out.trans (since_mono (since_of_drew hs2) (by simp; omega)), ?_⟩
    have hz : ((w.alloc (.cells #[.slice a n cap] 48)).alloc (.cells #[.int .i64 f] 3)).drew.heap.size = w.heap.size + 1 + 1 := by simp
    rw [hz] at ho
    exact ho.mono (by omega) (Nat.le_refl _)

noncomputable def timesOk (l : List (List Int)) (f : Int) : Bool := tabIn l && (inB f (-30) 30 && tabIn (timesL l f))
theorem szL_times {l : List (List Int)} (f : Int) (h : TabIn l) : szL (timesL l f) ≤ 1048576 := szL_tabF _ _ _ (by have := h.2.1; omega) (by have := h.width; omega)

end Go.Proofs.Ythdemjfllfhhpaa
end

section
namespace Go.Proofs.Ythdemjfllfhhpaa
open Go.RowKit Go.Deep

theorem szL_timesOk (l : List (List Int)) (f : Int) (h : timesOk l f = true) : szL (timesL l f) ≤ 1048576 := by
  unfold timesOk at h
  rw [Bool.and_eq_true] at h
  exact szL_times f (tabIn_of h.1)

end Go.Proofs.Ythdemjfllfhhpaa
end

section
namespace Go.Proofs.Ythdemjfllfhhpaa
open Go.RowKit Go.Deep

def sumL (l u : List (List Int)) : List (List Int) := tabF l.length (l.getD 0 []).length fun i k => at2 l i k + at2 u i k
theorem sumL_length (l u : List (List Int)) : (sumL l u).length = l.length := tabF_length _ _ _

def alikeB (l u : List (List Int)) : Bool := (l.length == u.length) && ((l.getD 0 []).length == (u.getD 0 []).length)
noncomputable def sumOk (l u : List (List Int)) : Bool := tabIn l && (tabIn u && (alikeB l u && tabIn (sumL l u)))
theorem szL_sum {l : List (List Int)} (u : List (List Int)) (h : TabIn l) : szL (sumL l u) ≤ 1048576 := szL_tabF _ _ _ (by have := h.2.1; omega) (by have := h.width; omega)

set_option maxHeartbeats 1000000 in
theorem alike_any (a a2 : Option Addr) (cap cap2 n n2 : Nat) (l u : List (List Int)) (w : World) (hn : l.length = n) (hu : u.length = n2) (hT : TabIn l) (hTu : TabIn u) (hm : MatR w a l) (hmu : MatR w a2 u) :
    Calls Try.prog 101 #[.slice a n cap, .slice a2 n2 cap2] w fun e w' => e = .returned (.bool (alikeB l u)) ∧ w = w' := by
  have h6 := hT.2.1
  have h1 := hT.1
  have g6 := hTu.2.1
  have g1 := hTu.1
  have hw := hT.width
  have gw := hTu.width
  have E1 := width_any a cap n l w hn (by omega) (by omega) hm
  have E2 := width_any a2 cap2 n2 u w hu (by omega) (by omega) hmu
  unfold alikeB
  rw [hn, hu]
  rw [hn] at h1 h6
  rw [hu] at g1 g6
  obtain ⟨m, hmm⟩ : ∃ m, (l.getD 0 []).length = m := ⟨_, rfl⟩
  obtain ⟨m', hmm'⟩ : ∃ m, (u.getD 0 []).length = m := ⟨_, rfl⟩
  rw [hmm] at E1 hw ⊢
  rw [hmm'] at E2 gw ⊢
  have HE1 := Lib.hid E1
  have HE2 := Lib.hid E2
  clear E1 E2 hmm hmm' hm hmu hT hTu hn hu
  by_cases hne : n = n2
  · subst hne
    by_cases hw2 : m = m'
    · subst hw2
      go_enter Try.func101, Try.ntmps101
      go_wp2_with fail
      refine (HE1.out).mono ?_
      rintro e w' ⟨rfl, rfl⟩
      go_wp2_with fail
      refine (HE2.out).mono ?_
      rintro e w' ⟨rfl, rfl⟩
      go_wp2
      go_ret
      exact ⟨ret_bool (by simp), rfl⟩
    · have hb : ((m : Int) == (m' : Int)) = false := by simp; omega
      have HB : Hid ((n == n && m == m') = false) := by show _ = _; simp [hw2]
      go_enter Try.func101, Try.ntmps101
      go_wp2_with fail
      refine (HE1.out).mono ?_
      rintro e w' ⟨rfl, rfl⟩
      go_wp2_with fail
      refine (HE2.out).mono ?_
      rintro e w' ⟨rfl, rfl⟩
      go_wp2
      go_ret
      exact ⟨ret_bool (by first | exact HB.out.symm | (simp; omega) | simp [hw2]), rfl⟩
  · have hb : ((n : Int) == (n2 : Int)) = false := by simp; omega
    have HB : Hid ((n == n2 && m == m') = false) := by show _ = _; simp [hne]
    go_enter Try.func101, Try.ntmps101
    go_wp2
    go_ret
    exact ⟨ret_bool (by first | exact HB.out.symm | (simp; omega) | simp [hne]), rfl⟩

end Go.Proofs.Ythdemjfllfhhpaa
end

section
namespace Go.Proofs.Ythdemjfllfhhpaa
open Go.RowKit Go.Deep

end Go.Proofs.Ythdemjfllfhhpaa
end

section
namespace Go.Proofs.Ythdemjfllfhhpaa
open Go.RowKit Go.Deep

theorem szL_sumOk (l u : List (List Int)) (h : sumOk l u = true) : szL (sumL l u) ≤ 1048576 := by
  unfold sumOk at h
  rw [Bool.and_eq_true] at h
  exact szL_sum u (tabIn_of h.1)

end Go.Proofs.Ythdemjfllfhhpaa
end

section
namespace Go.Proofs.Ythdemjfllfhhpaa
open Go.RowKit Go.Deep

def makeL (l u : List (List Int)) : List (List Int) := tabF l.length (u.getD 0 []).length fun i k => sumN (dotF l u i k) u.length
theorem makeL_length (l u : List (List Int)) : (makeL l u).length = l.length := tabF_length _ _ _

set_option maxRecDepth 100000 in
set_option maxHeartbeats 2000000 in
theorem product_any (a : Option Addr) (cap n : Nat) (l : List (List Int)) (a2 : Option Addr) (cap2 n2 : Nat) (u : List (List Int)) (w : World) (hn : l.length = n) (hT : TabIn l) (hm : MatR w a l) (hu : u.length = n2) (hTu : TabIn u) (huw : (l.getD 0 []).length = n2) (hmu : MatR w a2 u) :
    Calls Try.prog 71 #[.slice a n cap, .slice a2 n2 cap2] w fun e w' => e = .returned (.slice (some ⟨w.heap.size + 1 + 1, 0, none⟩) n n) ∧ w.Since w.heap.size w' ∧ OwnT w.heap.size w'.heap.size w' (some ⟨w.heap.size + 1 + 1, 0, none⟩) (makeL l u) := by
  have hw := hTu.width
  have h6 := hT.2.1
  rw [hn] at h6
  have g6 := hTu.2.1
  have g1 := hTu.1
  rw [hu] at g6 g1
  have hwid := fun (W : World) (hs : w.Since w.heap.size W) => width_any a2 cap2 n2 u W hu (by omega) (by omega) (hmu.since hs)
  obtain ⟨m2, hmm⟩ : ∃ m, (u.getD 0 []).length = m := ⟨_, rfl⟩
  have hnt := fun (W : World) (hs : w.Since w.heap.size W) (hb0 : W.cell? ⟨w.heap.size, 0, none⟩ = some (.slice a n cap)) (hb1 : W.cell? ⟨w.heap.size + 1, 0, none⟩ = some (.slice a2 n2 cap2)) =>
    newTable_any 111 #[.pointer (some ⟨w.heap.size + 1, 0, none⟩), .pointer (some ⟨w.heap.size, 0, none⟩)] n m2 (fun i k => sumN (dotF l u i k) n2) W (by omega) (by omega) (enters_of Try.func111 (by kernel_rfl) rfl)
      (fun W' i k hs' hi hk => prodEntry_any (w.heap.size + 1) w.heap.size i k n n2 n2 m2 cap cap2 a a2 l u W' hn hu hT hTu huw hmm rfl ((hs'.cell (a := ⟨w.heap.size + 1, 0, none⟩) (World.block_lt_of_cell? _ _ hb1)).trans hb1) ((hs'.cell (a := ⟨w.heap.size, 0, none⟩) (World.block_lt_of_cell? _ _ hb0)).trans hb0) (hm.since (hs.trans (since_mono hs' hs.size))) (hmu.since (hs.trans (since_mono hs' hs.size))) hi hk)
  have htl : makeL l u = tabF n m2 (fun i k => sumN (dotF l u i k) n2) := by unfold makeL; rw [hmm, hn, hu]
  rw [hmm] at hwid hw
  rw [htl]
  have HW := Lib.hid hwid
  have HNT := Lib.hid hnt
  have HS1 := Lib.hid (show w.Since w.heap.size ((w.alloc (.cells #[.slice a n cap] 48)).alloc (.cells #[.slice a2 n2 cap2] 48)) from (((World.Since.refl _ _).alloc (Nat.le_refl _) _).alloc (by simp) _))
  have hc0 := cell_new_l w (.slice a n cap) 48
  have hc1 := cell_new_l (w.alloc (.cells #[.slice a n cap] 48)) (.slice a2 n2 cap2) 48
  simp only [World.size_alloc] at hc1
  have hcb0 : ((w.alloc (.cells #[.slice a n cap] 48)).alloc (.cells #[.slice a2 n2 cap2] 48)).cell? ⟨w.heap.size, 0, none⟩ = some (.slice a n cap) := (cell_alloc_l _ hc0.1)
  have hcb1 : ((w.alloc (.cells #[.slice a n cap] 48)).alloc (.cells #[.slice a2 n2 cap2] 48)).cell? ⟨w.heap.size + 1, 0, none⟩ = some (.slice a2 n2 cap2) := hc1.1
  clear hwid hnt hm hT hn hmm htl hc0 hc1 hu hTu huw hmu
  go_enter Try.func71, Try.ntmps71
  go_wp2
  go_region_held3 (fun w' => w'.cell? ⟨w.heap.size, 0, none⟩ = some (.slice a n cap) ∧ w'.cell? ⟨w.heap.size + 1, 0, none⟩ = some (.slice a2 n2 cap2)) (go_keep)
    (first
      | (go_at_call 58; refine (HW.out _ ?_).mono ?_; (exact World.Since.drew HS1.out); rintro e w1 ⟨rfl, rfl⟩)
      | (go_at_call 79; refine (HNT.out _ ?_ ?_ ?_).mono ?_; (exact World.Since.drew HS1.out); (exact hcb0); (exact hcb1); rintro e w1 ⟨rfl, hs2, ho⟩; have hcc := hs2.cell (a := ⟨w.heap.size, 0, none⟩) (World.block_lt_of_cell? _ _ hcb0); simp only [World.cell?_drew, hcb0] at hcc; have hcd := hs2.cell (a := ⟨w.heap.size + 1, 0, none⟩) (World.block_lt_of_cell? _ _ hcb1); simp only [World.cell?_drew, hcb1] at hcd))
  all_goals
    go_wp2
    go_ret
    refine ⟨rfl, HS1.out.trans (since_mono (since_of_drew hs2) (by simp; omega)), ?_⟩
    have hz : ((w.alloc (.cells #[.slice a n cap] 48)).alloc (.cells #[.slice a2 n2 cap2] 48)).drew.heap.size = w.heap.size + 1 + 1 := by simp
    rw [hz] at ho
    exact ho.mono (by omega) (Nat.le_refl _)

noncomputable def makeOk (l u : List (List Int)) : Bool := tabIn l && (tabIn u && (((l.getD 0 []).length == u.length) && tabIn (makeL l u)))
theorem szL_make {l u : List (List Int)} (h : TabIn l) (hu : TabIn u) : szL (makeL l u) ≤ 1048576 := szL_tabF _ _ _ (by have := h.2.1; omega) (by have := hu.width; omega)

set_option maxHeartbeats 1000000 in
theorem implTableMake_any (a a2 : Option Addr) (cap cap2 n n2 : Nat) (l u : List (List Int)) (w : World) (hn : l.length = n) (hu : u.length = n2) (hsz : szL l ≤ 1048576) (hszu : szL u ≤ 1048576) (hm : MatR w a l) (hmu : MatR w a2 u) :
    Calls Try.prog 25 #[.slice a n cap, .slice a2 n2 cap2] w (ImplT w (makeOk l u) (makeL l u)) := by
  have E := Lib.hid (implTableIn_any a cap n l w hn hsz hm)
  have E2 := Lib.hid (fun (W : World) (hs : w.Since w.heap.size W) => implTableIn_any a2 cap2 n2 u W hu hszu (hmu.since hs))
  cases hT : tabIn l with
  | false =>
    have hok : makeOk l u = false := by unfold makeOk; rw [hT]; rfl
    rw [hT] at E
    rw [hok]
    clear hT hsz hm hn hok E2 hszu hmu hu
    go_enter Try.func25, Try.ntmps25
    go_wp2_with fail
    refine (E.out).mono ?_
    rintro e w1 ⟨rfl, hs⟩
    go_wp2
    go_ret2
    exact ⟨_, _, rfl, hs, OwnT.nil _ _ _ _⟩
  | true =>
    have hTT := tabIn_of hT
    rw [hT] at E
    cases hTu : tabIn u with
    | false =>
      have hok : makeOk l u = false := by unfold makeOk; rw [hT, hTu]; rfl
      rw [hTu] at E2
      rw [hok]
      clear hT hsz hm hn hok hTT hTu hszu hmu hu
      go_enter Try.func25, Try.ntmps25
      go_wp2_with fail
      refine (E.out).mono ?_
      rintro e w1 ⟨rfl, hs⟩
      go_wp2_with fail
      refine (E2.out w1 hs).mono ?_
      rintro e w2 ⟨rfl, hs2⟩
      go_wp2
      go_ret2
      exact ⟨_, _, rfl, hs.trans (since_mono hs2 hs.size), OwnT.nil _ _ _ _⟩
    | true =>
      have hTTu := tabIn_of hTu
      rw [hTu] at E2
      have h6 := hTT.2.1
      have h1 := hTT.1
      have g6 := hTTu.2.1
      rw [hn] at h6 h1
      rw [hu] at g6
      have E3 := Lib.hid (fun (W : World) (hs : w.Since w.heap.size W) => width_any a cap n l W hn (by omega) (by omega) (hm.since hs))
      have hw := hTT.width
      obtain ⟨m, hmm⟩ : ∃ m, (l.getD 0 []).length = m := ⟨_, rfl⟩
      rw [hmm] at E3 hw
      by_cases hal : m = n2
      · subst hal
        have hok : makeOk l u = tabIn (makeL l u) := by unfold makeOk; rw [hT, hTu, hmm, hu]; simp
        have HE2 := Lib.hid (fun (W : World) (hs : w.Since w.heap.size W) => product_any a cap n l a2 cap2 m u W hn hTT (hm.since hs) hu hTTu hmm (hmu.since hs))
        have HTL := Lib.hid ((makeL_length l u).trans hn)
        have hszl := szL_make hTT hTTu
        rw [hok]
        clear hT hsz hm hn hok hTT hTu hszu hmu hu hTTu hmm
        go_enter Try.func25, Try.ntmps25
        go_wp2_with fail
        refine (E.out).mono ?_
        rintro e w1 ⟨rfl, hs⟩
        go_wp2_with fail
        refine (E2.out w1 hs).mono ?_
        rintro e w2 ⟨rfl, hs2⟩
        have hs12 := hs.trans (since_mono hs2 hs.size)
        go_wp2_with fail
        refine (E3.out w2 hs12).mono ?_
        rintro e w3 ⟨rfl, rfl⟩
        go_wp2_with fail
        refine (HE2.out w2 hs12).mono ?_
        rintro e w3 ⟨rfl, hs3, ho⟩
        have hs13 : w.Since w.heap.size w3 := hs12.trans (since_mono hs3 hs12.size)
        have hz := hs12.size
        go_wp2_with fail
        refine (result_any _ _ _ _ _ (makeL l u) w3 HTL.out hszl ho).mono ?_
        rintro e w4 ⟨a', cap', rfl, hs4, ho4⟩
        go_wp2
        go_ret2
        exact ⟨a', cap', rfl, hs13.trans (since_mono hs4 hs13.size), ho4.mono hz hs4.size⟩
      · have hb : ((m : Int) != (n2 : Int)) = true := by simp; omega
        have hok : makeOk l u = false := by unfold makeOk; rw [hT, hTu, hmm, hu]; simp [hal]
        rw [hok]
        clear hT hsz hm hn hok hTT hTu hszu hmu hu hTTu hmm hal
        go_enter Try.func25, Try.ntmps25
        go_wp2_with fail
        refine (E.out).mono ?_
        rintro e w1 ⟨rfl, hs⟩
        go_wp2_with fail
        refine (E2.out w1 hs).mono ?_
        rintro e w2 ⟨rfl, hs2⟩
        have hs12 := hs.trans (since_mono hs2 hs.size)
        go_wp2_with fail
        refine (E3.out w2 hs12).mono ?_
        rintro e w3 ⟨rfl, rfl⟩
        go_wp2
        go_ret2
        exact ⟨_, _, rfl, hs12, OwnT.nil _ _ _ _⟩

end Go.Proofs.Ythdemjfllfhhpaa
end

section
namespace Go.Proofs.Ythdemjfllfhhpaa
open Go.RowKit Go.Deep

def mv (r i : Nat) : Nat := if i = 0 then r else if i ≤ r then i - 1 else i
theorem mv_zero (i : Nat) : mv 0 i = i := by unfold mv; repeat (first | split | omega)
theorem mv_succ (r i : Nat) : ex r (r + 1) (mv r i) = mv (r + 1) i := by unfold mv ex; repeat (first | split | omega)
theorem mv_skip (r i : Nat) : mv r (i + 1) = skip r i := by unfold mv skip; repeat (first | split | omega)
theorem dt_mv {n : Nat} : ∀ (r : Nat) (f : Nat → Nat → Int), r < n → dt n (fun i j => f (mv r i) j) = sn r * dt n f
  | 0, f, _ => by
    rw [sn_zero, Int.one_mul]
    exact dt_congr n fun i j _ _ => by rw [mv_zero]
  | r + 1, f, h => by
    have e : (fun i j => f (mv (r + 1) i) j) = fun i j => (fun i j => f (ex r (r + 1) i) j) (mv r i) j := by
      funext i j
      show _ = f (ex r (r + 1) (mv r i)) j
      rw [mv_succ]
    rw [e, dt_mv r (fun i j => f (ex r (r + 1) i) j) (by omega), dt_exR f (by omega) (by omega) h, sn_succ]
    rw [Int.mul_neg, Int.neg_mul]
theorem dt_row {n r : Nat} (f : Nat → Nat → Int) (h : r < n + 1) : dt (n + 1) f = sumN (fun k => f r k * (sn (r + k) * dt n (fun i j => f (skip r i) (skip k j)))) (n + 1) := by
  have e := dt_mv r f h
  have e2 : sn r * (sn r * dt (n + 1) f) = dt (n + 1) f := by rw [← Int.mul_assoc, sn_sq, Int.one_mul]
  rw [← e2, ← e, dt_succ, ← sumN_mul]
  refine sumN_congr _ fun k _ => ?_
  have e3 : dr k (fun i j => f (mv r i) j) = fun i j => f (skip r i) (skip k j) := by
    funext i j
    show f (mv r (i + 1)) (skip k j) = _
    rw [mv_skip]
  rw [e3, sn_add]
  show sn r * (sn k * (f (mv r 0) k * _)) = _
  have e4 : mv r 0 = r := rfl
  rw [e4]
  grind
theorem dt_alien {n r s : Nat} (f : Nat → Nat → Int) (hr : r < n + 1) (hs : s < n + 1) : sumN (fun k => f s k * (sn (r + k) * dt n (fun i j => f (skip r i) (skip k j)))) (n + 1) = if s = r then dt (n + 1) f else 0 := by
  by_cases e : s = r
  · subst e
    rw [if_pos rfl, ← dt_row f hs]
  · rw [if_neg e, ← dt_sameR (n := n + 1) (setR f r (f s)) (p := s) (q := r) e hs hr (fun j _ => by unfold setR; rw [if_neg e, if_pos rfl]), dt_row _ hr]
    refine sumN_congr _ fun k _ => ?_
    have e3 : (fun i j => setR f r (f s) (skip r i) (skip k j)) = fun i j => f (skip r i) (skip k j) := by
      funext i j
      unfold setR
      rw [if_neg (by unfold skip; split <;> omega)]
    rw [e3]
    unfold setR
    rw [if_pos rfl]
theorem othF_dt {l : List (List Int)} {n i k : Nat} (hT : TabIn l) (hn : l.length = n) (hw : (l.getD 0 []).length = n) (hi : i < n) (hk : k < n) : othF l n i k = sn (k + i) * dt (n - 1) (fun a b => at2 l (skip k a) (skip i b)) := by
  have h6 := hT.2.1
  unfold othF
  rw [sg_sn, ordF_all _ (by omega), Nat.add_comm i k]
  congr 1
  exact dt_congr _ fun a b ha hb => partL_but hn hw (by omega) hk hi (by omega) (by omega)
theorem other_left {l : List (List Int)} {n i k : Nat} (hT : TabIn l) (hn : l.length = n) (hw : (l.getD 0 []).length = n) (hi : i < n) (hk : k < n) :
    sumN (fun j => at2 l i j * othF l n j k) n = if i = k then dt n (at2 l) else 0 := by
  obtain ⟨m, rfl⟩ : ∃ m, n = m + 1 := ⟨n - 1, by omega⟩
  rw [← dt_alien (at2 l) hk hi]
  exact sumN_congr _ fun j hj => by rw [othF_dt hT hn hw hj hk]; rfl
theorem other_right {l : List (List Int)} {n i k : Nat} (hT : TabIn l) (hn : l.length = n) (hw : (l.getD 0 []).length = n) (hi : i < n) (hk : k < n) :
    sumN (fun j => othF l n i j * at2 l j k) n = if i = k then dt n (at2 l) else 0 := by
  obtain ⟨m, rfl⟩ : ∃ m, n = m + 1 := ⟨n - 1, by omega⟩
  have h := dt_alien (fun a b => at2 l b a) (r := i) (s := k) hi hk
  rw [dt_turn] at h
  have e : (if i = k then dt (m + 1) (at2 l) else 0) = if k = i then dt (m + 1) (at2 l) else 0 := by
    by_cases e : i = k
    · rw [if_pos e, if_pos e.symm]
    · rw [if_neg e, if_neg (fun h => e h.symm)]
  rw [e, ← h]
  refine sumN_congr _ fun j hj => ?_
  rw [othF_dt hT hn hw hi hj, Nat.add_comm j i, Int.mul_comm]
  show at2 l j k * _ = at2 l j k * (sn (i + j) * dt m (fun a b => at2 l (skip j b) (skip i a)))
  rw [← dt_turn m (fun a b => at2 l (skip j b) (skip i a))]
  rfl
theorem othF_bd {l : List (List Int)} {n i k : Nat} (hT : TabIn l) (hn : l.length = n) (hw : (l.getD 0 []).length = n) (hi : i < n) (hk : k < n) : -10000000000 ≤ othF l n i k ∧ othF l n i k ≤ 10000000000 := by
  have h6 := hT.2.1
  rw [othF_dt hT hn hw hi hk, ← sg_sn]
  refine sg_bd ?_
  have hb := dt_bd (n - 1) (fun a b => at2 l (skip k a) (skip i b)) (by omega) (fun a b ha hb => hT.at (by have := skip_bd (k := k) ha; omega) (by have := skip_bd (k := i) hb; omega))
  have hB : bdN (n - 1) ≤ 10000000000 := by
    have : n - 1 ≤ 5 := by omega
    match n - 1, this with
    | 0, _ => decide
    | 1, _ => decide
    | 2, _ => decide
    | 3, _ => decide
    | 4, _ => decide
    | 5, _ => decide
  omega
theorem rec_tabF {n m : Nat} (f : Nat → Nat → Int) (hn : 1 ≤ n ∧ n ≤ 6) (hm : 1 ≤ m ∧ m ≤ 6) : Rec (tabF n m f) := by
  have h0 : ((tabF n m f).getD 0 []).length = m := tabF_len _ _ _ _ (by omega)
  exact ⟨by rw [tabF_length]; omega, by rw [tabF_length]; omega, by rw [h0]; exact hm, fun hr => by rw [h0]; rw [tabF_length] at hr; exact tabF_len _ _ _ _ hr⟩
structure OtherM (l M : List (List Int)) (n : Nat) (v : Int) : Prop where
  len : M.length = n
  wid : (M.getD 0 []).length = n
  rec1 : Rec M
  b1 : ∀ i j k, i < n → j < n → k < (M.getD 0 []).length → -1000000000000 ≤ at2 l i j * at2 M j k ∧ at2 l i j * at2 M j k ≤ 1000000000000
  b2 : ∀ i j k, i < n → j < n → k < (l.getD 0 []).length → -1000000000000 ≤ at2 M i j * at2 l j k ∧ at2 M i j * at2 l j k ≤ 1000000000000
  l1 : (makeL l M).length = n
  l2 : (makeL M l).length = n
  w1 : ((makeL l M).getD 0 []).length = n
  w2 : ((makeL M l).getD 0 []).length = n
  r1 : Rec (makeL l M)
  r2 : Rec (makeL M l)
  e1 : ∀ i k, i < n → k < n → at2 (makeL l M) i k = if i = k then v else 0
  e2 : ∀ i k, i < n → k < n → at2 (makeL M l) i k = if i = k then v else 0
theorem otherM_of {l : List (List Int)} {n : Nat} (h : sqB l = true) (hn : l.length = n) : OtherM l (tabF n n (othF l n)) n (ordF l n n 0) := by
  obtain ⟨hT, hw⟩ := sqB_of h
  have h1 := hT.1
  have h6 := hT.2.1
  have hwn : (l.getD 0 []).length = n := by omega
  have hl : (tabF n n (othF l n)).length = n := tabF_length _ _ _
  have hmw : ((tabF n n (othF l n)).getD 0 []).length = n := tabF_len _ _ _ _ (by omega)
  have hat : ∀ i j, i < n → j < n → at2 (tabF n n (othF l n)) i j = othF l n i j := fun i j hi hj => tabF_at _ _ _ i j hi hj
  have hp : ∀ i j k, i < n → j < n → k < n → -1000000000000 ≤ at2 l i j * othF l n j k ∧ at2 l i j * othF l n j k ≤ 1000000000000 := fun i j k hi hj hk => by
    have b := hT.at (i := i) (k := j) (by omega) (by omega)
    have c := othF_bd hT hn hwn hj hk
    have := mul_bdB b.1 b.2 c.1 c.2
    omega
  have hp2 : ∀ i j k, i < n → j < n → k < n → -1000000000000 ≤ othF l n i j * at2 l j k ∧ othF l n i j * at2 l j k ≤ 1000000000000 := fun i j k hi hj hk => by
    have b := hT.at (i := j) (k := k) (by omega) (by omega)
    have c := othF_bd hT hn hwn hi hj
    have := mul_bdB b.1 b.2 c.1 c.2
    rw [Int.mul_comm]
    omega
  have g1 : 1 ≤ n ∧ n ≤ 6 := by omega
  have q1 : makeL l (tabF n n (othF l n)) = tabF n n fun i k => sumN (dotF l (tabF n n (othF l n)) i k) n := by unfold makeL; rw [hn, hl, hmw]
  have q2 : makeL (tabF n n (othF l n)) l = tabF n n fun i k => sumN (dotF (tabF n n (othF l n)) l i k) n := by unfold makeL; rw [hn, hl, hwn]
  refine ⟨hl, hmw, rec_tabF _ g1 g1, fun i j k hi hj hk => ?_, fun i j k hi hj hk => ?_, by rw [q1, tabF_length], by rw [q2, tabF_length], by rw [q1]; exact tabF_len _ _ _ _ (by omega), by rw [q2]; exact tabF_len _ _ _ _ (by omega), by rw [q1]; exact rec_tabF _ g1 g1, by rw [q2]; exact rec_tabF _ g1 g1, fun i k hi hk => ?_, fun i k hi hk => ?_⟩
  · rw [hmw] at hk
    rw [hat j k hj hk]
    exact hp i j k hi hj hk
  · rw [hwn] at hk
    rw [hat i j hi hj]
    exact hp2 i j k hi hj hk
  · rw [q1, show at2 (tabF n n fun i k => sumN (dotF l (tabF n n (othF l n)) i k) n) i k = sumN (dotF l (tabF n n (othF l n)) i k) n from tabF_at _ _ _ i k hi hk, ordF_all _ (by omega), ← other_left hT hn hwn hi hk]
    exact sumN_congr _ fun j hj => by show at2 l i j * at2 _ j k = _; rw [hat j k hj hk]
  · rw [q2, show at2 (tabF n n fun i k => sumN (dotF (tabF n n (othF l n)) l i k) n) i k = sumN (dotF (tabF n n (othF l n)) l i k) n from tabF_at _ _ _ i k hi hk, ordF_all _ (by omega), ← other_right hT hn hwn hi hk]
    exact sumN_congr _ fun j hj => by show at2 _ i j * at2 l j k = _; rw [hat i j hi hj]

end Go.Proofs.Ythdemjfllfhhpaa
end

section
namespace Go.Proofs.Ythdemjfllfhhpaa
open Go.RowKit Go.Deep

def oc1 (s : Int) : Int := IntKind.u64.wrap (bits BinOp.and IntKind.u64 (s / 2) 6148914691236517205 + bits BinOp.and IntKind.u64 s 6148914691236517205)
def oc2 (x : Int) : Int := IntKind.u64.wrap (bits BinOp.and IntKind.u64 (x / 4) 3689348814741910323 + bits BinOp.and IntKind.u64 x 3689348814741910323)
def oc3 (x : Int) : Int := bits BinOp.and IntKind.u64 (IntKind.u64.wrap (x / 16 + x)) 1085102592571150095
def oc4 (x : Int) : Int := IntKind.u64.wrap (x + x / 256)
def oc5 (x : Int) : Int := IntKind.u64.wrap (x + x / 65536)
def oc6 (x : Int) : Int := IntKind.u64.wrap (x + x / 4294967296)
def ocF (s : Int) : Int := bits BinOp.and IntKind.i64 (wrap64 (oc6 (oc5 (oc4 (oc3 (oc2 (oc1 s))))))) 127
theorem ocF_fin : ∀ s : Fin 64, ocF s.val = popcS s.val := by decide +kernel

set_option maxRecDepth 100000 in
set_option maxHeartbeats 1000000 in
theorem ones64_any (s : Nat) (h : s < 64) (w : World) :
    Calls Try.prog 121 #[.int .u64 s] w fun e w' => e = .returned (.int .i64 (popcS s)) ∧ w = w' := by
  go_enter Try.func121, Try.ntmps121
  go_wp2
  go_ret
  refine ⟨?_, rfl⟩
  have e := ocF_fin ⟨s, h⟩
  simp only [ocF, oc6, oc5, oc4, oc3, oc2, oc1] at e
  exact congrArg (fun z => Ending.returned (Value.int IntKind.i64 z)) e

set_option maxHeartbeats 400000 in
theorem ones_any (s : Nat) (h : s < 64) (w : World) :
    Calls Try.prog 107 #[.int .u64 s] w fun e w' => e = .returned (.int .i64 (popcS s)) ∧ w = w' := by
  have E := Lib.hid (ones64_any s h w)
  go_enter Try.func107, Try.ntmps107
  go_wp2_with fail
  refine (E.out).mono ?_
  rintro e w' ⟨rfl, rfl⟩
  go_wp2
  go_ret
  exact ⟨rfl, rfl⟩

set_option maxHeartbeats 400000 in
theorem members_any (s : Nat) (h : s < 64) (w : World) :
    Calls Try.prog 59 #[.int .i64 s] w fun e w' => e = .returned (.int .i64 (popcS s)) ∧ w = w' := by
  have E := Lib.hid (ones_any s h w)
  go_enter Try.func59, Try.ntmps59
  go_wp2_with fail
  refine (E.out).mono ?_
  rintro e w' ⟨rfl, rfl⟩
  go_wp2
  go_ret
  exact ⟨rfl, rfl⟩

set_option maxHeartbeats 400000 in
theorem isSet_any (x : Int) (n : Nat) (hn : n ≤ 6) (w : World) :
    Calls Try.prog 57 #[.int .i64 x, .int .i64 n] w fun e w' => e = .returned (.bool (inB x 0 (2 ^ n - 1 : Nat))) ∧ w = w' := by
  have E1 := Lib.hid (fullSet_any n hn w)
  have E2 := Lib.hid (inRange_any x 0 (2 ^ n - 1 : Nat) w)
  go_enter Try.func57, Try.ntmps57
  go_wp2_with fail
  refine (E1.out).mono ?_
  rintro e w' ⟨rfl, rfl⟩
  go_wp2_with fail
  refine (E2.out).mono ?_
  rintro e w' ⟨rfl, rfl⟩
  go_wp2
  go_ret
  exact ⟨rfl, rfl⟩

end Go.Proofs.Ythdemjfllfhhpaa
end

section
namespace Go.Proofs.Ythdemjfllfhhpaa
open Go.RowKit Go.Deep

theorem OwnT.but {lo hi rb : Nat} {w w' : World} {a : Option Addr} {l : List (List Int)} (h : OwnT lo hi w a l) (hb : rb < lo) (hg : w.grownBy w' (some rb)) : MatR w' a l := by
  intro h0
  obtain ⟨b, A, G, C, e, hbl, hr, _⟩ := h h0
  have hc : ∀ (x k : Nat) (v : Value), lo ≤ x → w.cell? ⟨x, k, none⟩ = some v → w'.cell? ⟨x, k, none⟩ = some v := fun x k v hx hv =>
    (World.cell?_of_block (a := ⟨x, k, none⟩) (hg.block x (World.block_lt_of_cell? _ _ hv) (by intro e; injection e with e; omega))).trans hv
  refine ⟨b, 0, A, C, e, fun r hrl => ?_⟩
  obtain ⟨c1, c2⟩ := hr r hrl
  rw [Nat.zero_add]
  refine ⟨hc _ _ _ hbl.1 c1, fun hp => ?_⟩
  obtain ⟨eA, hG, c3⟩ := c2 hp
  exact ⟨G r, 0, eA, fun i hi => by rw [Nat.zero_add]; exact hc _ _ _ hG.1 (c3 i hi).1⟩

theorem since_map (w : World) : w.Since w.heap.size (w.alloc (.map #[] 0)) := (World.Since.refl w.heap.size w).alloc (Nat.le_refl _) _

def mnP (l : List (List Int)) (x : Nat × Nat) : Int := dt (popcS x.1) (at2 (partL l x.1 x.2))

set_option maxRecDepth 100000 in
set_option maxHeartbeats 1000000 in
theorem minor_any (a : Option Addr) (cap n m r c : Nat) (l : List (List Int)) (w : World) (hn : l.length = n) (hmm : (l.getD 0 []).length = m) (hT : TabIn l) (hr : r < 2 ^ n) (hc : c < 2 ^ m) (hpc : popcS r = popcS c) (hm : MatR w a l) :
    Calls Try.prog 60 #[.slice a n cap, .int .i64 r, .int .i64 c] w fun e w' => e = .returned (.int .i64 (mnP l (r, c))) ∧ w.Since w.heap.size w' := by
  have h6 := hT.2.1
  have hw := hT.width
  rw [hn] at h6
  rw [hmm] at hw
  have hp6 : 2 ^ n ≤ 2 ^ 6 := Nat.pow_le_pow_right (by omega) h6
  have hp6' : 2 ^ m ≤ 2 ^ 6 := Nat.pow_le_pow_right (by omega) hw.2
  have hsq := part_sq hT (s := r) (c := c) (by rw [hn]; exact hr) (by rw [hmm]; exact hc) hpc
  have EP := part_any a cap n r c l (w.alloc (.map #[] 0)) hn hT (by omega) (by omega) (hm.since (since_map w))
  rw [hsq.1] at EP
  have EV := fun (a2 : Option Addr) (c2 : Nat) (V : World) (h : MatR V a2 (partL l r c)) => byPivots_any (popcS r) (partL l r c) a2 c2 V hsq (popcS_le r) h
  have hv : mnP l (r, c) = dt (popcS r) (at2 (partL l r c)) := rfl
  rw [hv]
  obtain ⟨L, hL⟩ : ∃ L, L = partL l r c := ⟨_, rfl⟩
  obtain ⟨k, hk⟩ : ∃ k, k = popcS r := ⟨_, rfl⟩
  simp only [← hk] at EP EV ⊢
  simp only [← hL] at EP EV ⊢
  obtain ⟨x, hx⟩ : ∃ x, x = dt k (at2 L) := ⟨_, rfl⟩
  simp only [← hx] at EV ⊢
  replace EP := Lib.hid EP
  replace EV := Lib.hid EV
  have hmk := @run_makeMap Try.prog
  clear hn hmm hT hr hc hpc hm h6 hw hp6 hp6' hsq hv hL hk hx
  go_enter Try.func60, Try.ntmps60
  go_wp2_with fail
  refine (EP.out).mono ?_
  rintro e w3 ⟨a3, c3, rfl, hs3, ho3⟩
  have HR := Lib.hid ((roads_made w).kept (grown_of_since (row := none) hs3) (by simp))
  have HS3 := Lib.hid ((since_map w).trans (since_mono hs3 (by simp)))
  have HA := Lib.hid (anyValue_of w.heap.size a3 k c3 x w3 HR.out (fun W' hg => EV.out a3 c3 W' (ho3.but (rb := w.heap.size) (by simp) hg)))
  have HSP := Lib.hid (fun (w4 : World) (hg : w3.grownBy w4 (some w.heap.size)) => (show w.Since w.heap.size w4 from ⟨hg.os.trans HS3.out.os, hg.tape.trans HS3.out.tape, hg.output.trans HS3.out.output, Nat.le_trans HS3.out.size hg.size, fun j hj => (hg.block j (Nat.lt_of_lt_of_le hj HS3.out.size) (by intro e; injection e with e; omega)).trans (HS3.out.block j hj)⟩))
  clear hs3 ho3
  go_wp2_with fail
  refine (HA.out).mono ?_
  rintro e w4 ⟨rfl, hg, hr⟩
  have HS4 := Lib.hid (HSP.out w4 hg)
  clear hg hr
  go_wp2
  go_ret
  exact ⟨rfl, HS4.out⟩

end Go.Proofs.Ythdemjfllfhhpaa
end

section
namespace Go.Proofs.Ythdemjfllfhhpaa
open Go.RowKit Go.Deep

set_option maxRecDepth 100000 in
set_option maxHeartbeats 2000000 in
theorem implValueMinor_any (a : Option Addr) (cap n : Nat) (l : List (List Int)) (s c : Int) (w : World) (hn : l.length = n) (hsz : szL l ≤ 1048576) (hm : MatR w a l) :
    Calls Try.prog 17 #[.slice a n cap, .int .i64 s, .int .i64 c] w (SpecW w (minorOk l s c) (minorV l s c)) := by
  have E := Lib.hid (implTableIn_any a cap n l w hn hsz hm)
  cases hT : tabIn l with
  | false =>
    have hok : minorOk l s c = false := by unfold minorOk; rw [hT]; rfl
    rw [hT] at E
    rw [hok]
    clear hT hsz hm hn hok
    go_enter Try.func17, Try.ntmps17
    go_wp2_with fail
    refine (E.out).mono ?_
    rintro e w1 ⟨rfl, hd⟩
    have HS := Lib.hid hd
    clear hd
    go_wp2
    go_ret2
    exact ⟨rfl, HS.out⟩
  | true =>
    have hTT := tabIn_of hT
    rw [hT] at E
    have h6 := hTT.2.1
    have h1 := hTT.1
    have hw := hTT.width
    rw [hn] at h6 h1
    have EI := fun (W : World) => isSet_any s n h6 W
    cases hb : inB s 0 (2 ^ n - 1 : Nat) with
    | false =>
      have hok : minorOk l s c = false := by unfold minorOk; rw [hT, hn, hb]; rfl
      rw [hok]
      rw [hb] at EI
      replace EI := Lib.hid EI
      clear hT hsz hm hn hok hTT hb
      go_enter Try.func17, Try.ntmps17
      go_wp2_with fail
      refine (E.out).mono ?_
      rintro e w1 ⟨rfl, hd⟩
      have HS := Lib.hid hd
      clear hd
      go_wp2_with fail
      refine (EI.out w1).mono ?_
      rintro e w2 ⟨rfl, rfl⟩
      go_wp2
      go_ret2
      exact ⟨rfl, HS.out⟩
    | true =>
      have EW := fun (W : World) (h : w.Since w.heap.size W) => width_any a cap n l W hn (by omega) (by omega) (hm.since h)
      obtain ⟨m, hmm⟩ : ∃ m, (l.getD 0 []).length = m := ⟨_, rfl⟩
      rw [hmm] at hw EW
      have EC := fun (W : World) => isSet_any c m hw.2 W
      rw [hb] at EI
      cases hbc : inB c 0 (2 ^ m - 1 : Nat) with
      | false =>
        have hok : minorOk l s c = false := by unfold minorOk; rw [hT, hn, hb, hmm, hbc]; rfl
        rw [hok]
        rw [hbc] at EC
        replace EI := Lib.hid EI
        replace EC := Lib.hid EC
        replace EW := Lib.hid EW
        clear hT hsz hm hn hok hTT hb hbc hmm
        go_enter Try.func17, Try.ntmps17
        go_wp2_with fail
        refine (E.out).mono ?_
        rintro e w1 ⟨rfl, hd⟩
        have HS := Lib.hid hd
        clear hd
        go_wp2_with fail
        refine (EI.out w1).mono ?_
        rintro e w2 ⟨rfl, rfl⟩
        go_wp2_with fail
        refine (EW.out w1 HS.out).mono ?_
        rintro e w2 ⟨rfl, rfl⟩
        go_wp2_with fail
        refine (EC.out w1).mono ?_
        rintro e w2 ⟨rfl, rfl⟩
        go_wp2
        go_ret2
        exact ⟨rfl, HS.out⟩
      | true =>
        rw [hbc] at EC
        have hp6 : 2 ^ n ≤ 2 ^ 6 := Nat.pow_le_pow_right (by omega) h6
        have hp6' : 2 ^ m ≤ 2 ^ 6 := Nat.pow_le_pow_right (by omega) hw.2
        have hpn : 1 ≤ 2 ^ n := Nat.pow_pos (by omega)
        have hpm : 1 ≤ 2 ^ m := Nat.pow_pos (by omega)
        obtain ⟨s', hs', hsl⟩ : ∃ s' : Nat, s = s' ∧ s' < 2 ^ n := by
          simp [inB] at hb
          exact ⟨s.toNat, by omega, by omega⟩
        obtain ⟨c', hc', hcl⟩ : ∃ c' : Nat, c = c' ∧ c' < 2 ^ m := by
          simp [inB] at hbc
          exact ⟨c.toNat, by omega, by omega⟩
        subst hs' hc'
        have EM1 := fun (W : World) => members_any s' (by omega) W
        have EM2 := fun (W : World) => members_any c' (by omega) W
        replace EI := Lib.hid EI
        replace EC := Lib.hid EC
        replace EW := Lib.hid EW
        by_cases hpc : popcS s' = popcS c'
        · have hok : minorOk l s' c' = true := by unfold minorOk; rw [hT, hn, hb, hmm, hbc]; simp [hpc]
          rw [hok]
          have hsq := part_sq hTT (s := s') (c := c') (by rw [hn]; exact hsl) (by rw [hmm]; exact hcl) hpc
          have hv : minorV l s' c' = dt (popcS s') (at2 (partL l s' c')) := by
            unfold minorV
            simp only [Int.toNat_natCast]
            exact ordF_all _ (popcS_le s')
          rw [hv]
          have EP := fun (W : World) (h : w.Since w.heap.size W) => minor_any a cap n m s' c' l W hn hmm hTT hsl hcl hpc (hm.since h)
          have hmvv : dt (popcS s') (at2 (partL l s' c')) = mnP l (s', c') := rfl
          rw [hmvv]
          rw [← hpc] at EM2
          have hk6 := popcS_le s'
          obtain ⟨k, hk⟩ : ∃ k, k = popcS s' := ⟨_, rfl⟩
          simp only [← hk] at EM1 EM2 hk6 ⊢
          obtain ⟨x, hx⟩ : ∃ x, x = mnP l (s', c') := ⟨_, rfl⟩
          simp only [← hx] at EP ⊢
          replace EM1 := Lib.hid EM1
          replace EM2 := Lib.hid EM2
          replace EP := Lib.hid EP
          clear hT hsz hm hn hok hTT hb hbc hmm hpc hsq hv hmvv hk hx
          go_enter Try.func17, Try.ntmps17
          go_wp2_with fail
          refine (E.out).mono ?_
          rintro e w1 ⟨rfl, hd⟩
          have HS := Lib.hid hd
          clear hd
          go_wp2_with fail
          refine (EI.out w1).mono ?_
          rintro e w2 ⟨rfl, rfl⟩
          go_wp2_with fail
          refine (EW.out w1 HS.out).mono ?_
          rintro e w2 ⟨rfl, rfl⟩
          go_wp2_with fail
          refine (EC.out w1).mono ?_
          rintro e w2 ⟨rfl, rfl⟩
          go_wp2_with fail
          refine (EM1.out w1).mono ?_
          rintro e w2 ⟨rfl, rfl⟩
          go_wp2_with fail
          refine (EM2.out w1).mono ?_
          rintro e w2 ⟨rfl, rfl⟩
          go_wp2_with fail
          refine (EP.out w1 HS.out).mono ?_
          rintro e w2 ⟨rfl, hs2⟩
          have HS4 := Lib.hid (HS.out.trans (since_mono hs2 HS.out.size))
          clear hs2
          go_wp2
          go_ret2
          exact ⟨rfl, HS4.out⟩
        · have hok : minorOk l s' c' = false := by unfold minorOk; rw [hT, hn, hb, hmm, hbc]; simp [hpc]
          rw [hok]
          obtain ⟨x1, hx1⟩ : ∃ x, x = popcS s' := ⟨_, rfl⟩
          obtain ⟨x2, hx2⟩ : ∃ x, x = popcS c' := ⟨_, rfl⟩
          have hne : ((x1 : Int) != (x2 : Int)) = true := by simp; omega
          simp only [← hx1] at EM1
          simp only [← hx2] at EM2
          replace EM1 := Lib.hid EM1
          replace EM2 := Lib.hid EM2
          clear hT hsz hm hn hok hTT hb hbc hmm hpc hx1 hx2
          go_enter Try.func17, Try.ntmps17
          go_wp2_with fail
          refine (E.out).mono ?_
          rintro e w1 ⟨rfl, hd⟩
          have HS := Lib.hid hd
          clear hd
          go_wp2_with fail
          refine (EI.out w1).mono ?_
          rintro e w2 ⟨rfl, rfl⟩
          go_wp2_with fail
          refine (EW.out w1 HS.out).mono ?_
          rintro e w2 ⟨rfl, rfl⟩
          go_wp2_with fail
          refine (EC.out w1).mono ?_
          rintro e w2 ⟨rfl, rfl⟩
          go_wp2_with fail
          refine (EM1.out w1).mono ?_
          rintro e w2 ⟨rfl, rfl⟩
          go_wp2_with fail
          refine (EM2.out w1).mono ?_
          rintro e w2 ⟨rfl, rfl⟩
          go_wp2
          go_ret2
          exact ⟨rfl, HS.out⟩

end Go.Proofs.Ythdemjfllfhhpaa
end

section
namespace Go.Proofs.Ythdemjfllfhhpaa
open Go.RowKit Go.Deep

set_option maxRecDepth 100000 in
set_option maxHeartbeats 2000000 in
theorem otherEntry_any (pr ps rb i k n cap : Nat) (a : Option Addr) (l : List (List Int)) (W : World) (hn : l.length = n) (hT : TabIn l) (hw : (l.getD 0 []).length = n) (hi : i < n) (hk : k < n)
    (h2 : W.cell? ⟨pr, 0, none⟩ = some (.map (some rb))) (h3 : W.cell? ⟨ps, 0, none⟩ = some (.slice a n cap)) (hm : MatR W a l) (hr : RoadsAt W rb) (hn1 : pr ≠ rb) (hn2 : ps ≠ rb) :
    Calls Try.prog 80 #[.int .i64 i, .int .i64 k, .pointer (some ⟨pr, 0, none⟩), .pointer (some ⟨ps, 0, none⟩)] W fun e w' => e = .returned (.int .i64 (othF l n i k)) ∧ W.grownBy w' (some rb) ∧ RoadsAt w' rb := by
  have h6 := hT.2.1
  rw [hn] at h6
  have ES := fun (V : World) => signOf_any (i + k) (by omega) V
  rw [show ((i + k : Nat) : Int) = (i : Int) + k by omega] at ES
  have EP := fun (V : World) (h : W.Since W.heap.size V) => without_any a cap n k i l V hn hT hw hk hi (hm.since h)
  have hbl := but_lt ⟨n, by omega⟩ ⟨k, by omega⟩ hk
  have hbl' := but_lt ⟨n, by omega⟩ ⟨i, by omega⟩ hi
  have hbp := popcS_but ⟨n, by omega⟩ ⟨k, by omega⟩ hk
  have hbp' := popcS_but ⟨n, by omega⟩ ⟨i, by omega⟩ hi
  simp only at hbl hbl' hbp hbp'
  have hsq := part_sq hT (s := 2 ^ n - 1 - 2 ^ k) (c := 2 ^ n - 1 - 2 ^ i) (by rw [hn]; exact hbl.1) (by rw [hw]; exact hbl'.1) (by rw [hbp, hbp'])
  rw [hbp] at hsq
  have hfb : -(34012224000000 : Int) ≤ ordF (partL l (2 ^ n - 1 - 2 ^ k) (2 ^ n - 1 - 2 ^ i)) (n - 1) (n - 1) 0 ∧ ordF (partL l (2 ^ n - 1 - 2 ^ k) (2 ^ n - 1 - 2 ^ i)) (n - 1) (n - 1) 0 ≤ 34012224000000 := by
    by_cases h0 : 1 ≤ n - 1
    · have hb := ordF_bd (hsq.2 h0).1 hsq.1 (hsq.2 h0).2 (n - 1) (Nat.le_refl _) 0
      have := p180_le (n - 1) (by omega)
      omega
    · rw [show n - 1 = 0 by omega, ordF_zero]; omega
  have hv : othF l n i k = sn (i + k) * ordF (partL l (2 ^ n - 1 - 2 ^ k) (2 ^ n - 1 - 2 ^ i)) (n - 1) (n - 1) 0 := by unfold othF; rw [sg_sn]
  rw [ordF_all _ (by omega)] at hv hfb
  rw [hv]
  simp only [hsq.1] at EP
  obtain ⟨L, hL⟩ : ∃ L, L = partL l (2 ^ n - 1 - 2 ^ k) (2 ^ n - 1 - 2 ^ i) := ⟨_, rfl⟩
  rw [← hL] at hsq hfb ⊢
  simp only [← hL] at EP
  have EV := fun (a2 : Option Addr) (c2 : Nat) (V : World) (h : MatR V a2 L) => byPivots_any (n - 1) L a2 c2 V hsq (by omega) h
  obtain ⟨n1, hnn⟩ : ∃ m, m = n - 1 := ⟨_, rfl⟩
  rw [← hnn] at hfb ⊢
  simp only [← hnn] at EV EP
  obtain ⟨x, hx⟩ : ∃ x, x = dt n1 (at2 L) := ⟨_, rfl⟩
  rw [← hx] at hfb ⊢
  simp only [← hx] at EV
  have hwx : IntKind.i64.wrap (sn (i + k) * x) = sn (i + k) * x := IntWalk.i64_in _ (by unfold sn; split <;> (constructor <;> omega))
  obtain ⟨s, hs⟩ : ∃ s, s = sn (i + k) := ⟨_, rfl⟩
  rw [← hs] at hwx ⊢
  simp only [← hs] at ES
  replace ES := Lib.hid ES
  replace EP := Lib.hid EP
  replace EV := Lib.hid EV
  have HR := Lib.hid hr
  have hlt := hr.lt
  clear hr hm hn hT hw hsq hfb hv hL hx hs hbl hbl' hbp hbp' hnn
  go_enter Try.func80, Try.ntmps80
  have hwik : IntKind.i64.wrap ((i : Int) + k) = (i : Int) + k := IntWalk.i64_in _ ⟨by omega, by omega⟩
  have l2 : pr < W.heap.size := World.block_lt_of_cell? _ _ h2
  have l3 : ps < W.heap.size := World.block_lt_of_cell? _ _ h3
  go_wp2
  go_region_held3 (fun w' => w'.cell? ⟨pr, 0, none⟩ = some (.map (some rb)) ∧ w'.cell? ⟨ps, 0, none⟩ = some (.slice a n cap)) (first | exact ⟨h2, h3⟩)
    (first
      | (go_at_call 81; refine (ES.out _).mono ?_; rintro e w' ⟨rfl, rfl⟩)
      | (go_at_call 83; refine (EP.out _ ?_).mono ?_; (exact (World.Since.refl _ _).drew); rintro e w3 ⟨a3, c3, rfl, hs3, ho3⟩; have hs3 : W.Since W.heap.size w3 := since_of_drew hs3; have h2 := (hs3.cell (a := ⟨pr, 0, none⟩) l2).trans h2; have h3 := (hs3.cell (a := ⟨ps, 0, none⟩) l3).trans h3; have HR3 := Lib.hid (HR.out.kept (grown_of_since (row := none) hs3) (by simp)); have HG3 := Lib.hid (grown_of_since (row := some rb) hs3); have ho3 : OwnT W.heap.size w3.heap.size w3 a3 L := ho3; have HA := Lib.hid (anyValue_of rb a3 n1 c3 x w3 HR3.out (fun W' hg => EV.out a3 c3 W' (ho3.but hlt hg))); clear hs3 ho3)
      | (go_at_call 82; refine (HA.out).mono ?_; rintro e w4 ⟨rfl, hg, hr⟩; have h2 := (World.cell?_of_block (a := ⟨pr, 0, none⟩) (hg.block pr (World.block_lt_of_cell? _ _ h2) (by intro e; injection e with e; exact hn1 e))).trans h2; have h3 := (World.cell?_of_block (a := ⟨ps, 0, none⟩) (hg.block ps (World.block_lt_of_cell? _ _ h3) (by intro e; injection e with e; exact hn2 e))).trans h3; have HG4 := Lib.hid (HG3.out.trans hg); have HR4 := Lib.hid hr; clear hg hr))
  all_goals
    go_wp2
    go_ret
    exact ⟨rfl, HG4.out, HR4.out⟩

set_option maxRecDepth 100000 in
set_option maxHeartbeats 2000000 in
theorem implValueOther_any (a : Option Addr) (cap n : Nat) (l : List (List Int)) (w : World) (hn : l.length = n) (hsz : szL l ≤ 1048576) (hm : MatR w a l) :
    Calls Try.prog 32 #[.slice a n cap] w (ImplT w (sqB l) (tabF n n (othF l n))) := by
  obtain ⟨W0, hW0⟩ : ∃ W0, W0 = ((w.alloc (.map #[] 0)).alloc (.cells #[.slice a n cap] 48)).alloc (.cells #[.map (some w.heap.size)] 64) := ⟨_, rfl⟩
  have hS0 : w.Since w.heap.size W0 := by rw [hW0]; exact (((World.Since.refl w.heap.size w).alloc (Nat.le_refl _) _).alloc (by simp) _).alloc (by simp; omega) _
  have hz0 : W0.heap.size = w.heap.size + 1 + 1 + 1 := by rw [hW0]; simp
  have hr0 : RoadsAt W0 w.heap.size := by rw [hW0]; exact ((roads_made w).kept (World.grownBy_alloc _ _ none) (by simp)).kept (World.grownBy_alloc _ _ none) (by simp)
  have c1 := cell_new_l (w.alloc (.map #[] 0)) (.slice a n cap) 48
  have c2 := cell_new_l ((w.alloc (.map #[] 0)).alloc (.cells #[.slice a n cap] 48)) (.map (some w.heap.size)) 64
  simp only [World.size_alloc] at c1 c2
  have k1 : W0.cell? ⟨w.heap.size + 1, 0, none⟩ = some (.slice a n cap) := by rw [hW0]; exact cell_alloc_l _ c1.1
  have k2 : W0.cell? ⟨w.heap.size + 1 + 1, 0, none⟩ = some (.map (some w.heap.size)) := by rw [hW0]; exact c2.1
  have E := isSquare_any a cap n l W0 hn hsz (hm.since hS0)
  have hmk := @run_makeMap Try.prog
  cases hs : sqB l with
  | false =>
    rw [hs] at E
    replace E := Lib.hid E
    have HS := Lib.hid hS0
    clear hs hm hn hsz c1 c2 k1 k2 hr0 hz0 hS0
    go_enter Try.func32, Try.ntmps32
    go_wp2_with fail
    rw [← hW0]
    refine (E.out).mono ?_
    rintro e w1 ⟨rfl, hd⟩
    have HD := Lib.hid (HS.out.trans (since_mono hd HS.out.size))
    clear hd
    go_wp2
    go_ret2
    exact ⟨none, 0, rfl, HD.out, OwnT.nil _ _ _ _⟩
  | true =>
    rw [hs] at E
    replace E := Lib.hid E
    obtain ⟨hT, hw⟩ := sqB_of hs
    rw [hn] at hw
    have h6 := hT.2.1
    rw [hn] at h6
    have ENT := Lib.hid (fun (W1 : World) (hd : W0.Since W0.heap.size W1) =>
      newTableX_any (some w.heap.size) (fun W => RoadsAt W w.heap.size) 80 #[.pointer (some ⟨w.heap.size + 1 + 1, 0, none⟩), .pointer (some ⟨w.heap.size + 1, 0, none⟩)] n n (othF l n) W1 (by omega) (by omega) (enters_of Try.func80 (by kernel_rfl) rfl)
        (fun r e => by injection e with e; have := hd.size; omega) (fun W W' g h1 h2 h3 => h1.kept h3 (by intro e; injection e with e; have := hd.size; omega)) (hr0.kept (grown_of_since (row := none) hd) (by simp))
        (fun W i k hg hI hi hk => otherEntry_any (w.heap.size + 1 + 1) (w.heap.size + 1) w.heap.size i k n cap a l W hn hT hw.symm hi hk
          ((World.cell?_of_block (a := ⟨w.heap.size + 1 + 1, 0, none⟩) (hg.block _ (by have := hd.size; show w.heap.size + 1 + 1 < _; omega) (by intro e; injection e with e; simp only at e; omega))).trans ((hd.cell (a := ⟨w.heap.size + 1 + 1, 0, none⟩) (World.block_lt_of_cell? _ _ k2)).trans k2))
          ((World.cell?_of_block (a := ⟨w.heap.size + 1, 0, none⟩) (hg.block _ (by have := hd.size; show w.heap.size + 1 < _; omega) (by intro e; injection e with e; simp only at e; omega))).trans ((hd.cell (a := ⟨w.heap.size + 1, 0, none⟩) (World.block_lt_of_cell? _ _ k1)).trans k1))
          (hm.since (hS0.trans (⟨hg.os.trans hd.os, hg.tape.trans hd.tape, hg.output.trans hd.output, Nat.le_trans (by have := hd.size; omega) (Nat.le_trans hd.size hg.size), fun j hj => (hg.block j (by have := hd.size; omega) (by intro e; injection e with e; omega)).trans (hd.block j (by omega))⟩ : W0.Since w.heap.size W))) hI (by omega) (by omega)))
    have HS := Lib.hid hS0
    have HZ := Lib.hid hz0
    have K1 := Lib.hid k1
    clear hs hm hn hsz c1 c2 k1 k2 hr0 hz0 hS0 hT hw
    go_enter Try.func32, Try.ntmps32
    go_wp2_with fail
    rw [← hW0]
    refine (E.out).mono ?_
    rintro e w1 ⟨rfl, hd⟩
    have HD := Lib.hid hd
    clear hd
    go_wp2_with fail
    refine (ENT.out w1 HD.out).mono ?_
    rintro e w2 ⟨rfl, hg, ho⟩
    have hs2 : w.Since w.heap.size w2 := ⟨hg.1.os.trans (HD.out.os.trans HS.out.os), hg.1.tape.trans (HD.out.tape.trans HS.out.tape), hg.1.output.trans (HD.out.output.trans HS.out.output), by have h1 := hg.1.size; have h2 := HD.out.size; have h3 := HZ.out; omega, fun j hj => (hg.1.block j (by have h2 := HD.out.size; have h3 := HZ.out; omega) (by intro e; injection e with e; omega)).trans ((HD.out.block j (by have h3 := HZ.out; omega)).trans (HS.out.block j hj))⟩
    have HS2 := Lib.hid hs2
    have HO := Lib.hid (ho.mono (show w.heap.size ≤ w1.heap.size by have h2 := HD.out.size; have h3 := HZ.out; omega) (Nat.le_refl _))
    clear hs2 ho hg
    go_wp2
    go_ret2
    exact ⟨_, n, by rw [show (resT true (tabF n n (othF l n))).length = n from tabF_length _ _ _]; rfl, HS2.out, HO.out⟩

end Go.Proofs.Ythdemjfllfhhpaa
end

section
namespace Go.Proofs.Ythdemjfllfhhpaa
open Go.RowKit Go.Deep

theorem dt_unique {m : Nat} (B : Nat → Nat → Int) (y : Nat → Int) (h : ∀ i, i < m + 1 → sumN (fun j => B i j * y j) (m + 1) = 0) (hB : dt (m + 1) B ≠ 0) {i : Nat} (hi : i < m + 1) : y i = 0 := by
  have hd : dt (m + 1) (fun a b => B b a) = dt (m + 1) B := dt_turn _ _
  have e1 : ∀ k, k < m + 1 → sumN (fun q => B q k * (sn (i + q) * dt m (fun a b => B (skip q b) (skip i a)))) (m + 1) = if k = i then dt (m + 1) B else 0 := fun k hk => by
    rw [← hd]; exact dt_alien (fun a b => B b a) hi hk
  have e2 : sumN (fun k => y k * sumN (fun q => B q k * (sn (i + q) * dt m (fun a b => B (skip q b) (skip i a)))) (m + 1)) (m + 1) = y i * dt (m + 1) B := by
    rw [sumN_one _ i (m + 1) hi (fun k hk hki => by rw [e1 k hk, if_neg hki, Int.mul_zero]), e1 i hi, if_pos rfl]
  have e3 : sumN (fun k => y k * sumN (fun q => B q k * (sn (i + q) * dt m (fun a b => B (skip q b) (skip i a)))) (m + 1)) (m + 1) = 0 := by
    rw [sumN_congr (m + 1) (g := fun k => sumN (fun q => (sn (i + q) * dt m (fun a b => B (skip q b) (skip i a))) * (B q k * y k)) (m + 1)) (fun k _ => by rw [← sumN_mul]; exact sumN_congr _ fun q _ => by grind), sumN_comm]
    exact sumN_none _ fun q hq => by rw [sumN_mul, h q hq, Int.mul_zero]
  rw [e2] at e3
  rcases Int.mul_eq_zero.1 e3 with e | e
  · exact e
  · exact absurd e hB

def adj (m : Nat) (A : Nat → Nat → Int) (i k : Nat) : Int := sn (k + i) * dt m (fun a b => A (skip k a) (skip i b))
theorem adj_left {m : Nat} (A : Nat → Nat → Int) {i k : Nat} (hi : i < m + 1) (hk : k < m + 1) : sumN (fun j => A i j * adj m A j k) (m + 1) = if i = k then dt (m + 1) A else 0 := dt_alien A hk hi

theorem jac_zero {m : Nat} (A : Nat → Nat → Int) (hD : dt (m + 2) A = 0) {r : Nat} (h0 : adj (m + 1) A 0 r ≠ 0) : adj (m + 1) A 1 0 * adj (m + 1) A 0 1 - adj (m + 1) A 1 1 * adj (m + 1) A 0 0 = 0 := by
  have hz : ∀ i k, i < m + 2 → k < m + 2 → sumN (fun j => A i j * adj (m + 1) A j k) (m + 2) = 0 := fun i k hi hk => by
    rw [adj_left A hi hk, hD]; split <;> rfl
  have hB : dt (m + 1) (fun a b => A (skip r a) (skip 0 b)) ≠ 0 := fun e => h0 (by unfold adj; rw [e, Int.mul_zero])
  refine dt_unique (fun a b => A (skip r a) (skip 0 b)) (fun b => adj (m + 1) A (b + 1) 0 * adj (m + 1) A 0 1 - adj (m + 1) A (b + 1) 1 * adj (m + 1) A 0 0) (fun i hi => ?_) hB (i := 0) (by omega)
  have hs : skip r i < m + 2 := skip_bd hi
  have a1 := hz (skip r i) 0 hs (by omega)
  have a2 := hz (skip r i) 1 hs (by omega)
  rw [show m + 2 = (m + 1) + 1 from rfl, sumN_first] at a1 a2
  rw [sumN_congr (m + 1) (g := fun b => adj (m + 1) A 0 1 * (A (skip r i) (b + 1) * adj (m + 1) A (b + 1) 0) + (-(adj (m + 1) A 0 0)) * (A (skip r i) (b + 1) * adj (m + 1) A (b + 1) 1)) (fun b _ => by rw [skip_zero]; grind), sumN_add, sumN_mul, sumN_mul]
  have b1 : sumN (fun b => A (skip r i) (b + 1) * adj (m + 1) A (b + 1) 0) (m + 1) = -(A (skip r i) 0 * adj (m + 1) A 0 0) := by omega
  have b2 : sumN (fun b => A (skip r i) (b + 1) * adj (m + 1) A (b + 1) 1) (m + 1) = -(A (skip r i) 0 * adj (m + 1) A 0 1) := by omega
  rw [b1, b2]
  grind

theorem jac (m : Nat) (A : Nat → Nat → Int) : adj (m + 1) A 0 0 * adj (m + 1) A 1 1 - adj (m + 1) A 0 1 * adj (m + 1) A 1 0 = dt (m + 2) A * dt m (fun i j => A (i + 2) (j + 2)) := by
  by_cases hD : dt (m + 2) A = 0
  · rw [hD, Int.zero_mul]
    by_cases h0 : adj (m + 1) A 0 0 = 0
    · by_cases h1 : adj (m + 1) A 0 1 = 0
      · rw [h0, h1]; omega
      · have := jac_zero A hD h1
        grind
    · have := jac_zero A hD h0
      grind
  · obtain ⟨N, hN⟩ : ∃ N : Nat → Nat → Int, N = fun i j => if j < 2 then adj (m + 1) A i j else if i = j then 1 else 0 := ⟨_, rfl⟩
    have hQ : ∀ i j, i < m + 2 → j < m + 2 → mulF (m + 2) A N i j = if j < 2 then (if i = j then dt (m + 2) A else 0) else A i j := fun i j hi hj => by
      unfold mulF
      by_cases h2 : j < 2
      · rw [if_pos h2, ← adj_left A hi hj]
        exact sumN_congr _ fun k _ => by rw [hN]; show A i k * (if j < 2 then _ else _) = _; rw [if_pos h2]
      · rw [if_neg h2, sumN_one _ j (m + 2) hj (fun k _ hk => by rw [hN]; show A i k * (if j < 2 then _ else _) = _; rw [if_neg h2, if_neg hk, Int.mul_zero])]
        rw [hN]; show A i j * (if j < 2 then _ else _) = _; rw [if_neg h2, if_pos rfl, Int.mul_one]
    have e1 : dt (m + 2) N = adj (m + 1) A 0 0 * adj (m + 1) A 1 1 - adj (m + 1) A 0 1 * adj (m + 1) A 1 0 := by
      rw [Nat.add_comm m 2, dt_block m 2 N (fun i j hi hj _ => by rw [hN]; show (if j < 2 then _ else _) = _; rw [if_neg (by omega), if_neg (by omega)]), dt_two,
        dt_congr m (g := oneF) (fun i j _ _ => by
          rw [hN]; show (if 2 + j < 2 then _ else _) = _
          rw [if_neg (by omega)]
          unfold oneF
          by_cases e : i = j
          · rw [if_pos e, if_pos (by omega)]
          · rw [if_neg e, if_neg (by omega)]), dt_oneF, Int.mul_one, hN]
      rfl
    have e2 : dt (m + 2) (mulF (m + 2) A N) = dt (m + 2) A * dt (m + 2) A * dt m (fun i j => A (i + 2) (j + 2)) := by
      rw [← dt_turn, Nat.add_comm m 2, dt_block m 2 _ (fun i j hi hj h => by rw [Nat.add_comm 2 m, hQ j i (by omega) (by omega), if_pos hi, if_neg (by omega)]), dt_two]
      simp only [Nat.add_comm 2 m]
      rw [hQ 0 0 (by omega) (by omega), hQ 1 1 (by omega) (by omega), hQ 0 1 (by omega) (by omega), hQ 1 0 (by omega) (by omega)]
      rw [← dt_turn m (fun i j => A (i + 2) (j + 2))]
      have e3 : dt m (fun i j => mulF (m + 2) A N (2 + j) (2 + i)) = dt m (fun i j => A (j + 2) (i + 2)) := dt_congr m fun i j hi hj => by
        rw [hQ _ _ (by omega) (by omega), if_neg (by omega), Nat.add_comm 2 j, Nat.add_comm 2 i]
      rw [e3]
      simp
    have e4 := dt_mul (m + 2) A N
    rw [e1, e2, Int.mul_assoc] at e4
    exact (Int.eq_of_mul_eq_mul_left hD e4).symm

end Go.Proofs.Ythdemjfllfhhpaa
end

section
namespace Go.Proofs.Ythdemjfllfhhpaa
open Go.RowKit Go.Deep

theorem sel_three : ∀ n : Fin 7, 2 ≤ n.val → (sel 3 n.val n.val).length = 2 ∧ selN 3 n.val 0 = 0 ∧ selN 3 n.val 1 = 1 := by decide +kernel
theorem sel_rest : ∀ n : Fin 7, (sel (2 ^ n.val - 4) n.val n.val).length = n.val - 2 := by decide +kernel
theorem selN_rest : ∀ n : Fin 7, ∀ j : Fin 6, j.val + 2 < n.val → selN (2 ^ n.val - 4) n.val j.val = j.val + 2 := by decide +kernel
theorem popcS_rest : ∀ n : Fin 7, popcS (2 ^ n.val - 4) = n.val - 2 := by decide +kernel
theorem rest_in : ∀ n : Fin 7, 2 ^ n.val - 4 ≤ 2 ^ n.val - 1 ∧ 2 ^ n.val ≤ 64 := by decide +kernel
theorem and3_fin : ∀ n : Fin 7, bits BinOp.andNot IntKind.i64 ((2 ^ n.val - 1 : Nat) : Int) 3 = ((2 ^ n.val - 4 : Nat) : Int) := by decide +kernel

theorem rest_ok {l : List (List Int)} {n : Nat} (h : sqB l = true) (hn : l.length = n) : minorOk l ((2 ^ n - 4 : Nat) : Int) ((2 ^ n - 4 : Nat) : Int) = true := by
  obtain ⟨hT, hw⟩ := sqB_of h
  have h6 := hT.2.1
  have hr := rest_in ⟨n, by omega⟩
  simp only at hr
  unfold minorOk
  rw [tabIn_true hT, ← hw, hn]
  have e : inB ((2 ^ n - 4 : Nat) : Int) 0 ((2 ^ n - 1 : Nat) : Int) = true := decide_eq_true (by omega)
  rw [e]
  simp
theorem three_out {l : List (List Int)} {n : Nat} (hn : l.length = n) (h : n < 2) : minorOk (tabF n n (othF l n)) 3 3 = false := by
  unfold minorOk
  rw [tabF_length]
  have e : inB 3 0 ((2 ^ n - 1 : Nat) : Int) = false := by
    have : n = 0 ∨ n = 1 := by omega
    rcases this with rfl | rfl <;> decide
  rw [e]
  simp
theorem jac_minor {l : List (List Int)} {n : Nat} (h : sqB l = true) (hn : l.length = n) (h2 : 2 ≤ n) (hM : minorOk (tabF n n (othF l n)) 3 3 = true) :
    minorV (tabF n n (othF l n)) 3 3 = ordF l n n 0 * minorV l ((2 ^ n - 4 : Nat) : Int) ((2 ^ n - 4 : Nat) : Int) ∧ -1800 ≤ minorV (tabF n n (othF l n)) 3 3 ∧ minorV (tabF n n (othF l n)) 3 3 ≤ 1800 := by
  obtain ⟨hT, hw⟩ := sqB_of h
  have h6 := hT.2.1
  have hwn : (l.getD 0 []).length = n := by omega
  have hl : (tabF n n (othF l n)).length = n := tabF_length _ _ _
  have hmw : ((tabF n n (othF l n)).getD 0 []).length = n := tabF_len _ _ _ _ (by omega)
  have hTM : TabIn (tabF n n (othF l n)) := by
    unfold minorOk at hM
    simp only [Bool.and_eq_true] at hM
    exact tabIn_of hM.1
  have hs := sel_three ⟨n, by omega⟩ h2
  have hr := sel_rest ⟨n, by omega⟩
  have hp := popcS_rest ⟨n, by omega⟩
  simp only at hs hr hp
  have p3 : popcS (3 : Int).toNat = 2 := by decide
  have t3 : (3 : Int).toNat = 3 := rfl
  have hat : ∀ i j, i < 2 → j < 2 → at2 (partL (tabF n n (othF l n)) 3 3) i j = othF l n i j := fun i j hi hj => by
    rw [partL_at _ _ _ (by rw [hl, hs.1]; exact hi) (by rw [hmw, hs.1]; exact hj), hl, hmw]
    have e : ∀ q, q < 2 → selN 3 n q = q := fun q hq => by
      have : q = 0 ∨ q = 1 := by omega
      rcases this with rfl | rfl
      · exact hs.2.1
      · exact hs.2.2
    rw [e i hi, e j hj]
    exact tabF_at _ _ _ i j (by omega) (by omega)
  have e1 : minorV (tabF n n (othF l n)) 3 3 = dt 2 (othF l n) := by
    unfold minorV
    rw [p3, t3, ordF_all _ (by omega)]
    exact dt_congr 2 fun i j hi hj => hat i j hi hj
  have e2 : minorV l ((2 ^ n - 4 : Nat) : Int) ((2 ^ n - 4 : Nat) : Int) = dt (n - 2) (fun i j => at2 l (i + 2) (j + 2)) := by
    unfold minorV
    rw [Int.toNat_natCast, hp, ordF_all _ (by omega)]
    refine dt_congr _ fun i j hi hj => ?_
    rw [partL_at _ _ _ (by rw [hn, hr]; exact hi) (by rw [hwn, hr]; exact hj), hn, hwn]
    have f1 := selN_rest ⟨n, by omega⟩ ⟨i, by omega⟩ (by show i + 2 < n; omega)
    have f2 := selN_rest ⟨n, by omega⟩ ⟨j, by omega⟩ (by show j + 2 < n; omega)
    simp only at f1 f2
    rw [f1, f2]
  refine ⟨?_, ?_⟩
  · rw [e1, e2, ordF_all _ (by omega)]
    obtain ⟨m, rfl⟩ : ∃ m, n = m + 2 := ⟨n - 2, by omega⟩
    rw [show m + 2 - 2 = m by omega, ← jac m (at2 l), dt_two]
    have e3 : ∀ i k, i < m + 2 → k < m + 2 → othF l (m + 2) i k = adj (m + 1) (at2 l) i k := fun i k hi hk => othF_dt hT hn hwn hi hk
    rw [e3 0 0 (by omega) (by omega), e3 1 1 (by omega) (by omega), e3 0 1 (by omega) (by omega), e3 1 0 (by omega) (by omega)]
  · have hb := dt_bd 2 (othF l n) (by omega) (fun i j hi hj => by
      have b := hTM.at (i := i) (k := j) (by omega) (by omega)
      have e : at2 (tabF n n (othF l n)) i j = othF l n i j := tabF_at _ _ _ i j (by omega) (by omega)
      rw [e] at b
      exact b)
    rw [e1]
    exact hb

end Go.Proofs.Ythdemjfllfhhpaa
end

section
namespace Go.Proofs.Ythdemjfllfhhpaa
open Go.RowKit Go.Deep

set_option maxHeartbeats 1000000 in
theorem sameInts_same (a b : Option Addr) (ca cb n : Nat) (l : List Int) (w : World) (hn : l.length = n) (h63 : n ≤ 9223372036854775807) (ha : RowR w a l) (hb : RowR w b l) :
    Calls Try.prog 75 #[.slice a n ca, .slice b n cb] w fun e w' => e = .returned (.bool true) ∧ Drawn w w' := by
  have H := Lib.hid hn; clear hn
  go_enter Try.func75, Try.ntmps75
  go_wp2
  go_loopg [5] n (fun g i wr => ∃ k : Nat, k ≤ n ∧ g = n - k ∧ i = .int .i64 k ∧ Drawn w wr)
  case atStart => exact ⟨0, Nat.zero_le _, rfl, rfl, Drawn.refl w⟩
  case round =>
    obtain ⟨k, hk, rfl, rfl, hD⟩ := hrel
    by_cases hlt : k < n
    · obtain ⟨b1, o1, rfl, hc1⟩ := ha (by rw [H.out]; omega)
      obtain ⟨b2, o2, rfl, hc2⟩ := hb (by rw [H.out]; omega)
      have c1 := hc1 k (by rw [H.out]; exact hlt)
      have c2 := hc2 k (by rw [H.out]; exact hlt)
      obtain ⟨x, hx⟩ : ∃ x, x = l.getD k 0 := ⟨_, rfl⟩
      rw [← hx] at c1 c2
      rw [← hD.cell] at c1 c2
      clear hx hc1 hc2 ha hb
      go_wp2
      go_quiet (fail)
      go_wp2
      go_roundg (n - (k + 1))
      case measure => omega
      case rel => exact ⟨k + 1, by omega, rfl, by go_num, hD.trans (Drawn.mk _ _)⟩
    · go_wp2
      go_ret
      exact ⟨rfl, hD⟩

set_option maxHeartbeats 1000000 in
theorem sameRows_same (a b : Option Addr) (ca cb n : Nat) (l : List (List Int)) (w : World) (hn : l.length = n) (h63 : n ≤ 9223372036854775807) (hl : ∀ r, r < l.length → (l.getD r []).length ≤ 9223372036854775807)
    (ha : MatR w a l) (hb : MatR w b l) :
    Calls Try.prog 27 #[.slice a n ca, .slice b n cb] w fun e w' => e = .returned (.bool true) ∧ Drawn w w' := by
  have H := Lib.hid hn; clear hn
  go_enter Try.func27, Try.ntmps27
  go_wp2
  go_loopg [5] n (fun g i wr => ∃ k : Nat, k ≤ n ∧ g = n - k ∧ i = .int .i64 k ∧ Drawn w wr)
  case atStart => exact ⟨0, Nat.zero_le _, rfl, rfl, Drawn.refl w⟩
  case round =>
    obtain ⟨k, hk, rfl, rfl, hD⟩ := hrel
    by_cases hlt : k < n
    · obtain ⟨b1, o1, A1, C1, rfl, hc1⟩ := ha (by rw [H.out]; omega)
      obtain ⟨b2, o2, A2, C2, rfl, hc2⟩ := hb (by rw [H.out]; omega)
      obtain ⟨c1, r1⟩ := hc1 k (by rw [H.out]; exact hlt)
      obtain ⟨c2, r2⟩ := hc2 k (by rw [H.out]; exact hlt)
      have hlk := hl k (by rw [H.out]; exact hlt)
      obtain ⟨x, hx⟩ : ∃ x, x = l.getD k [] := ⟨_, rfl⟩
      rw [← hx] at c1 c2 r1 r2 hlk
      obtain ⟨m, hm⟩ : ∃ m, x.length = m := ⟨_, rfl⟩
      rw [hm] at c1 c2 hlk
      have HM := Lib.hid hm
      clear hx hc1 hc2 ha hb hl hm
      have r1 := r1.drawn hD
      have r2 := r2.drawn hD
      rw [← hD.cell] at c1 c2
      have e1 := fun (p : Nat) => sameInts_same (A1 k) (A2 k) (C1 k) (C2 k) m x (wr.drewN p) HM.out hlk r1 r2
      have E1 := Lib.hid e1; clear e1 r1 r2
      go_wp2
      go_quiet ((go_at_call 75; exact Calls.quiet_of (E1.out _)))
      go_wp2
      go_roundg (n - (k + 1))
      case measure => omega
      case rel => exact ⟨k + 1, by omega, rfl, by go_num, hD.trans (Drawn.mk _ _)⟩
    · go_wp2
      go_ret
      exact ⟨rfl, hD⟩

end Go.Proofs.Ythdemjfllfhhpaa
end

section
namespace Go.Proofs.Ythdemjfllfhhpaa
open Go.RowKit Go.Deep

theorem szL_of {l : List (List Int)} {n k : Nat} (h1 : l.length ≤ n) (h2 : ∀ j, j < l.length → (l.getD j []).length ≤ k) (hnk : n * k + n ≤ 1048576) : szL l ≤ 1048576 := by
  have h3 := sumTo_le_mul l k h2 l.length (Nat.le_refl _)
  have h4 : l.length * k ≤ n * k := Nat.mul_le_mul_right _ h1
  have h5 : k * l.length = l.length * k := Nat.mul_comm _ _
  unfold szL
  omega
theorem rows_le {l : List (List Int)} (h : szL l ≤ 1048576) : ∀ r, r < l.length → (l.getD r []).length ≤ 9223372036854775807 := fun r hr => by
  have := row_le l hr
  unfold szL at h
  omega

theorem tab_self {l : List (List Int)} {n m : Nat} (hn : l.length = n) (hm : ∀ r, r < n → (l.getD r []).length = m) : tabF n m (at2 l) = l := by
  refine List.ext_getElem (by rw [tabF_length, hn]) fun r h1 h2 => ?_
  have hr : r < n := by rw [tabF_length] at h1; exact h1
  have e1 : (tabF n m (at2 l))[r] = (tabF n m (at2 l)).getD r [] := by simp [List.getD, h1]
  have e2 : l[r] = l.getD r [] := by simp [List.getD, h2]
  rw [e1, e2, tabF_get _ _ _ _ hr]
  refine List.ext_getElem (by rw [List.length_map, List.length_range, hm r hr]) fun k h3 h4 => ?_
  rw [List.getElem_map, List.getElem_range]
  unfold at2
  obtain ⟨x, hx⟩ : ∃ x, x = l.getD r [] := ⟨_, rfl⟩
  subst hx
  generalize l.getD r [] = x at *
  simp [List.getD, h4]

theorem turnL_turnL {l : List (List Int)} (hT : TabIn l) : turnL (turnL l) = l := by
  have h1 := hT.1
  have hw := hT.width
  have e0 : ((turnL l).getD 0 []).length = l.length := tabF_len _ _ _ _ hw.1
  have e1 : turnL (turnL l) = tabF l.length (l.getD 0 []).length fun k i => at2 (turnL l) i k := by
    show tabF ((turnL l).getD 0 []).length (turnL l).length _ = _
    rw [e0, turnL_length]
  rw [e1]
  have e2 : tabF l.length (l.getD 0 []).length (fun k i => at2 (turnL l) i k) = tabF l.length (l.getD 0 []).length (at2 l) := by
    unfold tabF
    refine List.map_congr_left fun r hr => List.map_congr_left fun k hk => ?_
    exact tabF_at _ _ _ _ _ (List.mem_range.1 hk) (List.mem_range.1 hr)
  rw [e2]
  exact tab_self rfl (fun r hr => hT.row hr)

end Go.Proofs.Ythdemjfllfhhpaa
end

section
namespace Go.Proofs.Ythdemjfllfhhpaa
open Go.RowKit Go.Deep

set_option maxRecDepth 100000 in
set_option maxHeartbeats 4000000 in
theorem fnJacobi (a : Option Addr) (cap n : Nat) (w : World) (hc : n ≤ cap) (h63 : cap ≤ 9223372036854775807) (hb : BytR w a n) :
    Calls Try.prog 8 #[.slice a n cap] w fun e w' => e = .returned (.bool true) ∧ w.Since w.heap.size w' := by
  by_cases hlen : 1048576 < n
  · have hl' : decide ((1048576 : Int) < (n : Int)) = true := by simp; omega
    clear hb
    go_enter Try.func8, Try.ntmps8
    go_wp2
    go_ret
    exact ⟨rfl, World.Since.refl _ _⟩
  · have hl' : decide ((1048576 : Int) < (n : Int)) = false := by simp; omega
    have ED := Lib.hid (drawValueOther_any a n cap w hc h63 hb)
    clear hb
    go_enter Try.func8, Try.ntmps8
    go_wp2_with fail
    refine (ED.out).mono ?_
    rintro e w1 ⟨a1, c1, l, rfl, hs1, h1, h5, hlens, hit⟩
    have hsz : szL l ≤ 1048576 := szL_of h5 (fun j hj => (hlens j hj).2) (by decide)
    obtain ⟨nn, hn⟩ : ∃ nn, l.length = nn := ⟨_, rfl⟩
    rw [hn]
    have HN := Lib.hid hn
    have HSZ := Lib.hid hsz
    have HM := Lib.hid (fun (W : World) (h : w1.Since w1.heap.size W) => hit.matR.since h)
    have HS1 := Lib.hid hs1
    obtain ⟨ok, hok⟩ : ∃ ok, sqB l = ok := ⟨_, rfl⟩
    obtain ⟨M, hM⟩ : ∃ M, resT ok (tabF nn nn (othF l nn)) = M := ⟨_, rfl⟩
    have E1 := implValueOther_any a1 c1 nn l w1 hn hsz (hit.matR)
    have E2 := fun (W : World) (h : w1.Since w1.heap.size W) => specValueOther_any a1 c1 nn l W hn hsz (hit.matR.since h)
    have hMsz : szL M ≤ 1048576 := by
      rw [← hM]
      cases hok' : ok with
      | false => simp [resT, szL, sumTo]
      | true => exact szL_tabF _ _ _ (by omega) (by omega)
    unfold ImplT at E1
    unfold SpecT at E2
    rw [hok, hM] at E1
    simp only [hok, hM] at E2
    obtain ⟨q, hq⟩ : ∃ q, M.length = q := ⟨_, rfl⟩
    rw [hq] at E1
    simp only [hq] at E2
    have hq63 : q ≤ 9223372036854775807 := by unfold szL at hMsz; omega
    replace E1 := Lib.hid E1
    replace E2 := Lib.hid E2
    have HQ := Lib.hid hq
    have HMS := Lib.hid hMsz
    have HOK := Lib.hid hok
    have HMM := Lib.hid hM
    clear hn hsz hit hs1 h1 h5 hlens hq hMsz hok hM
    go_wp2_with fail
    refine (E1.out).mono ?_
    rintro e w2 ⟨a2, c2, rfl, hs2, ho2⟩
    have HO := Lib.hid (fun (W : World) (h : w2.Since w2.heap.size W) => ho2.matR.since h)
    have HS2 := Lib.hid hs2
    clear ho2 hs2
    go_wp2_with fail
    refine (E2.out w2 HS2.out).mono ?_
    rintro e w3 ⟨a3, c3, rfl, hs3, hi3⟩
    have ES := Lib.hid (fun (W : World) (h : w3.Since w3.heap.size W) => sameRows_same a2 a3 c2 c3 q M W HQ.out hq63 (rows_le HMS.out) (HO.out W (hs3.trans (since_mono h hs3.size))) (hi3.matR.since h))
    have HS3 := Lib.hid hs3
    clear hi3 hs3
    go_wp2_with fail
    refine (ES.out w3 (World.Since.refl _ _)).mono ?_
    rintro e w4 ⟨rfl, hd4⟩
    have hs4 := hd4.since w3.heap.size
    have hs14 : w1.Since w1.heap.size w4 := (HS2.out.trans (since_mono HS3.out HS2.out.size)).trans (since_mono hs4 (by have := HS2.out.size; have := HS3.out.size; omega))
    have HS4 := Lib.hid hs14
    have hs24 : w2.Since w2.heap.size w4 := HS3.out.trans (since_mono hs4 HS3.out.size)
    have HS24 := Lib.hid hs24
    cases ok with
    | false =>
      clear hs14 hs24 hd4
      go_wp2_with fail
      refine (ES.out w4 hs4).mono ?_
      rintro e w5 ⟨rfl, hd5⟩
      have HS5 := Lib.hid (hd5.since w4.heap.size)
      clear hd5
      go_wp2
      go_ret
      exact ⟨rfl, HS1.out.trans (since_mono (HS4.out.trans (since_mono HS5.out HS4.out.size)) HS1.out.size)⟩
    | true =>
      have hMl : tabF nn nn (othF l nn) = M := HMM.out
      clear hs4 hd4
      have hX := otherM_of HOK.out HN.out
      rw [hMl] at hX
      obtain ⟨hT, hw⟩ := sqB_of HOK.out
      have h6 := hT.2.1
      have h1 := hT.1
      rw [HN.out] at h6 h1
      have hqn : q = nn := by rw [← HQ.out]; exact hX.len
      subst hqn
      have hok3 : ∀ b, minorOk M 3 3 = b → b = true → 2 ≤ q := fun b e1 e2 => by
        by_cases h2 : 2 ≤ q
        · exact h2
        · have e3 := three_out (n := q) HN.out (by omega)
          rw [hMl, e1, e2] at e3
          cases e3
      have E5 := fun (W : World) (h : w2.Since w2.heap.size W) => implValueMinor_any a2 c2 q M 3 3 W HQ.out HMS.out (HO.out W h)
      have E6 := fun (W : World) (h : w1.Since w1.heap.size W) => implValueOrders_any a1 c1 q l W HN.out HSZ.out (HM.out W h)
      have E7 := fun (W : World) (h : w1.Since w1.heap.size W) => implValueMinor_any a1 c1 q l ((2 ^ q - 4 : Nat) : Int) ((2 ^ q - 4 : Nat) : Int) W HN.out HSZ.out (HM.out W h)
      have hjm := fun (h2 : 2 ≤ q) (h3 : minorOk M 3 3 = true) => jac_minor HOK.out HN.out h2 (by rw [hMl]; exact h3)
      rw [hMl] at hjm
      unfold SpecW at E5 E6 E7
      simp only [HOK.out, if_true] at E6
      simp only [rest_ok HOK.out HN.out, if_true] at E7
      obtain ⟨v, hv⟩ : ∃ v, ordF l q q 0 = v := ⟨_, rfl⟩
      obtain ⟨x, hx⟩ : ∃ x, minorV l ((2 ^ q - 4 : Nat) : Int) ((2 ^ q - 4 : Nat) : Int) = x := ⟨_, rfl⟩
      obtain ⟨m, hm⟩ : ∃ m, minorV M 3 3 = m := ⟨_, rfl⟩
      obtain ⟨p, hp⟩ : ∃ p, minorOk M 3 3 = p := ⟨_, rfl⟩
      obtain ⟨y, hy⟩ : ∃ y, (if p = true then m else 0) = y := ⟨_, rfl⟩
      simp only [hp, hm, hy] at E5
      simp only [hv] at E6
      simp only [hx] at E7
      rw [hp, hm, hv, hx] at hjm
      have hym : p = true → y = m := fun h => by rw [← hy, if_pos h]
      have ha3 := and3_fin ⟨q, by omega⟩
      have hpw := pow_wrap q h6
      simp only at ha3
      obtain ⟨r4, hr4⟩ : ∃ r, 2 ^ q - 4 = r := ⟨_, rfl⟩
      rw [hr4] at ha3
      simp only [hr4] at E7
      obtain ⟨A, hA⟩ : ∃ A, 2 ^ q - 1 = A := ⟨_, rfl⟩
      rw [hA] at ha3 hpw
      have hok3' := hok3 p hp
      replace E5 := Lib.hid E5
      replace E6 := Lib.hid E6
      replace E7 := Lib.hid E7
      have HJ := Lib.hid (fun (h2 : 2 ≤ q) (h3 : p = true) => show y = v * x ∧ -1800 ≤ y ∧ y ≤ 1800 by rw [hym h3]; exact hjm h2 h3)
      have HK := Lib.hid hok3'
      clear hMl hs14 hs24 hX hT hw hv hx hm hp hr4 hA hok3 hok3' hjm hy hym
      go_wp2_with fail
      refine (E5.out w4 HS24.out).mono ?_
      rintro e w5 ⟨rfl, hs5⟩
      have HS5 := Lib.hid (HS4.out.trans (since_mono hs5 HS4.out.size))
      clear hs5
      go_wp2_with fail
      refine (E6.out w5 HS5.out).mono ?_
      rintro e w6 ⟨rfl, hs6⟩
      have HS6 := Lib.hid (HS5.out.trans (since_mono hs6 HS5.out.size))
      clear hs6
      have m1 : min q 64 = q := by omega
      go_wp2_with fail
      refine (E7.out w6 HS6.out).mono ?_
      rintro e w7 ⟨rfl, hs7⟩
      have HS7 := Lib.hid (HS6.out.trans (since_mono hs7 HS6.out.size))
      clear hs7
      by_cases hq2 : q < 2
      · have hq2' : decide ((q : Int) < 2) = true := by simp; omega
        go_wp2
        go_ret
        exact ⟨rfl, HS1.out.trans (since_mono HS7.out HS1.out.size)⟩
      · have hq2' : decide ((q : Int) < 2) = false := by simp; omega
        cases p with
        | false =>
          go_wp2
          go_ret
          exact ⟨rfl, HS1.out.trans (since_mono HS7.out HS1.out.size)⟩
        | true =>
          obtain ⟨j1, j2, j3⟩ := HJ.out (by omega) rfl
          have hwv : IntKind.i64.wrap (v * x) = y := by rw [← j1]; exact IntWalk.i64_in _ ⟨by omega, by omega⟩
          clear j1
          go_wp2
          go_ret
          exact ⟨rfl, HS1.out.trans (since_mono HS7.out HS1.out.size)⟩

end Go.Proofs.Ythdemjfllfhhpaa
end

section
namespace Go.Proofs.Ythdemjfllfhhpaa
open Go.ChangeShapes Go.WideShapes Go.ChangeAt Go.RowKit Go.Deep

theorem below_since' {B : Nat} {w w' : World} (h : Below B w w') : w.Since B w' := ⟨h.os, h.tape, h.output, h.size, h.block⟩
theorem since_below' {B : Nat} {w w' : World} (h : w.Since B w') : Below B w w' := ⟨h.os, h.tape, h.output, h.size, h.block⟩

section
variable {H : Type} {enc : TypeId × Value → H} {P : Program}
theorem post_of_below {f : Func} {s : ChangeSpec} {apart fresh handsOn again : Bool} {W W' : World} {args : Array Value} {v : Value} {ds gs : List (DataW H)} {before pa pv : List MemPlace}
    (hW : DataW.Whole enc P f.params.toList s.vars apart W args.toList ds gs before)
    (hres : ∀ (b : Nat) (sp : Nat → Bool) (hd : Bool), DataW.TrodAll enc P W' b sp hd f.resultTypes.toList (v.resultList f.resultTypes.size) (s.fn H (ds ++ gs)).results [])
    (hargs : ∀ sp : Nat → Bool, (∀ p ∈ before, sp p.block = true) → DataW.TrodAll enc P W' 0 sp true f.params.toList args.toList (s.fn H (ds ++ gs)).args pa)
    (hvars : ∀ sp : Nat → Bool, (∀ p ∈ before, sp p.block = true) → DataW.TrodVars enc P W' sp s.vars (s.fn H (ds ++ gs)).vars pv)
    (hps : before = pa ++ pv) (hb : Below W.heap.size W W') (hag : again = false) :
    s.post enc P f apart fresh handsOn again W args v W' := by
  have hlt : ∀ p ∈ before, p.block < W.heap.size := fun p hp => hW.lt p hp
  have hold : ∀ p ∈ before, (fun b => decide (b < W.heap.size)) p.block = true := fun p hp => by simpa using hlt p hp
  refine ⟨ds, gs, before, [], pa, pv, hW, hres _ _ _, hargs _ hold, hvars _ hold, World.keptBut_mono (fun p hp => ⟨hp, ?_⟩) (hb.frame (· ∈ before)), fun h => ?_⟩
  · rw [hps, List.mem_append] at hp
    exact Or.inr hp
  · rw [hag] at h; cases h

theorem open_mat {W : World} {t e q : TypeId} {a : Option Addr} {n cap : Nat} {d : DataW H} {p : List MemPlace} (ht : P.underlying t = some (.slice e)) (he : P.underlying e = some (.slice q)) (hq : P.underlying q = some (.int .i64))
    (ce : P.cellsOf e = 1) (cq : P.cellsOf q = 1) (h : DataW.Trod enc P W 0 (fun _ => true) true t (.slice a n cap) d p) :
    ∃ l : List (List Int), l.length = n ∧ MatR W a l ∧ n ≤ 9223372036854775807 ∧ ∀ r, r < l.length → (l.getD r []).length ≤ 9223372036854775807 := by
  obtain ⟨fuel, hf⟩ := h
  rcases open_int_rows ht he hq ce cq hf with ⟨hcs, _⟩ | ⟨a', len', cap', A, L, C, Z, hcs, _, hl, hm, _, hrows⟩
  · simp [Value.cells] at hcs
    obtain ⟨rfl, rfl, rfl⟩ := hcs
    exact ⟨[], rfl, (fun h => by simp at h), by omega, fun r hr => by simp at hr⟩
  · simp [Value.cells] at hcs
    obtain ⟨rfl, rfl, rfl⟩ := hcs
    have hmx : maxLen = 9223372036854775807 := rfl
    have hlen : ∀ r, r < n → ((Z r).take (L r)).length = L r := fun r hr => by
      obtain ⟨_, h1, _, h2, _⟩ := hrows r (by omega)
      rw [List.length_take]; omega
    have hget : ∀ r, r < n → ((List.range n).map fun r => (Z r).take (L r)).getD r [] = (Z r).take (L r) := fun r hr => by simp [List.getD, hr]
    refine ⟨(List.range n).map fun r => (Z r).take (L r), by simp, fun h => ?_, by omega, fun r hr => ?_⟩
    · obtain ⟨b, o, spot⟩ := a'
      simp at h
      have hspot : spot = none := by simpa [Addr.add] using World.cell?_spot (hrows 0 (by omega)).1
      subst hspot
      refine ⟨b, o, A, C, rfl, fun r hr => ?_⟩
      simp at hr
      rw [hget r hr, hlen r hr]
      obtain ⟨g1, g2, g3, g4, g5, g6, g7⟩ := hrows r (by omega)
      refine ⟨by rw [← add_plain]; exact g1, fun h0 => ?_⟩
      rw [hlen r hr] at h0
      cases hA : A r with
      | none => have := g6 hA; omega
      | some a'' =>
        obtain ⟨_, hcell⟩ := g7 a'' hA
        obtain ⟨b', o', sp⟩ := a''
        have hs : sp = none := by simpa [Addr.add] using World.cell?_spot (hcell 0 (by omega))
        subst hs
        refine ⟨b', o', rfl, fun i hi => ?_⟩
        rw [hlen r hr] at hi
        rw [← add_plain, hcell i (by omega)]
        congr 2
        simp [List.getD, hi]
    · simp at hr
      rw [hget r hr, hlen r hr]
      obtain ⟨_, h1, h2, _⟩ := hrows r (by omega)
      omega
end

theorem Try.own : ownKnob Try.prog.godebug = none := by kernel_rfl
theorem Try.laidOut : laidOutB Try.prog = true := by kernel_rfl
theorem Try.cellsR : Try.prog.cellsOf 37 = 1 := by kernel_rfl
theorem Try.cellsI : Try.prog.cellsOf 3 = 1 := by kernel_rfl

end Go.Proofs.Ythdemjfllfhhpaa
end

section
namespace Go.Proofs.Ythdemjfllfhhpaa
open Go.ChangeShapes Go.WideShapes Go.ChangeAt Go.RowKit Go.Deep

theorem wf_u8_of {n : Int} (h : (Lit.int .u8 n).wf = true) : 0 ≤ n ∧ n ≤ 255 := by
  have h2 : (0 : Int) ≤ n ∧ n ≤ 255 := by simpa [Lit.wf, IntKind.min, IntKind.max, IntKind.signed, IntKind.bits] using h
  exact h2

theorem open_bytes {H : Type} {enc : TypeId × Value → H} {P : Program} {W : World} {t e : TypeId} {a : Option Addr} {n cap : Nat} {d : DataW H} {p : List MemPlace} (ht : P.underlying t = some (.slice e)) (he : P.underlying e = some (.int .u8)) (ce : P.cellsOf e = 1)
    (h : DataW.Trod enc P W 0 (fun _ => true) true t (.slice a n cap) d p) : BytR W a n ∧ n ≤ cap ∧ cap ≤ 9223372036854775807 := by
  obtain ⟨fuel, hf⟩ := h
  rcases open_ints ht he ce hf with ⟨hcs, _⟩ | ⟨a', len, cap', zs, hcs, _, hl, hm, hlen, _, hcell, hwf⟩
  · simp [Value.cells] at hcs
    obtain ⟨rfl, rfl, rfl⟩ := hcs
    exact ⟨fun h => absurd h (by omega), by omega, by omega⟩
  · simp [Value.cells] at hcs
    obtain ⟨rfl, rfl, rfl⟩ := hcs
    have hmx : maxLen = 9223372036854775807 := rfl
    have hzl : zs.length = cap := by simpa using hlen
    refine ⟨fun h0 => ?_, by omega, by omega⟩
    obtain ⟨b, o, spot⟩ := a'
    have hspot : spot = none := by simpa [Addr.add] using World.cell?_spot (hcell 0 (by omega))
    subst hspot
    refine ⟨b, o, rfl, fun i hi => ?_⟩
    have hi' : i < zs.length := by omega
    have hw := wf_u8_of (hwf (zs.getD i 0) (by simp [List.getD, hi']))
    obtain ⟨z, hz⟩ := Int.eq_ofNat_of_zero_le hw.1
    refine ⟨z, by omega, ?_⟩
    rw [← add_plain, hcell i hi', hz]

theorem Try.cellsB : Try.prog.cellsOf 5 = 1 := by kernel_rfl

end Go.Proofs.Ythdemjfllfhhpaa
end
