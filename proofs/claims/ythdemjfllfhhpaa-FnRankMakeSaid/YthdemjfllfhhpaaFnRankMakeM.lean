import Derived.Test.YthdemjfllfhhpaaTable
import Derived.Test.YthdemjfllfhhpaaHarn2
import Derived.OwnWalk
import Derived.Test.YthdemjfllfhhpaaTurnImpl
import Derived.Test.YthdemjfllfhhpaaWR
import Derived.Test.YthdemjfllfhhpaaGrid
import Derived.Test.YthdemjfllfhhpaaMakeEntry
import Derived.StillTailTactics
import Derived.Test.YthdemjfllfhhpaaDet
import Derived.Test.YthdemjfllfhhpaaRowsF
import Derived.Test.YthdemjfllfhhpaaBar
import Derived.Test.YthdemjfllfhhpaaSpecOrders
import Derived.Test.YthdemjfllfhhpaaSetsK
import Derived.Test.YthdemjfllfhhpaaSeqF
import Derived.Test.YthdemjfllfhhpaaMembers
import Derived.Test.YthdemjfllfhhpaaSquareV
import Derived.Test.YthdemjfllfhhpaaPivotsI
import Derived.Test.YthdemjfllfhhpaaMinorV
import Derived.Test.YthdemjfllfhhpaaSets
import Derived.Test.YthdemjfllfhhpaaSeqC
import Derived.Deep.RegionHeld3
import Derived.Deep.QuietTactic
import Derived.BigQuiet
import Derived.Deep.AppendLies
import Derived.Laws.EntriesVeiled
import Derived.WalkHide
import Derived.Test.YthdemjfllfhhpaaRankV
import Derived.Test.YthdemjfllfhhpaaTurnSpec
import Derived.Test.YthdemjfllfhhpaaSwapped
import Derived.Test.YthdemjfllfhhpaaL2Square
import Derived.Test.YthdemjfllfhhpaaOrdF
import Derived.Test.YthdemjfllfhhpaaPartImpl
import Derived.Test.YthdemjfllfhhpaaRows
import Derived.Test.YthdemjfllfhhpaaData
import Derived.ProofKit
import Derived.Deep.Matrix
import Derived.Test.YthdemjfllfhhpaaDraw0

section
namespace Go.Proofs.Ythdemjfllfhhpaa
open Go.RowKit Go.Deep

theorem BD.inT {B : Nat} {w : World} {v : Value} {l : List (List Int)} {A : Nat → Option Addr} {C : Nat → Nat} (h : BD B w v l A C) : ∃ a cap, v = .slice a l.length cap ∧ InT B w.heap.size w a l := by
  by_cases h0 : 0 < l.length
  · obtain ⟨b, cap, cur, e, hb, hg, hc⟩ := h.top h0
    refine ⟨_, cap, e, fun _ => ⟨b, 0, A, fun r => ((A r).getD default).block, fun _ => 0, C, rfl, ⟨hb, (Array.getElem?_eq_some_iff.1 hg).1⟩, fun r hr => ⟨?_, fun h1 => ?_⟩⟩⟩
    · rw [Nat.zero_add]; simp [World.cell?, hg, hc r hr]
    · obtain ⟨g, e, hB, hw⟩ := h.row hr
      have e' : ((A r).getD default).block = g := by rw [e]; rfl
      dsimp only
      rw [e']
      exact ⟨e, ⟨hB, hw.lt⟩, fun i hi => by rw [Nat.zero_add]; exact hw.cell hi⟩
  · rcases h.own.2 with ⟨hv, hn⟩ | ⟨g, cap, cur, e, _⟩
    · exact ⟨none, 0, by rw [hv, hn], fun h => absurd h h0⟩
    · exact ⟨_, cap, e, fun h => absurd h h0⟩

theorem BD.row_ne {B : Nat} {w : World} {l : List (List Int)} {A : Nat → Option Addr} {C : Nat → Nat} {b cap n : Nat} (h : BD B w (.slice (some ⟨b, 0, none⟩) n cap) l A C) {g : Nat} {x : List Int} (hw : RowB w g x) : g ≠ b := by
  rintro rfl
  obtain ⟨cs, hc, _⟩ := hw
  rcases h.own.2 with ⟨e, _⟩ | ⟨g', cap', cur, e, _, hgg, _⟩
  · cases e
  · injection e with e
    injection e with e
    injection e with e
    rw [← e, hc] at hgg
    injection hgg with hgg
    injection hgg with _ e2 _
    exact absurd e2 (by decide)

theorem BD.addr_ne {B : Nat} {w : World} {v : Value} {l : List (List Int)} {A : Nat → Option Addr} {C : Nat → Nat} (h : BD B w v l A C) {r j g g' : Nat} (hr : r < l.length) (hj : j < l.length) (hA : A r = some ⟨g, 0, none⟩) (hA' : A j = some ⟨g', 0, none⟩) (hne : j ≠ r) : g' ≠ g := by
  rintro rfl
  exact hne (h.apart j r hj hr (by rw [hA, hA']))

theorem BD.cellTop {B : Nat} {w : World} {l : List (List Int)} {A : Nat → Option Addr} {C : Nat → Nat} {b cap n : Nat} (h : BD B w (.slice (some ⟨b, 0, none⟩) n cap) l A C) {r : Nat} (hr : r < l.length) :
    w.cell? ⟨b, r, none⟩ = some (.slice (A r) (l.getD r []).length (C r)) ∧ w.frozen? ⟨b, r, none⟩ = false ∧ b < w.heap.size := by
  obtain ⟨b', cp', cur, hv, _, hcur, hc⟩ := h.top (by omega)
  injection hv with hv _ _
  injection hv with hv
  injection hv with hv
  subst hv
  exact ⟨by simp [World.cell?, hcur, hc r hr], by simp [World.frozen?, hcur], (Array.getElem?_eq_some_iff.1 hcur).1⟩

theorem BD.setRow {B : Nat} {w w5 : World} {l : List (List Int)} {A : Nat → Option Addr} {C : Nat → Nat} {b cap n : Nat} (h : BD B w (.slice (some ⟨b, 0, none⟩) n cap) l A C) {r g : Nat} (hr : r < l.length) (hA : A r = some ⟨g, 0, none⟩) (hg : w.grownBy w5 (some g)) {g2 cp k : Nat} {y : List Int}
    (hy : RW B w5 (.slice (some ⟨g2, 0, none⟩) k cp) y) (hk : y.length = k) (h0 : 0 < k) : InT B w5.heap.size (w5.setCell ⟨b, r, none⟩ (.slice (some ⟨g2, 0, none⟩) k cp)) (some ⟨b, 0, none⟩) (l.set r y) := by
  subst hk
  obtain ⟨b', cap', cur, e, hb, hcur, hc⟩ := h.top (by omega)
  injection e with e en _
  injection e with e
  injection e with e
  subst e
  obtain ⟨g', hA', hBg, hrb⟩ := h.row hr
  rw [hA] at hA'
  injection hA' with hA'
  injection hA' with hA'
  subst hA'
  have hgb := h.row_ne hrb
  have hbl : b < w.heap.size := (Array.getElem?_eq_some_iff.1 hcur).1
  have hcur5 : w5.heap[b]? = some (.cells cur 37 (0, 0)) := (hg.block b hbl (fun e => by injection e with e; omega)).trans hcur
  obtain ⟨hB2, hrb2⟩ := hy.rowB h0
  have hg2b : g2 ≠ b := by
    rintro rfl
    obtain ⟨cs, h1, _⟩ := hrb2
    rw [h1] at hcur5
    injection hcur5 with h2
    injection h2 with _ h2 _
    exact absurd h2 (by decide)
  have hbl5 : b < w5.heap.size := (Array.getElem?_eq_some_iff.1 hcur5).1
  intro _
  refine ⟨b, 0, fun j => if j = r then some ⟨g2, 0, none⟩ else A j, fun j => if j = r then g2 else ((A j).getD default).block, fun _ => 0, fun j => if j = r then cp else C j, rfl, ⟨hb, hbl5⟩, fun j hj => ?_⟩
  rw [List.length_set] at hj
  show (w5.setCell ⟨b, r, none⟩ _).cell? ⟨b, 0 + j, none⟩ = _ ∧ _
  rw [Nat.zero_add]
  by_cases ej : j = r
  · subst ej
    have e1 : (l.set j y).getD j [] = y := by simp [List.getD, hj]
    rw [e1]
    simp only [↓reduceIte]
    refine ⟨World.cell?_setCell_same' _ _ _ (by simp [World.cell?, hcur5, hc j hj]), fun _ => ⟨trivial, ⟨hB2, hrb2.lt⟩, fun i hi => ?_⟩⟩
    rw [Nat.zero_add]
    exact cell_set_far (hrb2.cell hi) hg2b
  · have e1 : (l.set r y).getD j [] = l.getD j [] := by simp [List.getD, List.getElem?_set_ne (Ne.symm ej)]
    rw [e1]
    simp only [if_neg ej]
    obtain ⟨gj, hAj, hBj, hrbj⟩ := h.row hj
    have hgj := h.addr_ne hr hj hA hAj ej
    have hrb5 : RowB w5 gj (l.getD j []) := hrbj.of_block (hg.block gj hrbj.lt (fun e => by injection e with e; omega))
    have hgjb := h.row_ne hrbj
    refine ⟨?_, fun _ => ?_⟩
    · rw [World.cell?_setCell_other _ _ _ _ (fun e => ej (by injection e with _ e; exact e.symm))]
      simp [World.cell?, hcur5, hc j hj]
    · have e' : ((A j).getD default).block = gj := by rw [hAj]; rfl
      rw [e']
      exact ⟨hAj, ⟨hBj, hrb5.lt⟩, fun i hi => by rw [Nat.zero_add]; exact cell_set_far (hrb5.cell hi) hgjb⟩

theorem BD.setNum {B : Nat} {w : World} {l : List (List Int)} {A : Nat → Option Addr} {C : Nat → Nat} {b cap n : Nat} (h : BD B w (.slice (some ⟨b, 0, none⟩) n cap) l A C) {r g k : Nat} (hr : r < l.length) (hA : A r = some ⟨g, 0, none⟩) (hk : k < (l.getD r []).length) (z : Int) :
    InT B w.heap.size (w.setCell ⟨g, k, none⟩ (.int .i64 z)) (some ⟨b, 0, none⟩) (l.set r ((l.getD r []).set k z)) := by
  obtain ⟨b', cap', cur, e, hb, hcur, hc⟩ := h.top (by omega)
  injection e with e en _
  injection e with e
  injection e with e
  subst e
  obtain ⟨g', hA', hBg, hrb⟩ := h.row hr
  rw [hA] at hA'
  injection hA' with hA'
  injection hA' with hA'
  subst hA'
  have hgb := h.row_ne hrb
  intro _
  refine ⟨b, 0, A, fun j => ((A j).getD default).block, fun _ => 0, C, rfl, ⟨hb, (Array.getElem?_eq_some_iff.1 hcur).1⟩, fun j hj => ?_⟩
  rw [List.length_set] at hj
  show (w.setCell ⟨g, k, none⟩ _).cell? ⟨b, 0 + j, none⟩ = _ ∧ _
  rw [Nat.zero_add]
  have hlen : ((l.set r ((l.getD r []).set k z)).getD j []).length = (l.getD j []).length := by
    by_cases ej : j = r
    · subst ej; simp [List.getD, hj]
    · simp [List.getD, List.getElem?_set_ne (Ne.symm ej)]
  rw [hlen]
  refine ⟨cell_set_far (by simp [World.cell?, hcur, hc j hj]) (Ne.symm hgb), fun _ => ?_⟩
  obtain ⟨gj, hAj, hBj, hrbj⟩ := h.row hj
  have e' : ((A j).getD default).block = gj := by rw [hAj]; rfl
  dsimp only
  rw [e']
  refine ⟨hAj, ⟨hBj, hrbj.lt⟩, fun i hi => ?_⟩
  rw [Nat.zero_add]
  by_cases ej : j = r
  · subst ej
    rw [hA] at hAj
    injection hAj with hAj
    injection hAj with hAj
    subst hAj
    have e1 : (l.set j ((l.getD j []).set k z)).getD j [] = (l.getD j []).set k z := by simp [List.getD, hj]
    rw [e1]
    by_cases ei : i = k
    · subst ei
      rw [World.cell?_setCell_same' _ _ _ (by rw [hrbj.cell hi]; rfl)]
      simp [List.getD] at hi ⊢
      simp [hi]
    · rw [World.cell?_setCell_other _ _ _ _ (fun e => ei (by injection e with _ e; exact e.symm)), hrbj.cell hi]
      simp [List.getD, List.getElem?_set_ne (Ne.symm ei)]
  · have hgj := h.addr_ne hr hj hA hAj ej
    have e1 : (l.set r ((l.getD r []).set k z)).getD j [] = l.getD j [] := by simp [List.getD, List.getElem?_set_ne (Ne.symm ej)]
    rw [e1]
    exact cell_set_far (hrbj.cell hi) hgj

theorem InT.kept {lo hi : Nat} {w w' : World} {a : Option Addr} {l : List (List Int)} {G : Nat} (h : InT lo hi w a l) (hg : w.grownBy w' (some G)) (hG : G < lo) : InT lo hi w' a l :=
  h.frame (lo' := G) (hi' := G + 1) ⟨hg.os, hg.tape, hg.output, hg.size, fun k hk ho => hg.block k hk (fun e => by injection e with e; omega)⟩ (.inr (by omega))

end Go.Proofs.Ythdemjfllfhhpaa
end

section
namespace Go.Proofs.Ythdemjfllfhhpaa
open Go.RowKit Go.Deep

def Drawn0 (w w' : World) (R K : Nat) (a : Option Addr) (l : List (List Int)) : Prop :=
  1 ≤ l.length ∧ l.length ≤ R ∧ (∀ j, j < l.length → 1 ≤ (l.getD j []).length ∧ (l.getD j []).length ≤ K + 1) ∧ InT w.heap.size w'.heap.size w' a l

theorem lens_set {l : List (List Int)} {r : Nat} {y : List Int} {n m K : Nat} (hl : l.length = n) (h : ∀ j, j < n → (l.getD j []).length = m) (hm : 1 ≤ m ∧ m ≤ K) (hy : 1 ≤ y.length ∧ y.length ≤ K + 1) : ∀ j, j < (l.set r y).length → 1 ≤ ((l.set r y).getD j []).length ∧ ((l.set r y).getD j []).length ≤ K + 1 := by
  intro j hj
  rw [List.length_set] at hj
  by_cases e : j = r
  · subst e
    rw [show (l.set j y).getD j [] = y by simp [List.getD, hj]]
    exact hy
  · rw [show (l.set r y).getD j [] = l.getD j [] by simp [List.getD, List.getElem?_set_ne (Ne.symm e)], h j (by omega)]
    omega

set_option maxRecDepth 100000 in
set_option maxHeartbeats 4000000 in
theorem l91Some_any (w0 w : World) (G nb c p R K : Nat) (a : Option Addr) (h : RD w0 w G a nb c 75 p) (hR1 : 1 ≤ R) (hR : R ≤ 8) (hK1 : 1 ≤ K) (hK : K ≤ 8) (hp : p ≤ 40000) :
    Calls Try.prog 47 #[.pointer (some ⟨G, 0, none⟩), .int .i64 R, .int .i64 K] w fun e w' => ∃ a' cap l p', e = .returned (.slice a' l.length cap) ∧ w.grownBy w' (some G) ∧ RD w0 w' G a nb c 75 p' ∧ p' ≤ p + 600 ∧ Drawn0 w w' R K a' l := by
  obtain ⟨i3, hi3⟩ := info3_parts
  have HJ := Lib.hid hi3
  have hG := h.lt
  have HRD := Lib.hid h
  clear h hi3
  go_enter Try.func47, Try.ntmps47
  go_wp2_with fail
  refine (pick_any w0 _ G nb c _ a _ HRD.out (by omega)).mono ?_
  rintro e w1 ⟨y1, rfl, hy1, hg1, hd1⟩
  obtain ⟨n, hn, hnn⟩ : ∃ n : Nat, IntKind.i64.wrap (1 + (y1 : Int)) = n ∧ n = y1 + 1 := ⟨y1 + 1, (IntWalk.i64_in _ ⟨by omega, by omega⟩).trans (by omega), rfl⟩
  have hn1 : 1 ≤ n ∧ n ≤ R := by omega
  have HD1 := Lib.hid hd1
  have HG1 := Lib.hid hg1
  clear hd1 hg1 hnn hy1 HRD
  go_wp2_with fail
  refine (pick_any w0 _ G nb c _ a _ HD1.out (by omega)).mono ?_
  rintro e w2 ⟨y2, rfl, hy2, hg2, hd2⟩
  obtain ⟨m, hm, hmm⟩ : ∃ m : Nat, IntKind.i64.wrap (1 + (y2 : Int)) = m ∧ m = y2 + 1 := ⟨y2 + 1, (IntWalk.i64_in _ ⟨by omega, by omega⟩).trans (by omega), rfl⟩
  have hm1 : 1 ≤ m ∧ m ≤ K := by omega
  have HD2 := Lib.hid hd2
  have HG2 := Lib.hid (grown_trans HG1.out hg2)
  clear hd2 hg2 hmm hy2 HD1 HG1
  go_wp2_with fail
  refine (l91Table_any w0 _ G nb c _ n m a HD2.out (by omega) (by omega) (by omega) (by omega)).mono ?_
  rintro e w3 ⟨v, l, A, C, p3, rfl, hl, hlm, hg3, hd3, hp3, hB⟩
  obtain ⟨b, cp, cur, hv, hbb, hcur, hc⟩ := hB.top (by omega)
  rw [hl] at hv
  subst hv
  have hG2 := HG2.out.size
  have HD3 := Lib.hid hd3
  have HG3 := Lib.hid (grown_trans HG2.out hg3)
  have HB := Lib.hid hB
  clear hd3 hg3 hcur hc hB HD2
  go_wp2_with fail
  refine (pick_any w0 _ G nb c _ a _ HD3.out (by omega)).mono ?_
  rintro e w4 ⟨y4, rfl, hy4, hg4, hd4⟩
  have HG4 := Lib.hid (grown_trans HG3.out hg4)
  have HB4 := Lib.hid (HB.out.kept hg4 (by omega))
  have HD4 := Lib.hid hd4
  have hz4 := HG4.out.size
  clear hd4 hg4 HB HG3 HD3 hy4
  obtain ⟨g0, hA0, hg0, hrb0⟩ := HB4.out.row (r := 0) (by omega)
  by_cases hy0 : y4 = 0
  · subst hy0
    obtain ⟨t1, _, _⟩ := HB4.out.cellTop (r := 0) (by omega)
    rw [hlm 0 (by omega), hA0] at t1
    have t2 := hrb0.cell (i := 0) (by rw [hlm 0 (by omega)]; omega)
    have t3 := hrb0.frozen 0
    have hIT := HB4.out.setNum (r := 0) (k := 0) (by omega) hA0 (by rw [hlm 0 (by omega)]; omega) 31
    have hll : (l.set 0 ((l.getD 0 []).set 0 31)).length = n := by rw [List.length_set]; exact hl
    have hlens := lens_set (r := 0) (y := (l.getD 0 []).set 0 31) hl hlm hm1 (by rw [List.length_set, hlm 0 (by omega)]; omega)
    have HIT := Lib.hid hIT
    have HLL := Lib.hid hll
    have HLENS := Lib.hid hlens
    have HGS := Lib.hid (grown_set HG4.out (show w.heap.size ≤ g0 by omega) (k := 0) (.int .i64 31))
    have HDS := Lib.hid (HD4.out.grown (grown_set_any w4 g0 0 (.int .i64 31)) (fun i e => by cases e; omega))
    have p1 : 0 < n := by omega
    have p2 : 0 < m := by omega
    clear hrb0 hIT hll hlens hA0 hlm hl
    go_wp2
    go_ret
    exact ⟨_, _, l.set 0 ((l.getD 0 []).set 0 31), _, by rw [HLL.out]; rfl, HGS.out, HDS.out, by omega, by rw [HLL.out]; omega, by rw [HLL.out]; omega, HLENS.out, HIT.out.mono hG2 (by simp)⟩
  · clear hrb0 hA0 hg0
    by_cases hy1 : y4 = 1
    · subst hy1
      obtain ⟨s, hs⟩ : ∃ s, n = s + 1 := ⟨n - 1, by omega⟩
      have hr1 : IntKind.i64.wrap ((n : Int) - 1) = (s : Int) := by rw [show (n : Int) - 1 = s by omega]; exact IntWalk.i64_in _ ⟨by omega, by omega⟩
      have hsr : s < n := by omega
      clear hs
      obtain ⟨g1, hA, hg1, hrb⟩ := HB4.out.row (r := s) (by omega)
      obtain ⟨t1, t2, lb⟩ := HB4.out.cellTop (r := s) (by omega)
      have hRW := (HB4.out.rows s (by omega)).2
      have hls := hlm s hsr
      rw [hls, hA] at t1 hRW
      have hgb := HB4.out.row_ne hrb
      obtain ⟨x, hx⟩ : ∃ x, x = l.getD s [] := ⟨_, rfl⟩
      rw [← hx] at hRW hls
      have HRW := Lib.hid hRW
      have HA := Lib.hid hA
      have HL := Lib.hid hl
      have HLM := Lib.hid hlm
      have t1a := fun ob => cell_alloc_l ob t1
      clear hRW hrb hA hl hlm hx
      go_wp2_with (first
        | (at_builtin; (refine wpList_append_int _ rfl (.tmp 37) (.tmp 38) 37 rfl w2.heap.size i3 Try.underlying37 HJ.out.1 HJ.out.2.1 HJ.out.2.2.1 HJ.out.2.2.2 _ x rfl HRW.out 0 rfl (by omega) (by omega) ?_); intro v' w5 hrw hgr; have hgr : w4.grownBy w5 (some g1) := hgr; obtain ⟨g2, cp2, hv2, hg2b, hrb2⟩ := hrw.form (by simp); rw [show (x ++ [(0 : Int)]).length = m + 1 by rw [List.length_append, hls]; rfl] at hv2; subst hv2; have k1 := hgr.cell t1 (fun e => hgb (by injection e with e; exact e.symm)); have k2 : w5.frozen? ⟨b, s, none⟩ = false := (World.frozen?_of_block (hgr.block b lb (fun e => hgb (by injection e with e; exact e.symm)))).trans t2; have HRW2 := Lib.hid hrw; have HGR := Lib.hid hgr; clear hrw hgr hrb2))
      have hl2 : (x ++ [(0 : Int)]).length = m + 1 := by rw [List.length_append, hls]; rfl
      have hIT := HB4.out.setRow (r := s) (by rw [HL.out]; exact hsr) HA.out HGR.out HRW2.out hl2 (by omega)
      have hll : (l.set s (x ++ [0])).length = n := by rw [List.length_set]; exact HL.out
      have hlens := lens_set (r := s) (y := x ++ [0]) HL.out HLM.out hm1 (by rw [hl2]; omega)
      have hgs := grown_set (grown_new HG4.out HGR.out (fun i e => by cases e; omega)) (show w.heap.size ≤ b by omega) (k := s) (.slice (some ⟨g2, 0, none⟩) (m + 1) cp2)
      have hds := (HD4.out.grown HGR.out (fun i e => by cases e; omega)).grown (grown_set_any w5 b s (.slice (some ⟨g2, 0, none⟩) (m + 1) cp2)) (fun i e => by cases e; omega)
      go_ret
      exact ⟨_, _, l.set s (x ++ [0]), _, by rw [hll]; rfl, hgs, hds, by omega, by rw [hll]; omega, by rw [hll]; omega, hlens, hIT.mono hG2 (by simp)⟩
    · have h1 : ((y4 : Int) == 0) = false := by simp; omega
      have h2 : ((y4 : Int) == 1) = false := by simp; omega
      obtain ⟨a', cap', hv, hIT⟩ := HB4.out.inT
      rw [hl] at hv
      injection hv with hv _ _
      subst hv
      have HL := Lib.hid hl
      have HLM := Lib.hid hlm
      have HIT := Lib.hid hIT
      clear hl hlm hIT
      go_wp2
      go_ret
      exact ⟨_, _, l, _, by rw [HL.out]; rfl, HG4.out, HD4.out, by omega, by rw [HL.out]; omega, by rw [HL.out]; omega, fun j hj => by rw [HLM.out j (by rw [← HL.out]; exact hj)]; omega, HIT.out.mono hG2 (Nat.le_refl _)⟩

end Go.Proofs.Ythdemjfllfhhpaa
end

section
namespace Go.Proofs.Ythdemjfllfhhpaa
open Go.RowKit Go.Deep

set_option maxHeartbeats 1000000 in
theorem l6Open_any (a : Option Addr) (nb cb : Nat) (w : World) (hc : nb ≤ cb) (h63 : cb ≤ 9223372036854775807) (hb : BytR w a nb) :
    Calls Try.prog 46 #[.slice a nb cb] w fun e w' => ∃ n' c', e = .returned (.pointer (some ⟨w.heap.size, 0, none⟩)) ∧ w.Since w.heap.size w' ∧ w'.heap.size = w.heap.size + 1 ∧ RD w w' w.heap.size a n' c' 75 0 := by
  by_cases hl : 2000 < nb
  · have hl' : decide ((2000 : Int) < (nb : Int)) = true := by simp; omega
    have h2 : (2000 : Int) ≤ (cb : Int) := by omega
    obtain ⟨b, o, rfl, hcell⟩ := hb (by omega)
    go_enter Try.func46, Try.ntmps46
    go_wp2
    go_ret
    exact ⟨_, _, rfl, (World.Since.refl _ _).alloc (Nat.le_refl _) _, by simp, ⟨heap_alloc_new _ _, Nat.le_refl _, (World.Since.refl _ _).alloc (Nat.le_refl _) _, fun _ => ⟨b, o, rfl, fun i hi => hcell i (by omega)⟩, by omega⟩⟩
  · have hl' : decide ((2000 : Int) < (nb : Int)) = false := by simp; omega
    go_enter Try.func46, Try.ntmps46
    go_wp2
    go_ret
    exact ⟨_, _, rfl, (World.Since.refl _ _).alloc (Nat.le_refl _) _, by simp, ⟨heap_alloc_new _ _, Nat.le_refl _, (World.Since.refl _ _).alloc (Nat.le_refl _) _, hb, by omega⟩⟩

def DrawnT (w w' : World) (R K : Nat) (a : Option Addr) (l : List (List Int)) : Prop :=
  1 ≤ l.length ∧ l.length ≤ R ∧ (∀ j, j < l.length → 1 ≤ (l.getD j []).length ∧ (l.getD j []).length ≤ K + 1) ∧ InT w.heap.size w'.heap.size w' a l

set_option maxHeartbeats 1000000 in
theorem l91One_any (a : Option Addr) (nb cb : Nat) (w : World) (hc : nb ≤ cb) (h63 : cb ≤ 9223372036854775807) (hb : BytR w a nb) :
    Calls Try.prog 68 #[.slice a nb cb] w fun e w' => ∃ a' cap l, e = .returned (.slice a' l.length cap) ∧ w.Since w.heap.size w' ∧ DrawnT w w' 5 5 a' l := by
  have E := Lib.hid (l6Open_any a nb cb w hc h63 hb)
  clear hb
  go_enter Try.func68, Try.ntmps68
  go_wp2_with fail
  refine (E.out).mono ?_
  rintro e w1 ⟨n', c', rfl, hs, hz, hd⟩
  have HD := Lib.hid hd
  clear hd
  go_wp2_with fail
  refine (l91Some_any w w1 w.heap.size n' c' 0 5 5 a HD.out (by omega) (by omega) (by omega) (by omega) (by omega)).mono ?_
  rintro e w2 ⟨a', cap', l, p', rfl, hg, hd2, hp, h1, h5, hl, hit⟩
  go_wp2
  go_ret
  exact ⟨a', cap', l, rfl, hs.trans (since_grown hg (Nat.le_refl _) hs.size), h1, h5, hl, hit.mono hs.size (Nat.le_refl _)⟩

end Go.Proofs.Ythdemjfllfhhpaa
end

section
namespace Go.Proofs.Ythdemjfllfhhpaa
open Go.RowKit Go.Deep

set_option maxHeartbeats 1000000 in
theorem sameInts_same (a b : Option Addr) (ca cb n : Nat) (l : List Int) (w : World) (hn : l.length = n) (h63 : n ≤ 9223372036854775807) (ha : RowR w a l) (hb : RowR w b l) :
    Calls Try.prog 75 #[.slice a n ca, .slice b n cb] w fun e w' => e = .returned (.bool true) ∧ Drawn w w' := by
  have H := Lib.hid hn; clear hn
  go_enter Try.func75, Try.ntmps75
  go_wp2
  go_loopg [5] n (fun g i wr => ∃ k : Nat, k ≤ n ∧ g = n - k ∧ i = .int .i64 k ∧ Drawn w wr)
  case atStart => exact ⟨0, Nat.zero_le _, rfl, rfl, Drawn.refl w⟩
  case round =>
    obtain ⟨k, hk, rfl, rfl, hD⟩ := hrel
    by_cases hlt : k < n
    · obtain ⟨b1, o1, rfl, hc1⟩ := ha (by rw [H.out]; omega)
      obtain ⟨b2, o2, rfl, hc2⟩ := hb (by rw [H.out]; omega)
      have c1 := hc1 k (by rw [H.out]; exact hlt)
      have c2 := hc2 k (by rw [H.out]; exact hlt)
      obtain ⟨x, hx⟩ : ∃ x, x = l.getD k 0 := ⟨_, rfl⟩
      rw [← hx] at c1 c2
      rw [← hD.cell] at c1 c2
      clear hx hc1 hc2 ha hb
      go_wp2
      go_quiet (fail)
      go_wp2
      go_roundg (n - (k + 1))
      case measure => omega
      case rel => exact ⟨k + 1, by omega, rfl, by go_num, hD.trans (Drawn.mk _ _)⟩
    · go_wp2
      go_ret
      exact ⟨rfl, hD⟩

set_option maxHeartbeats 1000000 in
theorem sameRows_same (a b : Option Addr) (ca cb n : Nat) (l : List (List Int)) (w : World) (hn : l.length = n) (h63 : n ≤ 9223372036854775807) (hl : ∀ r, r < l.length → (l.getD r []).length ≤ 9223372036854775807)
    (ha : MatR w a l) (hb : MatR w b l) :
    Calls Try.prog 27 #[.slice a n ca, .slice b n cb] w fun e w' => e = .returned (.bool true) ∧ Drawn w w' := by
  have H := Lib.hid hn; clear hn
  go_enter Try.func27, Try.ntmps27
  go_wp2
  go_loopg [5] n (fun g i wr => ∃ k : Nat, k ≤ n ∧ g = n - k ∧ i = .int .i64 k ∧ Drawn w wr)
  case atStart => exact ⟨0, Nat.zero_le _, rfl, rfl, Drawn.refl w⟩
  case round =>
    obtain ⟨k, hk, rfl, rfl, hD⟩ := hrel
    by_cases hlt : k < n
    · obtain ⟨b1, o1, A1, C1, rfl, hc1⟩ := ha (by rw [H.out]; omega)
      obtain ⟨b2, o2, A2, C2, rfl, hc2⟩ := hb (by rw [H.out]; omega)
      obtain ⟨c1, r1⟩ := hc1 k (by rw [H.out]; exact hlt)
      obtain ⟨c2, r2⟩ := hc2 k (by rw [H.out]; exact hlt)
      have hlk := hl k (by rw [H.out]; exact hlt)
      obtain ⟨x, hx⟩ : ∃ x, x = l.getD k [] := ⟨_, rfl⟩
      rw [← hx] at c1 c2 r1 r2 hlk
      obtain ⟨m, hm⟩ : ∃ m, x.length = m := ⟨_, rfl⟩
      rw [hm] at c1 c2 hlk
      have HM := Lib.hid hm
      clear hx hc1 hc2 ha hb hl hm
      have r1 := r1.drawn hD
      have r2 := r2.drawn hD
      rw [← hD.cell] at c1 c2
      have e1 := fun (p : Nat) => sameInts_same (A1 k) (A2 k) (C1 k) (C2 k) m x (wr.drewN p) HM.out hlk r1 r2
      have E1 := Lib.hid e1; clear e1 r1 r2
      go_wp2
      go_quiet ((go_at_call 75; exact Calls.quiet_of (E1.out _)))
      go_wp2
      go_roundg (n - (k + 1))
      case measure => omega
      case rel => exact ⟨k + 1, by omega, rfl, by go_num, hD.trans (Drawn.mk _ _)⟩
    · go_wp2
      go_ret
      exact ⟨rfl, hD⟩

end Go.Proofs.Ythdemjfllfhhpaa
end

section
namespace Go.Proofs.Ythdemjfllfhhpaa
open Go.RowKit Go.Deep

theorem szL_of {l : List (List Int)} {n k : Nat} (h1 : l.length ≤ n) (h2 : ∀ j, j < l.length → (l.getD j []).length ≤ k) (hnk : n * k + n ≤ 1048576) : szL l ≤ 1048576 := by
  have h3 := sumTo_le_mul l k h2 l.length (Nat.le_refl _)
  have h4 : l.length * k ≤ n * k := Nat.mul_le_mul_right _ h1
  have h5 : k * l.length = l.length * k := Nat.mul_comm _ _
  unfold szL
  omega
theorem rows_le {l : List (List Int)} (h : szL l ≤ 1048576) : ∀ r, r < l.length → (l.getD r []).length ≤ 9223372036854775807 := fun r hr => by
  have := row_le l hr
  unfold szL at h
  omega

theorem tab_self {l : List (List Int)} {n m : Nat} (hn : l.length = n) (hm : ∀ r, r < n → (l.getD r []).length = m) : tabF n m (at2 l) = l := by
  refine List.ext_getElem (by rw [tabF_length, hn]) fun r h1 h2 => ?_
  have hr : r < n := by rw [tabF_length] at h1; exact h1
  have e1 : (tabF n m (at2 l))[r] = (tabF n m (at2 l)).getD r [] := by simp [List.getD, h1]
  have e2 : l[r] = l.getD r [] := by simp [List.getD, h2]
  rw [e1, e2, tabF_get _ _ _ _ hr]
  refine List.ext_getElem (by rw [List.length_map, List.length_range, hm r hr]) fun k h3 h4 => ?_
  rw [List.getElem_map, List.getElem_range]
  unfold at2
  obtain ⟨x, hx⟩ : ∃ x, x = l.getD r [] := ⟨_, rfl⟩
  subst hx
  generalize l.getD r [] = x at *
  simp [List.getD, h4]

theorem turnL_turnL {l : List (List Int)} (hT : TabIn l) : turnL (turnL l) = l := by
  have h1 := hT.1
  have hw := hT.width
  have e0 : ((turnL l).getD 0 []).length = l.length := tabF_len _ _ _ _ hw.1
  have e1 : turnL (turnL l) = tabF l.length (l.getD 0 []).length fun k i => at2 (turnL l) i k := by
    show tabF ((turnL l).getD 0 []).length (turnL l).length _ = _
    rw [e0, turnL_length]
  rw [e1]
  have e2 : tabF l.length (l.getD 0 []).length (fun k i => at2 (turnL l) i k) = tabF l.length (l.getD 0 []).length (at2 l) := by
    unfold tabF
    refine List.map_congr_left fun r hr => List.map_congr_left fun k hk => ?_
    exact tabF_at _ _ _ _ _ (List.mem_range.1 hk) (List.mem_range.1 hr)
  rw [e2]
  exact tab_self rfl (fun r hr => hT.row hr)

end Go.Proofs.Ythdemjfllfhhpaa
end

section
namespace Go.Proofs.Ythdemjfllfhhpaa
open Go.RowKit Go.Deep

theorem results_four {fn : Func} {a b c d : Tmp} (h : fn.results = #[.tmp a, .tmp b, .tmp c, .tmp d]) (tmps : Array Value) (P : Program) (w : World) :
    (results fn tmps).run P w = .ok (.tuple #[tmps.getD a undef, tmps.getD b undef, tmps.getD c undef, tmps.getD d undef]) w := by
  simp [results, h]

set_option maxRecDepth 100000 in
set_option maxHeartbeats 2000000 in
theorem drawBeside_any (a : Option Addr) (nb cb : Nat) (w : World) (hc : nb ≤ cb) (h63 : cb ≤ 9223372036854775807) (hb : BytR w a nb) :
    Calls Try.prog 28 #[.slice a nb cb] w fun e w' => ∃ a' cap l b' cap2 u, e = .returned (.tuple #[.slice a' l.length cap, .slice b' u.length cap2]) ∧ w.Since w.heap.size w' ∧ DrawnT w w' 3 3 a' l ∧ DrawnT w w' 4 3 b' u := by
  have E := Lib.hid (l6Open_any a nb cb w hc h63 hb)
  clear hb
  go_enter Try.func28, Try.ntmps28
  go_wp2_with fail
  refine (E.out).mono ?_
  rintro e w1 ⟨n', c', rfl, hs, hz, hd⟩
  have HD0 := Lib.hid hd
  clear hd
  have hz1 : w.heap.size < w1.heap.size := by omega
  clear hz
  go_wp2_with fail
  refine (l91Some_any w w1 w.heap.size n' c' 0 3 3 a HD0.out (by omega) (by omega) (by omega) (by omega) (by omega)).mono ?_
  rintro e w2 ⟨a', cap', l, p', rfl, hg, hd2, hp, h1, h5, hl, hit⟩
  have HG0 := Lib.hid hg
  have HIT := Lib.hid hit
  have HL := Lib.hid hl
  have HD := Lib.hid hd2
  obtain ⟨nn, hnn⟩ : ∃ n, l.length = n := ⟨_, rfl⟩
  rw [hnn] at h1 h5 ⊢
  have HN := Lib.hid hnn
  clear hg hit hl hd2 hnn
  go_wp2_with fail
  refine (l91Some_any w w2 w.heap.size n' c' p' 4 3 a HD.out (by omega) (by omega) (by omega) (by omega) (by omega)).mono ?_
  rintro e w2q ⟨aq', capq', lq, pq', rfl, hgq, hd2q, hpq, h1q, h5q, hlq, hitq⟩
  have HG0q := Lib.hid hgq
  have HITq := Lib.hid hitq
  have HLq := Lib.hid hlq
  have HDq := Lib.hid hd2q
  obtain ⟨nnq, hnnq⟩ : ∃ n, lq.length = n := ⟨_, rfl⟩
  rw [hnnq] at h1q h5q ⊢
  have HNq := Lib.hid hnnq
  clear hgq hitq hlq hd2q hnnq
  have hs2 : w.Since w.heap.size w2 := hs.trans (since_grown HG0.out (Nat.le_refl _) hs.size)
  have hs3 := hs2.trans (since_grown HG0q.out (Nat.le_refl _) hs2.size)
  go_wp2
  go_ret2
  exact ⟨_, _, l, _, _, lq, by rw [HN.out, HNq.out]; rfl, hs3, ⟨by rw [HN.out]; exact h1, by rw [HN.out]; exact h5, HL.out, (HIT.out.kept HG0q.out hz1).mono hs.size HG0q.out.size⟩, ⟨by rw [HNq.out]; exact h1q, by rw [HNq.out]; exact h5q, HLq.out, HITq.out.mono hs2.size (Nat.le_refl _)⟩⟩

end Go.Proofs.Ythdemjfllfhhpaa
end

section
namespace Go.Proofs.Ythdemjfllfhhpaa
open Go.RowKit Go.Deep

theorem drawnT_of {w w' : World} {l : List (List Int)} {n m R K : Nat} {a : Option Addr} (hl : l.length = n) (hm : ∀ j, j < n → (l.getD j []).length = m) (h1 : 1 ≤ n ∧ n ≤ R) (h2 : 1 ≤ m ∧ m ≤ K + 1) (h : InT w.heap.size w'.heap.size w' a l) : DrawnT w w' R K a l :=
  ⟨by omega, by omega, fun j hj => by rw [hm j (by omega)]; exact h2, h⟩

set_option maxRecDepth 100000 in
set_option maxHeartbeats 2000000 in
theorem l91Made_any (a : Option Addr) (nb cb : Nat) (w : World) (hc : nb ≤ cb) (h63 : cb ≤ 9223372036854775807) (hb : BytR w a nb) :
    Calls Try.prog 70 #[.slice a nb cb] w fun e w' => ∃ a' cap l b' cap2 u, e = .returned (.tuple #[.slice a' l.length cap, .slice b' u.length cap2]) ∧ w.Since w.heap.size w' ∧ DrawnT w w' 5 5 a' l ∧ DrawnT w w' 5 5 b' u := by
  have E := Lib.hid (l6Open_any a nb cb w hc h63 hb)
  clear hb
  go_enter Try.func70, Try.ntmps70
  go_wp2_with fail
  refine (E.out).mono ?_
  rintro e w1 ⟨n', c', rfl, hs, hz, hd⟩
  have HD1 := Lib.hid hd
  have HS := Lib.hid hs
  have hz1 : w.heap.size < w1.heap.size := by omega
  clear hd hs hz
  go_wp2_with fail
  refine (pick_any w _ w.heap.size n' c' _ a _ HD1.out (by omega)).mono ?_
  rintro e w2 ⟨y2, rfl, hy2, hg2, hd2⟩
  have HD2 := Lib.hid hd2
  have HG2 := Lib.hid hg2
  clear hd2 hg2
  obtain ⟨n, hn, hhn⟩ : ∃ n : Nat, IntKind.i64.wrap (1 + (y2 : Int)) = n ∧ n = y2 + 1 := ⟨y2 + 1, (IntWalk.i64_in _ ⟨by omega, by omega⟩).trans (by omega), rfl⟩
  have hbn : 1 ≤ n ∧ n ≤ 4 := by omega
  clear hhn hy2
  go_wp2_with fail
  refine (pick_any w _ w.heap.size n' c' _ a _ HD2.out (by omega)).mono ?_
  rintro e w3 ⟨y3, rfl, hy3, hg3, hd3⟩
  have HD3 := Lib.hid hd3
  have HG3 := Lib.hid hg3
  clear hd3 hg3
  obtain ⟨m, hm, hhm⟩ : ∃ m : Nat, IntKind.i64.wrap (1 + (y3 : Int)) = m ∧ m = y3 + 1 := ⟨y3 + 1, (IntWalk.i64_in _ ⟨by omega, by omega⟩).trans (by omega), rfl⟩
  have hbm : 1 ≤ m ∧ m ≤ 4 := by omega
  clear hhm hy3
  go_wp2_with fail
  refine (l91Table_any w _ w.heap.size n' c' _ n m a HD3.out (by omega) (by omega) (by omega) (by omega)).mono ?_
  rintro e w4 ⟨vl, l, Al, Cl, pl, rfl, hll, hlml, hg4, hd4, hpl, hBl⟩
  obtain ⟨al, cpl, hvl, hITl⟩ := hBl.inT
  rw [hll] at hvl
  subst hvl
  have HD4 := Lib.hid hd4
  have HG4 := Lib.hid hg4
  have HLl := Lib.hid hll
  have HLMl := Lib.hid hlml
  have HITl := Lib.hid hITl
  clear hd4 hg4 hll hlml hITl hBl
  go_wp2_with fail
  refine (pick_any w _ w.heap.size n' c' _ a _ HD4.out (by omega)).mono ?_
  rintro e w5 ⟨y5, rfl, hy5, hg5, hd5⟩
  have HD5 := Lib.hid hd5
  have HG5 := Lib.hid hg5
  clear hd5 hg5
  obtain ⟨d5, hq5, hd5⟩ : ∃ d : Nat, IntKind.i64.wrap ((y5 : Int) / 23) = d ∧ d ≤ 1 := ⟨y5 / 23, (IntWalk.i64_in _ ⟨by omega, by omega⟩).trans (by omega), by omega⟩
  obtain ⟨n2, hn2, hhn2⟩ : ∃ n2 : Nat, IntKind.i64.wrap ((m : Int) + (d5 : Int)) = n2 ∧ 1 ≤ n2 ∧ n2 ≤ 5 := ⟨m + d5, (IntWalk.i64_in _ ⟨by omega, by omega⟩).trans (by omega), by omega, by omega⟩
  clear hy5
  go_wp2_with fail
  refine (pick_any w _ w.heap.size n' c' _ a _ HD5.out (by omega)).mono ?_
  rintro e w6 ⟨y6, rfl, hy6, hg6, hd6⟩
  have HD6 := Lib.hid hd6
  have HG6 := Lib.hid hg6
  clear hd6 hg6
  obtain ⟨m2, hm2, hhm2⟩ : ∃ m2 : Nat, IntKind.i64.wrap (1 + (y6 : Int)) = m2 ∧ m2 = y6 + 1 := ⟨y6 + 1, (IntWalk.i64_in _ ⟨by omega, by omega⟩).trans (by omega), rfl⟩
  have hbm2 : 1 ≤ m2 ∧ m2 ≤ 4 := by omega
  clear hhm2 hy6
  go_wp2_with fail
  refine (l91Table_any w _ w.heap.size n' c' _ n2 m2 a HD6.out (by omega) (by omega) (by omega) (by omega)).mono ?_
  rintro e w7 ⟨vu, u, Au, Cu, pu, rfl, hlu, hlmu, hg7, hd7, hpu, hBu⟩
  obtain ⟨au, cpu, hvu, hITu⟩ := hBu.inT
  rw [hlu] at hvu
  subst hvu
  have HD7 := Lib.hid hd7
  have HG7 := Lib.hid hg7
  have HLu := Lib.hid hlu
  have HLMu := Lib.hid hlmu
  have HITu := Lib.hid hITu
  clear hd7 hg7 hlu hlmu hITu hBu
  have hall := grown_trans (grown_trans (grown_trans (grown_trans (grown_trans (HG2.out) HG3.out) HG4.out) HG5.out) HG6.out) HG7.out
  have hbl := (grown_trans (HG2.out) HG3.out).size
  have hbu := (grown_trans (grown_trans (grown_trans (grown_trans (HG2.out) HG3.out) HG4.out) HG5.out) HG6.out).size
  have hs1 := HS.out.size
  have hfin := HS.out.trans (since_grown hall (Nat.le_refl _) hs1)
  have itl := (HITl.out.kept (grown_trans (grown_trans (HG5.out) HG6.out) HG7.out) (by omega)).mono (show w.heap.size ≤ _ by omega) (grown_trans (grown_trans (HG5.out) HG6.out) HG7.out).size
  have itu := HITu.out.mono (show w.heap.size ≤ _ by omega) (Nat.le_refl _)
  go_wp2
  go_ret2
  exact ⟨_, _, l, _, _, u, by rw [HLl.out, HLu.out]; rfl, hfin, drawnT_of HLl.out HLMl.out (by omega) (by omega) itl, drawnT_of HLu.out HLMu.out (by omega) (by omega) itu⟩

set_option maxHeartbeats 1000000 in
theorem drawMake_any (a : Option Addr) (nb cb : Nat) (w : World) (hc : nb ≤ cb) (h63 : cb ≤ 9223372036854775807) (hb : BytR w a nb) :
    Calls Try.prog 24 #[.slice a nb cb] w fun e w' => ∃ a' cap l b' cap2 u, e = .returned (.tuple #[.slice a' l.length cap, .slice b' u.length cap2]) ∧ w.Since w.heap.size w' ∧ DrawnT w w' 5 5 a' l ∧ DrawnT w w' 5 5 b' u := by
  have E := Lib.hid (l91Made_any a nb cb w hc h63 hb)
  clear hb
  go_enter Try.func24, Try.ntmps24
  go_wp2_with fail
  refine (E.out).mono ?_
  rintro e w1 ⟨a', cap, l, b', cap2, u, rfl, hs, hl, hu⟩
  go_wp2
  go_ret2
  exact ⟨a', cap, l, b', cap2, u, rfl, hs, hl, hu⟩

end Go.Proofs.Ythdemjfllfhhpaa
end

section
namespace Go.Proofs.Ythdemjfllfhhpaa
open Go.RowKit Go.Deep

def timesL (l : List (List Int)) (f : Int) : List (List Int) := tabF l.length (l.getD 0 []).length fun i k => at2 l i k * f
theorem timesL_length (l : List (List Int)) (f : Int) : (timesL l f).length = l.length := tabF_length _ _ _
theorem mul_bd {a b : Int} (h1 : -30 ≤ a) (h2 : a ≤ 30) (h3 : -30 ≤ b) (h4 : b ≤ 30) : -900 ≤ a * b ∧ a * b ≤ 900 := by
  have h : ∀ x : Nat, ∀ y : Nat, x ≤ 30 → y ≤ 30 → x * y ≤ 900 := fun x y hx hy => Nat.le_trans (Nat.mul_le_mul hx hy) (by decide)
  have h5 := h a.natAbs b.natAbs (by omega) (by omega)
  rw [← Int.natAbs_mul] at h5
  omega

set_option maxHeartbeats 1000000 in
theorem timesEntry_any (p r i k n cap : Nat) (f : Int) (a : Option Addr) (l : List (List Int)) (w : World) (hn : l.length = n) (hT : TabIn l) (hbox : w.cell? ⟨p, 0, none⟩ = some (.slice a n cap)) (hbox2 : w.cell? ⟨r, 0, none⟩ = some (.int .i64 f)) (hm : MatR w a l) (hi : i < n) (hk : k < (l.getD 0 []).length)
    (hf1 : -30 ≤ f) (hf2 : f ≤ 30) :
    Calls Try.prog 127 #[.int .i64 i, .int .i64 k, .pointer (some ⟨p, 0, none⟩), .pointer (some ⟨r, 0, none⟩)] w fun e w' => e = .returned (.int .i64 (at2 l i k * f)) ∧ w.Since w.heap.size w' := by
  have hb := hT.at (i := i) (k := k) (by rw [hn]; exact hi) hk
  have hkr : k < (l.getD i []).length := by rw [hT.row (by rw [hn]; exact hi)]; exact hk
  obtain ⟨b, o, b', o', c, rfl, h1, h2⟩ := hm.entry (by rw [hn]; exact hi) hkr
  obtain ⟨y, hy⟩ : ∃ y, y = at2 l i k := ⟨_, rfl⟩
  obtain ⟨m, hmm⟩ : ∃ m, m = (l.getD i []).length := ⟨_, rfl⟩
  rw [← hy] at h2 hb ⊢
  rw [← hmm] at h1 hkr
  have hp := mul_bd hb.1 hb.2 hf1 hf2
  have hwr : IntKind.i64.wrap (y * f) = y * f := IntWalk.i64_in _ ⟨by omega, by omega⟩
  clear hy hmm hn hm hT hb hk hf1 hf2
  go_enter Try.func127, Try.ntmps127
  go_wp2
  go_quiet (fail)
  go_wp2
  go_ret
  exact ⟨rfl, since_drewN (World.Since.refl _ _) _⟩

set_option maxRecDepth 100000 in
set_option maxHeartbeats 2000000 in
theorem times_any (a : Option Addr) (cap n : Nat) (l : List (List Int)) (f : Int) (w : World) (hn : l.length = n) (hT : TabIn l) (hm : MatR w a l) (hf1 : -30 ≤ f) (hf2 : f ≤ 30) :
    Calls Try.prog 113 #[.slice a n cap, .int .i64 f] w fun e w' => e = .returned (.slice (some ⟨w.heap.size + 1 + 1, 0, none⟩) n n) ∧ w.Since w.heap.size w' ∧ OwnT w.heap.size w'.heap.size w' (some ⟨w.heap.size + 1 + 1, 0, none⟩) (timesL l f) := by
  have hw := hT.width
  have h6 := hT.2.1
  rw [hn] at h6
  have h1 := hT.1
  rw [hn] at h1
  have hwid := fun (W : World) (hs : w.Since w.heap.size W) => width_any a cap n l W hn (by omega) (by omega) (hm.since hs)
  have hnt := fun (W : World) (hs : w.Since w.heap.size W) (hb0 : W.cell? ⟨w.heap.size, 0, none⟩ = some (.slice a n cap)) (hb1 : W.cell? ⟨w.heap.size + 1, 0, none⟩ = some (.int .i64 f)) =>
    newTable_any 127 #[.pointer (some ⟨w.heap.size, 0, none⟩), .pointer (some ⟨w.heap.size + 1, 0, none⟩)] n (l.getD 0 []).length (fun i k => at2 l i k * f) W (by omega) (by omega) (enters_of Try.func127 (by kernel_rfl) rfl)
      (fun W' i k hs' hi hk => timesEntry_any w.heap.size (w.heap.size + 1) i k n cap f a l W' hn hT ((hs'.cell (a := ⟨w.heap.size, 0, none⟩) (World.block_lt_of_cell? _ _ hb0)).trans hb0) ((hs'.cell (a := ⟨w.heap.size + 1, 0, none⟩) (World.block_lt_of_cell? _ _ hb1)).trans hb1) (hm.since (hs.trans (since_mono hs' hs.size))) hi hk hf1 hf2)
  obtain ⟨m, hmm⟩ : ∃ m, (l.getD 0 []).length = m := ⟨_, rfl⟩
  have htl : timesL l f = tabF n m (fun i k => at2 l i k * f) := by unfold timesL; rw [hmm, hn]
  rw [hmm] at hwid hnt hw
  rw [htl]
  have HW := Lib.hid hwid
  have HNT := Lib.hid hnt
  have HS1 := Lib.hid (show w.Since w.heap.size ((w.alloc (.cells #[.slice a n cap] 48)).alloc (.cells #[.int .i64 f] 3)) from (((World.Since.refl _ _).alloc (Nat.le_refl _) _).alloc (by simp) _))
  have hc0 := cell_new_l w (.slice a n cap) 48
  have hc1 := cell_new_l (w.alloc (.cells #[.slice a n cap] 48)) (.int .i64 f) 3
  simp only [World.size_alloc] at hc1
  have hcb0 : ((w.alloc (.cells #[.slice a n cap] 48)).alloc (.cells #[.int .i64 f] 3)).cell? ⟨w.heap.size, 0, none⟩ = some (.slice a n cap) := (cell_alloc_l _ hc0.1)
  have hcb1 : ((w.alloc (.cells #[.slice a n cap] 48)).alloc (.cells #[.int .i64 f] 3)).cell? ⟨w.heap.size + 1, 0, none⟩ = some (.int .i64 f) := hc1.1
  clear hwid hnt hm hT hn hmm htl hc0 hc1
  go_enter Try.func113, Try.ntmps113
  go_wp2
  go_region_held3 (fun w' => w'.cell? ⟨w.heap.size, 0, none⟩ = some (.slice a n cap)) (go_keep)
    (first
      | (go_at_call 58; refine (HW.out _ ?_).mono ?_; (exact World.Since.drew HS1.out); rintro e w1 ⟨rfl, rfl⟩)
      | (go_at_call 79; refine (HNT.out _ ?_ ?_ ?_).mono ?_; (exact World.Since.drew HS1.out); (exact hcb0); (exact hcb1); rintro e w1 ⟨rfl, hs2, ho⟩; have hcc := hs2.cell (a := ⟨w.heap.size, 0, none⟩) (World.block_lt_of_cell? _ _ hcb0); simp only [World.cell?_drew, hcb0] at hcc))
  all_goals
    go_wp2
    go_ret
    refine ⟨rfl, HS1.out.trans (since_mono (since_of_drew hs2) (by simp; omega)), ?_⟩
    have hz : ((w.alloc (.cells #[.slice a n cap] 48)).alloc (.cells #[.int .i64 f] 3)).drew.heap.size = w.heap.size + 1 + 1 := by simp
    rw [hz] at ho
    exact ho.mono (by omega) (Nat.le_refl _)

noncomputable def timesOk (l : List (List Int)) (f : Int) : Bool := tabIn l && (inB f (-30) 30 && tabIn (timesL l f))
theorem szL_times {l : List (List Int)} (f : Int) (h : TabIn l) : szL (timesL l f) ≤ 1048576 := szL_tabF _ _ _ (by have := h.2.1; omega) (by have := h.width; omega)

end Go.Proofs.Ythdemjfllfhhpaa
end

section
namespace Go.Proofs.Ythdemjfllfhhpaa
open Go.RowKit Go.Deep

theorem szL_timesOk (l : List (List Int)) (f : Int) (h : timesOk l f = true) : szL (timesL l f) ≤ 1048576 := by
  unfold timesOk at h
  rw [Bool.and_eq_true] at h
  exact szL_times f (tabIn_of h.1)

end Go.Proofs.Ythdemjfllfhhpaa
end

section
namespace Go.Proofs.Ythdemjfllfhhpaa
open Go.RowKit Go.Deep

def sumL (l u : List (List Int)) : List (List Int) := tabF l.length (l.getD 0 []).length fun i k => at2 l i k + at2 u i k
theorem sumL_length (l u : List (List Int)) : (sumL l u).length = l.length := tabF_length _ _ _

def alikeB (l u : List (List Int)) : Bool := (l.length == u.length) && ((l.getD 0 []).length == (u.getD 0 []).length)
noncomputable def sumOk (l u : List (List Int)) : Bool := tabIn l && (tabIn u && (alikeB l u && tabIn (sumL l u)))
theorem szL_sum {l : List (List Int)} (u : List (List Int)) (h : TabIn l) : szL (sumL l u) ≤ 1048576 := szL_tabF _ _ _ (by have := h.2.1; omega) (by have := h.width; omega)

set_option maxHeartbeats 1000000 in
theorem alike_any (a a2 : Option Addr) (cap cap2 n n2 : Nat) (l u : List (List Int)) (w : World) (hn : l.length = n) (hu : u.length = n2) (hT : TabIn l) (hTu : TabIn u) (hm : MatR w a l) (hmu : MatR w a2 u) :
    Calls Try.prog 101 #[.slice a n cap, .slice a2 n2 cap2] w fun e w' => e = .returned (.bool (alikeB l u)) ∧ w = w' := by
  have h6 := hT.2.1
  have h1 := hT.1
  have g6 := hTu.2.1
  have g1 := hTu.1
  have hw := hT.width
  have gw := hTu.width
  have E1 := width_any a cap n l w hn (by omega) (by omega) hm
  have E2 := width_any a2 cap2 n2 u w hu (by omega) (by omega) hmu
  unfold alikeB
  rw [hn, hu]
  rw [hn] at h1 h6
  rw [hu] at g1 g6
  obtain ⟨m, hmm⟩ : ∃ m, (l.getD 0 []).length = m := ⟨_, rfl⟩
  obtain ⟨m', hmm'⟩ : ∃ m, (u.getD 0 []).length = m := ⟨_, rfl⟩
  rw [hmm] at E1 hw ⊢
  rw [hmm'] at E2 gw ⊢
  have HE1 := Lib.hid E1
  have HE2 := Lib.hid E2
  clear E1 E2 hmm hmm' hm hmu hT hTu hn hu
  by_cases hne : n = n2
  · subst hne
    by_cases hw2 : m = m'
    · subst hw2
      go_enter Try.func101, Try.ntmps101
      go_wp2_with fail
      refine (HE1.out).mono ?_
      rintro e w' ⟨rfl, rfl⟩
      go_wp2_with fail
      refine (HE2.out).mono ?_
      rintro e w' ⟨rfl, rfl⟩
      go_wp2
      go_ret
      exact ⟨ret_bool (by simp), rfl⟩
    · have hb : ((m : Int) == (m' : Int)) = false := by simp; omega
      have HB : Hid ((n == n && m == m') = false) := by show _ = _; simp [hw2]
      go_enter Try.func101, Try.ntmps101
      go_wp2_with fail
      refine (HE1.out).mono ?_
      rintro e w' ⟨rfl, rfl⟩
      go_wp2_with fail
      refine (HE2.out).mono ?_
      rintro e w' ⟨rfl, rfl⟩
      go_wp2
      go_ret
      exact ⟨ret_bool (by first | exact HB.out.symm | (simp; omega) | simp [hw2]), rfl⟩
  · have hb : ((n : Int) == (n2 : Int)) = false := by simp; omega
    have HB : Hid ((n == n2 && m == m') = false) := by show _ = _; simp [hne]
    go_enter Try.func101, Try.ntmps101
    go_wp2
    go_ret
    exact ⟨ret_bool (by first | exact HB.out.symm | (simp; omega) | simp [hne]), rfl⟩

end Go.Proofs.Ythdemjfllfhhpaa
end

section
namespace Go.Proofs.Ythdemjfllfhhpaa
open Go.RowKit Go.Deep

end Go.Proofs.Ythdemjfllfhhpaa
end

section
namespace Go.Proofs.Ythdemjfllfhhpaa
open Go.RowKit Go.Deep

theorem szL_sumOk (l u : List (List Int)) (h : sumOk l u = true) : szL (sumL l u) ≤ 1048576 := by
  unfold sumOk at h
  rw [Bool.and_eq_true] at h
  exact szL_sum u (tabIn_of h.1)

end Go.Proofs.Ythdemjfllfhhpaa
end

section
namespace Go.Proofs.Ythdemjfllfhhpaa
open Go.RowKit Go.Deep

def makeL (l u : List (List Int)) : List (List Int) := tabF l.length (u.getD 0 []).length fun i k => sumN (dotF l u i k) u.length
theorem makeL_length (l u : List (List Int)) : (makeL l u).length = l.length := tabF_length _ _ _

set_option maxRecDepth 100000 in
set_option maxHeartbeats 2000000 in
theorem product_any (a : Option Addr) (cap n : Nat) (l : List (List Int)) (a2 : Option Addr) (cap2 n2 : Nat) (u : List (List Int)) (w : World) (hn : l.length = n) (hT : TabIn l) (hm : MatR w a l) (hu : u.length = n2) (hTu : TabIn u) (huw : (l.getD 0 []).length = n2) (hmu : MatR w a2 u) :
    Calls Try.prog 71 #[.slice a n cap, .slice a2 n2 cap2] w fun e w' => e = .returned (.slice (some ⟨w.heap.size + 1 + 1, 0, none⟩) n n) ∧ w.Since w.heap.size w' ∧ OwnT w.heap.size w'.heap.size w' (some ⟨w.heap.size + 1 + 1, 0, none⟩) (makeL l u) := by
  have hw := hTu.width
  have h6 := hT.2.1
  rw [hn] at h6
  have g6 := hTu.2.1
  have g1 := hTu.1
  rw [hu] at g6 g1
  have hwid := fun (W : World) (hs : w.Since w.heap.size W) => width_any a2 cap2 n2 u W hu (by omega) (by omega) (hmu.since hs)
  obtain ⟨m2, hmm⟩ : ∃ m, (u.getD 0 []).length = m := ⟨_, rfl⟩
  have hnt := fun (W : World) (hs : w.Since w.heap.size W) (hb0 : W.cell? ⟨w.heap.size, 0, none⟩ = some (.slice a n cap)) (hb1 : W.cell? ⟨w.heap.size + 1, 0, none⟩ = some (.slice a2 n2 cap2)) =>
    newTable_any 111 #[.pointer (some ⟨w.heap.size + 1, 0, none⟩), .pointer (some ⟨w.heap.size, 0, none⟩)] n m2 (fun i k => sumN (dotF l u i k) n2) W (by omega) (by omega) (enters_of Try.func111 (by kernel_rfl) rfl)
      (fun W' i k hs' hi hk => prodEntry_any (w.heap.size + 1) w.heap.size i k n n2 n2 m2 cap cap2 a a2 l u W' hn hu hT hTu huw hmm rfl ((hs'.cell (a := ⟨w.heap.size + 1, 0, none⟩) (World.block_lt_of_cell? _ _ hb1)).trans hb1) ((hs'.cell (a := ⟨w.heap.size, 0, none⟩) (World.block_lt_of_cell? _ _ hb0)).trans hb0) (hm.since (hs.trans (since_mono hs' hs.size))) (hmu.since (hs.trans (since_mono hs' hs.size))) hi hk)
  have htl : makeL l u = tabF n m2 (fun i k => sumN (dotF l u i k) n2) := by unfold makeL; rw [hmm, hn, hu]
  rw [hmm] at hwid hw
  rw [htl]
  have HW := Lib.hid hwid
  have HNT := Lib.hid hnt
  have HS1 := Lib.hid (show w.Since w.heap.size ((w.alloc (.cells #[.slice a n cap] 48)).alloc (.cells #[.slice a2 n2 cap2] 48)) from (((World.Since.refl _ _).alloc (Nat.le_refl _) _).alloc (by simp) _))
  have hc0 := cell_new_l w (.slice a n cap) 48
  have hc1 := cell_new_l (w.alloc (.cells #[.slice a n cap] 48)) (.slice a2 n2 cap2) 48
  simp only [World.size_alloc] at hc1
  have hcb0 : ((w.alloc (.cells #[.slice a n cap] 48)).alloc (.cells #[.slice a2 n2 cap2] 48)).cell? ⟨w.heap.size, 0, none⟩ = some (.slice a n cap) := (cell_alloc_l _ hc0.1)
  have hcb1 : ((w.alloc (.cells #[.slice a n cap] 48)).alloc (.cells #[.slice a2 n2 cap2] 48)).cell? ⟨w.heap.size + 1, 0, none⟩ = some (.slice a2 n2 cap2) := hc1.1
  clear hwid hnt hm hT hn hmm htl hc0 hc1 hu hTu huw hmu
  go_enter Try.func71, Try.ntmps71
  go_wp2
  go_region_held3 (fun w' => w'.cell? ⟨w.heap.size, 0, none⟩ = some (.slice a n cap) ∧ w'.cell? ⟨w.heap.size + 1, 0, none⟩ = some (.slice a2 n2 cap2)) (go_keep)
    (first
      | (go_at_call 58; refine (HW.out _ ?_).mono ?_; (exact World.Since.drew HS1.out); rintro e w1 ⟨rfl, rfl⟩)
      | (go_at_call 79; refine (HNT.out _ ?_ ?_ ?_).mono ?_; (exact World.Since.drew HS1.out); (exact hcb0); (exact hcb1); rintro e w1 ⟨rfl, hs2, ho⟩; have hcc := hs2.cell (a := ⟨w.heap.size, 0, none⟩) (World.block_lt_of_cell? _ _ hcb0); simp only [World.cell?_drew, hcb0] at hcc; have hcd := hs2.cell (a := ⟨w.heap.size + 1, 0, none⟩) (World.block_lt_of_cell? _ _ hcb1); simp only [World.cell?_drew, hcb1] at hcd))
  all_goals
    go_wp2
    go_ret
    refine ⟨rfl, HS1.out.trans (since_mono (since_of_drew hs2) (by simp; omega)), ?_⟩
    have hz : ((w.alloc (.cells #[.slice a n cap] 48)).alloc (.cells #[.slice a2 n2 cap2] 48)).drew.heap.size = w.heap.size + 1 + 1 := by simp
    rw [hz] at ho
    exact ho.mono (by omega) (Nat.le_refl _)

noncomputable def makeOk (l u : List (List Int)) : Bool := tabIn l && (tabIn u && (((l.getD 0 []).length == u.length) && tabIn (makeL l u)))
theorem szL_make {l u : List (List Int)} (h : TabIn l) (hu : TabIn u) : szL (makeL l u) ≤ 1048576 := szL_tabF _ _ _ (by have := h.2.1; omega) (by have := hu.width; omega)

set_option maxHeartbeats 1000000 in
theorem implTableMake_any (a a2 : Option Addr) (cap cap2 n n2 : Nat) (l u : List (List Int)) (w : World) (hn : l.length = n) (hu : u.length = n2) (hsz : szL l ≤ 1048576) (hszu : szL u ≤ 1048576) (hm : MatR w a l) (hmu : MatR w a2 u) :
    Calls Try.prog 25 #[.slice a n cap, .slice a2 n2 cap2] w (ImplT w (makeOk l u) (makeL l u)) := by
  have E := Lib.hid (implTableIn_any a cap n l w hn hsz hm)
  have E2 := Lib.hid (fun (W : World) (hs : w.Since w.heap.size W) => implTableIn_any a2 cap2 n2 u W hu hszu (hmu.since hs))
  cases hT : tabIn l with
  | false =>
    have hok : makeOk l u = false := by unfold makeOk; rw [hT]; rfl
    rw [hT] at E
    rw [hok]
    clear hT hsz hm hn hok E2 hszu hmu hu
    go_enter Try.func25, Try.ntmps25
    go_wp2_with fail
    refine (E.out).mono ?_
    rintro e w1 ⟨rfl, hs⟩
    go_wp2
    go_ret2
    exact ⟨_, _, rfl, hs, OwnT.nil _ _ _ _⟩
  | true =>
    have hTT := tabIn_of hT
    rw [hT] at E
    cases hTu : tabIn u with
    | false =>
      have hok : makeOk l u = false := by unfold makeOk; rw [hT, hTu]; rfl
      rw [hTu] at E2
      rw [hok]
      clear hT hsz hm hn hok hTT hTu hszu hmu hu
      go_enter Try.func25, Try.ntmps25
      go_wp2_with fail
      refine (E.out).mono ?_
      rintro e w1 ⟨rfl, hs⟩
      go_wp2_with fail
      refine (E2.out w1 hs).mono ?_
      rintro e w2 ⟨rfl, hs2⟩
      go_wp2
      go_ret2
      exact ⟨_, _, rfl, hs.trans (since_mono hs2 hs.size), OwnT.nil _ _ _ _⟩
    | true =>
      have hTTu := tabIn_of hTu
      rw [hTu] at E2
      have h6 := hTT.2.1
      have h1 := hTT.1
      have g6 := hTTu.2.1
      rw [hn] at h6 h1
      rw [hu] at g6
      have E3 := Lib.hid (fun (W : World) (hs : w.Since w.heap.size W) => width_any a cap n l W hn (by omega) (by omega) (hm.since hs))
      have hw := hTT.width
      obtain ⟨m, hmm⟩ : ∃ m, (l.getD 0 []).length = m := ⟨_, rfl⟩
      rw [hmm] at E3 hw
      by_cases hal : m = n2
      · subst hal
        have hok : makeOk l u = tabIn (makeL l u) := by unfold makeOk; rw [hT, hTu, hmm, hu]; simp
        have HE2 := Lib.hid (fun (W : World) (hs : w.Since w.heap.size W) => product_any a cap n l a2 cap2 m u W hn hTT (hm.since hs) hu hTTu hmm (hmu.since hs))
        have HTL := Lib.hid ((makeL_length l u).trans hn)
        have hszl := szL_make hTT hTTu
        rw [hok]
        clear hT hsz hm hn hok hTT hTu hszu hmu hu hTTu hmm
        go_enter Try.func25, Try.ntmps25
        go_wp2_with fail
        refine (E.out).mono ?_
        rintro e w1 ⟨rfl, hs⟩
        go_wp2_with fail
        refine (E2.out w1 hs).mono ?_
        rintro e w2 ⟨rfl, hs2⟩
        have hs12 := hs.trans (since_mono hs2 hs.size)
        go_wp2_with fail
        refine (E3.out w2 hs12).mono ?_
        rintro e w3 ⟨rfl, rfl⟩
        go_wp2_with fail
        refine (HE2.out w2 hs12).mono ?_
        rintro e w3 ⟨rfl, hs3, ho⟩
        have hs13 : w.Since w.heap.size w3 := hs12.trans (since_mono hs3 hs12.size)
        have hz := hs12.size
        go_wp2_with fail
        refine (result_any _ _ _ _ _ (makeL l u) w3 HTL.out hszl ho).mono ?_
        rintro e w4 ⟨a', cap', rfl, hs4, ho4⟩
        go_wp2
        go_ret2
        exact ⟨a', cap', rfl, hs13.trans (since_mono hs4 hs13.size), ho4.mono hz hs4.size⟩
      · have hb : ((m : Int) != (n2 : Int)) = true := by simp; omega
        have hok : makeOk l u = false := by unfold makeOk; rw [hT, hTu, hmm, hu]; simp [hal]
        rw [hok]
        clear hT hsz hm hn hok hTT hTu hszu hmu hu hTTu hmm hal
        go_enter Try.func25, Try.ntmps25
        go_wp2_with fail
        refine (E.out).mono ?_
        rintro e w1 ⟨rfl, hs⟩
        go_wp2_with fail
        refine (E2.out w1 hs).mono ?_
        rintro e w2 ⟨rfl, hs2⟩
        have hs12 := hs.trans (since_mono hs2 hs.size)
        go_wp2_with fail
        refine (E3.out w2 hs12).mono ?_
        rintro e w3 ⟨rfl, rfl⟩
        go_wp2
        go_ret2
        exact ⟨_, _, rfl, hs12, OwnT.nil _ _ _ _⟩

end Go.Proofs.Ythdemjfllfhhpaa
end

section
namespace Go.Proofs.Ythdemjfllfhhpaa
open Go.RowKit Go.Deep

def partF (f : Nat → Nat → Int) (n2 k j c : Nat) : Int := if c < k then sumN (f c) n2 else if c = k then sumN (f k) j else 0

structure MR (wo wr : World) (m2 : Nat) (f : Nat → Nat → Int) (n2 k j : Nat) : Prop where
  since : wo.Since wo.heap.size wr
  row : wr.rowIs wo.heap.size 3 m2 (fun c => .int .i64 (partF f n2 k j c))
theorem mr_start (wo : World) (m2 : Nat) (f : Nat → Nat → Int) (n2 : Nat) : MR wo (wo.alloc (.cells (madeCells #[.int .i64 0] m2) 3)) m2 f n2 0 0 :=
  ⟨(World.Since.refl _ _).alloc (Nat.le_refl _) _, (World.rowIs_made wo (.int .i64 0) m2 3).congr fun c _ => by
    unfold partF
    rw [if_neg (by omega)]
    by_cases e : c = 0
    · rw [if_pos e]; rfl
    · rw [if_neg e]⟩
theorem MR.facts {wo wr : World} {m2 n2 k j : Nat} {f : Nat → Nat → Int} (h : MR wo wr m2 f n2 k j) (hk : k < m2) : wr.cell? ⟨wo.heap.size, k, none⟩ = some (.int .i64 (sumN (f k) j)) ∧ wr.frozen? ⟨wo.heap.size, k, none⟩ = false := by
  refine ⟨?_, h.row.frozen k⟩
  have := h.row.cell hk
  unfold partF at this
  rw [if_neg (by omega), if_pos rfl] at this
  exact this
theorem MR.store {wo wr : World} {m2 n2 k j : Nat} {f : Nat → Nat → Int} (h : MR wo wr m2 f n2 k j) (q : Nat) (hk : k < m2) : MR wo ((wr.drewN q).setCell ⟨wo.heap.size, k, none⟩ (.int .i64 (sumN (f k) (j + 1)))) m2 f n2 k (j + 1) := by
  have hr : (wr.drewN q).rowIs wo.heap.size 3 m2 (fun c => .int .i64 (partF f n2 k j c)) := h.row
  refine ⟨(since_drewN h.since q).setCell (Nat.le_refl _) _, (hr.set k _).congr fun c _ => ?_⟩
  unfold partF
  by_cases e : c = k
  · subst e; simp
  · rw [if_neg e]
    by_cases e2 : c < k
    · rw [if_pos e2, if_pos e2]
    · rw [if_neg e2, if_neg e, if_neg e2, if_neg e]
theorem MR.next {wo wr : World} {m2 n2 k : Nat} {f : Nat → Nat → Int} (h : MR wo wr m2 f n2 k n2) : MR wo wr m2 f n2 (k + 1) 0 := by
  refine ⟨h.since, h.row.congr fun c _ => ?_⟩
  unfold partF
  by_cases e2 : c < k
  · rw [if_pos e2, if_pos (by omega)]
  · rw [if_neg e2]
    by_cases e : c = k
    · subst e; simp
    · rw [if_neg e, if_neg (by omega)]
      by_cases e3 : c = k + 1
      · rw [if_pos e3]; rfl
      · rw [if_neg e3]
theorem MR.rowB {wo wr : World} {m2 n2 : Nat} {f : Nat → Nat → Int} (h : MR wo wr m2 f n2 m2 0) : RowB wr wo.heap.size ((List.range m2).map fun c => sumN (f c) n2) :=
  RowB.of_rowIs h.row (by simp) fun i hi => by
    simp at hi
    unfold partF
    rw [if_pos hi]
    simp [List.getD, hi]

def makeTo (l u : List (List Int)) (m2 n2 i : Nat) : List (List Int) := tabF i m2 fun i k => sumN (dotF l u i k) n2
theorem makeTo_succ (l u : List (List Int)) (m2 n2 i : Nat) : makeTo l u m2 n2 (i + 1) = makeTo l u m2 n2 i ++ [(List.range m2).map fun k => sumN (dotF l u i k) n2] := by simp [makeTo, tabF, List.range_succ]
theorem makeTo_length (l u : List (List Int)) (m2 n2 i : Nat) : (makeTo l u m2 n2 i).length = i := tabF_length _ _ _
theorem sumN_bd (f : Nat → Int) : ∀ (n : Nat), (∀ j, j < n → -900 ≤ f j ∧ f j ≤ 900) → -(900 * (n : Int)) ≤ sumN f n ∧ sumN f n ≤ 900 * (n : Int)
  | 0, _ => by simp [sumN]
  | n + 1, h => by
    have h1 := sumN_bd f n (fun j hj => h j (by omega))
    have h2 := h n (by omega)
    unfold sumN
    omega

set_option maxRecDepth 100000 in
set_option maxHeartbeats 4000000 in
theorem l1Make_any (a a2 : Option Addr) (cap cap2 n n2 : Nat) (l u : List (List Int)) (w : World) (hn : l.length = n) (hu : u.length = n2) (hm : MatR w a l) (hmu : MatR w a2 u) (hT : TabIn l) (hTu : TabIn u) (hmm : (l.getD 0 []).length = n2) :
    Calls Try.prog 74 #[.slice a n cap, .slice a2 n2 cap2] w fun e w' => ∃ a' cap', e = .returned (.slice a' n cap') ∧ w.Since w.heap.size w' ∧ OwnT w.heap.size w'.heap.size w' a' (makeL l u) := by
  obtain ⟨i42, hi42⟩ := info42_parts
  have HI := Lib.hid hi42
  clear hi42
  have hst := bt_start w (fun _ => none) (fun _ => 0) #[] rfl
  have h6 := hT.2.1
  have h1 := hT.1
  have g6 := hTu.2.1
  have g1 := hTu.1
  have gw := hTu.width
  rw [hn] at h6 h1
  rw [hu] at g6 g1
  obtain ⟨m2, hmm2⟩ : ∃ m, (u.getD 0 []).length = m := ⟨_, rfl⟩
  have htl : makeL l u = makeTo l u m2 n2 n := by unfold makeL makeTo; rw [hmm2, hn, hu]
  rw [hmm2] at gw
  rw [htl]
  have hmk := run_make_row' (P := Try.prog) 37 3 (.int .i64 0) 8 Try.underlying37 Try.info3 rfl .i64 .i64 m2 (by omega) (by omega)
  obtain ⟨bt, ot, At, Ct, rfl, hlen, hcell⟩ := hm.grid hn hT hmm
  obtain ⟨bu, ou, Au, Cu, rfl, hlenu, hcellu⟩ := hmu.grid hu hTu hmm2
  have hcu0 := hlenu 0 (by omega)
  rw [Nat.add_zero] at hcu0
  have hbul : bu < w.heap.size := World.block_lt_of_cell? _ _ hcu0
  have HC := Lib.hid hcell
  have HCU := Lib.hid hcellu
  have HCU0 := Lib.hid hcu0
  have HMK := Lib.hid hmk
  have hmix : Try.prog.follows .mixedOrders = true := by kernel_rfl
  clear hm hn hmm hlen hcell hT hmu hTu hlenu hcellu hu hmm2 htl hcu0 hmk
  go_enter Try.func74, Try.ntmps74
  go_wp2
  go_loopg [5, 6, 7, 8, 9] n (fun g v i _ _ _ wr => ∃ r : Nat, ∃ A C, r ≤ n ∧ g = n - r ∧ i = .int .i64 r ∧ BT w wr v (makeTo l u m2 n2 r) A C)
  case atStart => exact ⟨0, _, _, Nat.zero_le _, rfl, rfl, hst⟩
  case round =>
    obtain ⟨r, A, C, hr, rfl, rfl, hR⟩ := hrel
    clear hst
    by_cases hlt : r < n
    · have HR := Lib.hid hR
      have hsz := hR.since.size
      have hlen := makeTo_length l u m2 n2 r
      have hc0 := HCU0.out
      rw [← hR.since.cell (a := ⟨bu, ou, none⟩) hbul] at hc0
      have hmr := mr_start wr m2 (dotF l u r) n2
      have HMR := Lib.hid hmr
      have hmk := HMK.out
      obtain ⟨wo, hwo⟩ : ∃ wo : World, wo = wr := ⟨_, rfl⟩
      clear hR hmr
      go_wp2
      clear hmk hc0
      subst hwo
      obtain ⟨g, hg⟩ : ∃ g, wo.heap.size = g := ⟨_, rfl⟩
      rw [hg]
      have HG := Lib.hid hg
      have hwg : w.heap.size ≤ g := by omega
      clear hg
      go_loopg [8, 9] m2 (fun g k _ wi => ∃ c : Nat, c ≤ m2 ∧ g = m2 - c ∧ k = .int .i64 c ∧ MR wo wi m2 (dotF l u r) n2 c 0)
      case atStart => exact ⟨0, Nat.zero_le _, rfl, rfl, HMR.out⟩
      case round =>
        obtain ⟨c, hc, rfl, rfl, hI⟩ := hrel
        clear HMR
        have hS := HR.out.since.trans (since_mono hI.since hsz)
        have hc0 := HCU0.out
        rw [← hS.cell (a := ⟨bu, ou, none⟩) hbul] at hc0
        by_cases hcm : c < m2
        · have HII := Lib.hid hI
          clear hI hS
          go_wp2
          clear hc0
          go_loopg [9] n2 (fun g j wj => ∃ j' : Nat, j' ≤ n2 ∧ g = n2 - j' ∧ j = .int .i64 j' ∧ MR wo wj m2 (dotF l u r) n2 c j')
          case atStart => exact ⟨0, Nat.zero_le _, rfl, rfl, HII.out⟩
          case round =>
            obtain ⟨j, hj, rfl, rfl, hJ⟩ := hrel
            clear HII
            by_cases hjn : j < n2
            · obtain ⟨b1, o1, e1, e2, e3⟩ := HC.out r j hlt hjn
              obtain ⟨d1, q1, f1, f2, f3⟩ := HCU.out j c hjn hcm
              have hS := HR.out.since.trans (since_mono hJ.since hsz)
              obtain ⟨k1, k2⟩ := hJ.facts hcm
              have hzz := HR.out.since.size
              have hb1 : bt < w.heap.size := World.block_lt_of_cell? _ _ e1
              have hb2 : b1 < w.heap.size := World.block_lt_of_cell? _ _ e2
              have hb4 : d1 < w.heap.size := World.block_lt_of_cell? _ _ f2
              rw [← hS.cell (a := ⟨bt, ot + r, none⟩) hb1] at e1
              rw [← hS.cell (a := ⟨b1, o1 + j, none⟩) hb2] at e2
              rw [← hS.cell (a := ⟨bu, ou + j, none⟩) hbul] at f1
              rw [← hS.cell (a := ⟨d1, q1 + c, none⟩) hb4] at f2
              have hbd := sumN_bd (dotF l u r c) j (fun j' hj' => by
                obtain ⟨_, _, _, _, b1⟩ := HC.out r j' hlt (by omega)
                obtain ⟨_, _, _, _, b2⟩ := HCU.out j' c (by omega) hcm
                exact mul_bd2 _ _ b1 b2)
              have hsu : sumN (dotF l u r c) (j + 1) = sumN (dotF l u r c) j + at2 l r j * at2 u j c := rfl
              have hN := fun q => hJ.store q hcm
              rw [hsu] at hN
              obtain ⟨p, hp⟩ : ∃ p, at2 l r j = p := ⟨_, rfl⟩
              obtain ⟨q, hq⟩ : ∃ q, at2 u j c = q := ⟨_, rfl⟩
              obtain ⟨s, hs⟩ : ∃ s, sumN (dotF l u r c) j = s := ⟨_, rfl⟩
              rw [hp] at e2 e3 hN
              rw [hq] at f2 f3 hN
              rw [hs] at k1 hbd hN
              have hpq := mul_bd2 p q e3 f3
              have hw1 : IntKind.i64.wrap (p * q) = p * q := IntWalk.i64_in _ ⟨by omega, by omega⟩
              have hw2 : IntKind.i64.wrap (s + p * q) = s + p * q := IntWalk.i64_in _ ⟨by omega, by omega⟩
              rw [HG.out] at k1 k2 hN
              have m1 := cell_set_ne (g := g) (j := c) (v := .int .i64 (s + p * q)) e1 (show bt ≠ g by omega)
              have m2' := cell_set_ne (g := g) (j := c) (v := .int .i64 (s + p * q)) e2 (show b1 ≠ g by omega)
              have m3 := cell_set_ne (g := g) (j := c) (v := .int .i64 (s + p * q)) f1 (show bu ≠ g by omega)
              have m4 := cell_set_ne (g := g) (j := c) (v := .int .i64 (s + p * q)) f2 (show d1 ≠ g by omega)
              have HN := Lib.hid (hN 1)
              clear hN hJ hp hq hs hsu hS hbd
              go_wp2
              go_still_tail 22, hmix
              go_wp2
              go_roundg (n2 - (j + 1))
              case measure => omega
              case rel => exact ⟨j + 1, by omega, rfl, by go_num, HN.out⟩
            · have hjj : j = n2 := by omega
              subst hjj
              have HNN := Lib.hid hJ.next
              clear hJ
              go_wp2
              go_roundg (m2 - (c + 1))
              case measure => omega
              case rel => exact ⟨c + 1, by omega, rfl, by go_num, HNN.out⟩
        · have hcc : c = m2 := by omega
          subst hcc
          have HII := Lib.hid hI
          have hzi := hI.since.size
          clear hI hS
          go_wp2_with (at_builtin; (refine wpList_append_own _ rfl _ _ 23 rfl w.heap.size 37 i42 (.slice none 0 0) 1 24 Try.underlying23 HI.out.1 HI.out.2.1 HI.out.2.2.1 HI.out.2.2.2 rfl (by decide) _ _ _ rfl ((HR.out.later HII.out.since).own.alloc _) ⟨wr.heap.size, 0, none⟩ 1 1 [.slice (some ⟨g, 0, none⟩) c c] rfl rfl (cell_one_at _ _ _ rfl) (fun x hx => by simp at hx; subst hx; rfl) (by unfold maxLen; omega) (by omega) (by simp; omega) ?_); intro v' w1 hown' hgrow _)
          have hP := (HR.out.later HII.out.since).push (rv := .slice (some ⟨g, 0, none⟩) c c) (x := (List.range c).map fun k => sumN (dotF l u r k) n2) (a := some ⟨g, 0, none⟩) (cp := c) (by simp)
            (fun _ => ⟨g, rfl, hwg, by rw [← HG.out]; exact HII.out.rowB⟩) (fun _ => HR.out.fresh rfl (by rw [HG.out]; exact Nat.le_refl _)) hown' hgrow
          rw [← makeTo_succ] at hP
          have HP := Lib.hid hP
          clear hP hown' hgrow hlen
          go_roundg (n - (r + 1))
          case measure => omega
          case rel => exact ⟨r + 1, _, _, by omega, rfl, by go_num, HP.out⟩
    · have : r = n := by omega
      subst this
      obtain ⟨a, cap, rfl, hin⟩ := hR.ownT
      have HS := Lib.hid hR.since
      clear hR
      go_wp2
      go_ret
      exact ⟨a, cap, by show Ending.returned (.slice a (makeTo l u m2 n2 r).length cap) = _; rw [makeTo_length], HS.out, hin⟩

set_option maxRecDepth 100000 in
set_option maxHeartbeats 2000000 in
theorem specTableMake_any (a a2 : Option Addr) (cap cap2 n n2 : Nat) (l u : List (List Int)) (w : World) (hn : l.length = n) (hu : u.length = n2) (hsz : szL l ≤ 1048576) (hszu : szL u ≤ 1048576) (hm : MatR w a l) (hmu : MatR w a2 u) :
    Calls Try.prog 26 #[.slice a n cap, .slice a2 n2 cap2] w (SpecT w (makeOk l u) (makeL l u)) := by
  have E1 := specTableIn_any a cap n l w hn hsz hm
  have E2 := fun (W : World) (hs : w.Since w.heap.size W) => specTableIn_any a2 cap2 n2 u W hu hszu (hmu.since hs)
  cases hT : tabIn l with
  | false =>
    have hok : makeOk l u = false := by unfold makeOk; rw [hT]; rfl
    rw [hok]
    rw [hT] at E1
    replace E1 := Lib.hid E1
    replace E2 := Lib.hid E2
    clear hT hsz hm hn hok hszu hmu hu
    go_enter Try.func26, Try.ntmps26
    go_wp2_with fail
    refine (E1.out).mono ?_
    rintro e w1 ⟨rfl, hd⟩
    have hs1 := hd.since w.heap.size
    clear hd
    go_wp2_with fail
    refine (l1None_any _).mono ?_
    rintro e w3 ⟨rfl, hs3⟩
    go_wp2
    go_ret2
    exact ⟨_, _, rfl, hs1.trans (since_mono hs3 hs1.size), InT.nil _ _ _ _⟩
  | true =>
    cases hTu : tabIn u with
    | false =>
      have hok : makeOk l u = false := by unfold makeOk; rw [hT, hTu]; rfl
      rw [hok]
      rw [hT] at E1
      rw [hTu] at E2
      replace E1 := Lib.hid E1
      replace E2 := Lib.hid E2
      clear hT hTu hsz hm hn hok hszu hmu hu
      go_enter Try.func26, Try.ntmps26
      go_wp2_with fail
      refine (E1.out).mono ?_
      rintro e w1 ⟨rfl, hd⟩
      have hs1 := hd.since w.heap.size
      clear hd
      go_wp2_with fail
      refine (E2.out w1 hs1).mono ?_
      rintro e w2 ⟨rfl, hd⟩
      have hs2 := hs1.trans (hd.since _)
      clear hd
      go_wp2_with fail
      refine (l1None_any _).mono ?_
      rintro e w3 ⟨rfl, hs3⟩
      go_wp2
      go_ret2
      exact ⟨_, _, rfl, hs2.trans (since_mono hs3 hs2.size), InT.nil _ _ _ _⟩
    | true =>
      have hTT := tabIn_of hT
      have hTTu := tabIn_of hTu
      rw [hT] at E1
      rw [hTu] at E2
      have h1 := hTT.1
      have h6 := hTT.2.1
      have g6 := hTTu.2.1
      have hw := hTT.width
      rw [hn] at h1 h6
      rw [hu] at g6
      have hnm := hm
      obtain ⟨b1, o1, A1, C1, rfl, hc1⟩ := hm (by omega)
      have c1 := (hc1 0 (by omega)).1
      rw [Nat.add_zero] at c1
      obtain ⟨m, hmm⟩ : ∃ m, (l.getD 0 []).length = m := ⟨_, rfl⟩
      rw [hmm] at c1 hw
      replace E1 := Lib.hid E1
      replace E2 := Lib.hid E2
      by_cases hal : m = n2
      · subst hal
        have hok : makeOk l u = tabIn (makeL l u) := by unfold makeOk; rw [hT, hTu, hmm, hu]; simp
        rw [hok]
        have HE3 := Lib.hid (fun (W : World) (hs : w.Since w.heap.size W) => l1Make_any (some ⟨b1, o1, none⟩) a2 cap cap2 n m l u W hn hu (hnm.since hs) (hmu.since hs) hTT hTTu hmm)
        have HTL := Lib.hid ((makeL_length l u).trans hn)
        have hszl := szL_make hTT hTTu
        clear hT hTu hsz hm hn hok hszu hmu hu hmm hc1 hTT hTTu hnm
        go_enter Try.func26, Try.ntmps26
        go_wp2_with fail
        refine (E1.out).mono ?_
        rintro e w1 ⟨rfl, hd⟩
        have hs1 := hd.since w.heap.size
        clear hd
        go_wp2_with fail
        refine (E2.out w1 hs1).mono ?_
        rintro e w2 ⟨rfl, hd⟩
        have hs2 := hs1.trans (hd.since _)
        clear hd
        have hcc := (hs2.cell (a := ⟨b1, o1, none⟩) (World.block_lt_of_cell? _ _ c1)).trans c1
        go_wp2_with fail
        refine (HE3.out w2 hs2).mono ?_
        rintro e w3 ⟨a3, cap3, rfl, hs3, ho3⟩
        have hz2 := hs2.size
        go_wp2_with fail
        refine (l1Done_any _ _ _ _ _ (makeL l u) w3 HTL.out hszl ho3.inT).mono ?_
        rintro e w4 ⟨a', cap', rfl, hs4, ho4⟩
        go_wp2
        go_ret2
        exact ⟨a', cap', rfl, (hs2.trans (since_mono hs3 hz2)).trans (since_mono hs4 (by have := hs3.size; omega)), ho4.mono hz2 (by have := hs4.size; omega)⟩
      · have hb : ((m : Int) != (n2 : Int)) = true := by simp; omega
        have hok : makeOk l u = false := by unfold makeOk; rw [hT, hTu, hmm, hu]; simp [hal]
        rw [hok]
        clear hT hTu hsz hm hn hok hszu hmu hu hmm hc1 hTT hTTu hnm hal
        go_enter Try.func26, Try.ntmps26
        go_wp2_with fail
        refine (E1.out).mono ?_
        rintro e w1 ⟨rfl, hd⟩
        have hs1 := hd.since w.heap.size
        clear hd
        go_wp2_with fail
        refine (E2.out w1 hs1).mono ?_
        rintro e w2 ⟨rfl, hd⟩
        have hs2 := hs1.trans (hd.since _)
        clear hd
        have hcc := (hs2.cell (a := ⟨b1, o1, none⟩) (World.block_lt_of_cell? _ _ c1)).trans c1
        go_wp2_with fail
        refine (l1None_any _).mono ?_
        rintro e w3 ⟨rfl, hs3⟩
        go_wp2
        go_ret2
        exact ⟨_, _, rfl, hs2.trans (since_mono hs3 hs2.size), InT.nil _ _ _ _⟩

theorem szL_makeOk (l u : List (List Int)) (h : makeOk l u = true) : szL (makeL l u) ≤ 1048576 := by
  unfold makeOk at h
  rw [Bool.and_eq_true, Bool.and_eq_true] at h
  exact szL_make (tabIn_of h.1) (tabIn_of h.2.1)

end Go.Proofs.Ythdemjfllfhhpaa
end

section
namespace Go.Proofs.Ythdemjfllfhhpaa
open Go.RowKit Go.Deep

def lacks (n U : Nat) : List Nat := (List.range n).filter fun k => !U.testBit k
def gam (U j : Nat) : Nat := (lacks 6 U).getD j 0
def sgU (U : Nat) : Int := sn (((List.range 6).filter fun k => U.testBit k).foldl (· + ·) 0 + popcS U * (popcS U - 1) / 2)

theorem lacks_len : ∀ n : Fin 7, ∀ U : Fin 64, U.val < 2 ^ n.val → (lacks n.val U.val).length + popcS U.val = n.val := by decide +kernel
theorem lacks_get : ∀ n : Fin 7, ∀ U : Fin 64, ∀ j : Fin 6, U.val < 2 ^ n.val → j.val + popcS U.val < n.val → (lacks n.val U.val).getD j.val 0 = gam U.val j.val ∧ gam U.val j.val < n.val ∧ U.val.testBit (gam U.val j.val) = false := by decide +kernel
theorem gam_or : ∀ U : Fin 64, ∀ j j' : Fin 6, j.val + popcS U.val < 6 → j'.val + popcS U.val + 1 < 6 → gam (U.val ||| 2 ^ gam U.val j.val) j'.val = gam U.val (skip j.val j'.val) := by decide +kernel
theorem sgU_or : ∀ U : Fin 64, ∀ j : Fin 6, j.val + popcS U.val < 6 → sn (popcS (U.val / 2 ^ gam U.val j.val)) * sgU (U.val ||| 2 ^ gam U.val j.val) = sgU U.val * sn j.val := by decide +kernel
theorem popcS_add : ∀ U : Fin 64, ∀ k : Fin 6, U.val.testBit k.val = false → popcS (U.val ||| 2 ^ k.val) = popcS U.val + 1 := by decide +kernel

theorem sumL_get (F : Nat → Int) : ∀ l : List Nat, (l.map F).foldr (· + ·) 0 = sumN (fun j => F (l.getD j 0)) l.length
  | [] => rfl
  | x :: xs => by
    rw [List.length_cons, sumN_first, List.map_cons, List.foldr_cons, sumL_get F xs]
    rfl
theorem sumL_snoc (l : List Int) (x : Int) : (l ++ [x]).foldr (· + ·) 0 = l.foldr (· + ·) 0 + x := by
  induction l with
  | nil => simp
  | cons y ys ih => simp only [List.cons_append, List.foldr_cons, ih]; omega
theorem sumN_lacks (F : Nat → Int) (U : Nat) : ∀ n, sumN (fun k => if U.testBit k then 0 else F k) n = ((lacks n U).map F).foldr (· + ·) 0
  | 0 => rfl
  | n + 1 => by
    have e : lacks (n + 1) U = lacks n U ++ (if U.testBit n then [] else [n]) := by
      unfold lacks
      rw [List.range_succ, List.filter_append]
      cases h : U.testBit n <;> simp [h]
    unfold sumN
    rw [sumN_lacks F U n, e]
    cases h : U.testBit n
    · simp only [Bool.false_eq_true, if_false, List.map_append, List.map_cons, List.map_nil, sumL_snoc]
    · simp

theorem ordF_dt (l : List (List Int)) {n : Nat} (hn : n ≤ 6) : ∀ (d U : Nat), U < 2 ^ n → popcS U + d = n → ordF l n d U = sgU U * dt d (fun i j => at2 l (n - d + i) (gam U j))
  | 0, U, hU, hp => by
    rw [ordF_zero, dt_zero]
    have h : ∀ n : Fin 7, ∀ U : Fin 64, U.val < 2 ^ n.val → popcS U.val = n.val → sgU U.val = 1 := by decide +kernel
    have p : 2 ^ n ≤ 2 ^ 6 := Nat.pow_le_pow_right (by omega) hn
    have := h ⟨n, by omega⟩ ⟨U, by omega⟩ hU (by simpa using hp)
    simp only at this
    rw [this]; rfl
  | d + 1, U, hU, hp => by
    have p : 2 ^ n ≤ 2 ^ 6 := Nat.pow_le_pow_right (by omega) hn
    have hlen := lacks_len ⟨n, by omega⟩ ⟨U, by omega⟩ hU
    simp only at hlen
    rw [ordF_succ, dt_succ, ← sumN_mul]
    have e0 : ∀ k, ordT l (n - (d + 1)) U (ordF l n d) k = if U.testBit k then 0 else sn (popcS (U / 2 ^ k)) * (at2 l (n - (d + 1)) k * ordF l n d (U ||| 2 ^ k)) := fun k => by
      unfold ordT
      split
      · rfl
      · rw [sg_sn]
    rw [sumN_congr n (fun k _ => e0 k), sumN_lacks (fun k => sn (popcS (U / 2 ^ k)) * (at2 l (n - (d + 1)) k * ordF l n d (U ||| 2 ^ k))), sumL_get, show (lacks n U).length = d + 1 by omega]
    refine sumN_congr _ fun j hj => ?_
    obtain ⟨g1, g2, g3⟩ := lacks_get ⟨n, by omega⟩ ⟨U, by omega⟩ ⟨j, by omega⟩ hU (by simp only; omega)
    simp only at g1 g2 g3
    have hs := sgU_or ⟨U, by omega⟩ ⟨j, by omega⟩ (by simp only; omega)
    have ha := popcS_add ⟨U, by omega⟩ ⟨gam U j, by omega⟩ g3
    simp only at hs ha
    rw [g1, ordF_dt l hn d (U ||| 2 ^ gam U j) (Nat.or_lt_two_pow hU (Nat.pow_lt_pow_right (by omega) g2)) (by omega)]
    have ed : dt d (fun i j' => at2 l (n - d + i) (gam (U ||| 2 ^ gam U j) j')) = dt d (dr j (fun i j => at2 l (n - (d + 1) + i) (gam U j))) := dt_congr d fun i j' _ hj' => by
      have := gam_or ⟨U, by omega⟩ ⟨j, by omega⟩ ⟨j', by omega⟩ (by simp only; omega) (by simp only; omega)
      simp only at this
      rw [this]
      show _ = at2 l (n - (d + 1) + (i + 1)) (gam U (skip j j'))
      rw [show n - (d + 1) + (i + 1) = n - d + i by omega]
    rw [ed, Nat.add_zero]
    generalize dt d (dr j (fun i j => at2 l (n - (d + 1) + i) (gam U j))) = D
    generalize at2 l (n - (d + 1)) (gam U j) = y
    rw [show sn (popcS (U / 2 ^ gam U j)) * (y * (sgU (U ||| 2 ^ gam U j) * D)) = (sn (popcS (U / 2 ^ gam U j)) * sgU (U ||| 2 ^ gam U j)) * (y * D) by grind, hs, Int.mul_assoc]
theorem gam_zero : ∀ j : Fin 6, gam 0 j.val = j.val := by decide +kernel
theorem ordF_all (l : List (List Int)) {n : Nat} (hn : n ≤ 6) : ordF l n n 0 = dt n (at2 l) := by
  rw [ordF_dt l hn n 0 (Nat.pow_pos (by omega)) (by have : popcS 0 = 0 := by decide
                                                    omega)]
  have h1 : sgU 0 = 1 := by decide +kernel
  rw [h1, Int.one_mul]
  refine dt_congr n fun i j hi hj => ?_
  have := gam_zero ⟨j, by omega⟩
  simp only at this
  rw [this, Nat.sub_self, Nat.zero_add]

end Go.Proofs.Ythdemjfllfhhpaa
end

section
namespace Go.Proofs.Ythdemjfllfhhpaa
open Go.RowKit Go.Deep

theorem sumN_more (f : Nat → Int) (n : Nat) : ∀ m, (∀ j, n ≤ j → j < n + m → f j = 0) → sumN f (n + m) = sumN f n
  | 0, _ => rfl
  | m + 1, h => by
    show sumN f (n + m) + f (n + m) = _
    rw [sumN_more f n m (fun j h1 h2 => h j h1 (by omega)), h (n + m) (by omega) (by omega)]
    omega
theorem sumN_one (f : Nat → Int) (k : Nat) : ∀ n, k < n → (∀ j, j < n → j ≠ k → f j = 0) → sumN f n = f k
  | 0, h, _ => by omega
  | n + 1, h, hz => by
    unfold sumN
    by_cases e : k = n
    · subst e
      rw [sumN_none k (fun j hj => hz j (by omega) (by omega))]; omega
    · rw [sumN_one f k n (by omega) (fun j hj hk => hz j (by omega) hk), hz n (by omega) (fun h => e h.symm)]; omega
theorem sumN_mulR (c : Int) (f : Nat → Int) (n : Nat) : sumN (fun j => f j * c) n = sumN f n * c := by
  rw [sumN_congr n (g := fun j => c * f j) (fun j _ => Int.mul_comm _ _), sumN_mul, Int.mul_comm]

theorem dt_block (m : Nat) : ∀ (n : Nat) (f : Nat → Nat → Int), (∀ i j, i < n → n ≤ j → j < n + m → f i j = 0) → dt (n + m) f = dt n f * dt m (fun i j => f (n + i) (n + j))
  | 0, f, _ => by
    rw [dt_zero, Int.one_mul, Nat.zero_add]
    exact dt_congr m fun i j _ _ => by rw [Nat.zero_add, Nat.zero_add]
  | n + 1, f, h => by
    rw [show n + 1 + m = (n + m) + 1 by omega, dt_succ, show n + m + 1 = (n + 1) + m by omega, sumN_more _ (n + 1) m (fun j h1 h2 => by rw [h 0 j (by omega) h1 h2]; simp), dt_succ, ← sumN_mulR]
    refine sumN_congr _ fun k hk => ?_
    rw [dt_block m n (dr k f) (fun i j h1 h2 h3 => by
      show f (i + 1) (skip k j) = 0
      rw [skip_ge (by omega)]
      exact h _ _ (by omega) (by omega) (by omega))]
    have e : dt m (fun i j => dr k f (n + i) (n + j)) = dt m (fun i j => f (n + 1 + i) (n + 1 + j)) := dt_congr m fun i j _ _ => by
      show f (n + i + 1) (skip k (n + j)) = _
      rw [skip_ge (by omega), show n + i + 1 = n + 1 + i by omega, show n + j + 1 = n + 1 + j by omega]
    rw [e, Int.mul_assoc, Int.mul_assoc]

theorem dt_addS {n r : Nat} (f : Nat → Nat → Int) (c : Nat → Int) (s : Nat → Nat) (hr : r < n) : ∀ k, (∀ m, m < k → s m < n ∧ s m ≠ r) → dt n (setR f r (fun j => f r j + sumN (fun m => c m * f (s m) j) k)) = dt n f
  | 0, _ => by
    rw [dt_congr n (g := f) (fun i j _ _ => by
      unfold setR
      split
      · rename_i h; rw [h]; simp [sumN]
      · rfl)]
  | k + 1, h => by
    have e : ∀ i j, setR f r (fun j => f r j + sumN (fun m => c m * f (s m) j) (k + 1)) i j = setR f r (fun j => 1 * (f r j + sumN (fun m => c m * f (s m) j) k) + c k * f (s k) j) i j := fun i j => by
      unfold setR
      split
      · show f r j + (sumN (fun m => c m * f (s m) j) k + c k * f (s k) j) = 1 * (f r j + sumN (fun m => c m * f (s m) j) k) + c k * f (s k) j
        omega
      · rfl
    obtain ⟨h1, h2⟩ := h k (by omega)
    rw [dt_congr n (fun i j _ _ => e i j), dt_lin n r f 1 (c k) _ _ hr, dt_addS f c s hr k (fun m hm => h m (by omega)), dt_sameR (setR f r (fun j => f (s k) j)) (Ne.symm h2) hr h1 (fun j _ => by unfold setR; rw [if_pos rfl, if_neg h2])]
    omega

def mulF (n : Nat) (A B : Nat → Nat → Int) (i j : Nat) : Int := sumN (fun m => A i m * B m j) n
def oneF (i j : Nat) : Int := if i = j then 1 else 0
def blk (n : Nat) (A B : Nat → Nat → Int) (i j : Nat) : Int := if i < n then (if j < n then A i j else 0) else (if j < n then (if i - n = j then -1 else 0) else B (i - n) (j - n))
def blkT (n : Nat) (A B : Nat → Nat → Int) (t i j : Nat) : Int := if i < t then (if j < n then 0 else mulF n A B i (j - n)) else blk n A B i j
theorem dt_blkT (n : Nat) (A B : Nat → Nat → Int) : ∀ t, t ≤ n → dt (n + n) (blkT n A B t) = dt (n + n) (blk n A B)
  | 0, _ => dt_congr _ fun i j _ _ => by unfold blkT; rw [if_neg (by omega)]
  | t + 1, ht => by
    rw [← dt_blkT n A B t (by omega), ← dt_addS (blkT n A B t) (A t) (fun m => n + m) (show t < n + n by omega) n (fun m hm => ⟨by omega, by omega⟩)]
    refine dt_congr _ fun i j _ hj => ?_
    unfold setR
    by_cases hi : i = t
    · subst hi
      rw [if_pos rfl]
      have e1 : blkT n A B (i + 1) i j = if j < n then 0 else mulF n A B i (j - n) := if_pos (by omega)
      have e2 : blkT n A B i i j = if j < n then A i j else 0 := by unfold blkT blk; rw [if_neg (by omega), if_pos (by omega)]
      have e3 : ∀ m, blkT n A B i (n + m) j = if j < n then (if m = j then -1 else 0) else B m (j - n) := fun m => by unfold blkT blk; rw [if_neg (by omega), if_neg (by omega), Nat.add_sub_cancel_left]
      show _ = blkT n A B i i j + sumN (fun m => A i m * blkT n A B i (n + m) j) n
      rw [e1, e2]
      by_cases hjn : j < n
      · rw [if_pos hjn, if_pos hjn, sumN_one (fun m => A i m * blkT n A B i (n + m) j) j n hjn (fun m _ hmj => by rw [e3, if_pos hjn, if_neg hmj]; simp), e3, if_pos hjn, if_pos rfl]
        omega
      · rw [if_neg hjn, if_neg hjn, Int.zero_add]
        exact sumN_congr n fun m _ => by rw [e3, if_neg hjn]
    · rw [if_neg hi]
      unfold blkT
      by_cases h1 : i < t
      · rw [if_pos (by omega), if_pos h1]
      · rw [if_neg (by omega), if_neg h1]
def colT (n t j : Nat) : Nat := if j < t then n + j else if n ≤ j ∧ j < n + t then j - n else j
theorem dt_colT (n : Nat) (f : Nat → Nat → Int) : ∀ t, t ≤ n → dt (n + n) (fun i j => f i (colT n t j)) = sn t * dt (n + n) f
  | 0, _ => by
    rw [sn_zero, Int.one_mul]
    exact dt_congr _ fun i j _ _ => by
      congr 1
      unfold colT
      rw [if_neg (by omega), if_neg (by omega)]
  | t + 1, ht => by
    have h := dt_exC (fun i j => f i (colT n t j)) (show t ≠ n + t by omega) (show t < n + n by omega) (show n + t < n + n by omega)
    rw [dt_colT n f t (by omega)] at h
    rw [sn_succ]
    have e : dt (n + n) (fun i j => f i (colT n (t + 1) j)) = dt (n + n) (fun i j => f i (colT n t (ex t (n + t) j))) := dt_congr _ fun i j _ _ => by
      congr 1
      unfold colT ex
      repeat (first | split | omega)
    rw [e, h]
    grind
theorem dt_oneF : ∀ n, dt n oneF = 1
  | 0 => rfl
  | n + 1 => by
    rw [dt_corner oneF (fun i _ => if_neg (by omega)), show oneF 0 0 = 1 from rfl, Int.one_mul]
    rw [dt_congr n (g := oneF) (fun i j _ _ => by unfold oneF; by_cases h : i = j <;> simp [h])]
    exact dt_oneF n
theorem pw_neg : ∀ n, pw (-1) n = sn n
  | 0 => rfl
  | n + 1 => by rw [sn_succ, ← pw_neg n]; show -1 * pw (-1) n = _; omega
theorem dt_mul (n : Nat) (A B : Nat → Nat → Int) : dt n (mulF n A B) = dt n A * dt n B := by
  have h1 : dt (n + n) (blk n A B) = dt n A * dt n B := by
    rw [dt_block n n (blk n A B) (fun i j h1 h2 _ => by unfold blk; rw [if_pos h1, if_neg (by omega)])]
    congr 1
    · exact dt_congr n fun i j hi hj => by unfold blk; rw [if_pos hi, if_pos hj]
    · exact dt_congr n fun i j _ _ => by unfold blk; rw [if_neg (by omega), if_neg (by omega), Nat.add_sub_cancel_left, Nat.add_sub_cancel_left]
  have h2 := dt_colT n (blkT n A B n) n (Nat.le_refl _)
  rw [dt_blkT n A B n (Nat.le_refl _), h1] at h2
  have h3 : dt (n + n) (fun i j => blkT n A B n i (colT n n j)) = dt n (mulF n A B) * sn n := by
    rw [dt_block n n _ (fun i j h1 h2 h3 => by
      show blkT n A B n i (colT n n j) = 0
      have ec : colT n n j = j - n := by unfold colT; rw [if_neg (by omega), if_pos ⟨h2, h3⟩]
      rw [ec]
      unfold blkT
      rw [if_pos h1, if_pos (by omega)])]
    congr 1
    · refine dt_congr n fun i j hi hj => ?_
      show blkT n A B n i (colT n n j) = _
      have ec : colT n n j = n + j := by unfold colT; rw [if_pos hj]
      rw [ec]
      unfold blkT
      rw [if_pos hi, if_neg (by omega), Nat.add_sub_cancel_left]
    · rw [dt_congr n (g := fun i j => -1 * oneF i j) (fun i j hi hj => by
        show blkT n A B n (n + i) (colT n n (n + j)) = _
        have ec : colT n n (n + j) = j := by unfold colT; rw [if_neg (by omega), if_pos (by omega), Nat.add_sub_cancel_left]
        rw [ec]
        unfold blkT blk oneF
        rw [if_neg (show ¬ n + i < n by omega), if_neg (show ¬ n + i < n by omega), if_pos hj, Nat.add_sub_cancel_left]
        by_cases e : i = j <;> simp [e]), dt_scale (-1) n oneF, dt_oneF, pw_neg]
      omega
  rw [h3] at h2
  have h4 := sn_sq n
  have h5 : dt n (mulF n A B) * (sn n * sn n) = sn n * sn n * (dt n A * dt n B) := by grind
  rw [h4] at h5
  omega

def selN (s n i : Nat) : Nat := ((sel s n n).map (·.1)).getD i 0
theorem pickTo_at (c : Nat) (x : List Int) (m j : Nat) (hj : j < (sel c m m).length) : (pickTo c x m m).getD j 0 = x.getD (selN c m j) 0 := by
  unfold pickTo selN
  simp [List.getD, hj]
theorem partL_at (l : List (List Int)) (s c : Nat) {i j : Nat} (hi : i < (sel s l.length l.length).length) (hj : j < (sel c (l.getD 0 []).length (l.getD 0 []).length).length) :
    at2 (partL l s c) i j = at2 l (selN s l.length i) (selN c (l.getD 0 []).length j) := by
  have e1 : (partL l s c).getD i [] = pickTo c (l.getD (selN s l.length i) []) (l.getD 0 []).length (l.getD 0 []).length := by
    unfold partL partRows selN
    simp [List.getD, hi]
  unfold at2
  rw [e1, pickTo_at _ _ _ _ hj]
theorem selN_but : ∀ n : Fin 7, ∀ k : Fin 6, ∀ j : Fin 6, k.val < n.val → j.val + 1 < n.val → selN (2 ^ n.val - 1 - 2 ^ k.val) n.val j.val = skip k.val j.val := by decide +kernel
theorem sel_but_len : ∀ n : Fin 7, ∀ k : Fin 6, k.val < n.val → (sel (2 ^ n.val - 1 - 2 ^ k.val) n.val n.val).length + 1 = n.val := by decide +kernel
theorem partL_but {l : List (List Int)} {n r k i j : Nat} (hn : l.length = n) (hw : (l.getD 0 []).length = n) (h6 : n ≤ 6) (hr : r < n) (hk : k < n) (hi : i + 1 < n) (hj : j + 1 < n) :
    at2 (partL l (2 ^ n - 1 - 2 ^ r) (2 ^ n - 1 - 2 ^ k)) i j = at2 l (skip r i) (skip k j) := by
  have l1 := sel_but_len ⟨n, by omega⟩ ⟨r, by omega⟩ hr
  have l2 := sel_but_len ⟨n, by omega⟩ ⟨k, by omega⟩ hk
  simp only at l1 l2
  rw [partL_at l _ _ (by rw [hn]; omega) (by rw [hw]; omega), hn, hw]
  have e1 := selN_but ⟨n, by omega⟩ ⟨r, by omega⟩ ⟨i, by omega⟩ hr hi
  have e2 := selN_but ⟨n, by omega⟩ ⟨k, by omega⟩ ⟨j, by omega⟩ hk hj
  simp only at e1 e2
  rw [e1, e2]
theorem rowF_dt : ∀ (d : Nat) (l : List (List Int)), SqD d l → rowF d l = dt d (at2 l)
  | 0, _, _ => rfl
  | d + 1, l, h => by
    obtain ⟨hT, hw⟩ := h.2 (by omega)
    have h6 := hT.2.1
    have hn := h.1
    rw [rowF_succ, dt_succ]
    refine sumN_congr _ fun k hk => ?_
    rw [sg_sn, rowF_dt d _ (minor_sq h hk)]
    have e : dt d (at2 (minorL l (d + 1) k)) = dt d (dr k (at2 l)) := dt_congr d fun i j hi hj => by
      have := partL_but (r := 0) (k := k) (i := i) (j := j) hn hw (by omega) (by omega) hk (by omega) (by omega)
      exact this
    rw [e]

end Go.Proofs.Ythdemjfllfhhpaa
end

section
namespace Go.Proofs.Ythdemjfllfhhpaa
open Go.RowKit Go.Deep

theorem makeOk_of {l u : List (List Int)} (h : makeOk l u = true) : TabIn l ∧ TabIn u ∧ (l.getD 0 []).length = u.length ∧ TabIn (makeL l u) := by
  unfold makeOk at h
  simp only [Bool.and_eq_true] at h
  exact ⟨tabIn_of h.1, tabIn_of h.2.1, by simpa using h.2.2.1, tabIn_of h.2.2.2⟩
theorem makeL_len (l u : List (List Int)) : (makeL l u).length = l.length := tabF_length _ _ _
theorem makeL_wid {l u : List (List Int)} (h : 0 < l.length) : ((makeL l u).getD 0 []).length = (u.getD 0 []).length := tabF_len _ _ _ _ h
theorem makeL_at2 {l u : List (List Int)} {i k : Nat} (hi : i < l.length) (hk : k < (u.getD 0 []).length) : at2 (makeL l u) i k = sumN (dotF l u i k) u.length := tabF_at _ _ _ i k hi hk
theorem sqB_true {l : List (List Int)} (h : TabIn l) (hw : l.length = (l.getD 0 []).length) : sqB l = true := by unfold sqB; rw [tabIn_true h, ← hw]; simp
theorem trace_make {l u : List (List Int)} (h : makeOk l u = true) (h2 : makeOk u l = true) : sqB (makeL l u) = true ∧ sqB (makeL u l) = true ∧ sumN (trF (makeL l u)) (makeL l u).length = sumN (trF (makeL u l)) (makeL u l).length := by
  obtain ⟨hT, hU, hw, hM⟩ := makeOk_of h
  obtain ⟨_, _, hw2, hM2⟩ := makeOk_of h2
  have h1 := hT.1
  have g1 := hU.1
  refine ⟨sqB_true hM (by rw [makeL_len, makeL_wid h1, hw2]), sqB_true hM2 (by rw [makeL_len, makeL_wid g1, hw]), ?_⟩
  rw [makeL_len, makeL_len]
  have e1 : sumN (trF (makeL l u)) l.length = sumN (fun i => sumN (fun j => at2 l i j * at2 u j i) u.length) l.length := sumN_congr _ fun i hi => makeL_at2 hi (by omega)
  have e2 : sumN (trF (makeL u l)) u.length = sumN (fun i => sumN (fun j => at2 u i j * at2 l j i) l.length) u.length := sumN_congr _ fun i hi => makeL_at2 hi (by omega)
  rw [e1, e2, sumN_comm]
  exact sumN_congr _ fun i _ => sumN_congr _ fun j _ => Int.mul_comm _ _
theorem value_make {l u : List (List Int)} (h : makeOk l u = true) (hl : sqB l = true) (hu : sqB u = true) : sqB (makeL l u) = true ∧ ordF (makeL l u) (makeL l u).length (makeL l u).length 0 = ordF l l.length l.length 0 * ordF u u.length u.length 0 := by
  obtain ⟨hT, hU, hw, hM⟩ := makeOk_of h
  obtain ⟨_, hl2⟩ := sqB_of hl
  obtain ⟨_, hu2⟩ := sqB_of hu
  have h1 := hT.1
  have h6 := hT.2.1
  have hn : u.length = l.length := by omega
  refine ⟨sqB_true hM (by rw [makeL_len, makeL_wid h1]; omega), ?_⟩
  rw [makeL_len, hn, ordF_all _ h6, ordF_all _ h6, ordF_all _ h6, ← dt_mul]
  exact dt_congr _ fun i j hi hj => by rw [makeL_at2 hi (by omega), hn]; rfl

end Go.Proofs.Ythdemjfllfhhpaa
end

section
namespace Go.Proofs.Ythdemjfllfhhpaa
open Go.RowKit Go.Deep Go.Shelf

theorem sets_seqE (n : Nat) (hn : 2 ≤ n) (Bn Bk N k M : Nat) (hN : N ≤ 6) (hM : 2 ^ N = M) (w : World) (h1 : Bn < w.heap.size) (h2 : Bk < w.heap.size)
    (hBn : w.cell? ⟨Bn, 0, none⟩ = some (.int .i64 N)) (hBk : w.cell? ⟨Bk, 0, none⟩ = some (.int .i64 k)) :
    SeqE Fence.wide n Try.prog 140 #[.pointer (some ⟨Bn, 0, none⟩), .pointer (some ⟨Bk, 0, none⟩)] (fun x : Nat => #[Value.int .i64 (x : Int)]) (fun x _ => x < M ∧ popcS x = k) (fun q => q = Bn ∨ q = Bk) (fun ys => ys = setsTo k M) (fun _ => True) M w := by
  intro l J Jx own W hW hown hJ hJx hY hj
  refine CallsIn.mono (sets1_in n hn l Bn Bk N k M hN hM (Kp2 Bn Bk) (fun _ _ h => h)
    (fun pre W => J pre W ∧ W.cell? ⟨Bn, 0, none⟩ = some (.int .i64 N) ∧ W.cell? ⟨Bk, 0, none⟩ = some (.int .i64 k)) (fun pre W => Jx pre W) (fun s V hV => ?_) (fun pre x V hV hp hx hk => ?_) W
    ((hW.cell (p := ⟨Bn, 0, none⟩) h1).trans hBn) ((hW.cell (p := ⟨Bk, 0, none⟩) h2).trans hBk) ⟨hj, (hW.cell (p := ⟨Bn, 0, none⟩) h1).trans hBn, (hW.cell (p := ⟨Bk, 0, none⟩) h2).trans hBk⟩) ?_
  · exact ⟨hJ s V V.drew none hV.1 ⟨rfl, rfl, rfl, Nat.le_refl _, fun _ _ _ => rfl⟩ (fun r e => by cases e), hV.2.1, hV.2.2⟩
  · have hl : pre.length < M := by
      rw [hp]
      have := setsTo_len k x
      omega
    obtain ⟨hjv, c1, c2⟩ := hV
    obtain ⟨fn, tmps, assign, body, hy, hR⟩ := hY pre x V hjv ⟨hx, hk⟩ hl
    refine ⟨fn, tmps, assign, body, hy, hR.mono ?_⟩
    rintro e W' (⟨r1, r2, r3⟩ | ⟨r1, r2, _⟩)
    · have d1 := r3.cell (a := ⟨Bn, 0, none⟩) (fun h => (hown _ h).2 (.inl rfl)) c1
      have d2 := r3.cell (a := ⟨Bk, 0, none⟩) (fun h => (hown _ h).2 (.inr rfl)) c2
      exact .inl ⟨r1, ⟨r2, d1, d2⟩, d1.trans c1.symm, d2.trans c2.symm⟩
    · exact .inr ⟨r1, r2⟩
  · rintro e W' ⟨r1, (⟨zs, rfl, hj2⟩ | ⟨pre, _, hj2⟩)⟩
    · exact ⟨r1, .inl ⟨_, rfl, hj2.1⟩⟩
    · exact ⟨r1, .inr ⟨_, trivial, hj2⟩⟩

end Go.Proofs.Ythdemjfllfhhpaa
end

section
namespace Go.Proofs.Ythdemjfllfhhpaa
open Go.RowKit Go.Deep

theorem OwnT.but {lo hi rb : Nat} {w w' : World} {a : Option Addr} {l : List (List Int)} (h : OwnT lo hi w a l) (hb : rb < lo) (hg : w.grownBy w' (some rb)) : MatR w' a l := by
  intro h0
  obtain ⟨b, A, G, C, e, hbl, hr, _⟩ := h h0
  have hc : ∀ (x k : Nat) (v : Value), lo ≤ x → w.cell? ⟨x, k, none⟩ = some v → w'.cell? ⟨x, k, none⟩ = some v := fun x k v hx hv =>
    (World.cell?_of_block (a := ⟨x, k, none⟩) (hg.block x (World.block_lt_of_cell? _ _ hv) (by intro e; injection e with e; omega))).trans hv
  refine ⟨b, 0, A, C, e, fun r hrl => ?_⟩
  obtain ⟨c1, c2⟩ := hr r hrl
  rw [Nat.zero_add]
  refine ⟨hc _ _ _ hbl.1 c1, fun hp => ?_⟩
  obtain ⟨eA, hG, c3⟩ := c2 hp
  exact ⟨G r, 0, eA, fun i hi => by rw [Nat.zero_add]; exact hc _ _ _ hG.1 (c3 i hi).1⟩

theorem since_map (w : World) : w.Since w.heap.size (w.alloc (.map #[] 0)) := (World.Since.refl w.heap.size w).alloc (Nat.le_refl _) _

def mnP (l : List (List Int)) (x : Nat × Nat) : Int := dt (popcS x.1) (at2 (partL l x.1 x.2))

set_option maxRecDepth 100000 in
set_option maxHeartbeats 1000000 in
theorem minor_any (a : Option Addr) (cap n m r c : Nat) (l : List (List Int)) (w : World) (hn : l.length = n) (hmm : (l.getD 0 []).length = m) (hT : TabIn l) (hr : r < 2 ^ n) (hc : c < 2 ^ m) (hpc : popcS r = popcS c) (hm : MatR w a l) :
    Calls Try.prog 60 #[.slice a n cap, .int .i64 r, .int .i64 c] w fun e w' => e = .returned (.int .i64 (mnP l (r, c))) ∧ w.Since w.heap.size w' := by
  have h6 := hT.2.1
  have hw := hT.width
  rw [hn] at h6
  rw [hmm] at hw
  have hp6 : 2 ^ n ≤ 2 ^ 6 := Nat.pow_le_pow_right (by omega) h6
  have hp6' : 2 ^ m ≤ 2 ^ 6 := Nat.pow_le_pow_right (by omega) hw.2
  have hsq := part_sq hT (s := r) (c := c) (by rw [hn]; exact hr) (by rw [hmm]; exact hc) hpc
  have EP := part_any a cap n r c l (w.alloc (.map #[] 0)) hn hT (by omega) (by omega) (hm.since (since_map w))
  rw [hsq.1] at EP
  have EV := fun (a2 : Option Addr) (c2 : Nat) (V : World) (h : MatR V a2 (partL l r c)) => byPivots_any (popcS r) (partL l r c) a2 c2 V hsq (popcS_le r) h
  have hv : mnP l (r, c) = dt (popcS r) (at2 (partL l r c)) := rfl
  rw [hv]
  obtain ⟨L, hL⟩ : ∃ L, L = partL l r c := ⟨_, rfl⟩
  obtain ⟨k, hk⟩ : ∃ k, k = popcS r := ⟨_, rfl⟩
  simp only [← hk] at EP EV ⊢
  simp only [← hL] at EP EV ⊢
  obtain ⟨x, hx⟩ : ∃ x, x = dt k (at2 L) := ⟨_, rfl⟩
  simp only [← hx] at EV ⊢
  replace EP := Lib.hid EP
  replace EV := Lib.hid EV
  have hmk := @run_makeMap Try.prog
  clear hn hmm hT hr hc hpc hm h6 hw hp6 hp6' hsq hv hL hk hx
  go_enter Try.func60, Try.ntmps60
  go_wp2_with fail
  refine (EP.out).mono ?_
  rintro e w3 ⟨a3, c3, rfl, hs3, ho3⟩
  have HR := Lib.hid ((roads_made w).kept (grown_of_since (row := none) hs3) (by simp))
  have HS3 := Lib.hid ((since_map w).trans (since_mono hs3 (by simp)))
  have HA := Lib.hid (anyValue_of w.heap.size a3 k c3 x w3 HR.out (fun W' hg => EV.out a3 c3 W' (ho3.but (rb := w.heap.size) (by simp) hg)))
  have HSP := Lib.hid (fun (w4 : World) (hg : w3.grownBy w4 (some w.heap.size)) => (show w.Since w.heap.size w4 from ⟨hg.os.trans HS3.out.os, hg.tape.trans HS3.out.tape, hg.output.trans HS3.out.output, Nat.le_trans HS3.out.size hg.size, fun j hj => (hg.block j (Nat.lt_of_lt_of_le hj HS3.out.size) (by intro e; injection e with e; omega)).trans (HS3.out.block j hj)⟩))
  clear hs3 ho3
  go_wp2_with fail
  refine (HA.out).mono ?_
  rintro e w4 ⟨rfl, hg, hr⟩
  have HS4 := Lib.hid (HSP.out w4 hg)
  clear hg hr
  go_wp2
  go_ret
  exact ⟨rfl, HS4.out⟩

end Go.Proofs.Ythdemjfllfhhpaa
end

section
namespace Go.Proofs.Ythdemjfllfhhpaa
open Go.RowKit Go.Deep

def prow (k m : Nat) (r : Nat) : List (Nat × Nat) := (setsTo k (2 ^ m)).map fun c => (r, c)
def partsK (k n m : Nat) : List (Nat × Nat) := (setsTo k (2 ^ n)).flatMap (prow k m)
def partsTo (n m : Nat) : Nat → List (Nat × Nat)
  | 0 => []
  | j + 1 => partsTo n m j ++ partsK (j + 1) n m
def partsA (n m : Nat) : List (Nat × Nat) := partsTo n m (min n m)
theorem partsK_mem {k n m : Nat} {x : Nat × Nat} : x ∈ partsK k n m ↔ (x.1 < 2 ^ n ∧ popcS x.1 = k) ∧ (x.2 < 2 ^ m ∧ popcS x.2 = k) := by
  unfold partsK prow
  rw [List.mem_flatMap]
  constructor
  · rintro ⟨r, hr, hx⟩
    rw [List.mem_map] at hx
    obtain ⟨c, hc, rfl⟩ := hx
    exact ⟨(setsTo_mem k).1 hr, (setsTo_mem k).1 hc⟩
  · rintro ⟨h1, h2⟩
    exact ⟨x.1, (setsTo_mem k).2 h1, List.mem_map.2 ⟨x.2, (setsTo_mem k).2 h2, rfl⟩⟩
theorem partsTo_mem {n m : Nat} {x : Nat × Nat} : ∀ j, x ∈ partsTo n m j ↔ 1 ≤ popcS x.1 ∧ popcS x.1 ≤ j ∧ popcS x.1 = popcS x.2 ∧ x.1 < 2 ^ n ∧ x.2 < 2 ^ m
  | 0 => by
    show x ∈ [] ↔ _
    simp only [List.not_mem_nil, false_iff]
    omega
  | j + 1 => by
    show x ∈ partsTo n m j ++ partsK (j + 1) n m ↔ _
    rw [List.mem_append, partsTo_mem j, partsK_mem]
    omega
theorem popcP_fin : ∀ n : Fin 7, ∀ s : Fin 64, s.val < 2 ^ n.val → popcS s.val ≤ n.val := by decide +kernel
theorem popcP_pos_fin : ∀ s : Fin 64, s.val ≠ 0 → 1 ≤ popcS s.val := by decide +kernel
theorem popcP_le {n s : Nat} (h6 : n ≤ 6) (h : s < 2 ^ n) : popcS s ≤ n := by
  have p1 : 2 ^ n ≤ 2 ^ 6 := Nat.pow_le_pow_right (by omega) h6
  exact popcP_fin ⟨n, by omega⟩ ⟨s, by omega⟩ h
theorem popcP_pos {n s : Nat} (h6 : n ≤ 6) (h : s < 2 ^ n) (h0 : s ≠ 0) : 1 ≤ popcS s := by
  have p1 : 2 ^ n ≤ 2 ^ 6 := Nat.pow_le_pow_right (by omega) h6
  exact popcP_pos_fin ⟨s, by omega⟩ h0
theorem popcP_zero : popcS 0 = 0 := by decide
theorem partsA_mem {n m : Nat} (hn : n ≤ 6) (hm : m ≤ 6) {x : Nat × Nat} : x ∈ partsA n m ↔ x.1 ≠ 0 ∧ popcS x.1 = popcS x.2 ∧ x.1 < 2 ^ n ∧ x.2 < 2 ^ m := by
  unfold partsA
  rw [partsTo_mem]
  constructor
  · rintro ⟨h1, _, h2, h3, h4⟩
    exact ⟨fun e => by rw [e, popcP_zero] at h1; omega, h2, h3, h4⟩
  · rintro ⟨h1, h2, h3, h4⟩
    have := popcP_pos hn h3 h1
    have := popcP_le hn h3
    have := popcP_le hm h4
    exact ⟨by omega, by omega, h2, h3, h4⟩
def leastB (l : List (List Int)) (q : Int) (ps : List (Nat × Nat)) : Bool := ps.all fun x => decide (q ≤ mnP l x)
theorem leastB_snoc (l : List (List Int)) (q : Int) (ps : List (Nat × Nat)) (x : Nat × Nat) : leastB l q (ps ++ [x]) = (leastB l q ps && decide (q ≤ mnP l x)) := by
  unfold leastB; rw [List.all_append]; simp
theorem leastB_iff {l : List (List Int)} {q : Int} {ps : List (Nat × Nat)} : leastB l q ps = true ↔ ∀ x ∈ ps, q ≤ mnP l x := by
  unfold leastB; rw [List.all_eq_true]; simp
theorem leastB_no {l : List (List Int)} {q : Int} {ps : List (Nat × Nat)} {x : Nat × Nat} (hx : x ∈ ps) (h : mnP l x < q) : leastB l q ps = false := by
  cases e : leastB l q ps with
  | false => rfl
  | true => have := leastB_iff.1 e x hx; omega
def runS (f k : Nat) : Nat := (2 ^ k - 1) * 2 ^ f
theorem runS_fin : ∀ k f : Fin 7, k.val + f.val ≤ 6 → popcS (runS f.val k.val) = k.val ∧ runS f.val k.val < 2 ^ (k.val + f.val) ∧ (k.val ≠ 0 → runS f.val k.val ≠ 0) := by decide +kernel
def firstRow (m i : Nat) : List (Nat × Nat) := (List.range m).map fun k => (runS (i + 1 - (min i k + 1)) (min i k + 1), runS (k + 1 - (min i k + 1)) (min i k + 1))
def partsF (n m : Nat) : List (Nat × Nat) := (List.range n).flatMap (firstRow m)
theorem partsF_mem {n m : Nat} {x : Nat × Nat} : x ∈ partsF n m ↔ ∃ i k, i < n ∧ k < m ∧ x = (runS (i + 1 - (min i k + 1)) (min i k + 1), runS (k + 1 - (min i k + 1)) (min i k + 1)) := by
  unfold partsF firstRow
  rw [List.mem_flatMap]
  constructor
  · rintro ⟨i, hi, hx⟩
    rw [List.mem_map] at hx
    obtain ⟨k, hk, rfl⟩ := hx
    exact ⟨i, k, List.mem_range.1 hi, List.mem_range.1 hk, rfl⟩
  · rintro ⟨i, k, hi, hk, rfl⟩
    exact ⟨i, List.mem_range.2 hi, List.mem_map.2 ⟨k, List.mem_range.2 hk, rfl⟩⟩
theorem first_part {n m i k : Nat} (hn : n ≤ 6) (hm : m ≤ 6) (hi : i < n) (hk : k < m) : popcS (runS (i + 1 - (min i k + 1)) (min i k + 1)) = min i k + 1 ∧ popcS (runS (k + 1 - (min i k + 1)) (min i k + 1)) = min i k + 1 ∧ runS (i + 1 - (min i k + 1)) (min i k + 1) < 2 ^ n ∧ runS (k + 1 - (min i k + 1)) (min i k + 1) < 2 ^ m ∧ runS (i + 1 - (min i k + 1)) (min i k + 1) ≠ 0 := by
  have h1 := runS_fin ⟨min i k + 1, by omega⟩ ⟨i + 1 - (min i k + 1), by omega⟩ (by simp only; omega)
  have h2 := runS_fin ⟨min i k + 1, by omega⟩ ⟨k + 1 - (min i k + 1), by omega⟩ (by simp only; omega)
  simp only at h1 h2
  have e1 : min i k + 1 + (i + 1 - (min i k + 1)) = i + 1 := by omega
  have e2 : min i k + 1 + (k + 1 - (min i k + 1)) = k + 1 := by omega
  rw [e1] at h1
  rw [e2] at h2
  have p1 : 2 ^ (i + 1) ≤ 2 ^ n := Nat.pow_le_pow_right (by omega) (by omega)
  have p2 : 2 ^ (k + 1) ≤ 2 ^ m := Nat.pow_le_pow_right (by omega) (by omega)
  exact ⟨h1.1, h2.1, by omega, by omega, h1.2.2 (by omega)⟩
theorem partsF_ok {n m : Nat} (hn : n ≤ 6) (hm : m ≤ 6) {x : Nat × Nat} (hx : x ∈ partsF n m) : popcS x.1 = popcS x.2 ∧ x.1 < 2 ^ n ∧ x.2 < 2 ^ m ∧ x.1 ≠ 0 := by
  obtain ⟨i, k, hi, hk, rfl⟩ := partsF_mem.1 hx
  obtain ⟨h1, h2, h3, h4, h5⟩ := first_part hn hm hi hk
  exact ⟨h1.trans h2.symm, h3, h4, h5⟩
theorem partsF_len (n m : Nat) : (partsF n m).length = n * m := by
  unfold partsF firstRow
  rw [List.length_flatMap]
  simp only [List.length_map, List.length_range]
  induction n with
  | zero => simp
  | succ n ih => rw [List.range_succ, List.map_append, List.sum_append, ih, Nat.succ_mul]; simp
theorem prow_len (k m r : Nat) : (prow k m r).length ≤ 2 ^ m := by unfold prow; rw [List.length_map]; exact setsTo_len k _

end Go.Proofs.Ythdemjfllfhhpaa
end

section
namespace Go.Proofs.Ythdemjfllfhhpaa
open Go.RowKit Go.Deep Go.Shelf
attribute [local go_sem] Oper.semAt_some

theorem room_any (k : Nat) : Fence.wide.room k := fun d h => by cases h
theorem yieldAt_any {m m' : Nat} {P : Program} {l : Nat} {args : Array Value} {W : World} {R : Ending → World → Prop} (h : YieldAt Fence.wide m P l args W R) : YieldAt Fence.wide m' P l args W R := by
  obtain ⟨fn, tmps, assign, body, hy, hR⟩ := h
  exact ⟨fn, tmps, assign, body, hy, hR.1, fun c cs _ => hR.2 c cs (room_any _)⟩

theorem step_append_fitsG {P : Program} (w : World) {ops : Array Oper} {o : Oper} {a : Act} {K : Act → World → Prop} {Q : Exit → Act → World → Prop} {E : Prop} (hw : Region.wanted o (yielded ops a.tmps) = true) (s x : Operand) (t : TypeId)
    (hop : o.op = Op.call { callee := Callee.builtin Builtin.append, args := #[s, x], argTypes := #[t, t] })
    (base : Nat) (e : TypeId) (i : TypeInfo) (size : Nat) (h1 : P.underlying t = some (.slice e)) (h2 : P.info? e = some i) (h4 : i.size = size)
    (g k cap : Nat) (xs : List Value) (hs : a.eval s = .slice (some ⟨g, 0, none⟩) k cap) (hown : w.ownsRow base e size (.slice (some ⟨g, 0, none⟩) k cap) k xs) (ad : Addr) (m c : Nat) (news : List Value) (hx : a.eval x = .slice (some ad) m c) (hn : news.length = m * size)
    (hc : ∀ j u, news[j]? = some u → w.cell? (ad.add j) = some u) (h1c : ∀ u ∈ news, u.oneCell' = true) (b1 : k + m ≤ cap)
    (hK : ∀ w', w'.ownsRow base e size (.slice (some ⟨g, 0, none⟩) (k + m) cap) (k + m) (xs ++ news) → w.grownBy w' (some g) → K (a.put o.dst (.slice (some ⟨g, 0, none⟩) (k + m) cap)) w') :
    if Region.wanted o (yielded ops a.tmps) = true then Oper.wp P o a w K Q else E := by
  rw [if_pos hw]
  obtain ⟨w', hrun, r1, r2⟩ := run_append_fits (P := P) w base t o.type e i size h1 h2 h4 g k cap xs hown ad m c news hn hc h1c b1
  unfold Oper.wp
  simp [execOp, hop, resolve, invoke, builtin, hs, hx, hrun, Result.andThen]
  exact hK w' r1 r2

theorem grown_drewC (w : World) (n : Nat) : w.grownBy (w.drewN n) none := ⟨rfl, rfl, rfl, Nat.le_refl _, fun _ _ _ => rfl⟩
theorem undrew {a b : World} {row : Option Nat} (h : a.drew.grownBy b row) : a.grownBy b row := ⟨h.os, h.tape, h.output, h.size, h.block⟩

theorem map_snd {α : Type} (g : Nat) (L : List α) : (([] : List (Nat × α)) ++ L.map (Prod.mk g)).map (fun x => x.2) = L := by
  rw [List.nil_append]
  induction L with
  | nil => rfl
  | cons x L ih => rw [List.map_cons, List.map_cons, ih]

theorem since_rowC {w X Y : World} {row : Option Nat} (h : w.Since w.heap.size X) (hg : X.grownBy Y row) (hr : ∀ r, row = some r → w.heap.size ≤ r) : w.Since w.heap.size Y :=
  ⟨hg.os.trans h.os, hg.tape.trans h.tape, hg.output.trans h.output, Nat.le_trans h.size hg.size, fun k hk => (hg.block k (by have := h.size; omega) (fun e => by have := hr k e.symm; omega)).trans (h.block k hk)⟩

end Go.Proofs.Ythdemjfllfhhpaa
end

section
namespace Go.Proofs.Ythdemjfllfhhpaa
open Go.RowKit Go.Deep Go.Shelf
attribute [local go_sem] Oper.semAt_some

def OldT (n₀ : Nat) (w0 W : World) : Prop := ∀ k, k < n₀ → W.heap[k]? = w0.heap[k]?
theorem OldT.cell {n₀ : Nat} {w0 W : World} (h : OldT n₀ w0 W) {a : Addr} (ha : a.block < n₀) : W.cell? a = w0.cell? a := World.cell?_of_block (h _ ha)
theorem OldT.grown {n₀ : Nat} {w0 X Y : World} {row : Option Nat} (h : OldT n₀ w0 X) (hz : n₀ ≤ X.heap.size) (hg : X.grownBy Y row) (hr : ∀ r, row = some r → n₀ ≤ r) : OldT n₀ w0 Y :=
  fun k hk => (hg.block k (by omega) (fun e => by have := hr k e.symm; omega)).trans (h k hk)
theorem OldT.keeps {n₀ : Nat} {w0 X Y : World} {own : Nat → Prop} (h : OldT n₀ w0 X) (hz : n₀ ≤ X.heap.size) (hk : Keeps own X Y) (ho : ∀ k, own k → n₀ ≤ k) : OldT n₀ w0 Y := fun k hlt => by
  have hx : k < X.heap.size := by omega
  have e := hk.same k X.heap[k] (fun o => by have := ho k o; omega) (Array.getElem?_eq_getElem hx)
  rw [e, ← h k hlt]
  exact (Array.getElem?_eq_getElem hx).symm
theorem MatR.oldT {w0 W : World} {a : Option Addr} {l : List (List Int)} (h : MatR w0 a l) (ho : OldT w0.heap.size w0 W) : MatR W a l := by
  intro h0
  obtain ⟨b, o, A, C, e, hc⟩ := h h0
  refine ⟨b, o, A, C, e, fun r hr => ?_⟩
  obtain ⟨c1, c2⟩ := hc r hr
  refine ⟨(ho.cell (World.block_lt_of_cell? _ _ c1)).trans c1, fun hp => ?_⟩
  obtain ⟨b', o', e', c3⟩ := c2 hp
  exact ⟨b', o', e', fun i hi => (ho.cell (World.block_lt_of_cell? _ _ (c3 i hi))).trans (c3 i hi)⟩
theorem Keeps.fromB {own : Nat → Prop} {A X Y : World} {row : Option Nat} (h : Keeps own A X) (hg : X.grownBy Y row) (hr : ∀ r, row = some r → A.heap.size ≤ r) : Keeps own A Y :=
  ⟨Nat.le_trans h.size hg.size, fun k o hk ho => (hg.block k (Array.getElem?_eq_some_iff.1 (h.same k o hk ho)).1 (fun e => by have := hr k e.symm; have := (Array.getElem?_eq_some_iff.1 ho).1; omega)).trans (h.same k o hk ho)⟩
theorem boxed_put {W : World} {B l : Nat} {t : TypeId} {v : Value} {o o' : Obj} (h : Boxed W B t v) (hl : W.heap[l]? = some o) (ho : o.isCells = false) : Boxed (W.putObj l o') B t v :=
  h.kept (grownBy_putObj' W l o') (fun e => by
    have e' : B = l := by injection e
    subst e'
    have h' : W.heap[B]? = _ := h
    rw [h'] at hl
    cases hl
    cases ho)

structure KB (n₀ : Nat) (w0 : World) (Bt Bk By lp : Nat) (a : Option Addr) (n cap : Nat) (k : Nat) (X : World) : Prop where
  bt : X.cell? ⟨Bt, 0, none⟩ = some (.slice a n cap)
  bk : X.cell? ⟨Bk, 0, none⟩ = some (.int .i64 (k : Int))
  yb : X.cell? ⟨By, 0, none⟩ = some (.func (.yield lp) #[] #[])
  old : OldT n₀ w0 X
theorem cell_own {X Y : World} {row : Option Nat} {b B : Nat} {v : Value} (h : X.cell? ⟨b, 0, none⟩ = some v) (hb : b < B) (hg : X.grownBy Y row) (hr : ∀ r, row = some r → B ≤ r) : Y.cell? ⟨b, 0, none⟩ = some v :=
  (World.cell?_of_block (a := ⟨b, 0, none⟩) (hg.block b (World.block_lt_of_cell? _ _ h) (fun e => by have := hr b e.symm; omega))).trans h
theorem KB.grown {n₀ : Nat} {w0 : World} {Bt Bk By lp : Nat} {a : Option Addr} {n cap k : Nat} {X Y : World} {row : Option Nat} {B : Nat} (h : KB n₀ w0 Bt Bk By lp a n cap k X) (hz : n₀ ≤ X.heap.size) (h1 : n₀ ≤ B ∧ Bt < B ∧ Bk < B ∧ By < B) (hg : X.grownBy Y row) (hr : ∀ r, row = some r → B ≤ r) : KB n₀ w0 Bt Bk By lp a n cap k Y :=
  ⟨cell_own h.bt h1.2.1 hg hr, cell_own h.bk h1.2.2.1 hg hr, cell_own h.yb h1.2.2.2 hg hr, h.old.grown hz hg (fun r e => by have := hr r e; omega)⟩
theorem KB.keeps {n₀ : Nat} {w0 : World} {Bt Bk By lp : Nat} {a : Option Addr} {n cap k : Nat} {X Y : World} {own : Nat → Prop} (h : KB n₀ w0 Bt Bk By lp a n cap k X) (hz : n₀ ≤ X.heap.size) (hk : Keeps own X Y) (ho : ∀ q, own q → n₀ ≤ q ∧ q ≠ Bt ∧ q ≠ Bk ∧ q ≠ By) : KB n₀ w0 Bt Bk By lp a n cap k Y :=
  ⟨hk.cell (a := ⟨Bt, 0, none⟩) (fun e => (ho _ e).2.1 rfl) h.bt, hk.cell (a := ⟨Bk, 0, none⟩) (fun e => (ho _ e).2.2.1 rfl) h.bk, hk.cell (a := ⟨By, 0, none⟩) (fun e => (ho _ e).2.2.2 rfl) h.yb, h.old.keeps hz hk (fun q e => (ho q e).1)⟩

theorem grown_drewP {a b : World} {row : Option Nat} (h : a.grownBy b row) : a.grownBy b.drew row := ⟨h.os, h.tape, h.output, h.size, h.block⟩
def encP (x : Nat × Nat) : Array Value := #[.int .i64 (x.1 : Int), .int .i64 (x.2 : Int)]

theorem kthParts_in (f : Nat) (a : Option Addr) (n cap : Nat) (k : Int) (w : World) :
    CallsIn Fence.wide f Try.prog 119 #[.slice a n cap, .int .i64 k] w fun e w' => e = .returned (.func (.func 129) #[] #[.pointer (some ⟨w.heap.size, 0, none⟩), .pointer (some ⟨w.heap.size + 1, 0, none⟩)]) ∧ w' = (w.alloc (.cells #[.slice a n cap] 48)).alloc (.cells #[.int .i64 k] 3) := by
  refine callsIn_of_wp Try.func119 rfl trivial ?_ rfl
  simp only [Try.ntmps119, List.size_toArray, List.length_cons, List.length_nil, Nat.reduceAdd, Nat.reduceSub, Array.replicate_succ, Array.replicate_zero, List.push_toArray, List.append_toArray, List.nil_append, List.cons_append]
  gi_wp2
  go_ret
  exact ⟨rfl, by simp⟩

theorem flat_len (k m : Nat) (hm : m ≤ 6) : ∀ rs : List Nat, (rs.flatMap (prow k m)).length ≤ rs.length * 64
  | [] => by simp
  | r :: rs => by
    have h1 := flat_len k m hm rs
    have h2 := prow_len k m r
    have p : 2 ^ m ≤ 2 ^ 6 := Nat.pow_le_pow_right (by omega) hm
    rw [List.flatMap_cons, List.length_append, List.length_cons, Nat.succ_mul]
    omega
theorem flat_snoc (k m : Nat) (rs : List Nat) (r : Nat) : (rs ++ [r]).flatMap (prow k m) = rs.flatMap (prow k m) ++ prow k m r := by simp

set_option maxRecDepth 100000 in
set_option maxHeartbeats 2000000 in
theorem kth_seqE (f : Nat) (hf : 12 ≤ f) (Bt Bk n m cap k : Nat) (a : Option Addr) (l : List (List Int)) (w0 w : World) (hn : l.length = n) (hT : TabIn l) (hmm : (l.getD 0 []).length = m) (hm : MatR w0 a l) (hold : OldT w0.heap.size w0 w) (_hz0 : w0.heap.size ≤ w.heap.size) (hBt : w0.heap.size ≤ Bt) (hBk : w0.heap.size ≤ Bk) (ct : w.cell? ⟨Bt, 0, none⟩ = some (.slice a n cap)) (ck : w.cell? ⟨Bk, 0, none⟩ = some (.int .i64 (k : Int))) :
    SeqE Fence.wide f Try.prog 129 #[.pointer (some ⟨Bt, 0, none⟩), .pointer (some ⟨Bk, 0, none⟩)] encP (fun x _ => x ∈ partsK k n m) (fun q => q < w0.heap.size ∨ q = Bt ∨ q = Bk) (fun ys => ys = partsK k n m) (fun _ => True) 4096 w := by
  intro lp J Jx own W hW hown hJ hJx hY hj
  have h6 := hT.2.1
  have h1 := hT.1
  have hw := hT.width
  rw [hn] at h6 h1
  rw [hmm] at hw
  have lt := World.block_lt_of_cell? _ _ ct
  have lk := World.block_lt_of_cell? _ _ ck
  simp only at lt lk
  have c1 := (hW.cell (p := ⟨Bt, 0, none⟩) lt).trans ct
  have c2 := (hW.cell (p := ⟨Bk, 0, none⟩) lk).trans ck
  have hWz := hW.size
  have hOW : OldT w0.heap.size w0 W := fun q hq => (hW.block q (by omega)).trans (hold q hq)
  have hso : ∀ q, own q → w0.heap.size ≤ q ∧ q ≠ Bt ∧ q ≠ Bk ∧ q < W.heap.size := fun q hq => by
    obtain ⟨g1, g2⟩ := hown q hq
    exact ⟨by
      by_cases e : q < w0.heap.size
      · exact absurd (.inl e) g2
      · omega, fun e => g2 (.inr (.inl e)), fun e => g2 (.inr (.inr e)), g1⟩
  have EW := fun (V : World) (h : OldT w0.heap.size w0 V) => width_any a cap n l V hn (by omega) (by omega) (hm.oldT h)
  rw [hmm] at EW
  replace EW := Lib.hid EW
  have p6 : 2 ^ n ≤ 2 ^ 6 := Nat.pow_le_pow_right (by omega) h6
  have p6' : 2 ^ m ≤ 2 ^ 6 := Nat.pow_le_pow_right (by omega) hw.2
  clear hold ct ck hm hmm hT
  refine callsIn_of_wp_marks Try.func129 rfl trivial ?_ rfl
  simp only [Try.ntmps129, List.size_toArray, List.length_cons, List.length_nil, Nat.reduceAdd, Nat.reduceSub, Array.replicate_succ, Array.replicate_zero, List.push_toArray, List.append_toArray, List.nil_append, List.cons_append]
  have c1 : (W.alloc (.cells #[.func (.yield lp) #[] #[]] 51)).cell? ⟨Bt, 0, none⟩ = _ := cell_alloc_l _ c1
  have c2 : (W.alloc (.cells #[.func (.yield lp) #[] #[]] 51)).cell? ⟨Bk, 0, none⟩ = _ := cell_alloc_l _ c2
  have y0 : (W.alloc (.cells #[.func (.yield lp) #[] #[]] 51)).cell? ⟨W.heap.size, 0, none⟩ = _ := (cell_new_l W _ _).1
  gi_wp2_with (refine ⟨trivial, fun _ => by omega, ?_⟩; gi_at_call 130; refine (sets_in _ _ _ _).mono ?_; rintro e w' ⟨rfl, rfl⟩)
  have hbn := (cell_new_l (W.alloc (.cells #[.func (.yield lp) #[] #[]] 51)) (.int .i64 n) 3).1
  have c3 := cell_alloc_l (.cells #[.int .i64 (k : Int)] 3) (cell_alloc_l (.cells #[.int .i64 (n : Int)] 3) c1)
  have c4 := cell_alloc_l (.cells #[.int .i64 (k : Int)] 3) (cell_alloc_l (.cells #[.int .i64 (n : Int)] 3) c2)
  have y3 := cell_alloc_l (.cells #[.int .i64 (k : Int)] 3) (cell_alloc_l (.cells #[.int .i64 (n : Int)] 3) y0)
  have hbn := cell_alloc_l (.cells #[.int .i64 (k : Int)] 3) hbn
  have hbk := (cell_new_l ((W.alloc (.cells #[.func (.yield lp) #[] #[]] 51)).alloc (.cells #[.int .i64 (n : Int)] 3)) (.int .i64 (k : Int)) 3).1
  have hg2 := ((World.grownBy_alloc W (.cells #[.func (.yield lp) #[] #[]] 51) none).trans (World.grownBy_alloc _ (.cells #[.int .i64 (n : Int)] 3) none)).trans (World.grownBy_alloc _ (.cells #[.int .i64 (k : Int)] 3) none)
  have hjV := hJ.alloc (.cells #[.int .i64 (k : Int)] 3) (hJ.alloc (.cells #[.int .i64 (n : Int)] 3) (hJ.alloc (.cells #[.func (.yield lp) #[] #[]] 51) hj))
  have zV : (((W.alloc (.cells #[.func (.yield lp) #[] #[]] 51)).alloc (.cells #[.int .i64 (n : Int)] 3)).alloc (.cells #[.int .i64 (k : Int)] 3)).heap.size = W.heap.size + 3 := by simp
  simp only [World.size_alloc] at hbn hbk
  obtain ⟨V, hV⟩ : ∃ V, ((W.alloc (.cells #[.func (.yield lp) #[] #[]] 51)).alloc (.cells #[.int .i64 (n : Int)] 3)).alloc (.cells #[.int .i64 (k : Int)] 3) = V := ⟨_, rfl⟩
  rw [hV] at hbn hbk c3 c4 y3 hg2 hjV zV ⊢
  clear hV c1 c2 y0
  have hKV : KB w0.heap.size w0 Bt Bk W.heap.size lp a n cap k V := ⟨c3, c4, y3, hOW.grown (by omega) hg2 (fun r e => by cases e)⟩
  have hB : ∀ X : World, V.heap.size ≤ X.heap.size → w0.heap.size ≤ X.heap.size := fun X h => by omega
  have hBB : w0.heap.size ≤ V.heap.size ∧ Bt < V.heap.size ∧ Bk < V.heap.size ∧ W.heap.size < V.heap.size := by omega
  have hso4 : ∀ q, own q → w0.heap.size ≤ q ∧ q ≠ Bt ∧ q ≠ Bk ∧ q ≠ W.heap.size := fun q hq => by have := hso q hq; omega
  refine rangeF (F := Fence.wide) (n := f) rfl (by omega) (gf := 140) (lb := #[.pointer (some ⟨W.heap.size + 1, 0, none⟩), .pointer (some ⟨W.heap.size + 1 + 1, 0, none⟩)]) rfl trivial (enters_of Try.func140 (by kernel_rfl) rfl)
    (sets_seqE (f - 1) (by omega) (W.heap.size + 1) (W.heap.size + 1 + 1) n k (2 ^ n) h6 rfl V (by omega) (by omega) hbn hbk) (fun _ => rfl) own (fun q hq => ⟨by have := hso q hq; omega, by have := hso q hq; omega⟩) (by rintro q (rfl | rfl) <;> omega)
    (fun (rs : List Nat) X => J (rs.flatMap (prow k m)) X ∧ KB w0.heap.size w0 Bt Bk W.heap.size lp a n cap k X ∧ V.heap.size ≤ X.heap.size)
    (fun c _ X => c = .ret ∧ ∃ q, Jx q X)
    (fun rs X Y row hs hg hr => ⟨hJ _ X Y row hs.1 hg (fun r e => by have := hr r e; omega), hs.2.1.grown (hB _ hs.2.2) hBB hg hr, Nat.le_trans hs.2.2 hg.size⟩)
    (fun c rs X Y row hs hg hr => ⟨hs.1, by
      obtain ⟨q, hq⟩ := hs.2
      exact ⟨q, hJx _ X Y row hq hg (fun r e => by have := hr r e; omega)⟩⟩)
    ⟨hjV, hKV, Nat.le_refl _⟩
    (fun x a' X => ∃ Bx, V.heap.size ≤ Bx ∧ Boxed X Bx 3 (.int .i64 (x : Int)) ∧ a' = { tmps := #[.func (.yield lp) #[] #[], .pointer (some ⟨Bt, 0, none⟩), .pointer (some ⟨Bk, 0, none⟩), .pointer (some ⟨W.heap.size, 0, none⟩), .pointer (some ⟨Bx, 0, none⟩), undef, .slice a n cap, .int .i64 n, .int .i64 k, .func (.func 140) #[] #[.pointer (some ⟨W.heap.size + 1, 0, none⟩), .pointer (some ⟨W.heap.size + 1 + 1, 0, none⟩)], .int .i64 (x : Int), undef, undef, undef, undef, undef, undef, undef, undef, undef, undef], defers := [] })
    (fun x a' X lq o o' hA hl ho => by obtain ⟨Bx, e1, e2, e3⟩ := hA; exact ⟨Bx, e1, boxed_put e2 hl ho, e3⟩)
    ?assign ?body ?done ?stop
  case assign =>
    rintro lq rs x X K hzX hi _ hK
    gi_wp2
    exact hK _ _ (Keeps.grown (World.grownBy_alloc _ _ none) (fun r e => by cases e)) ⟨hJ.alloc _ hi.1, hi.2.1.grown (hB _ hi.2.2) hBB (World.grownBy_alloc _ _ none) (fun r e => by cases e), by rw [World.size_alloc]; have := hi.2.2; omega⟩ ⟨X.heap.size, hi.2.2, Boxed.new X 3 _, rfl⟩
  case body =>
    rintro lq rs x a' X hlq hzX ⟨r, hr⟩ ⟨hjx, hKX, _⟩ ⟨hxl, hxk⟩ ⟨Bx, hBx, bX, rfl⟩ hlen
    have hmix : Try.prog.follows .mixedOrders = true := by kernel_rfl
    have cT : X.drew.cell? ⟨Bt, 0, none⟩ = _ := hKX.bt
    have cK : X.drew.cell? ⟨Bk, 0, none⟩ = _ := hKX.bk
    have hbx := bX.lt
    have HKX := Lib.hid hKX
    gi_wp2
    gi_region_with_o (first
      | (refine ⟨trivial, fun _ => by omega, ?_⟩; gi_at_call 58; refine (CallsIn.inRound lq (callsIn_wide.2 (EW.out X.drew HKX.out.old))).mono ?_; rintro e w' ⟨rfl, rfl⟩)
      | (refine ⟨trivial, fun _ => by omega, ?_⟩; gi_at_call 130; refine (CallsIn.inRound lq (sets_in _ _ _ _)).mono ?_; rintro e w' ⟨rfl, rfl⟩))
    all_goals
      gi_wp2
      have hgV : X.grownBy ((X.alloc (.cells #[.int .i64 (m : Int)] 3)).alloc (.cells #[.int .i64 (k : Int)] 3)).drew none := grown_drewP ((World.grownBy_alloc X (.cells #[.int .i64 (m : Int)] 3) none).trans (World.grownBy_alloc _ (.cells #[.int .i64 (k : Int)] 3) none))
      have bN2 : ((X.alloc (.cells #[.int .i64 (m : Int)] 3)).alloc (.cells #[.int .i64 (k : Int)] 3)).drew.cell? ⟨X.heap.size, 0, none⟩ = some (.int .i64 (m : Int)) := cell_alloc_l (.cells #[.int .i64 (k : Int)] 3) (cell_new_l X (.int .i64 (m : Int)) 3).1
      have bK2 : ((X.alloc (.cells #[.int .i64 (m : Int)] 3)).alloc (.cells #[.int .i64 (k : Int)] 3)).drew.cell? ⟨X.heap.size + 1, 0, none⟩ = some (.int .i64 (k : Int)) := by
        have := (cell_new_l (X.alloc (.cells #[.int .i64 (m : Int)] 3)) (.int .i64 (k : Int)) 3).1
        rw [World.size_alloc] at this
        exact this
      have zX : ((X.alloc (.cells #[.int .i64 (m : Int)] 3)).alloc (.cells #[.int .i64 (k : Int)] 3)).drew.heap.size = X.heap.size + 2 := by
        show ((X.alloc (.cells #[.int .i64 (m : Int)] 3)).alloc (.cells #[.int .i64 (k : Int)] 3)).heap.size = _
        simp
      obtain ⟨U, hU⟩ : ∃ U, ((X.alloc (.cells #[.int .i64 (m : Int)] 3)).alloc (.cells #[.int .i64 (k : Int)] 3)).drew = U := ⟨_, rfl⟩
      rw [hU] at bN2 bK2 hgV zX ⊢
      clear hU cT cK
      have hrU : U.heap[lq]? = some (.loop r) := (hgV.block lq (Array.getElem?_eq_some_iff.1 hr).1 (by simp)).trans hr
      have hKU := hKX.grown (hB _ hzX) hBB hgV (fun r e => by cases e)
      have hBU : w0.heap.size ≤ U.heap.size ∧ Bt < U.heap.size ∧ Bk < U.heap.size ∧ W.heap.size < U.heap.size := by omega
      have hfl := flat_len k m hw.2 rs
      refine rangeN (F := Fence.wide.inRound lq) (n := f - 1 - 1) (l₀ := lq) (r₀ := r) rfl hrU (by omega) (gf := 140) (lb := #[.pointer (some ⟨X.heap.size, 0, none⟩), .pointer (some ⟨X.heap.size + 1, 0, none⟩)]) rfl trivial (enters_of Try.func140 (by kernel_rfl) rfl)
        (SeqE.inRound lq (sets_seqE (f - 1 - 1 - 1) (by omega) X.heap.size (X.heap.size + 1) m k (2 ^ m) hw.2 rfl U (by omega) (by omega) bN2 bK2)) (fun _ => rfl) own (fun q hq => ⟨by have := hso q hq; omega, by have := hso q hq; omega⟩) (by rintro q (rfl | rfl) <;> omega)
        (fun (cs : List Nat) Y => (J (rs.flatMap (prow k m) ++ cs.map (fun c => (x, c))) Y ∧ KB w0.heap.size w0 Bt Bk W.heap.size lp a n cap k Y ∧ Boxed Y Bx 3 (.int .i64 (x : Int))) ∧ Keeps own X Y ∧ U.heap.size ≤ Y.heap.size)
        (fun c _ Y => c = .ret ∧ (∃ q, Jx q Y) ∧ Keeps own X Y)
        (fun cs Y Z row hs hg hr => ⟨⟨hJ _ Y Z row hs.1.1 hg (fun r e => by have := hr r e; omega), hs.1.2.1.grown (by have := hs.2.2; omega) hBU hg hr, hs.1.2.2.kept hg (fun e => by have := hr _ e.symm; omega)⟩, hs.2.1.fromB hg (fun r e => by have := hr r e; omega), Nat.le_trans hs.2.2 hg.size⟩)
        (fun c cs Y Z row hs hg hr => ⟨hs.1, by
          obtain ⟨q, hq⟩ := hs.2.1
          exact ⟨q, hJx _ Y Z row hq hg (fun r e => by have := hr r e; omega)⟩, hs.2.2.fromB hg (fun r e => by have := hr r e; omega)⟩)
        ⟨⟨by rw [List.map_nil, List.append_nil]; exact hJ _ X U none hjx hgV (fun r e => by cases e), hKU, bX.kept hgV (by simp)⟩, Keeps.grown hgV (fun r e => by cases e), Nat.le_refl _⟩
        (fun y a'' _ => a'' = { tmps := #[.func (.yield lp) #[] #[], .pointer (some ⟨Bt, 0, none⟩), .pointer (some ⟨Bk, 0, none⟩), .pointer (some ⟨W.heap.size, 0, none⟩), .pointer (some ⟨Bx, 0, none⟩), .int .i64 (y : Int), .slice a n cap, .int .i64 n, .int .i64 k, .func (.func 140) #[] #[.pointer (some ⟨W.heap.size + 1, 0, none⟩), .pointer (some ⟨W.heap.size + 1 + 1, 0, none⟩)], .int .i64 (x : Int), .slice a n cap, .int .i64 m, .int .i64 k, .func (.func 140) #[] #[.pointer (some ⟨X.heap.size, 0, none⟩), .pointer (some ⟨X.heap.size + 1, 0, none⟩)], .int .i64 (y : Int), undef, undef, undef, undef, undef], defers := [] })
        (fun _ _ _ _ _ _ hA _ _ => hA)
        ?assign2 ?body2 ?done2 ?stop2
      case assign2 =>
        rintro l3 cs y Y K _ hi _ hK
        gi_wp2
        exact hK _ _ (Keeps.refl _ _) hi rfl
      case body2 =>
        rintro l3 cs y a'' Y hl3 hzY _ ⟨⟨hjy, hKY, bY⟩, hkY, _⟩ ⟨hyl, hyk⟩ rfl hlen2
        have cX := bY.cell
        have cY := hKY.yb
        have hl4 : (rs.flatMap (prow k m) ++ cs.map (fun c => (x, c))).length < 4096 := by
          rw [List.length_append, List.length_map]
          have : rs.length * 64 ≤ 63 * 64 := Nat.mul_le_mul_right 64 (by omega)
          omega
        obtain ⟨fn, tmps, assign, body, hy, hR⟩ := yieldAt_any (m' := f - 1 - 1 - 1 - 1 - 1) (hY _ (x, y) Y hjy (partsK_mem.2 ⟨⟨hxl, hxk⟩, hyl, hyk⟩) hl4)
        dsimp only [encP] at hy
        have HKEEP := Lib.hid (show ∀ Z, Keeps own Y Z → Keeps own X Z ∧ KB w0.heap.size w0 Bt Bk W.heap.size lp a n cap k Z ∧ Boxed Z Bx 3 (.int .i64 (x : Int)) ∧ U.heap.size ≤ Z.heap.size from fun Z hk =>
          ⟨hkY.trans hk, hKY.keeps (by omega) hk hso4, hk.same _ _ (fun h => by have := hso _ h; omega) bY, by have := hk.size; omega⟩)
        clear hjy hKY bY hkY
        gi_wp2
        refine ⟨fun h => by omega, ?_⟩
        refine RoundIn.mono (F := (Fence.wide.inRound lq).inRound l3) hR ?_
        rintro e W3 (⟨rfl, hJ3, hk3⟩ | ⟨rfl, hx3, hk3⟩)
        · obtain ⟨q1, q2, q3, q4⟩ := HKEEP.out _ hk3
          gi_wp2
          exact ⟨hk3, ⟨⟨by rw [List.map_append, ← List.append_assoc]; exact hJ3, q2, q3⟩, q1, q4⟩⟩
        · obtain ⟨q1, q2, q3, q4⟩ := HKEEP.out _ hk3
          gi_wp2
          exact ⟨hk3, rfl, ⟨_, hx3⟩, q1⟩
      case done2 =>
        rintro cs Y rfl ⟨⟨hjy, hKY, bY⟩, hkY, hzY⟩
        gi_wp2
        exact ⟨hkY, by rw [flat_snoc]; exact hjy, hKY, by omega⟩
      case stop2 =>
        rintro c cs Y _ ⟨rfl, hq, hkY⟩
        gi_wp2
        exact ⟨hkY, rfl, hq⟩
  case done =>
    rintro D rs X hD hS ⟨hjx, _, _⟩ hK
    subst hS
    have hjz := hJ.put (.deferred none) hjx (show W.heap.size ≤ D by omega)
    gi_wp2
    show LeavesInM _ _ _ _ _ _ _ _ _
    refine ⟨by simp, .inl ⟨_, _, rfl, run_takeDeferred hK, ?_⟩⟩
    refine ⟨.tuple #[], ?_, ⟨_, rfl⟩, .inl ⟨_, rfl, hjz⟩⟩
    simp [results, Try.f129, go_sem]
  case stop =>
    rintro D c rs X hD _ ⟨rfl, q, hq⟩ hK
    have hjz := hJx.put (.deferred none) hq (show W.heap.size ≤ D by omega)
    gi_wp2
    show LeavesInM _ _ _ _ _ _ _ _ _
    refine ⟨by simp, .inl ⟨_, _, rfl, run_takeDeferred hK, ?_⟩⟩
    refine ⟨.tuple #[], ?_, ⟨_, rfl⟩, .inr ⟨q, trivial, hjz⟩⟩
    simp [results, Try.f129, go_sem]

end Go.Proofs.Ythdemjfllfhhpaa
end

section
namespace Go.Proofs.Ythdemjfllfhhpaa
open Go.RowKit Go.Deep Go.Shelf

attribute [local go_sem] Oper.semAt_some

def hasR (l : List (List Int)) (k M2 : Nat) (r : Nat) : Bool := (setsTo k M2).any fun c => decide (dt k (at2 (partL l r c)) ≠ 0)
def hasB (l : List (List Int)) (k M1 M2 : Nat) : Bool := (setsTo k M1).any (hasR l k M2)
theorem hasB_yes {l : List (List Int)} {k n m : Nat} {x : Nat × Nat} (hx : x ∈ partsK k n m) (h : mnP l x ≠ 0) : hasB l k (2 ^ n) (2 ^ m) = true := by
  obtain ⟨⟨g1, g2⟩, g3⟩ := partsK_mem.1 hx
  refine List.any_eq_true.2 ⟨x.1, (setsTo_mem k).2 ⟨g1, g2⟩, List.any_eq_true.2 ⟨x.2, (setsTo_mem k).2 g3, ?_⟩⟩
  unfold mnP at h
  rw [g2] at h
  simpa using h
theorem hasB_no {l : List (List Int)} {k n m : Nat} (h : ∀ x ∈ partsK k n m, mnP l x = 0) : hasB l k (2 ^ n) (2 ^ m) = false := by
  cases e : hasB l k (2 ^ n) (2 ^ m) with
  | false => rfl
  | true =>
    obtain ⟨r, hr, e2⟩ := List.any_eq_true.1 e
    obtain ⟨c, hc, e3⟩ := List.any_eq_true.1 e2
    have g1 := (setsTo_mem k).1 hr
    have g2 := (setsTo_mem k).1 hc
    have := h (r, c) (partsK_mem.2 ⟨g1, g2⟩)
    unfold mnP at this
    rw [show popcS (r, c).1 = k from g1.2] at this
    exact absurd this (of_decide_eq_true e3)

theorem oldT_since {w W : World} (h : w.Since w.heap.size W) : OldT w.heap.size w W := fun k hk => h.block k hk
theorem grownSH {w w' : World} (h : w.Since w.heap.size w') : w.grownBy w' none := ⟨h.os, h.tape, h.output, h.size, fun k hk _ => h.block k hk⟩
structure HS (w : World) (tv : Value) (W : World) : Prop where
  bt : Boxed W w.heap.size 48 tv
  br : Boxed W (w.heap.size + 1) 4 (.bool false)
  sn : w.Since w.heap.size W
theorem since_row {lo : Nat} {w W W' : World} {row : Option Nat} (h : w.Since lo W) (hlo : lo ≤ w.heap.size) (hg : W.grownBy W' row) (hr : ∀ r, row = some r → lo ≤ r) : w.Since lo W' :=
  ⟨hg.os.trans h.os, hg.tape.trans h.tape, hg.output.trans h.output, Nat.le_trans h.size hg.size, fun k hk => (hg.block k (by have := h.size; omega) (fun e => by have := hr k e.symm; omega)).trans (h.block k hk)⟩
theorem HS.kept {w W W' : World} {tv : Value} {row : Option Nat} (h : HS w tv W) (hg : W.grownBy W' row) (hr : ∀ r, row = some r → w.heap.size + 2 ≤ r) : HS w tv W' :=
  ⟨h.bt.kept hg (fun e => by have := hr _ e.symm; omega), h.br.kept hg (fun e => by have := hr _ e.symm; omega), since_row h.sn (Nat.le_refl _) hg (fun r e => by have := hr r e; omega)⟩

set_option maxRecDepth 100000 in
set_option maxHeartbeats 2000000 in
theorem hasMinor_any (a : Option Addr) (cap n m k : Nat) (l : List (List Int)) (w : World) (hn : l.length = n) (hmm : (l.getD 0 []).length = m) (hT : TabIn l) (hm : MatR w a l) :
    Calls Try.prog 105 #[.slice a n cap, .int .i64 k] w fun e w' => e = .returned (.bool (hasB l k (2 ^ n) (2 ^ m))) ∧ w.Since w.heap.size w' := by
  have HSEQ := Lib.hid (fun (g : Nat) (hg : 12 ≤ g) (Bt' Bk' : Nat) (V : World) => kth_seqE g hg Bt' Bk' n m cap k a l w V hn hT hmm hm)
  have EM := Lib.hid (fun (x : Nat × Nat) (hx : x ∈ partsK k n m) (V : World) (h : w.Since w.heap.size V) => minor_any a cap n m x.1 x.2 l V hn hmm hT (partsK_mem.1 hx).1.1 (partsK_mem.1 hx).2.1 ((partsK_mem.1 hx).1.2.trans (partsK_mem.1 hx).2.2.symm) (hm.since h))
  clear hn hmm hT hm
  refine (callsIn_wide (n := 20)).1 ?_
  refine callsIn_of_wp_marks Try.func105 rfl trivial ?_ rfl
  simp only [Try.ntmps105, List.size_toArray, List.length_cons, List.length_nil, Nat.reduceAdd, Nat.reduceSub, Array.replicate_succ, Array.replicate_zero, List.push_toArray, List.append_toArray, List.nil_append, List.cons_append]
  gi_wp2_with (refine ⟨trivial, ?_⟩; gi_at_call 119; refine (kthParts_in _ _ _ _ _ _).mono ?_; rintro e w' ⟨rfl, rfl⟩)
  have hb0 := Boxed.new w 48 (.slice a n cap)
  have hr0 := Boxed.new (w.alloc (.cells #[.slice a n cap] 48)) 4 (.bool false)
  rw [World.size_alloc] at hr0
  have hS0 : HS w (.slice a n cap) ((w.alloc (.cells #[.slice a n cap] 48)).alloc (.cells #[.bool false] 4)) := ⟨hb0.alloc _, hr0, ((World.Since.refl _ w).alloc (Nat.le_refl _) _).alloc (by simp) _⟩
  obtain ⟨w2, hw2⟩ : ∃ W, (w.alloc (.cells #[.slice a n cap] 48)).alloc (.cells #[.bool false] 4) = W := ⟨_, rfl⟩
  have z2 : w2.heap.size = w.heap.size + 1 + 1 := by rw [← hw2]; simp
  rw [hw2] at hS0 ⊢
  clear hw2 hb0 hr0
  have bt := cell_alloc_l (.cells #[.int .i64 (k : Int)] 3) (cell_new_l w2 (.slice a n cap) 48).1
  have bk := (cell_new_l (w2.alloc (.cells #[.slice a n cap] 48)) (.int .i64 (k : Int)) 3).1
  have hg := (World.grownBy_alloc w2 (.cells #[.slice a n cap] 48) none).trans (World.grownBy_alloc _ (.cells #[.int .i64 (k : Int)] 3) none)
  have hS1 := hS0.kept hg (fun r e => by cases e)
  have zV : ((w2.alloc (.cells #[.slice a n cap] 48)).alloc (.cells #[.int .i64 (k : Int)] 3)).heap.size = w.heap.size + 4 := by simp [z2]
  simp only [World.size_alloc] at bk
  rw [z2] at bt bk
  obtain ⟨V, hV⟩ : ∃ V, (w2.alloc (.cells #[.slice a n cap] 48)).alloc (.cells #[.int .i64 (k : Int)] 3) = V := ⟨_, rfl⟩
  rw [hV] at bt bk hS1 zV ⊢
  clear hV hS0 hg z2
  refine rangeF (F := Fence.wide) (n := 20) rfl (by omega) (gf := 129) (lb := #[.pointer (some ⟨w.heap.size + 1 + 1, 0, none⟩), .pointer (some ⟨w.heap.size + 1 + 1 + 1, 0, none⟩)]) rfl trivial (enters_of Try.func129 (by kernel_rfl) rfl)
    (HSEQ.out 19 (by omega) (w.heap.size + 1 + 1) (w.heap.size + 1 + 1 + 1) V (oldT_since hS1.sn) (by omega) (by omega) (by omega) bt bk) (fun _ => rfl) (fun q => q = w.heap.size + 1) (fun q hq => ⟨by omega, by omega⟩) (fun q hq => by omega)
    (fun (ps : List (Nat × Nat)) X => (HS w (.slice a n cap) X ∧ V.heap.size ≤ X.heap.size) ∧ ∀ x ∈ ps, mnP l x = 0)
    (fun c _ X => c = .ret ∧ Boxed X (w.heap.size + 1) 4 (.bool true) ∧ w.Since w.heap.size X ∧ hasB l k (2 ^ n) (2 ^ m) = true)
    (fun ps X Y row hs hg hr => ⟨⟨hs.1.1.kept hg (fun r e => by have := hr r e; omega), Nat.le_trans hs.1.2 hg.size⟩, hs.2⟩)
    (fun c ps X Y row hs hg hr => ⟨hs.1, hs.2.1.kept hg (fun e => by have := hr _ e.symm; omega), since_row hs.2.2.1 (Nat.le_refl _) hg (fun r e => by have := hr r e; omega), hs.2.2.2⟩)
    ⟨⟨hS1, Nat.le_refl _⟩, fun x hx => by cases hx⟩
    (fun x a'' _ => a'' = { tmps := #[.slice a n cap, .int .i64 k, .pointer (some ⟨w.heap.size, 0, none⟩), undef, .pointer (some ⟨w.heap.size + 1, 0, none⟩), .int .i64 (x.1 : Int), .int .i64 (x.2 : Int), .slice a n cap, .int .i64 k, .func (.func 129) #[] #[.pointer (some ⟨w.heap.size + 1 + 1, 0, none⟩), .pointer (some ⟨w.heap.size + 1 + 1 + 1, 0, none⟩)], .int .i64 (x.1 : Int), .int .i64 (x.2 : Int), undef, undef, undef, undef, undef], defers := [] })
    (fun _ _ _ _ _ _ hA _ _ => hA)
    ?assign ?body ?done ?stop
  case assign =>
    rintro lq ps x Y K _ hi _ hK
    simp only [encP]
    gi_wp2
    exact hK _ _ (Keeps.refl _ _) hi rfl
  case body =>
    rintro lq ps x a'' Y hlq hzY _ ⟨⟨hS, hz⟩, hp⟩ hpx rfl hlen
    have cT := hS.bt.cell
    have E := Lib.hid (EM.out x hpx Y hS.sn)
    have HSS := Lib.hid hS
    have HY := Lib.hid (show mnP l x ≠ 0 → hasB l k (2 ^ n) (2 ^ m) = true from fun h => hasB_yes hpx h)
    have HP := Lib.hid hp
    clear hS hp hpx
    obtain ⟨x1, x2⟩ := x
    simp only at E HY ⊢
    obtain ⟨v, hv⟩ : ∃ v, mnP l (x1, x2) = v := ⟨_, rfl⟩
    rw [hv] at E HY
    have HV := Lib.hid hv
    clear hv
    by_cases hv0 : v = 0
    · have hvb : (v != 0) = false := by simp [hv0]
      gi_wp2_with (refine ⟨trivial, ?_⟩; gi_at_call 60; refine (CallsIn.inRound lq (callsIn_wide.2 E.out)).mono ?_; rintro e Z ⟨rfl, hs2⟩; have HS2 := Lib.hid hs2; clear hs2)
      have hg := grownSH HS2.out
      exact ⟨Keeps.grown hg (fun r e => by cases e), ⟨HSS.out.kept hg (fun r e => by cases e), by have := hg.size; omega⟩, fun p hp => by
        rcases List.mem_append.1 hp with h | h
        · exact HP.out _ h
        · simp only [List.mem_singleton] at h
          rw [h, HV.out, hv0]⟩
    · have hvb : (v != 0) = true := by simp [hv0]
      gi_wp2_with (refine ⟨trivial, ?_⟩; gi_at_call 60; refine (CallsIn.inRound lq (callsIn_wide.2 E.out)).mono ?_; rintro e Z ⟨rfl, hs2⟩; have HS2 := Lib.hid hs2; have hrB := HSS.out.br.kept (grownSH HS2.out) (by simp); have cR := hrB.cell; have fR := hrB.frozen; clear hs2)
      have hg := grownSH HS2.out
      exact ⟨(Keeps.grown hg (fun r e => by cases e)).trans (Keeps.grown (grownBy_setCell' Z (w.heap.size + 1) _) (fun r e => by cases e; rfl)), rfl, hrB.set _, (HSS.out.kept hg (fun r e => by cases e)).sn.setCell (by simp) _, HY.out hv0⟩
  case done =>
    rintro D ps X hD rfl ⟨⟨hS, hz⟩, hp⟩ hK
    have cS := hS.br.cell
    have fS := hS.br.frozen
    have hb : hasB l k (2 ^ n) (2 ^ m) = false := hasB_no hp
    have hlt := (Array.getElem?_eq_some_iff.1 hK).1
    have hK2 : (X.setCell ⟨w.heap.size + 1, 0, none⟩ (.bool false)).heap[D]? = some (.deferred (some [])) := ((grownBy_setCell' X (w.heap.size + 1) (.bool false)).block D hlt (fun e => by injection e; omega)).trans hK
    have hB3 := (hS.br.set (.bool false)).kept (grownBy_putObj' (X.setCell ⟨w.heap.size + 1, 0, none⟩ (.bool false)) D (.deferred none)) (fun e => by injection e; omega)
    have cB := hB3.cell
    have hsn := since_row (hS.sn.setCell (a := ⟨w.heap.size + 1, 0, none⟩) (by simp) (.bool false)) (Nat.le_refl _) (grownBy_putObj' (X.setCell ⟨w.heap.size + 1, 0, none⟩ (.bool false)) D (.deferred none)) (fun r e => by cases e; omega)
    gi_wp2
    refine ⟨by simp, .inl ⟨_, _, rfl, run_takeDeferred hK2, ?_⟩⟩
    refine ⟨.bool false, ?_, by rw [hb], hsn⟩
    have cB' := cB
    simp [results, Try.f105, go_sem, cB']
  case stop =>
    rintro D c ps X hD _ ⟨rfl, bR, hs, hb⟩ hK
    have hB3 := bR.kept (grownBy_putObj' X D (.deferred none)) (fun e => by injection e; omega)
    have cB := hB3.cell
    have hsn := since_row hs (Nat.le_refl _) (grownBy_putObj' X D (.deferred none)) (fun r e => by cases e; omega)
    gi_wp2
    refine ⟨by simp, .inl ⟨_, _, rfl, run_takeDeferred hK, ?_⟩⟩
    refine ⟨.bool true, ?_, by rw [hb], hsn⟩
    have cB' := cB
    simp [results, Try.f105, go_sem, cB']

end Go.Proofs.Ythdemjfllfhhpaa
end

section
namespace Go.Proofs.Ythdemjfllfhhpaa
open Go.RowKit Go.Deep

def nzM (l : List (List Int)) (r c : Nat) : Prop := popcS r = popcS c ∧ ordF (partL l r c) (popcS r) (popcS r) 0 ≠ 0
theorem stepR_ge (l : List (List Int)) (r c b : Nat) : b ≤ stepR l r c b := by
  unfold stepR
  split
  · omega
  · omega
theorem stepR_yes {l : List (List Int)} {r c : Nat} (h : nzM l r c) (b : Nat) : popcS r ≤ stepR l r c b := by
  unfold stepR
  by_cases hb : b < popcS r
  · rw [if_pos ⟨h.1, hb, h.2⟩]; omega
  · have := stepR_ge l r c b
    unfold stepR at this
    omega
theorem stepR_ex (l : List (List Int)) (r c b : Nat) : stepR l r c b = b ∨ (stepR l r c b = popcS r ∧ nzM l r c) := by
  unfold stepR
  split
  · rename_i h; exact .inr ⟨rfl, h.1, h.2.2⟩
  · exact .inl rfl
theorem rkC_step (l : List (List Int)) (r b : Nat) : ∀ c, 1 ≤ c → b ≤ rkC l r b c ∧ (∀ c', 1 ≤ c' → c' < c → nzM l r c' → popcS r ≤ rkC l r b c) ∧ (rkC l r b c = b ∨ (rkC l r b c = popcS r ∧ ∃ c', c' < c ∧ nzM l r c'))
  | 0, h => by omega
  | 1, _ => by rw [rkC_one]; exact ⟨by omega, fun c' h1 h2 => by omega, .inl rfl⟩
  | c + 2, _ => by
    obtain ⟨i1, i2, i3⟩ := rkC_step l r b (c + 1) (by omega)
    rw [rkC_succ l r b (by omega)]
    have g := stepR_ge l r (c + 1) (rkC l r b (c + 1))
    refine ⟨by omega, fun c' h1 h2 hn => ?_, ?_⟩
    · by_cases e : c' = c + 1
      · subst e; exact stepR_yes hn _
      · have := i2 c' h1 (by omega) hn
        omega
    · rcases stepR_ex l r (c + 1) (rkC l r b (c + 1)) with e | ⟨e, hn⟩
      · rw [e]
        rcases i3 with e2 | ⟨e2, c', h1, h2⟩
        · exact .inl e2
        · exact .inr ⟨e2, c', by omega, h2⟩
      · exact .inr ⟨e, c + 1, by omega, hn⟩
theorem rkR_step (l : List (List Int)) (C : Nat) (hC : 1 ≤ C) : ∀ r, 1 ≤ r → (∀ r' c', 1 ≤ r' → r' < r → 1 ≤ c' → c' < C → nzM l r' c' → popcS r' ≤ rkR l C r) ∧ (rkR l C r = 0 ∨ ∃ r' c', r' < r ∧ c' < C ∧ nzM l r' c' ∧ rkR l C r = popcS r')
  | 0, h => by omega
  | 1, _ => by rw [rkR_one]; exact ⟨fun r' c' h1 h2 => by omega, .inl rfl⟩
  | r + 2, _ => by
    obtain ⟨i1, i2⟩ := rkR_step l C hC (r + 1) (by omega)
    rw [rkR_succ l C (by omega)]
    obtain ⟨j1, j2, j3⟩ := rkC_step l (r + 1) (rkR l C (r + 1)) C hC
    refine ⟨fun r' c' h1 h2 h3 h4 hn => ?_, ?_⟩
    · by_cases e : r' = r + 1
      · subst e; exact j2 c' h3 h4 hn
      · have := i1 r' c' h1 (by omega) h3 h4 hn
        omega
    · rcases j3 with e | ⟨e, c', h1, h2⟩
      · rw [e]
        rcases i2 with e2 | ⟨r', c', h1, h2, h3, h4⟩
        · exact .inl e2
        · exact .inr ⟨r', c', by omega, h2, h3, h4⟩
      · exact .inr ⟨r + 1, c', by omega, h1, h2, e⟩
theorem popc_le_n : ∀ n : Fin 7, ∀ s : Fin 64, s.val < 2 ^ n.val → popcS s.val ≤ n.val := by decide +kernel
theorem hasB_iff {l : List (List Int)} {k M1 M2 : Nat} : hasB l k M1 M2 = true ↔ ∃ r c, (r < M1 ∧ popcS r = k) ∧ (c < M2 ∧ popcS c = k) ∧ dt k (at2 (partL l r c)) ≠ 0 := by
  unfold hasB hasR
  rw [List.any_eq_true]
  constructor
  · rintro ⟨r, hr, h⟩
    obtain ⟨c, hc, h⟩ := List.any_eq_true.1 h
    exact ⟨r, c, (setsTo_mem k).1 hr, (setsTo_mem k).1 hc, by simpa using h⟩
  · rintro ⟨r, c, hr, hc, h⟩
    exact ⟨r, (setsTo_mem k).2 hr, List.any_eq_true.2 ⟨c, (setsTo_mem k).2 hc, by simpa using h⟩⟩
theorem rank_down {l : List (List Int)} {n m : Nat} (hn : n ≤ 6) (hm : m ≤ 6) :
    rkR l (2 ^ m) (2 ^ n) ≤ n ∧ rkR l (2 ^ m) (2 ^ n) ≤ m ∧ ∀ k, 1 ≤ k → (hasB l k (2 ^ n) (2 ^ m) = true → k ≤ rkR l (2 ^ m) (2 ^ n)) ∧ (hasB l k (2 ^ n) (2 ^ m) = false → rkR l (2 ^ m) (2 ^ n) ≠ k) := by
  have p1 : 2 ^ n ≤ 2 ^ 6 := Nat.pow_le_pow_right (by omega) hn
  have p2 : 2 ^ m ≤ 2 ^ 6 := Nat.pow_le_pow_right (by omega) hm
  have q1 : 1 ≤ 2 ^ n := Nat.pow_pos (by omega)
  have q2 : 1 ≤ 2 ^ m := Nat.pow_pos (by omega)
  obtain ⟨s1, s2⟩ := rkR_step l (2 ^ m) q2 (2 ^ n) q1
  have hle : rkR l (2 ^ m) (2 ^ n) ≤ n ∧ rkR l (2 ^ m) (2 ^ n) ≤ m := by
    rcases s2 with e | ⟨r, c, h1, h2, h3, h4⟩
    · omega
    · have e1 := popc_le_n ⟨n, by omega⟩ ⟨r, by omega⟩ h1
      have e2 := popc_le_n ⟨m, by omega⟩ ⟨c, by omega⟩ h2
      have := h3.1
      simp only at e1 e2
      omega
  refine ⟨hle.1, hle.2, fun k hk => ⟨fun h => ?_, fun h e => ?_⟩⟩
  · obtain ⟨r, c, ⟨r1, r2⟩, ⟨c1, c2⟩, hd⟩ := hasB_iff.1 h
    have g1 := popcS_pos ⟨r, by omega⟩ (by rw [r2]; exact hk)
    have g2 := popcS_pos ⟨c, by omega⟩ (by rw [c2]; exact hk)
    have hk6 : k ≤ 6 := by rw [← r2]; exact popcS_le r
    have := s1 r c g1 r1 g2 c1 ⟨by omega, by rw [r2, ordF_all _ hk6]; exact hd⟩
    omega
  · rcases s2 with e2 | ⟨r, c, h1, h2, h3, h4⟩
    · omega
    · have hk6 : k ≤ 6 := by rw [← e, h4]; exact popcS_le r
      have hr : popcS r = k := by omega
      have : hasB l k (2 ^ n) (2 ^ m) = true := hasB_iff.2 ⟨r, c, ⟨h1, hr⟩, ⟨h2, by rw [← h3.1]; exact hr⟩, by
        have := h3.2
        rw [hr, ordF_all _ hk6] at this
        exact this⟩
      rw [h] at this
      cases this

end Go.Proofs.Ythdemjfllfhhpaa
end

section
namespace Go.Proofs.Ythdemjfllfhhpaa
open Go.RowKit Go.Deep

theorem selN_lt {s n i : Nat} (h : i < (sel s n n).length) : selN s n i < n := by
  unfold selN
  have e : ((sel s n n).map (·.1)).getD i 0 = ((sel s n n)[i]).1 := by simp [List.getD, h]
  rw [e]
  exact ((sel s n n)[i]).2
theorem has_turn {l : List (List Int)} {n m k : Nat} (hT : TabIn l) (hn : l.length = n) (hmm : (l.getD 0 []).length = m) (h : hasB l k (2 ^ n) (2 ^ m) = true) : hasB (turnL l) k (2 ^ m) (2 ^ n) = true := by
  have h6 := hT.2.1
  have hw := hT.width
  have p1 : 2 ^ n ≤ 2 ^ 6 := Nat.pow_le_pow_right (by omega) (by omega)
  have p2 : 2 ^ m ≤ 2 ^ 6 := Nat.pow_le_pow_right (by omega) (by omega)
  obtain ⟨r, c, ⟨r1, r2⟩, ⟨c1, c2⟩, hd⟩ := hasB_iff.1 h
  refine hasB_iff.2 ⟨c, r, ⟨c1, c2⟩, ⟨r1, r2⟩, ?_⟩
  have e0 : ((turnL l).getD 0 []).length = n := (tabF_len _ _ _ _ (by omega)).trans hn
  have e1 : (turnL l).length = m := (turnL_length l).trans hmm
  have g1 := popcS_sel ⟨n, by omega⟩ ⟨r, by omega⟩ r1
  have g2 := popcS_sel ⟨m, by omega⟩ ⟨c, by omega⟩ c1
  simp only at g1 g2
  have e : dt k (at2 (partL (turnL l) c r)) = dt k (fun i j => at2 (partL l r c) j i) := dt_congr k fun i j hi hj => by
    rw [partL_at (turnL l) c r (by rw [e1]; omega) (by rw [e0]; omega), partL_at l r c (by rw [hn]; omega) (by rw [hmm]; omega), e0, e1, hn, hmm]
    exact tabF_at _ _ _ _ _ (by rw [hmm]; exact selN_lt (by omega)) (by rw [hn]; exact selN_lt (by omega))
  rw [e, dt_turn]
  exact hd
theorem turn_turn {l : List (List Int)} (hT : TabIn l) : TabIn (turnL l) ∧ (turnL l).length = (l.getD 0 []).length ∧ ((turnL l).getD 0 []).length = l.length :=
  ⟨tabIn_of (tabIn_turn hT), turnL_length l, tabF_len _ _ _ _ (by have := hT.width; omega)⟩
theorem turnL_back {l : List (List Int)} {n m k : Nat} (hT : TabIn l) (hn : l.length = n) (hmm : (l.getD 0 []).length = m) (h : hasB (turnL l) k (2 ^ m) (2 ^ n) = true) : hasB l k (2 ^ n) (2 ^ m) = true := by
  obtain ⟨h1, h2, h3⟩ := turn_turn hT
  have := has_turn h1 (h2.trans hmm) (h3.trans hn) h
  rw [turnL_turnL hT] at this
  exact this
theorem rank_turn {l : List (List Int)} {n m : Nat} (hT : TabIn l) (hn : l.length = n) (hmm : (l.getD 0 []).length = m) : rkR (turnL l) (2 ^ n) (2 ^ m) = rkR l (2 ^ m) (2 ^ n) := by
  have h6 := hT.2.1
  have hw := hT.width
  obtain ⟨_, _, a3⟩ := rank_down (l := l) (n := n) (m := m) (by omega) (by omega)
  obtain ⟨_, _, b3⟩ := rank_down (l := turnL l) (n := m) (m := n) (by omega) (by omega)
  have q1 : rkR l (2 ^ m) (2 ^ n) ≤ rkR (turnL l) (2 ^ n) (2 ^ m) := by
    by_cases h0 : 1 ≤ rkR l (2 ^ m) (2 ^ n)
    · cases hb : hasB l (rkR l (2 ^ m) (2 ^ n)) (2 ^ n) (2 ^ m) with
      | false => exact absurd rfl ((a3 _ h0).2 hb)
      | true => exact (b3 _ h0).1 (has_turn hT hn hmm hb)
    · omega
  have q2 : rkR (turnL l) (2 ^ n) (2 ^ m) ≤ rkR l (2 ^ m) (2 ^ n) := by
    by_cases h0 : 1 ≤ rkR (turnL l) (2 ^ n) (2 ^ m)
    · cases hb : hasB (turnL l) (rkR (turnL l) (2 ^ n) (2 ^ m)) (2 ^ m) (2 ^ n) with
      | false => exact absurd rfl ((b3 _ h0).2 hb)
      | true => exact (a3 _ h0).1 (turnL_back hT hn hmm hb)
    · omega
  omega
theorem popc_full : ∀ n : Fin 7, ∀ s : Fin 64, s.val < 2 ^ n.val → popcS s.val = n.val → s.val = 2 ^ n.val - 1 := by decide +kernel
theorem popc_all : ∀ n : Fin 7, popcS (2 ^ n.val - 1) = n.val := by decide +kernel
theorem rank_full {l : List (List Int)} {n : Nat} (h : sqB l = true) (hn : l.length = n) : rkR l (2 ^ n) (2 ^ n) = n ↔ ordF l n n 0 ≠ 0 := by
  obtain ⟨hT, hw⟩ := sqB_of h
  have h6 := hT.2.1
  have h1 := hT.1
  have p1 : 2 ^ n ≤ 2 ^ 6 := Nat.pow_le_pow_right (by omega) (by omega)
  have q1 : 1 ≤ 2 ^ n := Nat.pow_pos (by omega)
  obtain ⟨a1, _, a3⟩ := rank_down (l := l) (n := n) (m := n) (by omega) (by omega)
  obtain ⟨c1, c2⟩ := a3 n (by omega)
  have hf : partL l (2 ^ n - 1) (2 ^ n - 1) = l := by
    have := partL_full hT.rec
    rw [← hw, hn] at this
    exact this
  rw [ordF_all _ (by omega)]
  have e : hasB l n (2 ^ n) (2 ^ n) = true ↔ dt n (at2 l) ≠ 0 := by
    rw [hasB_iff]
    constructor
    · rintro ⟨r, c, ⟨r1, r2⟩, ⟨s1, s2⟩, hd⟩
      have e1 := popc_full ⟨n, by omega⟩ ⟨r, by omega⟩ r1 r2
      have e2 := popc_full ⟨n, by omega⟩ ⟨c, by omega⟩ s1 s2
      simp only at e1 e2
      rw [e1, e2, hf] at hd
      exact hd
    · intro hd
      have e3 := popc_all ⟨n, by omega⟩
      exact ⟨2 ^ n - 1, 2 ^ n - 1, ⟨by omega, e3⟩, ⟨by omega, e3⟩, by rw [hf]; exact hd⟩
  constructor
  · intro hr
    cases hb : hasB l n (2 ^ n) (2 ^ n) with
    | false => exact absurd hr (c2 hb)
    | true => exact e.1 hb
  · intro hd
    have := c1 (e.2 hd)
    omega

end Go.Proofs.Ythdemjfllfhhpaa
end

section
namespace Go.Proofs.Ythdemjfllfhhpaa
open Go.RowKit Go.Deep

theorem popcS_but : ∀ n : Fin 7, ∀ k : Fin 6, k.val < n.val → popcS (2 ^ n.val - 1 - 2 ^ k.val) = n.val - 1 := by decide +kernel
theorem but_lt : ∀ n : Fin 7, ∀ k : Fin 6, k.val < n.val → 2 ^ n.val - 1 - 2 ^ k.val < 2 ^ n.val ∧ 2 ^ n.val - 1 - 2 ^ k.val ≤ 63 := by decide +kernel

def othF (l : List (List Int)) (n i k : Nat) : Int := sg (i + k) (ordF (partL l (2 ^ n - 1 - 2 ^ k) (2 ^ n - 1 - 2 ^ i)) (n - 1) (n - 1) 0)
def otherR (l : List (List Int)) (n i j : Nat) : List Int := (List.range j).map fun k => othF l n i k
theorem otherR_succ (l : List (List Int)) (n i j : Nat) : otherR l n i (j + 1) = otherR l n i j ++ [othF l n i j] := by simp [otherR, List.range_succ]
theorem otherR_length (l : List (List Int)) (n i j : Nat) : (otherR l n i j).length = j := by simp [otherR]
def otherTo (l : List (List Int)) (n r : Nat) : List (List Int) := (List.range r).map fun i => otherR l n i n
theorem otherTo_succ (l : List (List Int)) (n r : Nat) : otherTo l n (r + 1) = otherTo l n r ++ [otherR l n r n] := by simp [otherTo, List.range_succ]
theorem otherTo_length (l : List (List Int)) (n r : Nat) : (otherTo l n r).length = r := by simp [otherTo]
theorem otherTo_all (l : List (List Int)) (n : Nat) : otherTo l n n = tabF n n (othF l n) := rfl
theorem RB.later {wo wr w1 : World} {v : Value} {x : List Int} (h : RB wo wr v x) (hs : wr.Since wr.heap.size w1) : RB wo w1 v x :=
  ⟨h.since.trans (since_mono hs h.since.size), World.ownsRow.kept h.own (row := none) ⟨hs.os, hs.tape, hs.output, hs.size, fun k hk _ => hs.block k hk⟩ (by cases hv : v.ownBlock <;> simp)⟩

set_option maxRecDepth 100000 in
set_option maxHeartbeats 4000000 in
theorem l2Other_any (a : Option Addr) (cap n : Nat) (l : List (List Int)) (w : World) (hn : l.length = n) (hT : TabIn l) (hmm : (l.getD 0 []).length = n) (hm : MatR w a l) :
    Calls Try.prog 85 #[.slice a n cap] w fun e w' => ∃ a' cap', e = .returned (.slice a' n cap') ∧ w.Since w.heap.size w' ∧ InT w.heap.size w'.heap.size w' a' (tabF n n (othF l n)) := by
  obtain ⟨i42, hi42⟩ := info42_parts
  obtain ⟨i3, hi3⟩ := info3_parts
  have HI := Lib.hid hi42
  have HJ := Lib.hid hi3
  clear hi42 hi3
  have hst := bt_start w (fun _ => none) (fun _ => 0) #[] rfl
  have h6 := hT.2.1
  have h1 := hT.1
  rw [hn] at h6 h1
  have e1 := pow_wrap n h6
  have hand := fun (q : Nat) (hq : q < n) => andNot_fin ⟨n, by omega⟩ ⟨q, by omega⟩ hq
  have hbl := fun (q : Nat) (hq : q < n) => but_lt ⟨n, by omega⟩ ⟨q, by omega⟩ hq
  have hbp := fun (q : Nat) (hq : q < n) => popcS_but ⟨n, by omega⟩ ⟨q, by omega⟩ hq
  simp only at hand hbl hbp
  have hsq : ∀ i k, i < n → k < n → SqD (n - 1) (partL l (2 ^ n - 1 - 2 ^ k) (2 ^ n - 1 - 2 ^ i)) := fun i k hi hk => by
    have h := part_sq hT (s := 2 ^ n - 1 - 2 ^ k) (c := 2 ^ n - 1 - 2 ^ i) (by rw [hn]; exact (hbl k hk).1) (by rw [hmm]; exact (hbl i hi).1) (by rw [hbp k hk, hbp i hi])
    rw [hbp k hk] at h
    exact h
  have hfb : ∀ i k, i < n → k < n → -(34012224000000 : Int) ≤ ordF (partL l (2 ^ n - 1 - 2 ^ k) (2 ^ n - 1 - 2 ^ i)) (n - 1) (n - 1) 0 ∧ ordF (partL l (2 ^ n - 1 - 2 ^ k) (2 ^ n - 1 - 2 ^ i)) (n - 1) (n - 1) 0 ≤ 34012224000000 := fun i k hi hk => by
    have h := hsq i k hi hk
    by_cases h0 : 1 ≤ n - 1
    · have hb := ordF_bd (h.2 h0).1 h.1 (h.2 h0).2 (n - 1) (Nat.le_refl _) 0
      have := p180_le (n - 1) (by omega)
      omega
    · rw [show n - 1 = 0 by omega, ordF_zero]; omega
  have HPART := Lib.hid (fun (s c : Nat) (hs : s ≤ 63) (hc : c ≤ 63) (V : World) (h : w.Since w.heap.size V) => l1Part_any a cap n s c l V hn hT hs hc (hm.since h))
  have HSQ := Lib.hid hsq
  have HFB := Lib.hid hfb
  have HAND := Lib.hid hand
  have HBL := Lib.hid hbl
  obtain ⟨Aa, hA⟩ : ∃ A, A = 2 ^ n - 1 := ⟨_, rfl⟩
  rw [← hA] at e1
  have HA := Lib.hid hA
  clear hn hT hmm hm hand hbl hbp hsq hfb hA
  go_enter Try.func85, Try.ntmps85
  go_wp2
  rw [e1]
  go_loopg [3, 5, 6, 7, 8] n (fun g v i _ _ _ wr => ∃ r : Nat, ∃ A C, r ≤ n ∧ g = n - r ∧ i = .int .i64 r ∧ BT w wr v (otherTo l n r) A C)
  case atStart => exact ⟨0, _, _, Nat.zero_le _, rfl, rfl, hst⟩
  case round =>
    obtain ⟨r, A, C, hr, rfl, rfl, hR⟩ := hrel
    clear hst
    by_cases hlt : r < n
    · have HR := Lib.hid hR
      have hrb := rb_start wr #[] rfl
      have HRB := Lib.hid hrb
      have hsz := hR.since.size
      have hlen := otherTo_length l n r
      obtain ⟨wo, hwo⟩ : ∃ wo : World, wo = wr := ⟨_, rfl⟩
      clear hR hrb
      go_wp2
      subst hwo
      go_loopg [6, 7, 8] n (fun g v k _ wi => ∃ j : Nat, j ≤ n ∧ g = n - j ∧ k = .int .i64 j ∧ RB wo wi v (otherR l n r j))
      case atStart => exact ⟨0, Nat.zero_le _, rfl, rfl, HRB.out⟩
      case round =>
        obtain ⟨j, hj, rfl, rfl, hI⟩ := hrel
        clear HRB
        by_cases hjn : j < n
        · have hS := Lib.hid (HR.out.since.trans (since_mono hI.since hsz))
          have HII := Lib.hid hI
          have hle := otherR_length l n r j
          have hzi := hI.since.size
          clear hI
          obtain ⟨s1, hs1⟩ : ∃ s, s = Aa - 2 ^ j := ⟨_, rfl⟩
          obtain ⟨s2, hs2⟩ : ∃ s, s = Aa - 2 ^ r := ⟨_, rfl⟩
          have ha1 := HAND.out j hjn
          have ha2 := HAND.out r hlt
          have hb1 := (HBL.out j hjn).2
          have hb2 := (HBL.out r hlt).2
          have hq := HSQ.out r j hlt hjn
          have hf := HFB.out r j hlt hjn
          rw [← HA.out, ← hs1] at ha1 hb1
          rw [← HA.out, ← hs2] at ha2 hb2
          rw [← HA.out, ← hs1, ← hs2] at hq hf
          have EP := fun (V : World) (h : w.Since w.heap.size V) => HPART.out s1 s2 hb1 hb2 V h
          obtain ⟨L, hL⟩ : ∃ L, partL l s1 s2 = L := ⟨_, rfl⟩
          rw [hL] at hq hf
          simp only [hL, hq.1] at EP
          obtain ⟨n1, hn1⟩ : ∃ k, n - 1 = k := ⟨_, rfl⟩
          rw [hn1] at hq hf
          simp only [hn1] at EP
          replace EP := Lib.hid EP
          have EV := fun (a3 : Option Addr) (k3 : Nat) (V : World) (h : MatR V a3 L) => l2Value_sq a3 k3 n1 L hq V h
          obtain ⟨f2, hf2⟩ : ∃ f, ordF L n1 n1 0 = f := ⟨_, rfl⟩
          rw [hf2] at hf
          simp only [hf2] at EV
          replace EV := Lib.hid EV
          have hot : othF l n r j = sg (r + j) f2 := by
            unfold othF
            rw [← HA.out, ← hs1, ← hs2, hL, hn1, hf2]
          have HOT := Lib.hid hot
          have hwq1 := pow_in ⟨j, by omega⟩
          have hwq2 := pow_in ⟨r, by omega⟩
          simp only at hwq1 hwq2
          have hm1 : min j 64 = j := by omega
          have hm2 : min r 64 = r := by omega
          have hwi : IntKind.i64.wrap ((r : Int) + (j : Int)) = (r : Int) + (j : Int) := IntWalk.i64_in _ ⟨by omega, by omega⟩
          clear hs1 hs2 hq hL hn1 hf2 hot
          go_wp2
          go_region_held3 (fun _ => True) (trivial)
            (first
              | (go_at_call 63; refine (EP.out _ (hS.out.drew)).mono ?_; rintro e w2 ⟨a2, k2, rfl, hs2, hi2⟩; have hs2 := since_of_drew hs2; have HI2 := Lib.hid hi2.matR; have HS2 := Lib.hid hs2; clear hs2 hi2)
              | (go_at_call 62; refine (EV.out a2 k2 w2 HI2.out).mono ?_; rintro e w3 ⟨rfl, hd3⟩; have HS3 := Lib.hid (HS2.out.trans (since_mono (hd3.since w2.heap.size) HS2.out.size)); clear hd3))
          have HII2 := Lib.hid (HII.out.later HS3.out)
          have hz3 := HS3.out.size
          by_cases hodd : (r + j) % 2 = 1
          · have ho : (((r : Int) + (j : Int)) % 2 == 1) = true := by simp; omega
            have e0 : sg (r + j) f2 = -f2 := by unfold sg; rw [if_pos hodd]
            have w1' : IntKind.i64.wrap (0 - f2) = -f2 := (IntWalk.i64_in _ ⟨by omega, by omega⟩).trans (by omega)
            have w2' : IntKind.i64.wrap (-f2) = -f2 := IntWalk.i64_in _ ⟨by omega, by omega⟩
            go_wp2_with (at_builtin; (refine wpList_append_own _ rfl _ _ 37 rfl wo.heap.size 3 i3 (.int .i64 0) 1 8 Try.underlying37 HJ.out.1 HJ.out.2.1 HJ.out.2.2.1 HJ.out.2.2.2 rfl (by decide) _ _ _ rfl (HII2.out.own.alloc _) ⟨w3.heap.size, 0, none⟩ 1 1 [.int .i64 (-f2)] rfl rfl (cell_one_at _ _ _ rfl) (fun x hx => by simp at hx; subst hx; rfl) (by unfold maxLen; omega) (by omega) (by simp; omega) ?_); intro v' w5 hown' hgrow _)
            have hP := HII2.out.push hown' hgrow
            rw [← e0, ← HOT.out, ← otherR_succ] at hP
            have HP := Lib.hid hP
            clear hP hown' hgrow
            go_roundg (n - (j + 1))
            case measure => omega
            case rel => exact ⟨j + 1, by omega, rfl, by go_num, HP.out⟩
          · have ho : (((r : Int) + (j : Int)) % 2 == 1) = false := by simp; omega
            have e0 : sg (r + j) f2 = f2 := by unfold sg; rw [if_neg hodd]
            go_wp2_with (at_builtin; (refine wpList_append_own _ rfl _ _ 37 rfl wo.heap.size 3 i3 (.int .i64 0) 1 8 Try.underlying37 HJ.out.1 HJ.out.2.1 HJ.out.2.2.1 HJ.out.2.2.2 rfl (by decide) _ _ _ rfl (HII2.out.own.alloc _) ⟨w3.heap.size, 0, none⟩ 1 1 [.int .i64 (f2)] rfl rfl (cell_one_at _ _ _ rfl) (fun x hx => by simp at hx; subst hx; rfl) (by unfold maxLen; omega) (by omega) (by simp; omega) ?_); intro v' w5 hown' hgrow _)
            have hP := HII2.out.push hown' hgrow
            rw [← e0, ← HOT.out, ← otherR_succ] at hP
            have HP := Lib.hid hP
            clear hP hown' hgrow
            go_roundg (n - (j + 1))
            case measure => omega
            case rel => exact ⟨j + 1, by omega, rfl, by go_num, HP.out⟩
        · have hjj : n = j := by omega
          subst hjj
          obtain ⟨ra, rcp, hv, hrow⟩ := hI.slice
          rw [otherR_length] at hv
          subst hv
          have HII := Lib.hid hI
          have hle := otherR_length l n r n
          have hzi := hI.since.size
          have HROW := Lib.hid hrow
          clear hI hrow
          have HBT := Lib.hid (HR.out.later HII.out.since)
          go_wp2_with (at_builtin; (refine wpList_append_own _ rfl _ _ 23 rfl w.heap.size 37 i42 (.slice none 0 0) 1 24 Try.underlying23 HI.out.1 HI.out.2.1 HI.out.2.2.1 HI.out.2.2.2 rfl (by decide) _ _ _ rfl (HBT.out.own.alloc _) ⟨wr.heap.size, 0, none⟩ 1 1 [.slice ra n rcp] rfl rfl (cell_one_at _ _ _ rfl) (fun x hx => by simp at hx; subst hx; rfl) (by unfold maxLen; omega) (by omega) (by simp; omega) ?_); intro v' w5 hown' hgrow _)
          have hP := HBT.out.push (rv := .slice ra n rcp) (x := otherR l n r n) (a := ra) (cp := rcp) (by rw [otherR_length]) (fun h => by obtain ⟨G, e, h2, h3⟩ := HROW.out h; exact ⟨G, e, by omega, h3⟩) (fun h => by obtain ⟨G, e, h2, _⟩ := HROW.out h; exact HR.out.fresh e h2) hown' hgrow
          rw [← otherTo_succ] at hP
          have HP := Lib.hid hP
          clear hP hown' hgrow hle hlen
          go_roundg (n - (r + 1))
          case measure => omega
          case rel => exact ⟨r + 1, _, _, by omega, rfl, by go_num, HP.out⟩
    · have hrn : n = r := by omega
      subst hrn
      obtain ⟨ra, rcp, hv, hin⟩ := hR.slice
      rw [otherTo_length] at hv
      subst hv
      have HS := Lib.hid hR.since
      clear hR
      go_wp2
      go_ret
      exact ⟨ra, rcp, rfl, HS.out, hin⟩

set_option maxHeartbeats 1000000 in
theorem specValueOther_any (a : Option Addr) (cap n : Nat) (l : List (List Int)) (w : World) (hn : l.length = n) (hsz : szL l ≤ 1048576) (hm : MatR w a l) :
    Calls Try.prog 33 #[.slice a n cap] w (SpecT w (sqB l) (tabF n n (othF l n))) := by
  have E := l2Square_any a cap n l w hn hsz hm
  cases hs : sqB l with
  | false =>
    rw [hs] at E
    replace E := Lib.hid E
    clear hs hm hn hsz
    go_enter Try.func33, Try.ntmps33
    go_wp2_with fail
    refine (E.out).mono ?_
    rintro e w1 ⟨rfl, hd⟩
    have hs := hd.since w.heap.size
    clear hd
    go_wp2_with fail
    refine (l1None_any w1).mono ?_
    rintro e w2 ⟨rfl, hs2⟩
    go_wp2
    go_ret2
    exact ⟨_, _, rfl, hs.trans (since_mono hs2 hs.size), InT.nil _ _ _ _⟩
  | true =>
    rw [hs] at E
    replace E := Lib.hid E
    obtain ⟨hT, hw⟩ := sqB_of hs
    have E2 := Lib.hid (fun (W : World) (hd : w.Since w.heap.size W) => l2Other_any a cap n l W hn hT (by rw [← hw, hn]) (hm.since hd))
    clear hs hm hn hsz hT hw
    go_enter Try.func33, Try.ntmps33
    go_wp2_with fail
    refine (E.out).mono ?_
    rintro e w1 ⟨rfl, hd⟩
    have HS := Lib.hid (hd.since w.heap.size)
    clear hd
    go_wp2_with fail
    refine (E2.out w1 HS.out).mono ?_
    rintro e w2 ⟨a2, c2, rfl, hs2, hi2⟩
    go_wp2
    go_ret2
    exact ⟨a2, c2, by rw [show (resT true (tabF n n (othF l n))).length = n from tabF_length _ _ _]; rfl, HS.out.trans (since_mono hs2 HS.out.size), hi2.mono HS.out.size (Nat.le_refl _)⟩

end Go.Proofs.Ythdemjfllfhhpaa
end

section
namespace Go.Proofs.Ythdemjfllfhhpaa
open Go.RowKit Go.Deep

def mv (r i : Nat) : Nat := if i = 0 then r else if i ≤ r then i - 1 else i
theorem mv_zero (i : Nat) : mv 0 i = i := by unfold mv; repeat (first | split | omega)
theorem mv_succ (r i : Nat) : ex r (r + 1) (mv r i) = mv (r + 1) i := by unfold mv ex; repeat (first | split | omega)
theorem mv_skip (r i : Nat) : mv r (i + 1) = skip r i := by unfold mv skip; repeat (first | split | omega)
theorem dt_mv {n : Nat} : ∀ (r : Nat) (f : Nat → Nat → Int), r < n → dt n (fun i j => f (mv r i) j) = sn r * dt n f
  | 0, f, _ => by
    rw [sn_zero, Int.one_mul]
    exact dt_congr n fun i j _ _ => by rw [mv_zero]
  | r + 1, f, h => by
    have e : (fun i j => f (mv (r + 1) i) j) = fun i j => (fun i j => f (ex r (r + 1) i) j) (mv r i) j := by
      funext i j
      show _ = f (ex r (r + 1) (mv r i)) j
      rw [mv_succ]
    rw [e, dt_mv r (fun i j => f (ex r (r + 1) i) j) (by omega), dt_exR f (by omega) (by omega) h, sn_succ]
    rw [Int.mul_neg, Int.neg_mul]
theorem dt_row {n r : Nat} (f : Nat → Nat → Int) (h : r < n + 1) : dt (n + 1) f = sumN (fun k => f r k * (sn (r + k) * dt n (fun i j => f (skip r i) (skip k j)))) (n + 1) := by
  have e := dt_mv r f h
  have e2 : sn r * (sn r * dt (n + 1) f) = dt (n + 1) f := by rw [← Int.mul_assoc, sn_sq, Int.one_mul]
  rw [← e2, ← e, dt_succ, ← sumN_mul]
  refine sumN_congr _ fun k _ => ?_
  have e3 : dr k (fun i j => f (mv r i) j) = fun i j => f (skip r i) (skip k j) := by
    funext i j
    show f (mv r (i + 1)) (skip k j) = _
    rw [mv_skip]
  rw [e3, sn_add]
  show sn r * (sn k * (f (mv r 0) k * _)) = _
  have e4 : mv r 0 = r := rfl
  rw [e4]
  grind
theorem dt_alien {n r s : Nat} (f : Nat → Nat → Int) (hr : r < n + 1) (hs : s < n + 1) : sumN (fun k => f s k * (sn (r + k) * dt n (fun i j => f (skip r i) (skip k j)))) (n + 1) = if s = r then dt (n + 1) f else 0 := by
  by_cases e : s = r
  · subst e
    rw [if_pos rfl, ← dt_row f hs]
  · rw [if_neg e, ← dt_sameR (n := n + 1) (setR f r (f s)) (p := s) (q := r) e hs hr (fun j _ => by unfold setR; rw [if_neg e, if_pos rfl]), dt_row _ hr]
    refine sumN_congr _ fun k _ => ?_
    have e3 : (fun i j => setR f r (f s) (skip r i) (skip k j)) = fun i j => f (skip r i) (skip k j) := by
      funext i j
      unfold setR
      rw [if_neg (by unfold skip; split <;> omega)]
    rw [e3]
    unfold setR
    rw [if_pos rfl]
theorem othF_dt {l : List (List Int)} {n i k : Nat} (hT : TabIn l) (hn : l.length = n) (hw : (l.getD 0 []).length = n) (hi : i < n) (hk : k < n) : othF l n i k = sn (k + i) * dt (n - 1) (fun a b => at2 l (skip k a) (skip i b)) := by
  have h6 := hT.2.1
  unfold othF
  rw [sg_sn, ordF_all _ (by omega), Nat.add_comm i k]
  congr 1
  exact dt_congr _ fun a b ha hb => partL_but hn hw (by omega) hk hi (by omega) (by omega)
theorem other_left {l : List (List Int)} {n i k : Nat} (hT : TabIn l) (hn : l.length = n) (hw : (l.getD 0 []).length = n) (hi : i < n) (hk : k < n) :
    sumN (fun j => at2 l i j * othF l n j k) n = if i = k then dt n (at2 l) else 0 := by
  obtain ⟨m, rfl⟩ : ∃ m, n = m + 1 := ⟨n - 1, by omega⟩
  rw [← dt_alien (at2 l) hk hi]
  exact sumN_congr _ fun j hj => by rw [othF_dt hT hn hw hj hk]; rfl
theorem other_right {l : List (List Int)} {n i k : Nat} (hT : TabIn l) (hn : l.length = n) (hw : (l.getD 0 []).length = n) (hi : i < n) (hk : k < n) :
    sumN (fun j => othF l n i j * at2 l j k) n = if i = k then dt n (at2 l) else 0 := by
  obtain ⟨m, rfl⟩ : ∃ m, n = m + 1 := ⟨n - 1, by omega⟩
  have h := dt_alien (fun a b => at2 l b a) (r := i) (s := k) hi hk
  rw [dt_turn] at h
  have e : (if i = k then dt (m + 1) (at2 l) else 0) = if k = i then dt (m + 1) (at2 l) else 0 := by
    by_cases e : i = k
    · rw [if_pos e, if_pos e.symm]
    · rw [if_neg e, if_neg (fun h => e h.symm)]
  rw [e, ← h]
  refine sumN_congr _ fun j hj => ?_
  rw [othF_dt hT hn hw hi hj, Nat.add_comm j i, Int.mul_comm]
  show at2 l j k * _ = at2 l j k * (sn (i + j) * dt m (fun a b => at2 l (skip j b) (skip i a)))
  rw [← dt_turn m (fun a b => at2 l (skip j b) (skip i a))]
  rfl
theorem othF_bd {l : List (List Int)} {n i k : Nat} (hT : TabIn l) (hn : l.length = n) (hw : (l.getD 0 []).length = n) (hi : i < n) (hk : k < n) : -10000000000 ≤ othF l n i k ∧ othF l n i k ≤ 10000000000 := by
  have h6 := hT.2.1
  rw [othF_dt hT hn hw hi hk, ← sg_sn]
  refine sg_bd ?_
  have hb := dt_bd (n - 1) (fun a b => at2 l (skip k a) (skip i b)) (by omega) (fun a b ha hb => hT.at (by have := skip_bd (k := k) ha; omega) (by have := skip_bd (k := i) hb; omega))
  have hB : bdN (n - 1) ≤ 10000000000 := by
    have : n - 1 ≤ 5 := by omega
    match n - 1, this with
    | 0, _ => decide
    | 1, _ => decide
    | 2, _ => decide
    | 3, _ => decide
    | 4, _ => decide
    | 5, _ => decide
  omega
theorem rec_tabF {n m : Nat} (f : Nat → Nat → Int) (hn : 1 ≤ n ∧ n ≤ 6) (hm : 1 ≤ m ∧ m ≤ 6) : Rec (tabF n m f) := by
  have h0 : ((tabF n m f).getD 0 []).length = m := tabF_len _ _ _ _ (by omega)
  exact ⟨by rw [tabF_length]; omega, by rw [tabF_length]; omega, by rw [h0]; exact hm, fun hr => by rw [h0]; rw [tabF_length] at hr; exact tabF_len _ _ _ _ hr⟩
structure OtherM (l M : List (List Int)) (n : Nat) (v : Int) : Prop where
  len : M.length = n
  wid : (M.getD 0 []).length = n
  rec1 : Rec M
  b1 : ∀ i j k, i < n → j < n → k < (M.getD 0 []).length → -1000000000000 ≤ at2 l i j * at2 M j k ∧ at2 l i j * at2 M j k ≤ 1000000000000
  b2 : ∀ i j k, i < n → j < n → k < (l.getD 0 []).length → -1000000000000 ≤ at2 M i j * at2 l j k ∧ at2 M i j * at2 l j k ≤ 1000000000000
  l1 : (makeL l M).length = n
  l2 : (makeL M l).length = n
  w1 : ((makeL l M).getD 0 []).length = n
  w2 : ((makeL M l).getD 0 []).length = n
  r1 : Rec (makeL l M)
  r2 : Rec (makeL M l)
  e1 : ∀ i k, i < n → k < n → at2 (makeL l M) i k = if i = k then v else 0
  e2 : ∀ i k, i < n → k < n → at2 (makeL M l) i k = if i = k then v else 0
theorem otherM_of {l : List (List Int)} {n : Nat} (h : sqB l = true) (hn : l.length = n) : OtherM l (tabF n n (othF l n)) n (ordF l n n 0) := by
  obtain ⟨hT, hw⟩ := sqB_of h
  have h1 := hT.1
  have h6 := hT.2.1
  have hwn : (l.getD 0 []).length = n := by omega
  have hl : (tabF n n (othF l n)).length = n := tabF_length _ _ _
  have hmw : ((tabF n n (othF l n)).getD 0 []).length = n := tabF_len _ _ _ _ (by omega)
  have hat : ∀ i j, i < n → j < n → at2 (tabF n n (othF l n)) i j = othF l n i j := fun i j hi hj => tabF_at _ _ _ i j hi hj
  have hp : ∀ i j k, i < n → j < n → k < n → -1000000000000 ≤ at2 l i j * othF l n j k ∧ at2 l i j * othF l n j k ≤ 1000000000000 := fun i j k hi hj hk => by
    have b := hT.at (i := i) (k := j) (by omega) (by omega)
    have c := othF_bd hT hn hwn hj hk
    have := mul_bdB b.1 b.2 c.1 c.2
    omega
  have hp2 : ∀ i j k, i < n → j < n → k < n → -1000000000000 ≤ othF l n i j * at2 l j k ∧ othF l n i j * at2 l j k ≤ 1000000000000 := fun i j k hi hj hk => by
    have b := hT.at (i := j) (k := k) (by omega) (by omega)
    have c := othF_bd hT hn hwn hi hj
    have := mul_bdB b.1 b.2 c.1 c.2
    rw [Int.mul_comm]
    omega
  have g1 : 1 ≤ n ∧ n ≤ 6 := by omega
  have q1 : makeL l (tabF n n (othF l n)) = tabF n n fun i k => sumN (dotF l (tabF n n (othF l n)) i k) n := by unfold makeL; rw [hn, hl, hmw]
  have q2 : makeL (tabF n n (othF l n)) l = tabF n n fun i k => sumN (dotF (tabF n n (othF l n)) l i k) n := by unfold makeL; rw [hn, hl, hwn]
  refine ⟨hl, hmw, rec_tabF _ g1 g1, fun i j k hi hj hk => ?_, fun i j k hi hj hk => ?_, by rw [q1, tabF_length], by rw [q2, tabF_length], by rw [q1]; exact tabF_len _ _ _ _ (by omega), by rw [q2]; exact tabF_len _ _ _ _ (by omega), by rw [q1]; exact rec_tabF _ g1 g1, by rw [q2]; exact rec_tabF _ g1 g1, fun i k hi hk => ?_, fun i k hi hk => ?_⟩
  · rw [hmw] at hk
    rw [hat j k hj hk]
    exact hp i j k hi hj hk
  · rw [hwn] at hk
    rw [hat i j hi hj]
    exact hp2 i j k hi hj hk
  · rw [q1, show at2 (tabF n n fun i k => sumN (dotF l (tabF n n (othF l n)) i k) n) i k = sumN (dotF l (tabF n n (othF l n)) i k) n from tabF_at _ _ _ i k hi hk, ordF_all _ (by omega), ← other_left hT hn hwn hi hk]
    exact sumN_congr _ fun j hj => by show at2 l i j * at2 _ j k = _; rw [hat j k hj hk]
  · rw [q2, show at2 (tabF n n fun i k => sumN (dotF (tabF n n (othF l n)) l i k) n) i k = sumN (dotF (tabF n n (othF l n)) l i k) n from tabF_at _ _ _ i k hi hk, ordF_all _ (by omega), ← other_right hT hn hwn hi hk]
    exact sumN_congr _ fun j hj => by show at2 _ i j * at2 l j k = _; rw [hat i j hi hj]

end Go.Proofs.Ythdemjfllfhhpaa
end

section
namespace Go.Proofs.Ythdemjfllfhhpaa
open Go.RowKit Go.Deep

theorem sumN_some {f : Nat → Int} {n : Nat} (h : sumN f n ≠ 0) : ∃ i, i < n ∧ f i ≠ 0 :=
  Classical.byContradiction fun hno => h (sumN_none n fun j hj => Classical.byContradiction fun h2 => hno ⟨j, hj, h2⟩)
theorem dt_sumR {k r : Nat} (f : Nat → Nat → Int) (c : Nat → Int) (u : Nat → Nat → Int) (hr : r < k) : ∀ N, dt k (setR f r (fun j => sumN (fun m => c m * u m j) N)) = sumN (fun m => c m * dt k (setR f r (u m))) N
  | 0 => by
    have e := dt_lin k r f 0 0 (u 0) (u 0) hr
    rw [dt_congr k (g := setR f r (fun j => 0 * u 0 j + 0 * u 0 j)) (fun i j _ _ => by unfold setR; split <;> simp [sumN]), e]
    simp [sumN]
  | N + 1 => by
    have e := dt_lin k r f 1 (c N) (fun j => sumN (fun m => c m * u m j) N) (u N) hr
    rw [dt_congr k (g := setR f r (fun j => 1 * sumN (fun m => c m * u m j) N + c N * u N j)) (fun i j _ _ => by
      unfold setR
      split
      · have e2 : sumN (fun m => c m * u m j) (N + 1) = sumN (fun m => c m * u m j) N + c N * u N j := rfl
        dsimp only
        rw [e2]; omega
      · rfl), e, dt_sumR f c u hr N]
    have e3 : sumN (fun m => c m * dt k (setR f r (u m))) (N + 1) = sumN (fun m => c m * dt k (setR f r (u m))) N + c N * dt k (setR f r (u N)) := rfl
    rw [e3]
    omega

theorem dt_pickR {k N : Nat} (X Y : Nat → Nat → Int) (h : dt k (fun i j => sumN (fun m => X i m * Y m j) N) ≠ 0) : ∃ g : Nat → Nat, (∀ i, i < k → g i < N) ∧ dt k (fun i j => Y (g i) j) ≠ 0 := by
  have key : ∀ q, q ≤ k → ∃ g : Nat → Nat, (∀ i, i < q → g i < N) ∧ dt k (fun i j => if i < q then Y (g i) j else sumN (fun m => X i m * Y m j) N) ≠ 0 := by
    intro q
    induction q with
    | zero => exact fun _ => ⟨fun _ => 0, fun i hi => absurd hi (Nat.not_lt_zero _), by rw [dt_congr k (g := fun i j => sumN (fun m => X i m * Y m j) N) (fun i j _ _ => if_neg (Nat.not_lt_zero _))]; exact h⟩
    | succ q ih =>
      intro hq
      obtain ⟨g, hg, hd⟩ := ih (by omega)
      obtain ⟨M, hM⟩ : ∃ M : Nat → Nat → Int, M = fun i j => if i < q then Y (g i) j else sumN (fun m => X i m * Y m j) N := ⟨_, rfl⟩
      rw [← hM] at hd
      have e : dt k M = dt k (setR M q (fun j => sumN (fun m => X q m * Y m j) N)) := dt_congr k fun i j _ _ => by
        unfold setR
        split
        · rename_i hi; rw [hM, hi]; exact if_neg (Nat.lt_irrefl _)
        · rfl
      rw [e, dt_sumR M (X q) Y (by omega)] at hd
      obtain ⟨m, hm, hd2⟩ := sumN_some hd
      refine ⟨fun i => if i = q then m else g i, fun i hi => ?_, ?_⟩
      · show (if i = q then m else g i) < N
        split
        · exact hm
        · exact hg i (by omega)
      · rw [dt_congr k (g := setR M q (Y m)) (fun i j _ _ => by
          unfold setR
          dsimp only
          by_cases hi : i = q
          · rw [if_pos (by omega), if_pos hi, if_pos hi]
          · rw [if_neg hi, if_neg hi, hM]
            by_cases h2 : i < q
            · rw [if_pos (by omega)]; exact (if_pos h2).symm
            · rw [if_neg (by omega)]; exact (if_neg h2).symm)]
        exact fun h0 => hd2 (by rw [h0, Int.mul_zero])
  obtain ⟨g, hg, hd⟩ := key k (Nat.le_refl _)
  exact ⟨g, hg, by rw [dt_congr k (g := fun i j => if i < k then Y (g i) j else sumN (fun m => X i m * Y m j) N) (fun i j hi _ => (if_pos hi).symm)]; exact hd⟩
theorem mul_right_some {k n : Nat} {X Y : Nat → Nat → Int} {R C : Nat → Nat} (h : dt k (fun i j => mulF n X Y (R i) (C j)) ≠ 0) : ∃ g : Nat → Nat, (∀ i, i < k → g i < n) ∧ dt k (fun i j => Y (g i) (C j)) ≠ 0 :=
  dt_pickR (fun i m => X (R i) m) (fun m j => Y m (C j)) h
theorem mul_left_some {k n : Nat} {X Y : Nat → Nat → Int} {R C : Nat → Nat} (h : dt k (fun i j => mulF n X Y (R i) (C j)) ≠ 0) : ∃ g : Nat → Nat, (∀ i, i < k → g i < n) ∧ dt k (fun i j => X (R i) (g j)) ≠ 0 := by
  rw [← dt_turn] at h
  obtain ⟨g, hg, hd⟩ := dt_pickR (fun i m => Y m (C i)) (fun m j => X (R j) m) (by
    rw [dt_congr k (g := fun i j => mulF n X Y (R j) (C i)) (fun i j _ _ => sumN_congr n fun m _ => Int.mul_comm _ _)]
    exact h)
  rw [← dt_turn] at hd
  exact ⟨g, hg, hd⟩

theorem dt_someRC {k r : Nat} (M : Nat → Nat → Int) (h : dt (k + 1) M ≠ 0) (hr : r < k + 1) : ∃ c, c < k + 1 ∧ dt k (fun i j => M (skip r i) (skip c j)) ≠ 0 := by
  rw [dt_row M hr] at h
  obtain ⟨c, hc, hd⟩ := sumN_some h
  exact ⟨c, hc, fun h0 => hd (by rw [h0, Int.mul_zero, Int.mul_zero])⟩
theorem dt_zeroR {k r : Nat} (M : Nat → Nat → Int) (hr : r < k) (h : ∀ j, j < k → M r j = 0) : dt k M = 0 := by
  obtain ⟨m, rfl⟩ : ∃ m, k = m + 1 := ⟨k - 1, by omega⟩
  rw [dt_row M hr]
  exact sumN_none _ fun j hj => by rw [h j hj, Int.zero_mul]
theorem dt_zeroC {k c : Nat} (M : Nat → Nat → Int) (hc : c < k) (h : ∀ i, i < k → M i c = 0) : dt k M = 0 := by
  rw [← dt_turn]
  exact dt_zeroR (fun i j => M j i) hc h

theorem low_rows (M : Nat → Nat → Int) : ∀ (v k : Nat) (g h : Nat → Nat), dt k (fun i j => M (g i) (h j)) ≠ 0 →
    ∃ (t : Nat) (g' h' : Nat → Nat), k ≤ t + v ∧ (∀ i, i < t → v ≤ g' i ∧ ∃ i0, i0 < k ∧ g' i = g i0) ∧ (∀ j, j < t → ∃ j0, j0 < k ∧ h' j = h j0) ∧ dt t (fun i j => M (g' i) (h' j)) ≠ 0
  | 0, k, g, h, hd => ⟨k, g, h, by omega, fun i hi => ⟨Nat.zero_le _, i, hi, rfl⟩, fun j hj => ⟨j, hj, rfl⟩, hd⟩
  | v + 1, k, g, h, hd => by
    obtain ⟨t, g', h', h1, h2, h3, h4⟩ := low_rows M v k g h hd
    by_cases hex : ∃ i0, i0 < t ∧ g' i0 = v
    · obtain ⟨i0, hi0, hv⟩ := hex
      obtain ⟨t1, rfl⟩ : ∃ t1, t = t1 + 1 := ⟨t - 1, by omega⟩
      obtain ⟨c, hc, hd2⟩ := dt_someRC (fun i j => M (g' i) (h' j)) h4 hi0
      refine ⟨t1, fun i => g' (skip i0 i), fun j => h' (skip c j), by omega, fun i hi => ?_, fun j hj => h3 _ (skip_bd hj), hd2⟩
      have hs := skip_bd (k := i0) hi
      obtain ⟨a1, a2⟩ := h2 _ hs
      refine ⟨?_, a2⟩
      have hne : g' (skip i0 i) ≠ g' i0 := fun e => h4 (dt_sameR (fun i j => M (g' i) (h' j)) (p := skip i0 i) (q := i0) (by unfold skip; split <;> omega) hs hi0 (fun j _ => by show M (g' _) _ = M (g' _) _; rw [e]))
      show v + 1 ≤ g' (skip i0 i)
      omega
    · refine ⟨t, g', h', by omega, fun i hi => ?_, h3, h4⟩
      obtain ⟨a1, a2⟩ := h2 i hi
      exact ⟨by have : g' i ≠ v := fun e => hex ⟨i, hi, e⟩
                omega, a2⟩

def sylR (n b : Nat) (A B : Nat → Nat → Int) (R C : Nat → Nat) (i j : Nat) : Int := if i < n then (if j < b then B i (C j) else if i = j - b then 1 else 0) else (if j < b then -(mulF n A B (R (i - n)) (C j)) else 0)
def sylP (n : Nat) (A : Nat → Nat → Int) (R : Nat → Nat) (i m : Nat) : Int := if i < n then (if i = m then 1 else 0) else (if m < n then A (R (i - n)) m else if i = m then 1 else 0)
theorem syl_top {n a b : Nat} {A B : Nat → Nat → Int} {R C : Nat → Nat} {i j : Nat} (hi : i < n) : mulF (n + a) (sylP n A R) (sylR n b A B R C) i j = sylR n b A B R C i j := by
  unfold mulF
  rw [sumN_one _ i (n + a) (by omega) (fun m _ hm => by unfold sylP; rw [if_pos hi, if_neg (fun e => hm e.symm), Int.zero_mul])]
  unfold sylP
  rw [if_pos hi, if_pos rfl, Int.one_mul]
theorem sumN_splitM (f : Nat → Int) (n : Nat) : ∀ m, sumN f (n + m) = sumN f n + sumN (fun j => f (n + j)) m
  | 0 => by simp [sumN]
  | m + 1 => by
    show sumN f (n + m) + f (n + m) = sumN f n + (sumN (fun j => f (n + j)) m + f (n + m))
    rw [sumN_splitM f n m]; omega
theorem syl_low {n a b : Nat} {A B : Nat → Nat → Int} {R C : Nat → Nat} {i j : Nat} (hi : i < a) : mulF (n + a) (sylP n A R) (sylR n b A B R C) (n + i) j = sumN (fun m => A (R i) m * sylR n b A B R C m j) n + sylR n b A B R C (n + i) j := by
  unfold mulF
  rw [sumN_splitM, sumN_one (fun q => sylP n A R (n + i) (n + q) * sylR n b A B R C (n + q) j) i a hi (fun m _ hm => by
    unfold sylP; rw [if_neg (by omega), if_neg (by omega), if_neg (by omega), Int.zero_mul])]
  congr 1
  · exact sumN_congr n fun m hm => by unfold sylP; rw [if_neg (by omega), if_pos hm, show n + i - n = i by omega]
  · unfold sylP; rw [if_neg (by omega), if_neg (by omega), if_pos rfl, Int.one_mul]
theorem syl_low0 {n a b : Nat} {A B : Nat → Nat → Int} {R C : Nat → Nat} {i j : Nat} (hi : i < a) (hj : j < b) : mulF (n + a) (sylP n A R) (sylR n b A B R C) (n + i) j = 0 := by
  rw [syl_low hi]
  have e : sumN (fun m => A (R i) m * sylR n b A B R C m j) n = mulF n A B (R i) (C j) := sumN_congr n fun m hm => by unfold sylR; rw [if_pos hm, if_pos hj]
  rw [e]
  unfold sylR
  rw [if_neg (by omega), if_pos hj, show n + i - n = i by omega]
  omega
theorem syl_low1 {n a b : Nat} {A B : Nat → Nat → Int} {R C : Nat → Nat} {i j : Nat} (hi : i < a) (hj : j < n) : mulF (n + a) (sylP n A R) (sylR n b A B R C) (n + i) (b + j) = A (R i) j := by
  rw [syl_low hi, sumN_one _ j n hj (fun m hm hmj => by unfold sylR; rw [if_pos hm, if_neg (by omega), if_neg (by omega), Int.mul_zero])]
  unfold sylR
  rw [if_pos hj, if_neg (by omega), if_pos (by omega), if_neg (by omega), if_neg (by omega)]
  omega

theorem syl_rank {A B : Nat → Nat → Int} {n a b : Nat} {R J K C : Nat → Nat} (hJ : ∀ j, j < a → J j < n) (hK : ∀ i, i < b → K i < n) (hA : dt a (fun i j => A (R i) (J j)) ≠ 0) (hB : dt b (fun i j => B (K i) (C j)) ≠ 0) :
    ∃ (t : Nat) (g h : Nat → Nat), a + b ≤ t + n ∧ (∀ i, i < t → g i < a) ∧ (∀ j, j < t → h j < b) ∧ dt t (fun i j => mulF n A B (R (g i)) (C (h j))) ≠ 0 := by
  obtain ⟨ρ, hρ⟩ : ∃ ρ : Nat → Nat, ρ = fun i => if i < b then K i else n + (i - b) := ⟨_, rfl⟩
  obtain ⟨γ, hγ⟩ : ∃ γ : Nat → Nat, γ = fun j => if j < b then j else b + J (j - b) := ⟨_, rfl⟩
  have r1 : ∀ i, i < b → ρ i = K i := fun i hi => by rw [hρ]; exact if_pos hi
  have r2 : ∀ i, ρ (b + i) = n + i := fun i => by rw [hρ]; show (if b + i < b then _ else _) = _; rw [if_neg (by omega)]; omega
  have c1 : ∀ j, j < b → γ j = j := fun j hj => by rw [hγ]; exact if_pos hj
  have c2 : ∀ j, γ (b + j) = b + J j := fun j => by rw [hγ]; show (if b + j < b then _ else b + J (b + j - b)) = _; rw [if_neg (by omega), show b + j - b = j by omega]
  have hdet : dt (b + a) (fun i j => mulF (n + a) (sylP n A R) (sylR n b A B R C) (ρ i) (γ j)) = dt b (fun i j => B (K i) (C j)) * dt a (fun i j => A (R i) (J j)) := by
    rw [← dt_turn, dt_block a b _ (fun i j hi hj hN => by
      obtain ⟨j', rfl⟩ : ∃ j', j = b + j' := ⟨j - b, by omega⟩
      rw [r2, c1 i hi]
      exact syl_low0 (by omega) hi)]
    rw [← dt_turn b (fun i j => B (K i) (C j)), ← dt_turn a (fun i j => A (R i) (J j))]
    congr 1
    · exact dt_congr b fun i j hi hj => by
        rw [r1 j hj, c1 i hi, syl_top (hK j hj)]
        unfold sylR
        rw [if_pos (hK j hj), if_pos hi]
    · exact dt_congr a fun i j hi hj => by
        rw [r2, c2]
        exact syl_low1 hj (hJ i hi)
  obtain ⟨g, hg, hd⟩ := mul_right_some (n := n + a) (X := sylP n A R) (Y := sylR n b A B R C) (R := ρ) (C := γ) (k := b + a) (by rw [hdet]; exact Int.mul_ne_zero hB hA)
  obtain ⟨t, g', h', e1, e2, e3, e4⟩ := low_rows (sylR n b A B R C) n (b + a) g γ hd
  have hg' : ∀ i, i < t → n ≤ g' i ∧ g' i < n + a := fun i hi => by
    obtain ⟨x1, i0, x2, x3⟩ := e2 i hi
    have := hg i0 x2
    omega
  have hcol : ∀ j, j < t → h' j < b := fun j hj => Classical.byContradiction fun hno => e4 (dt_zeroC _ hj fun i hi => by
    have := hg' i hi
    show sylR n b A B R C (g' i) (h' j) = 0
    unfold sylR
    rw [if_neg (by omega), if_neg hno])
  refine ⟨t, fun i => g' i - n, h', by omega, fun i hi => by have := hg' i hi; show g' i - n < a; omega, hcol, fun h0 => e4 ?_⟩
  rw [dt_congr t (g := fun i j => (-1) * mulF n A B (R (g' i - n)) (C (h' j))) (fun i j hi hj => by
    have := hg' i hi
    unfold sylR
    rw [if_neg (by omega), if_pos (hcol j hj)]
    omega), dt_scale, h0, Int.mul_zero]

theorem add_bit : ∀ s : Fin 64, ∀ x : Fin 6, s.val.testBit x.val = false → popcS (s.val + 2 ^ x.val) = popcS s.val + 1 ∧ s.val + 2 ^ x.val < 64 ∧ (∀ y : Fin 6, (s.val + 2 ^ x.val).testBit y.val = (s.val.testBit y.val || decide (y = x))) := by decide +kernel
theorem in_pow : ∀ n : Fin 7, ∀ s : Fin 64, (∀ y : Fin 6, s.val.testBit y.val = true → y.val < n.val) → s.val < 2 ^ n.val := by decide +kernel
theorem selN_in : ∀ n : Fin 7, ∀ s : Fin 64, s.val < 2 ^ n.val → ∀ y : Fin 6, s.val.testBit y.val = true → ∃ i : Fin 6, i.val < popcS s.val ∧ selN s.val n.val i.val = y.val := by decide +kernel
theorem selN_inj : ∀ n : Fin 7, ∀ s : Fin 64, s.val < 2 ^ n.val → ∀ i j : Fin 6, i.val < popcS s.val → j.val < popcS s.val → selN s.val n.val i.val = selN s.val n.val j.val → i = j := by decide +kernel

theorem set_of {n : Nat} (hn : n ≤ 6) (R : Nat → Nat) : ∀ k, (∀ i, i < k → R i < n) → (∀ i j, i < k → j < k → R i = R j → i = j) → ∃ s, s < 64 ∧ popcS s = k ∧ (∀ i, i < k → s.testBit (R i) = true) ∧ ∀ y, y < 6 → s.testBit y = true → ∃ i, i < k ∧ R i = y
  | 0, _, _ => ⟨0, by omega, by decide, fun i hi => absurd hi (Nat.not_lt_zero _), fun y _ h => by simp at h⟩
  | k + 1, h1, h2 => by
    obtain ⟨s, s1, s2, s3, s4⟩ := set_of hn R k (fun i hi => h1 i (by omega)) (fun i j hi hj e => h2 i j (by omega) (by omega) e)
    have hk := h1 k (by omega)
    have hb : s.testBit (R k) = false := by
      cases hb : s.testBit (R k) with
      | false => rfl
      | true =>
        obtain ⟨i, hi, e⟩ := s4 (R k) (by omega) hb
        have := h2 i k (by omega) (by omega) e
        omega
    obtain ⟨a1, a2, a3⟩ := add_bit ⟨s, s1⟩ ⟨R k, by omega⟩ hb
    simp only at a1 a2 a3
    refine ⟨s + 2 ^ R k, a2, by omega, fun i hi => ?_, fun y hy h => ?_⟩
    · have hi6 := h1 i hi
      have := a3 ⟨R i, by omega⟩
      simp only at this
      rw [this]
      by_cases e : i = k
      · subst e; simp
      · rw [s3 i (by omega)]; simp
    · have := a3 ⟨y, hy⟩
      simp only at this
      rw [this, Bool.or_eq_true] at h
      rcases h with h | h
      · obtain ⟨i, hi, e⟩ := s4 y hy h
        exact ⟨i, by omega, e⟩
      · have e : (⟨y, hy⟩ : Fin 6) = ⟨R k, by omega⟩ := of_decide_eq_true h
        injection e with e
        exact ⟨k, by omega, e.symm⟩

theorem rows_set {n k : Nat} (hn : n ≤ 6) (f : Nat → Nat → Int) (R : Nat → Nat) (hR : ∀ i, i < k → R i < n) (h : dt k (fun i j => f (R i) j) ≠ 0) : ∃ s, s < 2 ^ n ∧ popcS s = k ∧ dt k (fun i j => f (selN s n i) j) ≠ 0 := by
  have hinj : ∀ i j, i < k → j < k → R i = R j → i = j := fun i j hi hj e => Classical.byContradiction fun hne => h (dt_sameR (fun i j => f (R i) j) hne hi hj (fun q _ => by show f (R i) q = f (R j) q; rw [e]))
  obtain ⟨s, s1, s2, s3, s4⟩ := set_of hn R k hR hinj
  have hs := in_pow ⟨n, by omega⟩ ⟨s, s1⟩ (fun y hy => by
    obtain ⟨i, hi, e⟩ := s4 y.val y.2 hy
    have := hR i hi
    show y.val < n
    omega)
  have hk6 := popcS_le s
  have hin : ∀ i, i < k → ∃ q, q < k ∧ selN s n q = R i := fun i hi => by
    have := hR i hi
    obtain ⟨q, q1, q2⟩ := selN_in ⟨n, by omega⟩ ⟨s, s1⟩ hs ⟨R i, by omega⟩ (s3 i hi)
    simp only at q1 q2
    exact ⟨q.val, by omega, q2⟩
  have hsj : ∀ i j, i < k → j < k → selN s n i = selN s n j → i = j := fun i j hi hj e => by
    have := selN_inj ⟨n, by omega⟩ ⟨s, s1⟩ hs ⟨i, by omega⟩ ⟨j, by omega⟩ (by show i < popcS s; omega) (by show j < popcS s; omega) e
    injection this
  refine ⟨s, hs, s2, fun h0 => h ?_⟩
  have e : dt k (fun i j => f (R i) j) = dt k (mulF k (fun i q => if R i = selN s n q then 1 else 0) (fun q j => f (selN s n q) j)) := dt_congr k fun i j hi hj => by
    obtain ⟨q, hq, e⟩ := hin i hi
    unfold mulF
    dsimp only
    rw [sumN_one _ q k hq (fun p hp hpq => by rw [if_neg (fun e2 => hpq (hsj p q hp hq (by rw [e, ← e2]))), Int.zero_mul]), if_pos e.symm, Int.one_mul, e]
  rw [e, dt_mul, h0, Int.mul_zero]

theorem rank_fun {l : List (List Int)} {n m k : Nat} (hT : TabIn l) (hn : l.length = n) (hm : (l.getD 0 []).length = m) {R C : Nat → Nat} (hR : ∀ i, i < k → R i < n) (hC : ∀ j, j < k → C j < m) (h : dt k (fun i j => at2 l (R i) (C j)) ≠ 0) : k ≤ rkR l (2 ^ m) (2 ^ n) := by
  have h6 := hT.2.1
  have hw := hT.width
  rw [hn] at h6
  rw [hm] at hw
  obtain ⟨r, r1, r2, hd⟩ := rows_set h6 (fun x j => at2 l x (C j)) R hR h
  rw [← dt_turn] at hd
  obtain ⟨c, c1, c2, hd2⟩ := rows_set hw.2 (fun y i => at2 l (selN r n i) y) C hC hd
  rw [← dt_turn] at hd2
  by_cases h0 : 1 ≤ k
  · obtain ⟨_, _, a3⟩ := rank_down (l := l) (n := n) (m := m) h6 hw.2
    have p1 : 2 ^ n ≤ 2 ^ 6 := Nat.pow_le_pow_right (by omega) h6
    have p2 : 2 ^ m ≤ 2 ^ 6 := Nat.pow_le_pow_right (by omega) hw.2
    have g1 := popcS_sel ⟨n, by omega⟩ ⟨r, by omega⟩ r1
    have g2 := popcS_sel ⟨m, by omega⟩ ⟨c, by omega⟩ c1
    simp only at g1 g2
    refine (a3 k h0).1 (hasB_iff.2 ⟨r, c, ⟨r1, r2⟩, ⟨c1, c2⟩, ?_⟩)
    rw [dt_congr k (g := fun i j => at2 l (selN r n i) (selN c m j)) (fun i j hi hj => by
      rw [partL_at l r c (by rw [hn]; omega) (by rw [hm]; omega), hn, hm])]
    exact hd2
  · omega
theorem rank_fun_of {l : List (List Int)} {n m : Nat} (hT : TabIn l) (hn : l.length = n) (hm : (l.getD 0 []).length = m) : ∃ R C : Nat → Nat, (∀ i, i < rkR l (2 ^ m) (2 ^ n) → R i < n) ∧ (∀ j, j < rkR l (2 ^ m) (2 ^ n) → C j < m) ∧ dt (rkR l (2 ^ m) (2 ^ n)) (fun i j => at2 l (R i) (C j)) ≠ 0 := by
  have h6 := hT.2.1
  have hw := hT.width
  rw [hn] at h6
  rw [hm] at hw
  by_cases h0 : 1 ≤ rkR l (2 ^ m) (2 ^ n)
  · obtain ⟨_, _, a3⟩ := rank_down (l := l) (n := n) (m := m) h6 hw.2
    cases hb : hasB l (rkR l (2 ^ m) (2 ^ n)) (2 ^ n) (2 ^ m) with
    | false => exact absurd rfl ((a3 _ h0).2 hb)
    | true =>
      obtain ⟨r, c, ⟨r1, r2⟩, ⟨c1, c2⟩, hd⟩ := hasB_iff.1 hb
      have p1 : 2 ^ n ≤ 2 ^ 6 := Nat.pow_le_pow_right (by omega) h6
      have p2 : 2 ^ m ≤ 2 ^ 6 := Nat.pow_le_pow_right (by omega) hw.2
      have g1 := popcS_sel ⟨n, by omega⟩ ⟨r, by omega⟩ r1
      have g2 := popcS_sel ⟨m, by omega⟩ ⟨c, by omega⟩ c1
      simp only at g1 g2
      refine ⟨selN r n, selN c m, fun i hi => selN_lt (by omega), fun j hj => selN_lt (by omega), ?_⟩
      rw [dt_congr _ (g := at2 (partL l r c)) (fun i j hi hj => by
        rw [partL_at l r c (by rw [hn]; omega) (by rw [hm]; omega), hn, hm])]
      exact hd
  · have e : rkR l (2 ^ m) (2 ^ n) = 0 := by omega
    rw [e]
    exact ⟨fun _ => 0, fun _ => 0, fun i hi => absurd hi (Nat.not_lt_zero _), fun i hi => absurd hi (Nat.not_lt_zero _), by rw [dt_zero]; omega⟩

theorem rank_mul {l u M : List (List Int)} {p n q : Nat} (hT : TabIn l) (hU : TabIn u) (hM : TabIn M) (hl : l.length = p) (hlw : (l.getD 0 []).length = n) (hu : u.length = n) (huw : (u.getD 0 []).length = q) (hMl : M.length = p) (hMw : (M.getD 0 []).length = q)
    (hat : ∀ i j, i < p → j < q → at2 M i j = mulF n (at2 l) (at2 u) i j) :
    rkR M (2 ^ q) (2 ^ p) ≤ rkR l (2 ^ n) (2 ^ p) ∧ rkR M (2 ^ q) (2 ^ p) ≤ rkR u (2 ^ q) (2 ^ n) ∧ rkR l (2 ^ n) (2 ^ p) + rkR u (2 ^ q) (2 ^ n) ≤ rkR M (2 ^ q) (2 ^ p) + n := by
  obtain ⟨R, C, hR, hC, hd⟩ := rank_fun_of hM hMl hMw
  have hd' : dt (rkR M (2 ^ q) (2 ^ p)) (fun i j => mulF n (at2 l) (at2 u) (R i) (C j)) ≠ 0 := by
    rw [dt_congr _ (g := fun i j => at2 M (R i) (C j)) (fun i j hi hj => (hat _ _ (hR i hi) (hC j hj)).symm)]
    exact hd
  refine ⟨?_, ?_, ?_⟩
  · obtain ⟨g, hg, h⟩ := mul_left_some hd'
    exact rank_fun hT hl hlw hR hg h
  · obtain ⟨g, hg, h⟩ := mul_right_some hd'
    exact rank_fun hU hu huw hg hC h
  · obtain ⟨R1, J, a1, a2, a3⟩ := rank_fun_of hT hl hlw
    obtain ⟨K, C1, b1, b2, b3⟩ := rank_fun_of hU hu huw
    obtain ⟨t, g, h, e1, e2, e3, e4⟩ := syl_rank (n := n) a2 b1 a3 b3
    have := rank_fun hM hMl hMw (k := t) (R := fun i => R1 (g i)) (C := fun j => C1 (h j)) (fun i hi => a1 _ (e2 i hi)) (fun j hj => b2 _ (e3 j hj)) (by
      rw [dt_congr t (g := fun i j => mulF n (at2 l) (at2 u) (R1 (g i)) (C1 (h j))) (fun i j hi hj => hat _ _ (a1 _ (e2 i hi)) (b2 _ (e3 j hj)))]
      exact e4)
    omega

end Go.Proofs.Ythdemjfllfhhpaa
end

section
namespace Go.Proofs.Ythdemjfllfhhpaa
open Go.RowKit Go.Deep

set_option maxRecDepth 100000 in
set_option maxHeartbeats 2000000 in
theorem rank_any (a : Option Addr) (cap n m : Nat) (l : List (List Int)) (w : World) (hn : l.length = n) (hT : TabIn l) (hmm : (l.getD 0 []).length = m) (hm : MatR w a l) :
    Calls Try.prog 54 #[.slice a n cap] w fun e w' => e = .returned (.int .i64 (rkR l (2 ^ m) (2 ^ n) : Nat)) ∧ w.Since w.heap.size w' := by
  have h6 := hT.2.1
  have h1 := hT.1
  have hw := hT.width
  rw [hn] at h6 h1
  rw [hmm] at hw
  obtain ⟨r1, r2, r3⟩ := rank_down (l := l) h6 hw.2
  obtain ⟨b, hb⟩ : ∃ b, rkR l (2 ^ m) (2 ^ n) = b := ⟨_, rfl⟩
  rw [hb] at r1 r2 r3 ⊢
  have EW := width_any a cap n l w hn (by omega) (by omega) hm
  rw [hmm] at EW
  have EH := Lib.hid (fun (k : Nat) (W : World) (h : w.Since w.heap.size W) => hasMinor_any a cap n m k l W hn hmm hT (hm.since h))
  replace EW := Lib.hid EW
  have R3 := Lib.hid r3
  clear r3 hn hmm hm hT hb
  go_enter Try.func54, Try.ntmps54
  go_wp2_with fail
  refine (EW.out).mono ?_
  rintro e w1 ⟨rfl, rfl⟩
  go_wp2
  all_goals
    go_loopg [3] 6 (fun g v wr => ∃ c : Nat, b ≤ c ∧ c ≤ 6 ∧ c ≤ g ∧ v = .int .i64 c ∧ w.Since w.heap.size wr)
    case atStart => first | exact ⟨n, r1, h6, h6, rfl, World.Since.refl _ _⟩ | exact ⟨m, r2, hw.2, hw.2, rfl, World.Since.refl _ _⟩
    case round =>
      obtain ⟨c, hbc, hc6, hcg, rfl, hS⟩ := hrel
      by_cases hc0 : c = 0
      · have hb0 : b = 0 := by omega
        subst hc0 hb0
        have HS := Lib.hid hS
        clear hS
        go_wp2
        go_ret
        exact ⟨rfl, HS.out⟩
      · have hc1 : decide ((0 : Int) < (c : Int)) = true := by simp; omega
        have E := EH.out c wr hS
        obtain ⟨q1, q2⟩ := R3.out c (by omega)
        obtain ⟨h, hh⟩ : ∃ h, hasB l c (2 ^ n) (2 ^ m) = h := ⟨_, rfl⟩
        rw [hh] at E q1 q2
        replace E := Lib.hid E
        have HS := Lib.hid hS
        clear hS hh
        go_wp2_with fail
        refine (E.out).mono ?_
        rintro e w2 ⟨rfl, hs2⟩
        have HS2 := Lib.hid (HS.out.trans (since_mono hs2 HS.out.size))
        clear hs2
        cases h with
        | true =>
          have hcb : c = b := by have := q1 rfl; omega
          subst hcb
          go_wp2
          go_ret
          exact ⟨rfl, HS2.out⟩
        | false =>
          have hcb := q2 rfl
          go_wp2
          go_roundg (gk - 1)
          case measure => omega
          case rel => exact ⟨c - 1, by omega, by omega, by omega, by go_num, HS2.out⟩

set_option maxHeartbeats 1000000 in
theorem implValueRank_any (a : Option Addr) (cap n : Nat) (l : List (List Int)) (w : World) (hn : l.length = n) (hsz : szL l ≤ 1048576) (hm : MatR w a l) :
    Calls Try.prog 15 #[.slice a n cap] w (SpecW w (tabIn l) (rkR l (2 ^ (l.getD 0 []).length) (2 ^ n) : Nat)) := by
  have E := implTableIn_any a cap n l w hn hsz hm
  cases hT : tabIn l with
  | false =>
    rw [hT] at E
    replace E := Lib.hid E
    clear hT hm hn hsz
    go_enter Try.func15, Try.ntmps15
    go_wp2_with fail
    refine (E.out).mono ?_
    rintro e w1 ⟨rfl, hd⟩
    have HD := Lib.hid hd
    clear hd
    go_wp2
    go_ret2
    exact ⟨rfl, HD.out⟩
  | true =>
    rw [hT] at E
    replace E := Lib.hid E
    have E2 := Lib.hid (fun (W : World) (hd : w.Since w.heap.size W) => rank_any a cap n _ l W hn (tabIn_of hT) rfl (hm.since hd))
    clear hT hm hn hsz
    go_enter Try.func15, Try.ntmps15
    go_wp2_with fail
    refine (E.out).mono ?_
    rintro e w1 ⟨rfl, hd⟩
    have HD := Lib.hid hd
    clear hd
    go_wp2_with fail
    refine (E2.out w1 HD.out).mono ?_
    rintro e w2 ⟨rfl, hs2⟩
    have HS2 := Lib.hid (HD.out.trans (since_mono hs2 HD.out.size))
    clear hs2
    go_wp2
    go_ret2
    exact ⟨rfl, HS2.out⟩

end Go.Proofs.Ythdemjfllfhhpaa
end

section
namespace Go.Proofs.Ythdemjfllfhhpaa
open Go.RowKit Go.Deep

set_option maxRecDepth 100000 in
set_option maxHeartbeats 4000000 in
theorem fnRankMake (a : Option Addr) (cap n : Nat) (w : World) (hc : n ≤ cap) (h63 : cap ≤ 9223372036854775807) (hb : BytR w a n) :
    Calls Try.prog 6 #[.slice a n cap] w fun e w' => e = .returned (.bool true) ∧ w.Since w.heap.size w' := by
  by_cases hlen : 1048576 < n
  · have hl' : decide ((1048576 : Int) < (n : Int)) = true := by simp; omega
    clear hb
    go_enter Try.func6, Try.ntmps6
    go_wp2
    go_ret
    exact ⟨rfl, World.Since.refl _ _⟩
  · have hl' : decide ((1048576 : Int) < (n : Int)) = false := by simp; omega
    have ED := Lib.hid (drawMake_any a n cap w hc h63 hb)
    clear hb
    go_enter Try.func6, Try.ntmps6
    go_wp2_with fail
    refine (ED.out).mono ?_
    rintro e w1 ⟨a1, c1, l, a6, c6, u, rfl, hs1, ⟨h1, h5, hlens, hit⟩, ⟨g1, g5, glens, git⟩⟩
    have hsz : szL l ≤ 1048576 := szL_of h5 (fun j hj => (hlens j hj).2) (by decide)
    obtain ⟨nn, hn⟩ : ∃ nn, l.length = nn := ⟨_, rfl⟩
    rw [hn]
    have HN := Lib.hid hn
    have HSZ := Lib.hid hsz
    have HM := Lib.hid (fun (W : World) (h : w1.Since w1.heap.size W) => hit.matR.since h)
    have hszu : szL u ≤ 1048576 := szL_of g5 (fun j hj => (glens j hj).2) (by decide)
    obtain ⟨nu, hu⟩ : ∃ nu, u.length = nu := ⟨_, rfl⟩
    rw [hu]
    have HU := Lib.hid hu
    have HSZU := Lib.hid hszu
    have HMU := Lib.hid (fun (W : World) (h : w1.Since w1.heap.size W) => git.matR.since h)
    have HS1 := Lib.hid hs1
    obtain ⟨ok, hok⟩ : ∃ ok, makeOk l u = ok := ⟨_, rfl⟩
    obtain ⟨M, hM⟩ : ∃ M, resT ok (makeL l u) = M := ⟨_, rfl⟩
    have E1 := implTableMake_any a1 a6 c1 c6 nn nu l u w1 hn hu hsz hszu (hit.matR) (git.matR)
    have E2 := fun (W : World) (h : w1.Since w1.heap.size W) => specTableMake_any a1 a6 c1 c6 nn nu l u W hn hu hsz hszu (hit.matR.since h) (git.matR.since h)
    have hMsz : szL M ≤ 1048576 := by
      rw [← hM]
      cases hok' : ok with
      | false => simp [resT, szL, sumTo]
      | true => rw [hok'] at hok; exact szL_makeOk l u hok
    unfold ImplT at E1
    unfold SpecT at E2
    rw [hok, hM] at E1
    simp only [hok, hM] at E2
    obtain ⟨q, hq⟩ : ∃ q, M.length = q := ⟨_, rfl⟩
    rw [hq] at E1
    simp only [hq] at E2
    have hq63 : q ≤ 9223372036854775807 := by unfold szL at hMsz; omega
    replace E1 := Lib.hid E1
    replace E2 := Lib.hid E2
    have HQ := Lib.hid hq
    have HMS := Lib.hid hMsz
    have HOK := Lib.hid hok
    have HMM := Lib.hid hM
    clear hn hsz hit hs1 h1 h5 hlens hq hMsz hok hM hu hszu git g1 g5 glens
    go_wp2_with fail
    refine (E1.out).mono ?_
    rintro e w2 ⟨a2, c2, rfl, hs2, ho2⟩
    have HO := Lib.hid (fun (W : World) (h : w2.Since w2.heap.size W) => ho2.matR.since h)
    have HS2 := Lib.hid hs2
    clear ho2 hs2
    go_wp2_with fail
    refine (E2.out w2 HS2.out).mono ?_
    rintro e w3 ⟨a3, c3, rfl, hs3, hi3⟩
    have ES := Lib.hid (fun (W : World) (h : w3.Since w3.heap.size W) => sameRows_same a2 a3 c2 c3 q M W HQ.out hq63 (rows_le HMS.out) (HO.out W (hs3.trans (since_mono h hs3.size))) (hi3.matR.since h))
    have HS3 := Lib.hid hs3
    clear hi3 hs3
    go_wp2_with fail
    refine (ES.out w3 (World.Since.refl _ _)).mono ?_
    rintro e w4 ⟨rfl, hd4⟩
    have hs4 := hd4.since w3.heap.size
    have hs14 : w1.Since w1.heap.size w4 := (HS2.out.trans (since_mono HS3.out HS2.out.size)).trans (since_mono hs4 (by have := HS2.out.size; have := HS3.out.size; omega))
    have HS4 := Lib.hid hs14
    have hs24 : w2.Since w2.heap.size w4 := HS3.out.trans (since_mono hs4 HS3.out.size)
    have HS24 := Lib.hid hs24
    cases ok with
    | false =>
      clear hs14 hs24 hd4
      go_wp2_with fail
      refine (ES.out w4 hs4).mono ?_
      rintro e w5 ⟨rfl, hd5⟩
      have HS5 := Lib.hid (hd5.since w4.heap.size)
      clear hd5
      go_wp2
      go_ret
      exact ⟨rfl, HS1.out.trans (since_mono (HS4.out.trans (since_mono HS5.out HS4.out.size)) HS1.out.size)⟩
    | true =>
      have hMl : M = makeL l u := HMM.out.symm
      clear hs4 hd4
      obtain ⟨hT, hTu, hjoin, hMT⟩ := makeOk_of HOK.out
      obtain ⟨m, hmm⟩ : ∃ m, (l.getD 0 []).length = m := ⟨_, rfl⟩
      obtain ⟨mu, hmu⟩ : ∃ m, (u.getD 0 []).length = m := ⟨_, rfl⟩
      have hm : m = nu := by rw [← hmm, hjoin, HU.out]
      subst hm
      have h1 := hT.1
      have h6 := hT.2.1
      have h7 := hTu.2.1
      have hwu := hTu.width
      rw [HN.out] at h1 h6
      rw [HU.out] at h7
      rw [hmu] at hwu
      have hMlen : M.length = nn := by rw [hMl, makeL_len, HN.out]
      have hqn : q = nn := by rw [← HQ.out, hMlen]
      have hMw : (M.getD 0 []).length = mu := by
        rw [hMl]; unfold makeL
        rw [tabF_len _ _ _ _ (by rw [HN.out]; omega), hmu]
      have hat : ∀ i j, i < nn → j < mu → at2 M i j = mulF m (at2 l) (at2 u) i j := fun i j hi hj => by
        rw [hMl]; unfold makeL
        rw [HN.out, HU.out, hmu]
        exact tabF_at _ _ _ i j hi hj
      obtain ⟨k1, k2, k3⟩ := rank_mul hT hTu (by rw [hMl]; exact hMT) HN.out hmm HU.out hmu hMlen hMw hat
      have hTM : tabIn M = true := by rw [hMl]; exact tabIn_true hMT
      subst hqn
      have E8 := fun (W : World) (h : w1.Since w1.heap.size W) => implValueRank_any a1 c1 q l W HN.out HSZ.out (HM.out W h)
      have E9 := fun (W : World) (h : w1.Since w1.heap.size W) => implValueRank_any a6 c6 m u W HU.out HSZU.out (HMU.out W h)
      have E10 := fun (W : World) (h : w2.Since w2.heap.size W) => implValueRank_any a2 c2 q M W HQ.out HMS.out (HO.out W h)
      unfold SpecW at E8 E9 E10
      simp only [tabIn_true hT, hmm, if_true] at E8
      simp only [tabIn_true hTu, hmu, if_true] at E9
      simp only [hTM, hMw, if_true] at E10
      have hr1 := (rank_down (l := l) (n := q) (m := m) (by omega) (by omega)).1
      have hr2 := (rank_down (l := u) (n := m) (m := mu) (by omega) (by omega)).1
      obtain ⟨x, hx⟩ : ∃ d, rkR l (2 ^ m) (2 ^ q) = d := ⟨_, rfl⟩
      obtain ⟨y, hy⟩ : ∃ d, rkR u (2 ^ mu) (2 ^ m) = d := ⟨_, rfl⟩
      obtain ⟨z, hz⟩ : ∃ d, rkR M (2 ^ mu) (2 ^ q) = d := ⟨_, rfl⟩
      rw [hx] at hr1 k1 k3
      rw [hy] at hr2 k2 k3
      rw [hz] at k1 k2 k3
      simp only [hx] at E8
      simp only [hy] at E9
      simp only [hz] at E10
      have hw1 : IntKind.i64.wrap ((x : Int) + (y : Int)) = (x : Int) + (y : Int) := IntWalk.i64_in _ ⟨by omega, by omega⟩
      have hw2 : IntKind.i64.wrap ((x : Int) + (y : Int) - (m : Int)) = (x : Int) + (y : Int) - (m : Int) := IntWalk.i64_in _ ⟨by omega, by omega⟩
      have hg : decide ((z : Int) ≥ (x : Int) + (y : Int) - (m : Int)) = true := by simp; omega
      replace E8 := Lib.hid E8
      replace E9 := Lib.hid E9
      replace E10 := Lib.hid E10
      clear hMl hs14 hs24 hT hTu hjoin hMT hmm hmu hMlen hMw hat hTM hx hy hz
      go_wp2_with fail
      refine (E8.out w4 HS4.out).mono ?_
      rintro e w5 ⟨rfl, hs5⟩
      have HS5 := Lib.hid (HS4.out.trans (since_mono hs5 HS4.out.size))
      have HT5 := Lib.hid (HS24.out.trans (since_mono hs5 HS24.out.size))
      clear hs5
      go_wp2_with fail
      refine (E9.out w5 HS5.out).mono ?_
      rintro e w6 ⟨rfl, hs6⟩
      have HS6 := Lib.hid (HS5.out.trans (since_mono hs6 HS5.out.size))
      have HT6 := Lib.hid (HT5.out.trans (since_mono hs6 HT5.out.size))
      clear hs6
      go_wp2_with fail
      refine (E10.out w6 HT6.out).mono ?_
      rintro e w7 ⟨rfl, hs7⟩
      have HS7 := Lib.hid (HS6.out.trans (since_mono hs7 HS6.out.size))
      clear hs7
      go_wp2
      all_goals first
        | (go_ret; exact ⟨rfl, HS1.out.trans (since_mono HS7.out HS1.out.size)⟩)
        | (exfalso; omega)

end Go.Proofs.Ythdemjfllfhhpaa
end

section
namespace Go.Proofs.Ythdemjfllfhhpaa
open Go.ChangeShapes Go.WideShapes Go.ChangeAt Go.RowKit Go.Deep

theorem below_since' {B : Nat} {w w' : World} (h : Below B w w') : w.Since B w' := ⟨h.os, h.tape, h.output, h.size, h.block⟩
theorem since_below' {B : Nat} {w w' : World} (h : w.Since B w') : Below B w w' := ⟨h.os, h.tape, h.output, h.size, h.block⟩

section
variable {H : Type} {enc : TypeId × Value → H} {P : Program}
theorem post_of_below {f : Func} {s : ChangeSpec} {apart fresh handsOn again : Bool} {W W' : World} {args : Array Value} {v : Value} {ds gs : List (DataW H)} {before pa pv : List MemPlace}
    (hW : DataW.Whole enc P f.params.toList s.vars apart W args.toList ds gs before)
    (hres : ∀ (b : Nat) (sp : Nat → Bool) (hd : Bool), DataW.TrodAll enc P W' b sp hd f.resultTypes.toList (v.resultList f.resultTypes.size) (s.fn H (ds ++ gs)).results [])
    (hargs : ∀ sp : Nat → Bool, (∀ p ∈ before, sp p.block = true) → DataW.TrodAll enc P W' 0 sp true f.params.toList args.toList (s.fn H (ds ++ gs)).args pa)
    (hvars : ∀ sp : Nat → Bool, (∀ p ∈ before, sp p.block = true) → DataW.TrodVars enc P W' sp s.vars (s.fn H (ds ++ gs)).vars pv)
    (hps : before = pa ++ pv) (hb : Below W.heap.size W W') (hag : again = false) :
    s.post enc P f apart fresh handsOn again W args v W' := by
  have hlt : ∀ p ∈ before, p.block < W.heap.size := fun p hp => hW.lt p hp
  have hold : ∀ p ∈ before, (fun b => decide (b < W.heap.size)) p.block = true := fun p hp => by simpa using hlt p hp
  refine ⟨ds, gs, before, [], pa, pv, hW, hres _ _ _, hargs _ hold, hvars _ hold, World.keptBut_mono (fun p hp => ⟨hp, ?_⟩) (hb.frame (· ∈ before)), fun h => ?_⟩
  · rw [hps, List.mem_append] at hp
    exact Or.inr hp
  · rw [hag] at h; cases h

theorem open_mat {W : World} {t e q : TypeId} {a : Option Addr} {n cap : Nat} {d : DataW H} {p : List MemPlace} (ht : P.underlying t = some (.slice e)) (he : P.underlying e = some (.slice q)) (hq : P.underlying q = some (.int .i64))
    (ce : P.cellsOf e = 1) (cq : P.cellsOf q = 1) (h : DataW.Trod enc P W 0 (fun _ => true) true t (.slice a n cap) d p) :
    ∃ l : List (List Int), l.length = n ∧ MatR W a l ∧ n ≤ 9223372036854775807 ∧ ∀ r, r < l.length → (l.getD r []).length ≤ 9223372036854775807 := by
  obtain ⟨fuel, hf⟩ := h
  rcases open_int_rows ht he hq ce cq hf with ⟨hcs, _⟩ | ⟨a', len', cap', A, L, C, Z, hcs, _, hl, hm, _, hrows⟩
  · simp [Value.cells] at hcs
    obtain ⟨rfl, rfl, rfl⟩ := hcs
    exact ⟨[], rfl, (fun h => by simp at h), by omega, fun r hr => by simp at hr⟩
  · simp [Value.cells] at hcs
    obtain ⟨rfl, rfl, rfl⟩ := hcs
    have hmx : maxLen = 9223372036854775807 := rfl
    have hlen : ∀ r, r < n → ((Z r).take (L r)).length = L r := fun r hr => by
      obtain ⟨_, h1, _, h2, _⟩ := hrows r (by omega)
      rw [List.length_take]; omega
    have hget : ∀ r, r < n → ((List.range n).map fun r => (Z r).take (L r)).getD r [] = (Z r).take (L r) := fun r hr => by simp [List.getD, hr]
    refine ⟨(List.range n).map fun r => (Z r).take (L r), by simp, fun h => ?_, by omega, fun r hr => ?_⟩
    · obtain ⟨b, o, spot⟩ := a'
      simp at h
      have hspot : spot = none := by simpa [Addr.add] using World.cell?_spot (hrows 0 (by omega)).1
      subst hspot
      refine ⟨b, o, A, C, rfl, fun r hr => ?_⟩
      simp at hr
      rw [hget r hr, hlen r hr]
      obtain ⟨g1, g2, g3, g4, g5, g6, g7⟩ := hrows r (by omega)
      refine ⟨by rw [← add_plain]; exact g1, fun h0 => ?_⟩
      rw [hlen r hr] at h0
      cases hA : A r with
      | none => have := g6 hA; omega
      | some a'' =>
        obtain ⟨_, hcell⟩ := g7 a'' hA
        obtain ⟨b', o', sp⟩ := a''
        have hs : sp = none := by simpa [Addr.add] using World.cell?_spot (hcell 0 (by omega))
        subst hs
        refine ⟨b', o', rfl, fun i hi => ?_⟩
        rw [hlen r hr] at hi
        rw [← add_plain, hcell i (by omega)]
        congr 2
        simp [List.getD, hi]
    · simp at hr
      rw [hget r hr, hlen r hr]
      obtain ⟨_, h1, h2, _⟩ := hrows r (by omega)
      omega
end

theorem Try.own : ownKnob Try.prog.godebug = none := by kernel_rfl
theorem Try.laidOut : laidOutB Try.prog = true := by kernel_rfl
theorem Try.cellsR : Try.prog.cellsOf 37 = 1 := by kernel_rfl
theorem Try.cellsI : Try.prog.cellsOf 3 = 1 := by kernel_rfl

end Go.Proofs.Ythdemjfllfhhpaa
end

section
namespace Go.Proofs.Ythdemjfllfhhpaa
open Go.ChangeShapes Go.WideShapes Go.ChangeAt Go.RowKit Go.Deep

theorem wf_u8_of {n : Int} (h : (Lit.int .u8 n).wf = true) : 0 ≤ n ∧ n ≤ 255 := by
  have h2 : (0 : Int) ≤ n ∧ n ≤ 255 := by simpa [Lit.wf, IntKind.min, IntKind.max, IntKind.signed, IntKind.bits] using h
  exact h2

theorem open_bytes {H : Type} {enc : TypeId × Value → H} {P : Program} {W : World} {t e : TypeId} {a : Option Addr} {n cap : Nat} {d : DataW H} {p : List MemPlace} (ht : P.underlying t = some (.slice e)) (he : P.underlying e = some (.int .u8)) (ce : P.cellsOf e = 1)
    (h : DataW.Trod enc P W 0 (fun _ => true) true t (.slice a n cap) d p) : BytR W a n ∧ n ≤ cap ∧ cap ≤ 9223372036854775807 := by
  obtain ⟨fuel, hf⟩ := h
  rcases open_ints ht he ce hf with ⟨hcs, _⟩ | ⟨a', len, cap', zs, hcs, _, hl, hm, hlen, _, hcell, hwf⟩
  · simp [Value.cells] at hcs
    obtain ⟨rfl, rfl, rfl⟩ := hcs
    exact ⟨fun h => absurd h (by omega), by omega, by omega⟩
  · simp [Value.cells] at hcs
    obtain ⟨rfl, rfl, rfl⟩ := hcs
    have hmx : maxLen = 9223372036854775807 := rfl
    have hzl : zs.length = cap := by simpa using hlen
    refine ⟨fun h0 => ?_, by omega, by omega⟩
    obtain ⟨b, o, spot⟩ := a'
    have hspot : spot = none := by simpa [Addr.add] using World.cell?_spot (hcell 0 (by omega))
    subst hspot
    refine ⟨b, o, rfl, fun i hi => ?_⟩
    have hi' : i < zs.length := by omega
    have hw := wf_u8_of (hwf (zs.getD i 0) (by simp [List.getD, hi']))
    obtain ⟨z, hz⟩ := Int.eq_ofNat_of_zero_le hw.1
    refine ⟨z, by omega, ?_⟩
    rw [← add_plain, hcell i hi', hz]

theorem Try.cellsB : Try.prog.cellsOf 5 = 1 := by kernel_rfl

end Go.Proofs.Ythdemjfllfhhpaa
end
