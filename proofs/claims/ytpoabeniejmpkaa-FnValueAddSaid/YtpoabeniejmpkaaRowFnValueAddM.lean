import Derived.Test.YtpoabeniejmpkaaTable
import Derived.OwnWalk
import Derived.Test.YtpoabeniejmpkaaHarn2
import Derived.Test.YtpoabeniejmpkaaSwapSpec
import Derived.Test.YtpoabeniejmpkaaAddSpec
import Derived.Test.YtpoabeniejmpkaaDet
import Derived.Test.YtpoabeniejmpkaaRowsF
import Derived.Test.YtpoabeniejmpkaaL2Square
import Derived.Test.YtpoabeniejmpkaaAddImpl
import Derived.Test.YtpoabeniejmpkaaOrdersK
import Derived.Test.YtpoabeniejmpkaaRows
import Derived.Test.YtpoabeniejmpkaaData
import Derived.ProofKit
import Derived.Deep.Matrix
import Derived.Test.YtpoabeniejmpkaaDraw0

section
/- A drawn table: how it is read, and how one of its cells or rows is replaced. -/
namespace Go.Proofs.Ytpoabeniejmpkaa
open Go.RowKit Go.Deep

theorem BD.inT {B : Nat} {w : World} {v : Value} {l : List (List Int)} {A : Nat → Option Addr} {C : Nat → Nat} (h : BD B w v l A C) : ∃ a cap, v = .slice a l.length cap ∧ InT B w.heap.size w a l := by
  by_cases h0 : 0 < l.length
  · obtain ⟨b, cap, cur, e, hb, hg, hc⟩ := h.top h0
    refine ⟨_, cap, e, fun _ => ⟨b, 0, A, fun r => ((A r).getD default).block, fun _ => 0, C, rfl, ⟨hb, (Array.getElem?_eq_some_iff.1 hg).1⟩, fun r hr => ⟨?_, fun h1 => ?_⟩⟩⟩
    · rw [Nat.zero_add]; simp [World.cell?, hg, hc r hr]
    · obtain ⟨g, e, hB, hw⟩ := h.row hr
      have e' : ((A r).getD default).block = g := by rw [e]; rfl
      dsimp only
      rw [e']
      exact ⟨e, ⟨hB, hw.lt⟩, fun i hi => by rw [Nat.zero_add]; exact hw.cell hi⟩
  · rcases h.own.2 with ⟨hv, hn⟩ | ⟨g, cap, cur, e, _⟩
    · exact ⟨none, 0, by rw [hv, hn], fun h => absurd h h0⟩
    · exact ⟨_, cap, e, fun h => absurd h h0⟩

theorem BD.row_ne {B : Nat} {w : World} {l : List (List Int)} {A : Nat → Option Addr} {C : Nat → Nat} {b cap n : Nat} (h : BD B w (.slice (some ⟨b, 0, none⟩) n cap) l A C) {g : Nat} {x : List Int} (hw : RowB w g x) : g ≠ b := by
  rintro rfl
  obtain ⟨cs, hc, _⟩ := hw
  rcases h.own.2 with ⟨e, _⟩ | ⟨g', cap', cur, e, _, hgg, _⟩
  · cases e
  · injection e with e
    injection e with e
    injection e with e
    rw [← e, hc] at hgg
    injection hgg with hgg
    injection hgg with _ e2 _
    exact absurd e2 (by decide)

theorem BD.addr_ne {B : Nat} {w : World} {v : Value} {l : List (List Int)} {A : Nat → Option Addr} {C : Nat → Nat} (h : BD B w v l A C) {r j g g' : Nat} (hr : r < l.length) (hj : j < l.length) (hA : A r = some ⟨g, 0, none⟩) (hA' : A j = some ⟨g', 0, none⟩) (hne : j ≠ r) : g' ≠ g := by
  rintro rfl
  exact hne (h.apart j r hj hr (by rw [hA, hA']))

theorem BD.cellTop {B : Nat} {w : World} {l : List (List Int)} {A : Nat → Option Addr} {C : Nat → Nat} {b cap n : Nat} (h : BD B w (.slice (some ⟨b, 0, none⟩) n cap) l A C) {r : Nat} (hr : r < l.length) :
    w.cell? ⟨b, r, none⟩ = some (.slice (A r) (l.getD r []).length (C r)) ∧ w.frozen? ⟨b, r, none⟩ = false ∧ b < w.heap.size := by
  obtain ⟨b', cp', cur, hv, _, hcur, hc⟩ := h.top (by omega)
  injection hv with hv _ _
  injection hv with hv
  injection hv with hv
  subst hv
  exact ⟨by simp [World.cell?, hcur, hc r hr], by simp [World.frozen?, hcur], (Array.getElem?_eq_some_iff.1 hcur).1⟩

/-- A row is replaced. -/
theorem BD.setRow {B : Nat} {w w5 : World} {l : List (List Int)} {A : Nat → Option Addr} {C : Nat → Nat} {b cap n : Nat} (h : BD B w (.slice (some ⟨b, 0, none⟩) n cap) l A C) {r g : Nat} (hr : r < l.length) (hA : A r = some ⟨g, 0, none⟩) (hg : w.grownBy w5 (some g)) {g2 cp k : Nat} {y : List Int}
    (hy : RW B w5 (.slice (some ⟨g2, 0, none⟩) k cp) y) (hk : y.length = k) (h0 : 0 < k) : InT B w5.heap.size (w5.setCell ⟨b, r, none⟩ (.slice (some ⟨g2, 0, none⟩) k cp)) (some ⟨b, 0, none⟩) (l.set r y) := by
  subst hk
  obtain ⟨b', cap', cur, e, hb, hcur, hc⟩ := h.top (by omega)
  injection e with e en _
  injection e with e
  injection e with e
  subst e
  obtain ⟨g', hA', hBg, hrb⟩ := h.row hr
  rw [hA] at hA'
  injection hA' with hA'
  injection hA' with hA'
  subst hA'
  have hgb := h.row_ne hrb
  have hbl : b < w.heap.size := (Array.getElem?_eq_some_iff.1 hcur).1
  have hcur5 : w5.heap[b]? = some (.cells cur 32 (0, 0)) := (hg.block b hbl (fun e => by injection e with e; omega)).trans hcur
  obtain ⟨hB2, hrb2⟩ := hy.rowB h0
  have hg2b : g2 ≠ b := by
    rintro rfl
    obtain ⟨cs, h1, _⟩ := hrb2
    rw [h1] at hcur5
    injection hcur5 with h2
    injection h2 with _ h2 _
    exact absurd h2 (by decide)
  have hbl5 : b < w5.heap.size := (Array.getElem?_eq_some_iff.1 hcur5).1
  intro _
  refine ⟨b, 0, fun j => if j = r then some ⟨g2, 0, none⟩ else A j, fun j => if j = r then g2 else ((A j).getD default).block, fun _ => 0, fun j => if j = r then cp else C j, rfl, ⟨hb, hbl5⟩, fun j hj => ?_⟩
  rw [List.length_set] at hj
  show (w5.setCell ⟨b, r, none⟩ _).cell? ⟨b, 0 + j, none⟩ = _ ∧ _
  rw [Nat.zero_add]
  by_cases ej : j = r
  · subst ej
    have e1 : (l.set j y).getD j [] = y := by simp [List.getD, hj]
    rw [e1]
    simp only [↓reduceIte]
    refine ⟨World.cell?_setCell_same' _ _ _ (by simp [World.cell?, hcur5, hc j hj]), fun _ => ⟨trivial, ⟨hB2, hrb2.lt⟩, fun i hi => ?_⟩⟩
    rw [Nat.zero_add]
    exact cell_set_far (hrb2.cell hi) hg2b
  · have e1 : (l.set r y).getD j [] = l.getD j [] := by simp [List.getD, List.getElem?_set_ne (Ne.symm ej)]
    rw [e1]
    simp only [if_neg ej]
    obtain ⟨gj, hAj, hBj, hrbj⟩ := h.row hj
    have hgj := h.addr_ne hr hj hA hAj ej
    have hrb5 : RowB w5 gj (l.getD j []) := hrbj.of_block (hg.block gj hrbj.lt (fun e => by injection e with e; omega))
    have hgjb := h.row_ne hrbj
    refine ⟨?_, fun _ => ?_⟩
    · rw [World.cell?_setCell_other _ _ _ _ (fun e => ej (by injection e with _ e; exact e.symm))]
      simp [World.cell?, hcur5, hc j hj]
    · have e' : ((A j).getD default).block = gj := by rw [hAj]; rfl
      rw [e']
      exact ⟨hAj, ⟨hBj, hrb5.lt⟩, fun i hi => by rw [Nat.zero_add]; exact cell_set_far (hrb5.cell hi) hgjb⟩

/-- A number is replaced. -/
theorem BD.setNum {B : Nat} {w : World} {l : List (List Int)} {A : Nat → Option Addr} {C : Nat → Nat} {b cap n : Nat} (h : BD B w (.slice (some ⟨b, 0, none⟩) n cap) l A C) {r g k : Nat} (hr : r < l.length) (hA : A r = some ⟨g, 0, none⟩) (hk : k < (l.getD r []).length) (z : Int) :
    InT B w.heap.size (w.setCell ⟨g, k, none⟩ (.int .i64 z)) (some ⟨b, 0, none⟩) (l.set r ((l.getD r []).set k z)) := by
  obtain ⟨b', cap', cur, e, hb, hcur, hc⟩ := h.top (by omega)
  injection e with e en _
  injection e with e
  injection e with e
  subst e
  obtain ⟨g', hA', hBg, hrb⟩ := h.row hr
  rw [hA] at hA'
  injection hA' with hA'
  injection hA' with hA'
  subst hA'
  have hgb := h.row_ne hrb
  intro _
  refine ⟨b, 0, A, fun j => ((A j).getD default).block, fun _ => 0, C, rfl, ⟨hb, (Array.getElem?_eq_some_iff.1 hcur).1⟩, fun j hj => ?_⟩
  rw [List.length_set] at hj
  show (w.setCell ⟨g, k, none⟩ _).cell? ⟨b, 0 + j, none⟩ = _ ∧ _
  rw [Nat.zero_add]
  have hlen : ((l.set r ((l.getD r []).set k z)).getD j []).length = (l.getD j []).length := by
    by_cases ej : j = r
    · subst ej; simp [List.getD, hj]
    · simp [List.getD, List.getElem?_set_ne (Ne.symm ej)]
  rw [hlen]
  refine ⟨cell_set_far (by simp [World.cell?, hcur, hc j hj]) (Ne.symm hgb), fun _ => ?_⟩
  obtain ⟨gj, hAj, hBj, hrbj⟩ := h.row hj
  have e' : ((A j).getD default).block = gj := by rw [hAj]; rfl
  dsimp only
  rw [e']
  refine ⟨hAj, ⟨hBj, hrbj.lt⟩, fun i hi => ?_⟩
  rw [Nat.zero_add]
  by_cases ej : j = r
  · subst ej
    rw [hA] at hAj
    injection hAj with hAj
    injection hAj with hAj
    subst hAj
    have e1 : (l.set j ((l.getD j []).set k z)).getD j [] = (l.getD j []).set k z := by simp [List.getD, hj]
    rw [e1]
    by_cases ei : i = k
    · subst ei
      rw [World.cell?_setCell_same' _ _ _ (by rw [hrbj.cell hi]; rfl)]
      simp [List.getD] at hi ⊢
      simp [hi]
    · rw [World.cell?_setCell_other _ _ _ _ (fun e => ei (by injection e with _ e; exact e.symm)), hrbj.cell hi]
      simp [List.getD, List.getElem?_set_ne (Ne.symm ei)]
  · have hgj := h.addr_ne hr hj hA hAj ej
    have e1 : (l.set r ((l.getD r []).set k z)).getD j [] = l.getD j [] := by simp [List.getD, List.getElem?_set_ne (Ne.symm ej)]
    rw [e1]
    exact cell_set_far (hrbj.cell hi) hgj

/-- What the reader does leaves a drawn table. -/
theorem InT.kept {lo hi : Nat} {w w' : World} {a : Option Addr} {l : List (List Int)} {G : Nat} (h : InT lo hi w a l) (hg : w.grownBy w' (some G)) (hG : G < lo) : InT lo hi w' a l :=
  h.frame (lo' := G) (hi' := G + 1) ⟨hg.os, hg.tape, hg.output, hg.size, fun k hk ho => hg.block k hk (fun e => by injection e with e; omega)⟩ (.inr (by omega))

end Go.Proofs.Ytpoabeniejmpkaa
end

section
/- The contract of spec.l91Some. -/
namespace Go.Proofs.Ytpoabeniejmpkaa
open Go.RowKit Go.Deep

/-- A table that a call has drawn: at least one row, no row empty. -/
def Drawn0 (w w' : World) (R K : Nat) (a : Option Addr) (l : List (List Int)) : Prop :=
  1 ≤ l.length ∧ l.length ≤ R ∧ (∀ j, j < l.length → 1 ≤ (l.getD j []).length ∧ (l.getD j []).length ≤ K + 1) ∧ InT w.heap.size w'.heap.size w' a l

theorem lens_set {l : List (List Int)} {r : Nat} {y : List Int} {n m K : Nat} (hl : l.length = n) (h : ∀ j, j < n → (l.getD j []).length = m) (hm : 1 ≤ m ∧ m ≤ K) (hy : 1 ≤ y.length ∧ y.length ≤ K + 1) : ∀ j, j < (l.set r y).length → 1 ≤ ((l.set r y).getD j []).length ∧ ((l.set r y).getD j []).length ≤ K + 1 := by
  intro j hj
  rw [List.length_set] at hj
  by_cases e : j = r
  · subst e
    rw [show (l.set j y).getD j [] = y by simp [List.getD, hj]]
    exact hy
  · rw [show (l.set r y).getD j [] = l.getD j [] by simp [List.getD, List.getElem?_set_ne (Ne.symm e)], h j (by omega)]
    omega

set_option maxRecDepth 100000 in
set_option maxHeartbeats 4000000 in
theorem l91Some_any (w0 w : World) (G nb c p R K : Nat) (a : Option Addr) (h : RD w0 w G a nb c 76 p) (hR1 : 1 ≤ R) (hR : R ≤ 8) (hK1 : 1 ≤ K) (hK : K ≤ 8) (hp : p ≤ 40000) :
    Calls Try.prog 55 #[.pointer (some ⟨G, 0, none⟩), .int .i64 R, .int .i64 K] w fun e w' => ∃ a' cap l p', e = .returned (.slice a' l.length cap) ∧ w.grownBy w' (some G) ∧ RD w0 w' G a nb c 76 p' ∧ p' ≤ p + 600 ∧ Drawn0 w w' R K a' l := by
  obtain ⟨i3, hi3⟩ := info3_parts
  have HJ := Lib.hid hi3
  have hG := h.lt
  have HRD := Lib.hid h
  clear h hi3
  go_enter Try.func55, Try.ntmps55
  go_wp2_with fail
  refine (pick_any w0 _ G nb c _ a _ HRD.out (by omega)).mono ?_
  rintro e w1 ⟨y1, rfl, hy1, hg1, hd1⟩
  obtain ⟨n, hn, hnn⟩ : ∃ n : Nat, IntKind.i64.wrap (1 + (y1 : Int)) = n ∧ n = y1 + 1 := ⟨y1 + 1, (IntWalk.i64_in _ ⟨by omega, by omega⟩).trans (by omega), rfl⟩
  have hn1 : 1 ≤ n ∧ n ≤ R := by omega
  have HD1 := Lib.hid hd1
  have HG1 := Lib.hid hg1
  clear hd1 hg1 hnn hy1 HRD
  go_wp2_with fail
  refine (pick_any w0 _ G nb c _ a _ HD1.out (by omega)).mono ?_
  rintro e w2 ⟨y2, rfl, hy2, hg2, hd2⟩
  obtain ⟨m, hm, hmm⟩ : ∃ m : Nat, IntKind.i64.wrap (1 + (y2 : Int)) = m ∧ m = y2 + 1 := ⟨y2 + 1, (IntWalk.i64_in _ ⟨by omega, by omega⟩).trans (by omega), rfl⟩
  have hm1 : 1 ≤ m ∧ m ≤ K := by omega
  have HD2 := Lib.hid hd2
  have HG2 := Lib.hid (grown_trans HG1.out hg2)
  clear hd2 hg2 hmm hy2 HD1 HG1
  go_wp2_with fail
  refine (l91Table_any w0 _ G nb c _ n m a HD2.out (by omega) (by omega) (by omega) (by omega)).mono ?_
  rintro e w3 ⟨v, l, A, C, p3, rfl, hl, hlm, hg3, hd3, hp3, hB⟩
  obtain ⟨b, cp, cur, hv, hbb, hcur, hc⟩ := hB.top (by omega)
  rw [hl] at hv
  subst hv
  have hG2 := HG2.out.size
  have HD3 := Lib.hid hd3
  have HG3 := Lib.hid (grown_trans HG2.out hg3)
  have HB := Lib.hid hB
  clear hd3 hg3 hcur hc hB HD2
  go_wp2_with fail
  refine (pick_any w0 _ G nb c _ a _ HD3.out (by omega)).mono ?_
  rintro e w4 ⟨y4, rfl, hy4, hg4, hd4⟩
  have HG4 := Lib.hid (grown_trans HG3.out hg4)
  have HB4 := Lib.hid (HB.out.kept hg4 (by omega))
  have HD4 := Lib.hid hd4
  have hz4 := HG4.out.size
  clear hd4 hg4 HB HG3 HD3 hy4
  obtain ⟨g0, hA0, hg0, hrb0⟩ := HB4.out.row (r := 0) (by omega)
  by_cases hy0 : y4 = 0
  · subst hy0
    obtain ⟨t1, _, _⟩ := HB4.out.cellTop (r := 0) (by omega)
    rw [hlm 0 (by omega), hA0] at t1
    have t2 := hrb0.cell (i := 0) (by rw [hlm 0 (by omega)]; omega)
    have t3 := hrb0.frozen 0
    have hIT := HB4.out.setNum (r := 0) (k := 0) (by omega) hA0 (by rw [hlm 0 (by omega)]; omega) 31
    have hll : (l.set 0 ((l.getD 0 []).set 0 31)).length = n := by rw [List.length_set]; exact hl
    have hlens := lens_set (r := 0) (y := (l.getD 0 []).set 0 31) hl hlm hm1 (by rw [List.length_set, hlm 0 (by omega)]; omega)
    have HIT := Lib.hid hIT
    have HLL := Lib.hid hll
    have HLENS := Lib.hid hlens
    have HGS := Lib.hid (grown_set HG4.out (show w.heap.size ≤ g0 by omega) (k := 0) (.int .i64 31))
    have HDS := Lib.hid (HD4.out.grown (grown_set_any w4 g0 0 (.int .i64 31)) (fun i e => by cases e; omega))
    have p1 : 0 < n := by omega
    have p2 : 0 < m := by omega
    clear hrb0 hIT hll hlens hA0 hlm hl
    go_wp2
    go_ret
    exact ⟨_, _, l.set 0 ((l.getD 0 []).set 0 31), _, by rw [HLL.out]; rfl, HGS.out, HDS.out, by omega, by rw [HLL.out]; omega, by rw [HLL.out]; omega, HLENS.out, HIT.out.mono hG2 (by simp)⟩
  · clear hrb0 hA0 hg0
    by_cases hy1 : y4 = 1
    · subst hy1
      obtain ⟨s, hs⟩ : ∃ s, n = s + 1 := ⟨n - 1, by omega⟩
      have hr1 : IntKind.i64.wrap ((n : Int) - 1) = (s : Int) := by rw [show (n : Int) - 1 = s by omega]; exact IntWalk.i64_in _ ⟨by omega, by omega⟩
      have hsr : s < n := by omega
      clear hs
      obtain ⟨g1, hA, hg1, hrb⟩ := HB4.out.row (r := s) (by omega)
      obtain ⟨t1, t2, lb⟩ := HB4.out.cellTop (r := s) (by omega)
      have hRW := (HB4.out.rows s (by omega)).2
      have hls := hlm s hsr
      rw [hls, hA] at t1 hRW
      have hgb := HB4.out.row_ne hrb
      obtain ⟨x, hx⟩ : ∃ x, x = l.getD s [] := ⟨_, rfl⟩
      rw [← hx] at hRW hls
      have HRW := Lib.hid hRW
      have HA := Lib.hid hA
      have HL := Lib.hid hl
      have HLM := Lib.hid hlm
      have t1a := fun ob => cell_alloc_l ob t1
      clear hRW hrb hA hl hlm hx
      go_wp2_with (first
        | (at_builtin; (refine wpList_append_int _ rfl (.tmp 37) (.tmp 38) 32 rfl w2.heap.size i3 Try.underlying32 HJ.out.1 HJ.out.2.1 HJ.out.2.2.1 HJ.out.2.2.2 _ x rfl HRW.out 0 rfl (by omega) (by omega) ?_); intro v' w5 hrw hgr; have hgr : w4.grownBy w5 (some g1) := hgr; obtain ⟨g2, cp2, hv2, hg2b, hrb2⟩ := hrw.form (by simp); rw [show (x ++ [(0 : Int)]).length = m + 1 by rw [List.length_append, hls]; rfl] at hv2; subst hv2; have k1 := hgr.cell t1 (fun e => hgb (by injection e with e; exact e.symm)); have k2 : w5.frozen? ⟨b, s, none⟩ = false := (World.frozen?_of_block (hgr.block b lb (fun e => hgb (by injection e with e; exact e.symm)))).trans t2; have HRW2 := Lib.hid hrw; have HGR := Lib.hid hgr; clear hrw hgr hrb2))
      have hl2 : (x ++ [(0 : Int)]).length = m + 1 := by rw [List.length_append, hls]; rfl
      have hIT := HB4.out.setRow (r := s) (by rw [HL.out]; exact hsr) HA.out HGR.out HRW2.out hl2 (by omega)
      have hll : (l.set s (x ++ [0])).length = n := by rw [List.length_set]; exact HL.out
      have hlens := lens_set (r := s) (y := x ++ [0]) HL.out HLM.out hm1 (by rw [hl2]; omega)
      have hgs := grown_set (grown_new HG4.out HGR.out (fun i e => by cases e; omega)) (show w.heap.size ≤ b by omega) (k := s) (.slice (some ⟨g2, 0, none⟩) (m + 1) cp2)
      have hds := (HD4.out.grown HGR.out (fun i e => by cases e; omega)).grown (grown_set_any w5 b s (.slice (some ⟨g2, 0, none⟩) (m + 1) cp2)) (fun i e => by cases e; omega)
      go_ret
      exact ⟨_, _, l.set s (x ++ [0]), _, by rw [hll]; rfl, hgs, hds, by omega, by rw [hll]; omega, by rw [hll]; omega, hlens, hIT.mono hG2 (by simp)⟩
    · have h1 : ((y4 : Int) == 0) = false := by simp; omega
      have h2 : ((y4 : Int) == 1) = false := by simp; omega
      obtain ⟨a', cap', hv, hIT⟩ := HB4.out.inT
      rw [hl] at hv
      injection hv with hv _ _
      subst hv
      have HL := Lib.hid hl
      have HLM := Lib.hid hlm
      have HIT := Lib.hid hIT
      clear hl hlm hIT
      go_wp2
      go_ret
      exact ⟨_, _, l, _, by rw [HL.out]; rfl, HG4.out, HD4.out, by omega, by rw [HL.out]; omega, by rw [HL.out]; omega, fun j hj => by rw [HLM.out j (by rw [← HL.out]; exact hj)]; omega, HIT.out.mono hG2 (Nat.le_refl _)⟩

end Go.Proofs.Ytpoabeniejmpkaa
end

section
/- The contract of spec.l6Open, and of what draws one table. -/
namespace Go.Proofs.Ytpoabeniejmpkaa
open Go.RowKit Go.Deep

set_option maxHeartbeats 1000000 in
theorem l6Open_any (a : Option Addr) (nb cb : Nat) (w : World) (hc : nb ≤ cb) (h63 : cb ≤ 9223372036854775807) (hb : BytR w a nb) :
    Calls Try.prog 54 #[.slice a nb cb] w fun e w' => ∃ n' c', e = .returned (.pointer (some ⟨w.heap.size, 0, none⟩)) ∧ w.Since w.heap.size w' ∧ w'.heap.size = w.heap.size + 1 ∧ RD w w' w.heap.size a n' c' 76 0 := by
  by_cases hl : 2000 < nb
  · have hl' : decide ((2000 : Int) < (nb : Int)) = true := by simp; omega
    have h2 : (2000 : Int) ≤ (cb : Int) := by omega
    obtain ⟨b, o, rfl, hcell⟩ := hb (by omega)
    go_enter Try.func54, Try.ntmps54
    go_wp2
    go_ret
    exact ⟨_, _, rfl, (World.Since.refl _ _).alloc (Nat.le_refl _) _, by simp, ⟨heap_alloc_new _ _, Nat.le_refl _, (World.Since.refl _ _).alloc (Nat.le_refl _) _, fun _ => ⟨b, o, rfl, fun i hi => hcell i (by omega)⟩, by omega⟩⟩
  · have hl' : decide ((2000 : Int) < (nb : Int)) = false := by simp; omega
    go_enter Try.func54, Try.ntmps54
    go_wp2
    go_ret
    exact ⟨_, _, rfl, (World.Since.refl _ _).alloc (Nat.le_refl _) _, by simp, ⟨heap_alloc_new _ _, Nat.le_refl _, (World.Since.refl _ _).alloc (Nat.le_refl _) _, hb, by omega⟩⟩

/-- A call has drawn a table. -/
def DrawnT (w w' : World) (R K : Nat) (a : Option Addr) (l : List (List Int)) : Prop :=
  1 ≤ l.length ∧ l.length ≤ R ∧ (∀ j, j < l.length → 1 ≤ (l.getD j []).length ∧ (l.getD j []).length ≤ K + 1) ∧ InT w.heap.size w'.heap.size w' a l

set_option maxHeartbeats 1000000 in
theorem l91One_any (a : Option Addr) (nb cb : Nat) (w : World) (hc : nb ≤ cb) (h63 : cb ≤ 9223372036854775807) (hb : BytR w a nb) :
    Calls Try.prog 63 #[.slice a nb cb] w fun e w' => ∃ a' cap l, e = .returned (.slice a' l.length cap) ∧ w.Since w.heap.size w' ∧ DrawnT w w' 5 5 a' l := by
  have E := Lib.hid (l6Open_any a nb cb w hc h63 hb)
  clear hb
  go_enter Try.func63, Try.ntmps63
  go_wp2_with fail
  refine (E.out).mono ?_
  rintro e w1 ⟨n', c', rfl, hs, hz, hd⟩
  have HD := Lib.hid hd
  clear hd
  go_wp2_with fail
  refine (l91Some_any w w1 w.heap.size n' c' 0 5 5 a HD.out (by omega) (by omega) (by omega) (by omega) (by omega)).mono ?_
  rintro e w2 ⟨a', cap', l, p', rfl, hg, hd2, hp, h1, h5, hl, hit⟩
  go_wp2
  go_ret
  exact ⟨a', cap', l, rfl, hs.trans (since_grown hg (Nat.le_refl _) hs.size), h1, h5, hl, hit.mono hs.size (Nat.le_refl _)⟩

end Go.Proofs.Ytpoabeniejmpkaa
end

section
/- The contracts of the functions that draw one table and numbers, and two tables. -/
namespace Go.Proofs.Ytpoabeniejmpkaa
open Go.RowKit Go.Deep

theorem results_four {fn : Func} {a b c d : Tmp} (h : fn.results = #[.tmp a, .tmp b, .tmp c, .tmp d]) (tmps : Array Value) (P : Program) (w : World) :
    (results fn tmps).run P w = .ok (.tuple #[tmps.getD a undef, tmps.getD b undef, tmps.getD c undef, tmps.getD d undef]) w := by
  simp [results, h]

set_option maxRecDepth 100000 in
set_option maxHeartbeats 2000000 in
theorem drawSwap_any (a : Option Addr) (nb cb : Nat) (w : World) (hc : nb ≤ cb) (h63 : cb ≤ 9223372036854775807) (hb : BytR w a nb) :
    Calls Try.prog 42 #[.slice a nb cb] w fun e w' => ∃ a' cap l, ∃ (x y : Int), e = .returned (.tuple #[.slice a' l.length cap, .int .i64 x, .int .i64 y]) ∧ w.Since w.heap.size w' ∧ DrawnT w w' 5 5 a' l := by
  have E := Lib.hid (l6Open_any a nb cb w hc h63 hb)
  clear hb
  go_enter Try.func42, Try.ntmps42
  go_wp2_with fail
  refine (E.out).mono ?_
  rintro e w1 ⟨n', c', rfl, hs, hz, hd⟩
  have HD0 := Lib.hid hd
  clear hd
  have hz1 : w.heap.size < w1.heap.size := by omega
  clear hz
  go_wp2_with fail
  refine (l91Some_any w w1 w.heap.size n' c' 0 5 5 a HD0.out (by omega) (by omega) (by omega) (by omega) (by omega)).mono ?_
  rintro e w2 ⟨a', cap', l, p', rfl, hg, hd2, hp, h1, h5, hl, hit⟩
  have HG0 := Lib.hid hg
  have HIT := Lib.hid hit
  have HL := Lib.hid hl
  have HD := Lib.hid hd2
  obtain ⟨nn, hnn⟩ : ∃ n, l.length = n := ⟨_, rfl⟩
  rw [hnn] at h1 h5 ⊢
  have HN := Lib.hid hnn
  clear hg hit hl hd2 hnn
  have HG := Lib.hid (World.grownBy_refl w2 (some w.heap.size))
  have hn0 : ((nn : Int) == 0) = false := by simp; omega
  go_wp2_with (first
    | (go_at_call 56; refine (pick_any w _ w.heap.size n' c' _ a _ HD.out (by omega)).mono ?_; rintro e wk ⟨y, rfl, hy, hg, hd⟩; have HG := Lib.hid (grown_trans HG.out hg); have HD := Lib.hid hd; clear hd hg))
  have hs2 : w.Since w.heap.size w2 := hs.trans (since_grown HG0.out (Nat.le_refl _) hs.size)
  have hs3 := hs2.trans (since_grown HG.out (Nat.le_refl _) hs2.size)
  go_ret3
  exact ⟨_, _, l, _, _, by rw [HN.out]; rfl, hs3, by rw [HN.out]; exact h1, by rw [HN.out]; exact h5, HL.out, (HIT.out.kept HG.out hz1).mono hs.size HG.out.size⟩

set_option maxRecDepth 100000 in
set_option maxHeartbeats 2000000 in
theorem drawAdd_any (a : Option Addr) (nb cb : Nat) (w : World) (hc : nb ≤ cb) (h63 : cb ≤ 9223372036854775807) (hb : BytR w a nb) :
    Calls Try.prog 30 #[.slice a nb cb] w fun e w' => ∃ a' cap l, ∃ (x y z : Int), e = .returned (.tuple #[.slice a' l.length cap, .int .i64 x, .int .i64 y, .int .i64 z]) ∧ w.Since w.heap.size w' ∧ DrawnT w w' 5 5 a' l := by
  have E := Lib.hid (l6Open_any a nb cb w hc h63 hb)
  clear hb
  go_enter Try.func30, Try.ntmps30
  go_wp2_with fail
  refine (E.out).mono ?_
  rintro e w1 ⟨n', c', rfl, hs, hz, hd⟩
  have HD0 := Lib.hid hd
  clear hd
  have hz1 : w.heap.size < w1.heap.size := by omega
  clear hz
  go_wp2_with fail
  refine (l91Some_any w w1 w.heap.size n' c' 0 5 5 a HD0.out (by omega) (by omega) (by omega) (by omega) (by omega)).mono ?_
  rintro e w2 ⟨a', cap', l, p', rfl, hg, hd2, hp, h1, h5, hl, hit⟩
  have HG0 := Lib.hid hg
  have HIT := Lib.hid hit
  have HL := Lib.hid hl
  have HD := Lib.hid hd2
  obtain ⟨nn, hnn⟩ : ∃ n, l.length = n := ⟨_, rfl⟩
  rw [hnn] at h1 h5 ⊢
  have HN := Lib.hid hnn
  clear hg hit hl hd2 hnn
  have HG := Lib.hid (World.grownBy_refl w2 (some w.heap.size))
  have hn0 : ((nn : Int) == 0) = false := by simp; omega
  go_wp2_with (first
    | (go_at_call 56; refine (pick_any w _ w.heap.size n' c' _ a _ HD.out (by omega)).mono ?_; rintro e wk ⟨y, rfl, hy, hg, hd⟩; have HG := Lib.hid (grown_trans HG.out hg); have HD := Lib.hid hd; clear hd hg))
  have hs2 : w.Since w.heap.size w2 := hs.trans (since_grown HG0.out (Nat.le_refl _) hs.size)
  have hs3 := hs2.trans (since_grown HG.out (Nat.le_refl _) hs2.size)
  (try simp only [Exit.inBlock, Exit.then]); refine bodyPost_ret (results_four rfl _ _ _) rfl ?_
  exact ⟨_, _, l, _, _, _, by rw [HN.out]; rfl, hs3, by rw [HN.out]; exact h1, by rw [HN.out]; exact h5, HL.out, (HIT.out.kept HG.out hz1).mono hs.size HG.out.size⟩

set_option maxRecDepth 100000 in
set_option maxHeartbeats 2000000 in
theorem drawTimes_any (a : Option Addr) (nb cb : Nat) (w : World) (hc : nb ≤ cb) (h63 : cb ≤ 9223372036854775807) (hb : BytR w a nb) :
    Calls Try.prog 40 #[.slice a nb cb] w fun e w' => ∃ a' cap l, ∃ (x : Int), e = .returned (.tuple #[.slice a' l.length cap, .int .i64 x]) ∧ w.Since w.heap.size w' ∧ DrawnT w w' 5 5 a' l := by
  have E := Lib.hid (l6Open_any a nb cb w hc h63 hb)
  clear hb
  go_enter Try.func40, Try.ntmps40
  go_wp2_with fail
  refine (E.out).mono ?_
  rintro e w1 ⟨n', c', rfl, hs, hz, hd⟩
  have HD0 := Lib.hid hd
  clear hd
  have hz1 : w.heap.size < w1.heap.size := by omega
  clear hz
  go_wp2_with fail
  refine (l91Some_any w w1 w.heap.size n' c' 0 5 5 a HD0.out (by omega) (by omega) (by omega) (by omega) (by omega)).mono ?_
  rintro e w2 ⟨a', cap', l, p', rfl, hg, hd2, hp, h1, h5, hl, hit⟩
  have HG0 := Lib.hid hg
  have HIT := Lib.hid hit
  have HL := Lib.hid hl
  have HD := Lib.hid hd2
  obtain ⟨nn, hnn⟩ : ∃ n, l.length = n := ⟨_, rfl⟩
  rw [hnn] at h1 h5 ⊢
  have HN := Lib.hid hnn
  clear hg hit hl hd2 hnn
  have HG := Lib.hid (World.grownBy_refl w2 (some w.heap.size))
  have hn0 : ((nn : Int) == 0) = false := by simp; omega
  go_wp2_with (first
    | (go_at_call 56; refine (pick_any w _ w.heap.size n' c' _ a _ HD.out (by omega)).mono ?_; rintro e wk ⟨y, rfl, hy, hg, hd⟩; have HG := Lib.hid (grown_trans HG.out hg); have HD := Lib.hid hd; clear hd hg))
  have hs2 : w.Since w.heap.size w2 := hs.trans (since_grown HG0.out (Nat.le_refl _) hs.size)
  have hs3 := hs2.trans (since_grown HG.out (Nat.le_refl _) hs2.size)
  go_ret2
  exact ⟨_, _, l, _, by rw [HN.out]; rfl, hs3, by rw [HN.out]; exact h1, by rw [HN.out]; exact h5, HL.out, (HIT.out.kept HG.out hz1).mono hs.size HG.out.size⟩

set_option maxRecDepth 100000 in
set_option maxHeartbeats 2000000 in
theorem drawBeside_any (a : Option Addr) (nb cb : Nat) (w : World) (hc : nb ≤ cb) (h63 : cb ≤ 9223372036854775807) (hb : BytR w a nb) :
    Calls Try.prog 27 #[.slice a nb cb] w fun e w' => ∃ a' cap l b' cap2 u, e = .returned (.tuple #[.slice a' l.length cap, .slice b' u.length cap2]) ∧ w.Since w.heap.size w' ∧ DrawnT w w' 3 3 a' l ∧ DrawnT w w' 4 3 b' u := by
  have E := Lib.hid (l6Open_any a nb cb w hc h63 hb)
  clear hb
  go_enter Try.func27, Try.ntmps27
  go_wp2_with fail
  refine (E.out).mono ?_
  rintro e w1 ⟨n', c', rfl, hs, hz, hd⟩
  have HD0 := Lib.hid hd
  clear hd
  have hz1 : w.heap.size < w1.heap.size := by omega
  clear hz
  go_wp2_with fail
  refine (l91Some_any w w1 w.heap.size n' c' 0 3 3 a HD0.out (by omega) (by omega) (by omega) (by omega) (by omega)).mono ?_
  rintro e w2 ⟨a', cap', l, p', rfl, hg, hd2, hp, h1, h5, hl, hit⟩
  have HG0 := Lib.hid hg
  have HIT := Lib.hid hit
  have HL := Lib.hid hl
  have HD := Lib.hid hd2
  obtain ⟨nn, hnn⟩ : ∃ n, l.length = n := ⟨_, rfl⟩
  rw [hnn] at h1 h5 ⊢
  have HN := Lib.hid hnn
  clear hg hit hl hd2 hnn
  go_wp2_with fail
  refine (l91Some_any w w2 w.heap.size n' c' p' 4 3 a HD.out (by omega) (by omega) (by omega) (by omega) (by omega)).mono ?_
  rintro e w2q ⟨aq', capq', lq, pq', rfl, hgq, hd2q, hpq, h1q, h5q, hlq, hitq⟩
  have HG0q := Lib.hid hgq
  have HITq := Lib.hid hitq
  have HLq := Lib.hid hlq
  have HDq := Lib.hid hd2q
  obtain ⟨nnq, hnnq⟩ : ∃ n, lq.length = n := ⟨_, rfl⟩
  rw [hnnq] at h1q h5q ⊢
  have HNq := Lib.hid hnnq
  clear hgq hitq hlq hd2q hnnq
  have hs2 : w.Since w.heap.size w2 := hs.trans (since_grown HG0.out (Nat.le_refl _) hs.size)
  have hs3 := hs2.trans (since_grown HG0q.out (Nat.le_refl _) hs2.size)
  go_wp2
  go_ret2
  exact ⟨_, _, l, _, _, lq, by rw [HN.out, HNq.out]; rfl, hs3, ⟨by rw [HN.out]; exact h1, by rw [HN.out]; exact h5, HL.out, (HIT.out.kept HG0q.out hz1).mono hs.size HG0q.out.size⟩, ⟨by rw [HNq.out]; exact h1q, by rw [HNq.out]; exact h5q, HLq.out, HITq.out.mono hs2.size (Nat.le_refl _)⟩⟩

end Go.Proofs.Ytpoabeniejmpkaa
end

section
/- The contracts of laws.sameInts and laws.sameRows. -/
namespace Go.Proofs.Ytpoabeniejmpkaa
open Go.RowKit Go.Deep

set_option maxHeartbeats 1000000 in
/-- Two slices that read as one list are equal. -/
theorem sameInts_same (a b : Option Addr) (ca cb n : Nat) (l : List Int) (w : World) (hn : l.length = n) (h63 : n ≤ 9223372036854775807) (ha : RowR w a l) (hb : RowR w b l) :
    Calls Try.prog 73 #[.slice a n ca, .slice b n cb] w fun e w' => e = .returned (.bool true) ∧ Drawn w w' := by
  have H := Lib.hid hn; clear hn
  go_enter Try.func73, Try.ntmps73
  go_wp2
  go_loopg [5] n (fun g i wr => ∃ k : Nat, k ≤ n ∧ g = n - k ∧ i = .int .i64 k ∧ Drawn w wr)
  case atStart => exact ⟨0, Nat.zero_le _, rfl, rfl, Drawn.refl w⟩
  case round =>
    obtain ⟨k, hk, rfl, rfl, hD⟩ := hrel
    by_cases hlt : k < n
    · obtain ⟨b1, o1, rfl, hc1⟩ := ha (by rw [H.out]; omega)
      obtain ⟨b2, o2, rfl, hc2⟩ := hb (by rw [H.out]; omega)
      have c1 := hc1 k (by rw [H.out]; exact hlt)
      have c2 := hc2 k (by rw [H.out]; exact hlt)
      obtain ⟨x, hx⟩ : ∃ x, x = l.getD k 0 := ⟨_, rfl⟩
      rw [← hx] at c1 c2
      rw [← hD.cell] at c1 c2
      clear hx hc1 hc2 ha hb
      go_wp2
      go_quiet (fail)
      go_wp2
      go_roundg (n - (k + 1))
      case measure => omega
      case rel => exact ⟨k + 1, by omega, rfl, by go_num, hD.trans (Drawn.mk _ _)⟩
    · go_wp2
      go_ret
      exact ⟨rfl, hD⟩

set_option maxHeartbeats 1000000 in
/-- Two slices of slices that read as one list of lists are equal. -/
theorem sameRows_same (a b : Option Addr) (ca cb n : Nat) (l : List (List Int)) (w : World) (hn : l.length = n) (h63 : n ≤ 9223372036854775807) (hl : ∀ r, r < l.length → (l.getD r []).length ≤ 9223372036854775807)
    (ha : MatR w a l) (hb : MatR w b l) :
    Calls Try.prog 26 #[.slice a n ca, .slice b n cb] w fun e w' => e = .returned (.bool true) ∧ Drawn w w' := by
  have H := Lib.hid hn; clear hn
  go_enter Try.func26, Try.ntmps26
  go_wp2
  go_loopg [5] n (fun g i wr => ∃ k : Nat, k ≤ n ∧ g = n - k ∧ i = .int .i64 k ∧ Drawn w wr)
  case atStart => exact ⟨0, Nat.zero_le _, rfl, rfl, Drawn.refl w⟩
  case round =>
    obtain ⟨k, hk, rfl, rfl, hD⟩ := hrel
    by_cases hlt : k < n
    · obtain ⟨b1, o1, A1, C1, rfl, hc1⟩ := ha (by rw [H.out]; omega)
      obtain ⟨b2, o2, A2, C2, rfl, hc2⟩ := hb (by rw [H.out]; omega)
      obtain ⟨c1, r1⟩ := hc1 k (by rw [H.out]; exact hlt)
      obtain ⟨c2, r2⟩ := hc2 k (by rw [H.out]; exact hlt)
      have hlk := hl k (by rw [H.out]; exact hlt)
      obtain ⟨x, hx⟩ : ∃ x, x = l.getD k [] := ⟨_, rfl⟩
      rw [← hx] at c1 c2 r1 r2 hlk
      obtain ⟨m, hm⟩ : ∃ m, x.length = m := ⟨_, rfl⟩
      rw [hm] at c1 c2 hlk
      have HM := Lib.hid hm
      clear hx hc1 hc2 ha hb hl hm
      have r1 := r1.drawn hD
      have r2 := r2.drawn hD
      rw [← hD.cell] at c1 c2
      have e1 := fun (p : Nat) => sameInts_same (A1 k) (A2 k) (C1 k) (C2 k) m x (wr.drewN p) HM.out hlk r1 r2
      have E1 := Lib.hid e1; clear e1 r1 r2
      go_wp2
      go_quiet ((go_at_call 73; exact Calls.quiet_of (E1.out _)))
      go_wp2
      go_roundg (n - (k + 1))
      case measure => omega
      case rel => exact ⟨k + 1, by omega, rfl, by go_num, hD.trans (Drawn.mk _ _)⟩
    · go_wp2
      go_ret
      exact ⟨rfl, hD⟩

end Go.Proofs.Ytpoabeniejmpkaa
end

section
/- The walk of laws.FnTurn. -/
namespace Go.Proofs.Ytpoabeniejmpkaa
open Go.RowKit Go.Deep

theorem szL_of {l : List (List Int)} {n k : Nat} (h1 : l.length ≤ n) (h2 : ∀ j, j < l.length → (l.getD j []).length ≤ k) (hnk : n * k + n ≤ 1048576) : szL l ≤ 1048576 := by
  have h3 := sumTo_le_mul l k h2 l.length (Nat.le_refl _)
  have h4 : l.length * k ≤ n * k := Nat.mul_le_mul_right _ h1
  have h5 : k * l.length = l.length * k := Nat.mul_comm _ _
  unfold szL
  omega
theorem rows_le {l : List (List Int)} (h : szL l ≤ 1048576) : ∀ r, r < l.length → (l.getD r []).length ≤ 9223372036854775807 := fun r hr => by
  have := row_le l hr
  unfold szL at h
  omega

theorem tab_self {l : List (List Int)} {n m : Nat} (hn : l.length = n) (hm : ∀ r, r < n → (l.getD r []).length = m) : tabF n m (at2 l) = l := by
  refine List.ext_getElem (by rw [tabF_length, hn]) fun r h1 h2 => ?_
  have hr : r < n := by rw [tabF_length] at h1; exact h1
  have e1 : (tabF n m (at2 l))[r] = (tabF n m (at2 l)).getD r [] := by simp [List.getD, h1]
  have e2 : l[r] = l.getD r [] := by simp [List.getD, h2]
  rw [e1, e2, tabF_get _ _ _ _ hr]
  refine List.ext_getElem (by rw [List.length_map, List.length_range, hm r hr]) fun k h3 h4 => ?_
  rw [List.getElem_map, List.getElem_range]
  unfold at2
  obtain ⟨x, hx⟩ : ∃ x, x = l.getD r [] := ⟨_, rfl⟩
  subst hx
  generalize l.getD r [] = x at *
  simp [List.getD, h4]

theorem turnL_turnL {l : List (List Int)} (hT : TabIn l) : turnL (turnL l) = l := by
  have h1 := hT.1
  have hw := hT.width
  have e0 : ((turnL l).getD 0 []).length = l.length := tabF_len _ _ _ _ hw.1
  have e1 : turnL (turnL l) = tabF l.length (l.getD 0 []).length fun k i => at2 (turnL l) i k := by
    show tabF ((turnL l).getD 0 []).length (turnL l).length _ = _
    rw [e0, turnL_length]
  rw [e1]
  have e2 : tabF l.length (l.getD 0 []).length (fun k i => at2 (turnL l) i k) = tabF l.length (l.getD 0 []).length (at2 l) := by
    unfold tabF
    refine List.map_congr_left fun r hr => List.map_congr_left fun k hk => ?_
    exact tabF_at _ _ _ _ _ (List.mem_range.1 hk) (List.mem_range.1 hr)
  rw [e2]
  exact tab_self rfl (fun r hr => hT.row hr)

end Go.Proofs.Ytpoabeniejmpkaa
end

section
/- What is exchanged twice, or added and taken off, is as it was. -/
namespace Go.Proofs.Ytpoabeniejmpkaa
open Go.RowKit Go.Deep

theorem swap_back {l : List (List Int)} {i k : Int} (h : swapOk l i k = true) : swapOk (swapL l i.toNat k.toNat) i k = true ∧ swapL (swapL l i.toNat k.toNat) i.toNat k.toNat = l := by
  have hT := swapOk_tab h
  unfold swapOk at h ⊢
  rw [Bool.and_eq_true, Bool.and_eq_true] at h
  refine ⟨by rw [tabIn_true hT, swapL_length, h.2.1, h.2.2]; rfl, ?_⟩
  obtain ⟨i, rfl, hi⟩ := rowB_of h.2.1
  obtain ⟨k, rfl, hk⟩ := rowB_of h.2.2
  rw [Int.toNat_natCast, Int.toNat_natCast]
  have e : swapL (swapL l i k) i k = (List.range l.length).map fun r => l.getD r [] := by
    show (List.range (swapL l i k).length).map (fun r => (swapL l i k).getD (sw i k r) []) = _
    rw [swapL_length]
    refine List.map_congr_left fun r hr => ?_
    rw [swapL_get l i k (sw_lt hi hk (List.mem_range.1 hr)), sw_sw]
  rw [e, range_getD]

theorem tabF_congr {n m : Nat} {f g : Nat → Nat → Int} (h : ∀ i k, i < n → k < m → f i k = g i k) : tabF n m f = tabF n m g := by
  unfold tabF
  exact List.map_congr_left fun r hr => List.map_congr_left fun k hk => h r k (List.mem_range.1 hr) (List.mem_range.1 hk)

theorem add_back {l : List (List Int)} {fr tq f : Int} (h : addOk l fr tq f = true) : addOk (addL l fr.toNat tq.toNat f) fr tq (-f) = true ∧ addL (addL l fr.toNat tq.toNat f) fr.toNat tq.toNat (-f) = l := by
  unfold addOk at h ⊢
  simp only [Bool.and_eq_true, Bool.not_eq_true'] at h
  obtain ⟨h1, h2, h3, h4, h5, h6⟩ := h
  have hT := tabIn_of h1
  obtain ⟨fr, rfl, hfr⟩ := rowB_of h2
  obtain ⟨tq, rfl, hto⟩ := rowB_of h3
  rw [Int.toNat_natCast, Int.toNat_natCast] at *
  have hne : fr ≠ tq := by rintro rfl; simp at h4
  have hw := hT.width
  have h0 := hT.1
  have e0 : ((addL l fr tq f).getD 0 []).length = (l.getD 0 []).length := tabF_len _ _ _ _ (by omega)
  have e : addL (addL l fr tq f) fr tq (-f) = l := by
    show tabF (addL l fr tq f).length ((addL l fr tq f).getD 0 []).length (addF (addL l fr tq f) fr tq (-f)) = l
    rw [addL_length, e0]
    refine Eq.trans (tabF_congr fun i k hi hk => ?_) (tab_self rfl (fun r hr => hT.row hr))
    have a1 : at2 (addL l fr tq f) i k = addF l fr tq f i k := tabF_at _ _ _ _ _ hi hk
    have a2 : at2 (addL l fr tq f) fr k = addF l fr tq f fr k := tabF_at _ _ _ _ _ hfr hk
    show (if i = tq then at2 (addL l fr tq f) i k + (-f) * at2 (addL l fr tq f) fr k else at2 (addL l fr tq f) i k) = at2 l i k
    rw [a1, a2]
    unfold addF
    by_cases hi : i = tq
    · rw [if_pos hi, if_pos hi, if_neg hne, Int.neg_mul]; omega
    · rw [if_neg hi, if_neg hi]
  refine ⟨?_, e⟩
  have h5' := of_decide_eq_true h5
  rw [h6, addL_length, h2, h3, h4, e, h1]
  have : inB (-f) (-30) 30 = true := by unfold inB at *; simp at *; omega
  rw [this]; rfl
theorem addOk_num {l : List (List Int)} {fr tq f : Int} (h : addOk l fr tq f = true) : -30 ≤ f ∧ f ≤ 30 := by
  unfold addOk at h
  simp only [Bool.and_eq_true] at h
  exact of_decide_eq_true h.2.2.2.2.1

end Go.Proofs.Ytpoabeniejmpkaa
end

section
/- The value by lists, by rows and by pivots is one: the pure side. -/
namespace Go.Proofs.Ytpoabeniejmpkaa
open Go.RowKit Go.Deep

/-- The numbers below n that a set lacks. -/
def lacks (n U : Nat) : List Nat := (List.range n).filter fun k => !U.testBit k
/-- The one at j. -/
def gam (U j : Nat) : Nat := (lacks 6 U).getD j 0
/-- The sign that a set of used columns bears. -/
def sgU (U : Nat) : Int := sn (((List.range 6).filter fun k => U.testBit k).foldl (· + ·) 0 + popcS U * (popcS U - 1) / 2)

theorem lacks_len : ∀ n : Fin 7, ∀ U : Fin 64, U.val < 2 ^ n.val → (lacks n.val U.val).length + popcS U.val = n.val := by decide +kernel
theorem lacks_get : ∀ n : Fin 7, ∀ U : Fin 64, ∀ j : Fin 6, U.val < 2 ^ n.val → j.val + popcS U.val < n.val → (lacks n.val U.val).getD j.val 0 = gam U.val j.val ∧ gam U.val j.val < n.val ∧ U.val.testBit (gam U.val j.val) = false := by decide +kernel
theorem gam_or : ∀ U : Fin 64, ∀ j j' : Fin 6, j.val + popcS U.val < 6 → j'.val + popcS U.val + 1 < 6 → gam (U.val ||| 2 ^ gam U.val j.val) j'.val = gam U.val (skip j.val j'.val) := by decide +kernel
theorem sgU_or : ∀ U : Fin 64, ∀ j : Fin 6, j.val + popcS U.val < 6 → sn (popcS (U.val / 2 ^ gam U.val j.val)) * sgU (U.val ||| 2 ^ gam U.val j.val) = sgU U.val * sn j.val := by decide +kernel
theorem popcS_add : ∀ U : Fin 64, ∀ k : Fin 6, U.val.testBit k.val = false → popcS (U.val ||| 2 ^ k.val) = popcS U.val + 1 := by decide +kernel

theorem sumL_get (F : Nat → Int) : ∀ l : List Nat, (l.map F).foldr (· + ·) 0 = sumN (fun j => F (l.getD j 0)) l.length
  | [] => rfl
  | x :: xs => by
    rw [List.length_cons, sumN_first, List.map_cons, List.foldr_cons, sumL_get F xs]
    rfl
theorem sumL_snoc (l : List Int) (x : Int) : (l ++ [x]).foldr (· + ·) 0 = l.foldr (· + ·) 0 + x := by
  induction l with
  | nil => simp
  | cons y ys ih => simp only [List.cons_append, List.foldr_cons, ih]; omega
theorem sumN_lacks (F : Nat → Int) (U : Nat) : ∀ n, sumN (fun k => if U.testBit k then 0 else F k) n = ((lacks n U).map F).foldr (· + ·) 0
  | 0 => rfl
  | n + 1 => by
    have e : lacks (n + 1) U = lacks n U ++ (if U.testBit n then [] else [n]) := by
      unfold lacks
      rw [List.range_succ, List.filter_append]
      cases h : U.testBit n <;> simp [h]
    unfold sumN
    rw [sumN_lacks F U n, e]
    cases h : U.testBit n
    · simp only [Bool.false_eq_true, if_false, List.map_append, List.map_cons, List.map_nil, sumL_snoc]
    · simp

theorem ordF_dt (l : List (List Int)) {n : Nat} (hn : n ≤ 6) : ∀ (d U : Nat), U < 2 ^ n → popcS U + d = n → ordF l n d U = sgU U * dt d (fun i j => at2 l (n - d + i) (gam U j))
  | 0, U, hU, hp => by
    rw [ordF_zero, dt_zero]
    have h : ∀ n : Fin 7, ∀ U : Fin 64, U.val < 2 ^ n.val → popcS U.val = n.val → sgU U.val = 1 := by decide +kernel
    have p : 2 ^ n ≤ 2 ^ 6 := Nat.pow_le_pow_right (by omega) hn
    have := h ⟨n, by omega⟩ ⟨U, by omega⟩ hU (by simpa using hp)
    simp only at this
    rw [this]; rfl
  | d + 1, U, hU, hp => by
    have p : 2 ^ n ≤ 2 ^ 6 := Nat.pow_le_pow_right (by omega) hn
    have hlen := lacks_len ⟨n, by omega⟩ ⟨U, by omega⟩ hU
    simp only at hlen
    rw [ordF_succ, dt_succ, ← sumN_mul]
    have e0 : ∀ k, ordT l (n - (d + 1)) U (ordF l n d) k = if U.testBit k then 0 else sn (popcS (U / 2 ^ k)) * (at2 l (n - (d + 1)) k * ordF l n d (U ||| 2 ^ k)) := fun k => by
      unfold ordT
      split
      · rfl
      · rw [sg_sn]
    rw [sumN_congr n (fun k _ => e0 k), sumN_lacks (fun k => sn (popcS (U / 2 ^ k)) * (at2 l (n - (d + 1)) k * ordF l n d (U ||| 2 ^ k))), sumL_get, show (lacks n U).length = d + 1 by omega]
    refine sumN_congr _ fun j hj => ?_
    obtain ⟨g1, g2, g3⟩ := lacks_get ⟨n, by omega⟩ ⟨U, by omega⟩ ⟨j, by omega⟩ hU (by simp only; omega)
    simp only at g1 g2 g3
    have hs := sgU_or ⟨U, by omega⟩ ⟨j, by omega⟩ (by simp only; omega)
    have ha := popcS_add ⟨U, by omega⟩ ⟨gam U j, by omega⟩ g3
    simp only at hs ha
    rw [g1, ordF_dt l hn d (U ||| 2 ^ gam U j) (Nat.or_lt_two_pow hU (Nat.pow_lt_pow_right (by omega) g2)) (by omega)]
    have ed : dt d (fun i j' => at2 l (n - d + i) (gam (U ||| 2 ^ gam U j) j')) = dt d (dr j (fun i j => at2 l (n - (d + 1) + i) (gam U j))) := dt_congr d fun i j' _ hj' => by
      have := gam_or ⟨U, by omega⟩ ⟨j, by omega⟩ ⟨j', by omega⟩ (by simp only; omega) (by simp only; omega)
      simp only at this
      rw [this]
      show _ = at2 l (n - (d + 1) + (i + 1)) (gam U (skip j j'))
      rw [show n - (d + 1) + (i + 1) = n - d + i by omega]
    rw [ed, Nat.add_zero]
    generalize dt d (dr j (fun i j => at2 l (n - (d + 1) + i) (gam U j))) = D
    generalize at2 l (n - (d + 1)) (gam U j) = y
    rw [show sn (popcS (U / 2 ^ gam U j)) * (y * (sgU (U ||| 2 ^ gam U j) * D)) = (sn (popcS (U / 2 ^ gam U j)) * sgU (U ||| 2 ^ gam U j)) * (y * D) by grind, hs, Int.mul_assoc]
theorem gam_zero : ∀ j : Fin 6, gam 0 j.val = j.val := by decide +kernel
/-- The sum over lists is the value by first rows. -/
theorem ordF_all (l : List (List Int)) {n : Nat} (hn : n ≤ 6) : ordF l n n 0 = dt n (at2 l) := by
  rw [ordF_dt l hn n 0 (Nat.pow_pos (by omega)) (by have : popcS 0 = 0 := by decide
                                                    omega)]
  have h1 : sgU 0 = 1 := by decide +kernel
  rw [h1, Int.one_mul]
  refine dt_congr n fun i j hi hj => ?_
  have := gam_zero ⟨j, by omega⟩
  simp only at this
  rw [this, Nat.sub_self, Nat.zero_add]

end Go.Proofs.Ytpoabeniejmpkaa
end

section
/- Values of tables with rows added: the pure side. -/
namespace Go.Proofs.Ytpoabeniejmpkaa
open Go.RowKit Go.Deep

theorem addL_val {l : List (List Int)} {x y z : Int} (h : addOk l x y z = true) :
    sqB (addL l x.toNat y.toNat z) = sqB l ∧ (if sqB (addL l x.toNat y.toNat z) = true then ordF (addL l x.toNat y.toNat z) (addL l x.toNat y.toNat z).length (addL l x.toNat y.toNat z).length 0 else 0) = (if sqB l = true then ordF l l.length l.length 0 else 0) := by
  unfold addOk at h
  simp only [Bool.and_eq_true, Bool.not_eq_true'] at h
  obtain ⟨h1, h2, h3, h4, _, h6⟩ := h
  have hT := tabIn_of h1
  obtain ⟨fr, rfl, hfr⟩ := rowB_of h2
  obtain ⟨tq, rfl, hto⟩ := rowB_of h3
  rw [Int.toNat_natCast, Int.toNat_natCast] at *
  have hne : fr ≠ tq := by rintro rfl; simp at h4
  have h0 := hT.1
  have e0 : ((addL l fr tq z).getD 0 []).length = (l.getD 0 []).length := tabF_len _ _ _ _ (by omega)
  have el := addL_length l fr tq z
  have hsq : sqB (addL l fr tq z) = sqB l := by unfold sqB; rw [h1, h6, e0, el]
  refine ⟨hsq, ?_⟩
  rw [hsq]
  cases hs : sqB l with
  | false => rfl
  | true =>
    rw [if_pos rfl, if_pos rfl, el]
    obtain ⟨_, hw⟩ := sqB_of hs
    have h66 := hT.2.1
    rw [ordF_all _ h66, ordF_all _ h66, dt_congr l.length (g := setR (at2 l) tq (fun j => 1 * at2 l tq j + z * at2 l fr j)) (fun i j hi hj => ?_), dt_add (at2 l) 1 z hto hfr (Ne.symm hne)]
    · omega
    · have e : at2 (addL l fr tq z) i j = addF l fr tq z i j := tabF_at _ _ _ i j hi (by omega)
      rw [e]
      unfold addF setR
      split
      · rename_i h
        rw [h]
        show at2 l tq j + z * at2 l fr j = 1 * at2 l tq j + z * at2 l fr j
        omega
      · rfl

end Go.Proofs.Ytpoabeniejmpkaa
end

section
/- The walk of laws.FnValueAdd. -/
namespace Go.Proofs.Ytpoabeniejmpkaa
open Go.RowKit Go.Deep

set_option maxRecDepth 100000 in
set_option maxHeartbeats 4000000 in
theorem fnValueAdd (a : Option Addr) (cap n : Nat) (w : World) (hc : n ≤ cap) (h63 : cap ≤ 9223372036854775807) (hb : BytR w a n) :
    Calls Try.prog 7 #[.slice a n cap] w fun e w' => e = .returned (.bool true) ∧ w.Since w.heap.size w' := by
  by_cases hlen : 1048576 < n
  · have hl' : decide ((1048576 : Int) < (n : Int)) = true := by simp; omega
    clear hb
    go_enter Try.func7, Try.ntmps7
    go_wp2
    go_ret
    exact ⟨rfl, World.Since.refl _ _⟩
  · have hl' : decide ((1048576 : Int) < (n : Int)) = false := by simp; omega
    have ED := Lib.hid (drawAdd_any a n cap w hc h63 hb)
    clear hb
    go_enter Try.func7, Try.ntmps7
    go_wp2_with fail
    refine (ED.out).mono ?_
    rintro e w1 ⟨a1, c1, l, x, y, z, rfl, hs1, h1, h5, hlens, hit⟩
    have hsz : szL l ≤ 1048576 := szL_of h5 (fun j hj => (hlens j hj).2) (by decide)
    obtain ⟨nn, hn⟩ : ∃ nn, l.length = nn := ⟨_, rfl⟩
    rw [hn]
    have HN := Lib.hid hn
    have HSZ := Lib.hid hsz
    have HM := Lib.hid (fun (W : World) (h : w1.Since w1.heap.size W) => hit.matR.since h)
    have HS1 := Lib.hid hs1
    obtain ⟨ok, hok⟩ : ∃ ok, addOk l x y z = ok := ⟨_, rfl⟩
    obtain ⟨M, hM⟩ : ∃ M, resT ok (addL l x.toNat y.toNat z) = M := ⟨_, rfl⟩
    have E1 := implTableAdd_any a1 c1 nn l x y z w1 hn hsz (hit.matR)
    have E2 := fun (W : World) (h : w1.Since w1.heap.size W) => specTableAdd_any a1 c1 nn l x y z W hn hsz (hit.matR.since h)
    have hMsz : szL M ≤ 1048576 := by
      rw [← hM]
      cases hok' : ok with
      | false => simp [resT, szL, sumTo]
      | true => rw [hok'] at hok; exact szL_addOk l x y z hok
    unfold ImplT at E1
    unfold SpecT at E2
    rw [hok, hM] at E1
    simp only [hok, hM] at E2
    obtain ⟨q, hq⟩ : ∃ q, M.length = q := ⟨_, rfl⟩
    rw [hq] at E1
    simp only [hq] at E2
    have hq63 : q ≤ 9223372036854775807 := by unfold szL at hMsz; omega
    replace E1 := Lib.hid E1
    replace E2 := Lib.hid E2
    have HQ := Lib.hid hq
    have HMS := Lib.hid hMsz
    have HOK := Lib.hid hok
    have HMM := Lib.hid hM
    clear hn hsz hit hs1 h1 h5 hlens hq hMsz hok hM
    go_wp2_with fail
    refine (E1.out).mono ?_
    rintro e w2 ⟨a2, c2, rfl, hs2, ho2⟩
    have HO := Lib.hid (fun (W : World) (h : w2.Since w2.heap.size W) => ho2.matR.since h)
    have HS2 := Lib.hid hs2
    clear ho2 hs2
    go_wp2_with fail
    refine (E2.out w2 HS2.out).mono ?_
    rintro e w3 ⟨a3, c3, rfl, hs3, hi3⟩
    have ES := Lib.hid (fun (W : World) (h : w3.Since w3.heap.size W) => sameRows_same a2 a3 c2 c3 q M W HQ.out hq63 (rows_le HMS.out) (HO.out W (hs3.trans (since_mono h hs3.size))) (hi3.matR.since h))
    have HS3 := Lib.hid hs3
    clear hi3 hs3
    go_wp2_with fail
    refine (ES.out w3 (World.Since.refl _ _)).mono ?_
    rintro e w4 ⟨rfl, hd4⟩
    have hs4 := hd4.since w3.heap.size
    have hs14 : w1.Since w1.heap.size w4 := (HS2.out.trans (since_mono HS3.out HS2.out.size)).trans (since_mono hs4 (by have := HS2.out.size; have := HS3.out.size; omega))
    have HS4 := Lib.hid hs14
    have hs24 : w2.Since w2.heap.size w4 := HS3.out.trans (since_mono hs4 HS3.out.size)
    have HS24 := Lib.hid hs24
    cases ok with
    | false =>
      clear hs14 hs24 hd4
      go_wp2_with fail
      refine (ES.out w4 hs4).mono ?_
      rintro e w5 ⟨rfl, hd5⟩
      have HS5 := Lib.hid (hd5.since w4.heap.size)
      clear hd5
      go_wp2
      go_ret
      exact ⟨rfl, HS1.out.trans (since_mono (HS4.out.trans (since_mono HS5.out HS4.out.size)) HS1.out.size)⟩
    | true =>
      have hMl : M = addL l x.toNat y.toNat z := HMM.out.symm
      clear hs4 hd4
      obtain ⟨hsq, hval⟩ := addL_val HOK.out
      rw [← hMl, HQ.out, HN.out] at hval
      rw [← hMl] at hsq
      have E5 := implValueOrders_any a1 c1 nn l w4 HN.out HSZ.out (HM.out w4 hs14)
      have E6 := fun (W : World) (h : w2.Since w2.heap.size W) => implValueOrders_any a2 c2 q M W HQ.out HMS.out (HO.out W h)
      unfold SpecW at E5 E6
      rw [hval, hsq] at E6
      generalize (if sqB l = true then ordF l nn nn 0 else 0) = v at E5 E6
      generalize sqB l = b at E5 E6
      replace E5 := Lib.hid E5
      replace E6 := Lib.hid E6
      clear hval hsq hMl hs14 hs24
      go_wp2_with fail
      refine (E5.out).mono ?_
      rintro e w5 ⟨rfl, hs5⟩
      have HS5 := Lib.hid (HS4.out.trans (since_mono hs5 HS4.out.size))
      have HS25 := Lib.hid (HS24.out.trans (since_mono hs5 HS24.out.size))
      clear hs5
      go_wp2_with fail
      refine (E6.out w5 HS25.out).mono ?_
      rintro e w6 ⟨rfl, hs6⟩
      have HS6 := Lib.hid (HS5.out.trans (since_mono hs6 HS5.out.size))
      clear hs6
      cases b
      all_goals
        go_wp2
        go_ret
        exact ⟨rfl, HS1.out.trans (since_mono HS6.out HS1.out.size)⟩

end Go.Proofs.Ytpoabeniejmpkaa
end

section
/- What an argument reads as, in the words of the walks; the last step of a row. -/
namespace Go.Proofs.Ytpoabeniejmpkaa
open Go.ChangeShapes Go.WideShapes Go.ChangeAt Go.RowKit Go.Deep

theorem below_since' {B : Nat} {w w' : World} (h : Below B w w') : w.Since B w' := ⟨h.os, h.tape, h.output, h.size, h.block⟩
theorem since_below' {B : Nat} {w w' : World} (h : w.Since B w') : Below B w w' := ⟨h.os, h.tape, h.output, h.size, h.block⟩

section
variable {H : Type} {enc : TypeId × Value → H} {P : Program}
theorem post_of_below {f : Func} {s : ChangeSpec} {apart fresh handsOn again : Bool} {W W' : World} {args : Array Value} {v : Value} {ds gs : List (DataW H)} {before pa pv : List MemPlace}
    (hW : DataW.Whole enc P f.params.toList s.vars apart W args.toList ds gs before)
    (hres : ∀ (b : Nat) (sp : Nat → Bool) (hd : Bool), DataW.TrodAll enc P W' b sp hd f.resultTypes.toList (v.resultList f.resultTypes.size) (s.fn H (ds ++ gs)).results [])
    (hargs : ∀ sp : Nat → Bool, (∀ p ∈ before, sp p.block = true) → DataW.TrodAll enc P W' 0 sp true f.params.toList args.toList (s.fn H (ds ++ gs)).args pa)
    (hvars : ∀ sp : Nat → Bool, (∀ p ∈ before, sp p.block = true) → DataW.TrodVars enc P W' sp s.vars (s.fn H (ds ++ gs)).vars pv)
    (hps : before = pa ++ pv) (hb : Below W.heap.size W W') (hag : again = false) :
    s.post enc P f apart fresh handsOn again W args v W' := by
  have hlt : ∀ p ∈ before, p.block < W.heap.size := fun p hp => hW.lt p hp
  have hold : ∀ p ∈ before, (fun b => decide (b < W.heap.size)) p.block = true := fun p hp => by simpa using hlt p hp
  refine ⟨ds, gs, before, [], pa, pv, hW, hres _ _ _, hargs _ hold, hvars _ hold, World.keptBut_mono (fun p hp => ⟨hp, ?_⟩) (hb.frame (· ∈ before)), fun h => ?_⟩
  · rw [hps, List.mem_append] at hp
    exact Or.inr hp
  · rw [hag] at h; cases h

/-- An argument of slices of integers reads as a list of lists. -/
theorem open_mat {W : World} {t e q : TypeId} {a : Option Addr} {n cap : Nat} {d : DataW H} {p : List MemPlace} (ht : P.underlying t = some (.slice e)) (he : P.underlying e = some (.slice q)) (hq : P.underlying q = some (.int .i64))
    (ce : P.cellsOf e = 1) (cq : P.cellsOf q = 1) (h : DataW.Trod enc P W 0 (fun _ => true) true t (.slice a n cap) d p) :
    ∃ l : List (List Int), l.length = n ∧ MatR W a l ∧ n ≤ 9223372036854775807 ∧ ∀ r, r < l.length → (l.getD r []).length ≤ 9223372036854775807 := by
  obtain ⟨fuel, hf⟩ := h
  rcases open_int_rows ht he hq ce cq hf with ⟨hcs, _⟩ | ⟨a', len', cap', A, L, C, Z, hcs, _, hl, hm, _, hrows⟩
  · simp [Value.cells] at hcs
    obtain ⟨rfl, rfl, rfl⟩ := hcs
    exact ⟨[], rfl, (fun h => by simp at h), by omega, fun r hr => by simp at hr⟩
  · simp [Value.cells] at hcs
    obtain ⟨rfl, rfl, rfl⟩ := hcs
    have hmx : maxLen = 9223372036854775807 := rfl
    have hlen : ∀ r, r < n → ((Z r).take (L r)).length = L r := fun r hr => by
      obtain ⟨_, h1, _, h2, _⟩ := hrows r (by omega)
      rw [List.length_take]; omega
    have hget : ∀ r, r < n → ((List.range n).map fun r => (Z r).take (L r)).getD r [] = (Z r).take (L r) := fun r hr => by simp [List.getD, hr]
    refine ⟨(List.range n).map fun r => (Z r).take (L r), by simp, fun h => ?_, by omega, fun r hr => ?_⟩
    · obtain ⟨b, o, spot⟩ := a'
      simp at h
      have hspot : spot = none := by simpa [Addr.add] using World.cell?_spot (hrows 0 (by omega)).1
      subst hspot
      refine ⟨b, o, A, C, rfl, fun r hr => ?_⟩
      simp at hr
      rw [hget r hr, hlen r hr]
      obtain ⟨g1, g2, g3, g4, g5, g6, g7⟩ := hrows r (by omega)
      refine ⟨by rw [← add_plain]; exact g1, fun h0 => ?_⟩
      rw [hlen r hr] at h0
      cases hA : A r with
      | none => have := g6 hA; omega
      | some a'' =>
        obtain ⟨_, hcell⟩ := g7 a'' hA
        obtain ⟨b', o', sp⟩ := a''
        have hs : sp = none := by simpa [Addr.add] using World.cell?_spot (hcell 0 (by omega))
        subst hs
        refine ⟨b', o', rfl, fun i hi => ?_⟩
        rw [hlen r hr] at hi
        rw [← add_plain, hcell i (by omega)]
        congr 2
        simp [List.getD, hi]
    · simp at hr
      rw [hget r hr, hlen r hr]
      obtain ⟨_, h1, h2, _⟩ := hrows r (by omega)
      omega
end

theorem Try.own : ownKnob Try.prog.godebug = none := by kernel_rfl
theorem Try.laidOut : laidOutB Try.prog = true := by kernel_rfl
theorem Try.cellsR : Try.prog.cellsOf 32 = 1 := by kernel_rfl
theorem Try.cellsI : Try.prog.cellsOf 3 = 1 := by kernel_rfl

end Go.Proofs.Ytpoabeniejmpkaa
end

section
/- An argument of bytes reads as bytes. -/
namespace Go.Proofs.Ytpoabeniejmpkaa
open Go.ChangeShapes Go.WideShapes Go.ChangeAt Go.RowKit Go.Deep

theorem wf_u8_of {n : Int} (h : (Lit.int .u8 n).wf = true) : 0 ≤ n ∧ n ≤ 255 := by
  have h2 : (0 : Int) ≤ n ∧ n ≤ 255 := by simpa [Lit.wf, IntKind.min, IntKind.max, IntKind.signed, IntKind.bits] using h
  exact h2

theorem open_bytes {H : Type} {enc : TypeId × Value → H} {P : Program} {W : World} {t e : TypeId} {a : Option Addr} {n cap : Nat} {d : DataW H} {p : List MemPlace} (ht : P.underlying t = some (.slice e)) (he : P.underlying e = some (.int .u8)) (ce : P.cellsOf e = 1)
    (h : DataW.Trod enc P W 0 (fun _ => true) true t (.slice a n cap) d p) : BytR W a n ∧ n ≤ cap ∧ cap ≤ 9223372036854775807 := by
  obtain ⟨fuel, hf⟩ := h
  rcases open_ints ht he ce hf with ⟨hcs, _⟩ | ⟨a', len, cap', zs, hcs, _, hl, hm, hlen, _, hcell, hwf⟩
  · simp [Value.cells] at hcs
    obtain ⟨rfl, rfl, rfl⟩ := hcs
    exact ⟨fun h => absurd h (by omega), by omega, by omega⟩
  · simp [Value.cells] at hcs
    obtain ⟨rfl, rfl, rfl⟩ := hcs
    have hmx : maxLen = 9223372036854775807 := rfl
    have hzl : zs.length = cap := by simpa using hlen
    refine ⟨fun h0 => ?_, by omega, by omega⟩
    obtain ⟨b, o, spot⟩ := a'
    have hspot : spot = none := by simpa [Addr.add] using World.cell?_spot (hcell 0 (by omega))
    subst hspot
    refine ⟨b, o, rfl, fun i hi => ?_⟩
    have hi' : i < zs.length := by omega
    have hw := wf_u8_of (hwf (zs.getD i 0) (by simp [List.getD, hi']))
    obtain ⟨z, hz⟩ := Int.eq_ofNat_of_zero_le hw.1
    refine ⟨z, by omega, ?_⟩
    rw [← add_plain, hcell i hi', hz]

theorem Try.cellsB : Try.prog.cellsOf 5 = 1 := by kernel_rfl

end Go.Proofs.Ytpoabeniejmpkaa
end

section
/- The statement FnValueAdd, proved: for every input the law returns true and the argument reads as before. No conditions. -/
namespace Go.Proofs.Ytpoabeniejmpkaa
open Go.ChangeShapes Go.WideShapes Go.ChangeAt Go.RowKit Go.Deep

set_option maxRecDepth 100000 in
theorem lifted_FnValueAdd (os : Os) (started : os.Started) (H : Type) (enc : TypeId × Value → H) :
    ReturnsInHanded {} Try.checked os 7 .any (Rows.fnValueAddSpec.pre6 enc Try.prog Try.f7 Rows.fnValueAddRow.domain false) (Rows.fnValueAddSpec.post enc Try.prog Try.f7 false true false false) := by
  refine returnsInHanded_of_change (C := Try.checked) Try.own started (by kernel_rfl) Try.func7
    (ChangeSpec.witness6 (enc := enc) (C := Try.checked) false ⟨#[], #[.slice none 0 0], []⟩ 8 (by kernel_rfl) (by kernel_rfl) (by kernel_rfl) (by kernel_rfl)) ?_
  intro W base args ds gs before hval0 hW _ _
  have hval : ∀ (j : Nat) t v, Try.f7.params[j]? = some t → args[j]? = some v → Value.okWide Try.prog W .any base t v := hval0
  have hW' := hW
  obtain ⟨p, q, hA0, hV, rfl, hfz, hnd⟩ := hW
  have hA : DataW.TrodAll enc Try.prog W 0 (fun _ => true) true Try.f7.params.toList args.toList ds p := hA0
  rw [Try.params7] at hA hval
  obtain ⟨v0, d0, rfl, rfl, h0⟩ := trodAll_one hA
  obtain ⟨p0, hp0⟩ : ∃ p0, p0 = p := ⟨_, rfl⟩
  subst hp0
  obtain ⟨rfl, rfl⟩ := trodVars_none hV
  obtain ⟨a0, n0, cap0, rfl⟩ := okWide_slice Try.underlying22 (hval 0 22 v0 rfl rfl)
  obtain ⟨hb0, hc0, h630⟩ := open_bytes Try.underlying22 Try.underlying5 Try.cellsB h0
  clear hA0 hval0
  simp only [List.append_nil] at hW'
  have hlt0 : ∀ x ∈ p0, x.block < W.heap.size := fun x hx => hW'.lt x (by simp [hx])
  refine (fnValueAdd a0 cap0 n0 W hc0 h630 hb0).mono fun e W' ⟨he, hs⟩ => ?_
  subst he
  have hb := since_below' hs
  have ht0 : ∀ sp : Nat → Bool, (∀ x ∈ p0, sp x.block = true) → DataW.Trod enc Try.prog W' 0 sp true 22 (.slice a0 n0 cap0) d0 p0 := fun sp hsp =>
    WideElems.Trod_stays Try.laidOut (by kernel_rfl) (of_decide_eq_true (by kernel_rfl)) h0 (fun x hx => hb.same (hlt0 x hx)) hsp
  have hargs : ∀ sp : Nat → Bool, (∀ x ∈ (p0), sp x.block = true) → DataW.TrodAll enc Try.prog W' 0 sp true [22] [.slice a0 n0 cap0] [d0] (p0) := fun sp hsp => by
    have := trodAll_mk1 (enc := enc) (P := Try.prog) (w := W') (base := 0) (spare := sp) (held := true) (ht0 sp (fun x hx => hsp x (by simp [hx])))
    simpa using this
  exact ⟨_, rfl, post_of_below (pa := p0) (pv := []) hW' (fun _ _ _ => trodAll_mk1 (shut_bool Try.underlying4 true)) (fun sp hsp => hargs sp (fun x hx => hsp x (by simpa using hx))) (fun _ _ => rfl) (by simp) hb rfl⟩

theorem FnValueAdd_holds : Rows.FnValueAddSaid :=
  OpenClaim.holds_of_wide 7 Try.f7 rfl rfl rfl rfl rfl rfl rfl ⟨rfl, rfl, rfl, rfl, rfl⟩ rfl rfl rfl rfl rfl (by kernel_rfl) Try.func7 (by kernel_rfl)
    (of_decide_eq_true (by kernel_rfl)) (by unfold Func.isWrapper; first | (rw [if_pos (by decide +kernel)]; kernel_rfl) | (rw [if_neg (by decide +kernel)]; exact ⟨rfl, rfl⟩))
    (fun os started H enc _ => lifted_FnValueAdd os started H enc)

end Go.Proofs.Ytpoabeniejmpkaa
end
