import Derived.Test.YteaabemnolacdaaCopy
import Derived.Test.YteaabemnolacdaaSome
import Derived.OwnWalk
import Derived.Test.YteaabemnolacdaaWR
import Derived.Deep.RegionHeld3
import Derived.RangeFuncBox
import Derived.Test.YteaabemnolacdaaTurnImpl
import Derived.Test.YteaabemnolacdaaGrid
import Derived.Test.YteaabemnolacdaaRankV
import Derived.Test.YteaabemnolacdaaOrdDet
import Derived.Test.YteaabemnolacdaaHasM
import Derived.Test.YteaabemnolacdaaHarn2
import Derived.Test.YteaabemnolacdaaRows
import Derived.Test.YteaabemnolacdaaData
import Derived.ProofKit
import Derived.Deep.Matrix
import Derived.Test.YteaabemnolacdaaDraw0

section
namespace Go.Proofs.Yteaabemnolacdaa
open Go.RowKit Go.Deep

set_option maxRecDepth 100000 in
set_option maxHeartbeats 2000000 in
theorem l1Copy_gen (a : Option Addr) (cap n : Nat) (l : List (List Int)) (w : World) (hn : l.length = n) (hn6 : 1 ≤ n ∧ n ≤ 6) (hT : ∀ r, r < n → 1 ≤ (l.getD r []).length ∧ (l.getD r []).length ≤ 6) (hm : MatR w a l) :
    Calls Try.prog 73 #[.slice a n cap] w fun e w' => ∃ a' cap', e = .returned (.slice a' n cap') ∧ w.Since w.heap.size w' ∧ OwnT w.heap.size w'.heap.size w' a' l ∧ FreeTop w' a' n := by
  obtain ⟨i42, hi42⟩ := info42_parts
  obtain ⟨i3, hi3⟩ := info3_parts
  have HI := Lib.hid hi42
  have HJ := Lib.hid hi3
  clear hi42 hi3
  have hst := bt_start w (fun _ => none) (fun _ => 0) #[] rfl
  obtain ⟨b, o, A0, C0, rfl, hc⟩ := hm (by omega)
  have HC := Lib.hid hc
  have HN := Lib.hid hn
  have HTT := Lib.hid hT
  clear hc hm hn hT
  go_enter Try.func73, Try.ntmps73
  go_wp2
  go_loopg [3, 4] n (fun g v k wr => ∃ r : Nat, ∃ A C, r ≤ n ∧ g = n - r ∧ k = .int .i64 r ∧ BT w wr v (l.take r) A C)
  case atStart => exact ⟨0, _, _, Nat.zero_le _, rfl, rfl, hst⟩
  case round =>
    obtain ⟨r, A, C, hr, rfl, rfl, hR⟩ := hrel
    clear hst
    by_cases hlt : r < n
    · obtain ⟨c1, r1⟩ := HC.out r (by rw [HN.out]; exact hlt)
      have hrl := HTT.out r hlt
      obtain ⟨b', o', hA, hce⟩ := r1 (by omega)
      rw [hA] at c1
      rw [← hR.since.cell (a := ⟨b, o + r, none⟩) (World.block_lt_of_cell? _ _ c1)] at c1
      obtain ⟨x, hx⟩ : ∃ x, x = l.getD r [] := ⟨_, rfl⟩
      rw [← hx] at c1 hce hrl
      obtain ⟨m, hmm⟩ : ∃ m, x.length = m := ⟨_, rfl⟩
      rw [hmm] at c1 hce hrl
      have hm6 : 1 ≤ m ∧ m ≤ 6 := by omega
      clear hrl
      have hcells : ∀ (j : Nat) (u : Value), (x.map (Value.int .i64))[j]? = some u → (wr.alloc (.cells #[] 3)).cell? ((⟨b', o', none⟩ : Addr).add j) = some u := fun j u hj => by
        rw [Go.WideShapes.add_plain]
        obtain ⟨hjl, he⟩ := List.getElem?_eq_some_iff.1 hj
        have hjx : j < m := by rw [← hmm]; simpa using hjl
        have h2 := hce j hjx
        refine cell_alloc_l _ ?_
        rw [hR.since.cell (a := ⟨b', o' + j, none⟩) (World.block_lt_of_cell? _ _ h2), h2, ← he]
        simp [List.getD, show j < x.length by omega]
      have HCE := Lib.hid hcells
      have c1a := fun ob => cell_alloc_l ob c1
      have HR := Lib.hid hR
      have hsz := hR.since.size
      have hlen : (l.take r).length = r := by rw [List.length_take]; have := HN.out; omega
      have HMM := Lib.hid hmm
      have HX := Lib.hid hx
      have hRB0 : (wr.alloc (.cells #[] 3)).ownsRow wr.heap.size 3 1 (.slice (some ⟨wr.heap.size, 0, none⟩) 0 0) 0 [] := World.ownsRow_made wr #[] 0 (Nat.le_refl _) (Nat.zero_le _) rfl
      have HRB := Lib.hid hRB0
      clear hR hcells hmm hx hce hA r1 hRB0
      go_wp2_with (first
        | (at_builtin; (refine wpList_append_own _ rfl (.tmp 13) (.tmp 17) 36 rfl wr.heap.size 3 i3 (.int .i64 0) 1 8 Try.underlying36 HJ.out.1 HJ.out.2.1 HJ.out.2.2.1 HJ.out.2.2.2 rfl (by decide) _ 0 [] rfl HRB.out ⟨b', o', none⟩ m _ (x.map (Value.int .i64)) rfl (by rw [List.length_map, HMM.out]; omega) HCE.out (fun u hu => by obtain ⟨z, _, rfl⟩ := List.mem_map.1 hu; rfl) (by unfold maxLen; omega) (by omega) (by simp) ?_);
            intro v1 w1 hown1 hgrow1 _; have hrb := RB.of_append #[] HMM.out hown1 hgrow1; obtain ⟨ra, rcp, hv1, hrow1⟩ := hrb.slice; rw [HMM.out] at hv1; subst hv1; have HBT := Lib.hid (HR.out.later hrb.since); have HRW := Lib.hid hrow1; have hz1 := hrb.since.size; clear hown1 hgrow1 hrb hrow1)
        | (at_builtin; (refine wpList_append_own _ rfl (.tmp 12) (.tmp 19) 24 rfl w.heap.size 36 i42 (.slice none 0 0) 1 24 Try.underlying24 HI.out.1 HI.out.2.1 HI.out.2.2.1 HI.out.2.2.2 rfl (by decide) _ _ _ rfl (HBT.out.own.alloc _) ⟨w1.heap.size, 0, none⟩ 1 1 [.slice ra m rcp] rfl rfl (cell_one_at _ _ _ rfl) (fun x hx => by simp at hx; subst hx; rfl) (by unfold maxLen; omega) (by omega) (by simp; omega) ?_); intro v' w2 hown' hgrow _))
      have hP := HBT.out.push (rv := .slice ra m rcp) (x := x) (a := ra) (cp := rcp) (by rw [HMM.out]) (fun h => by obtain ⟨G, e, h2, h3⟩ := HRW.out h; exact ⟨G, e, by omega, h3⟩) (fun h => by obtain ⟨G, e, h2, _⟩ := HRW.out h; exact HR.out.fresh e h2) hown' hgrow
      rw [HX.out, ← take_succ_get l (by rw [HN.out]; exact hlt)] at hP
      have HP := Lib.hid hP
      clear hP hown' hgrow hlen c1 c1a
      go_roundg (n - (r + 1))
      case measure => omega
      case rel => exact ⟨r + 1, _, _, by omega, rfl, by go_num, HP.out⟩
    · have : r = n := by omega
      subst this
      rw [List.take_of_length_le (by rw [HN.out]; exact Nat.le_refl _)] at hR
      obtain ⟨ra, rcp, hv, hin⟩ := hR.ownT
      rw [HN.out] at hv
      have hfree := hR.free hv
      subst hv
      have HS := Lib.hid hR.since
      clear hR
      go_wp2
      go_ret
      exact ⟨ra, rcp, rfl, HS.out, hin, hfree⟩

end Go.Proofs.Yteaabemnolacdaa
end

section
namespace Go.Proofs.Yteaabemnolacdaa
open Go.RowKit Go.Deep

set_option maxHeartbeats 1000000 in
theorem l6Open_any (a : Option Addr) (nb cb : Nat) (w : World) (hc : nb ≤ cb) (h63 : cb ≤ 9223372036854775807) (hb : BytR w a nb) :
    Calls Try.prog 59 #[.slice a nb cb] w fun e w' => ∃ n' c', e = .returned (.pointer (some ⟨w.heap.size, 0, none⟩)) ∧ w.Since w.heap.size w' ∧ w'.heap.size = w.heap.size + 1 ∧ RD w w' w.heap.size a n' c' 80 0 := by
  by_cases hl : 2000 < nb
  · have hl' : decide ((2000 : Int) < (nb : Int)) = true := by simp; omega
    have h2 : (2000 : Int) ≤ (cb : Int) := by omega
    obtain ⟨b, o, rfl, hcell⟩ := hb (by omega)
    go_enter Try.func59, Try.ntmps59
    go_wp2
    go_ret
    exact ⟨_, _, rfl, (World.Since.refl _ _).alloc (Nat.le_refl _) _, by simp, ⟨heap_alloc_new _ _, Nat.le_refl _, (World.Since.refl _ _).alloc (Nat.le_refl _) _, fun _ => ⟨b, o, rfl, fun i hi => hcell i (by omega)⟩, by omega⟩⟩
  · have hl' : decide ((2000 : Int) < (nb : Int)) = false := by simp; omega
    go_enter Try.func59, Try.ntmps59
    go_wp2
    go_ret
    exact ⟨_, _, rfl, (World.Since.refl _ _).alloc (Nat.le_refl _) _, by simp, ⟨heap_alloc_new _ _, Nat.le_refl _, (World.Since.refl _ _).alloc (Nat.le_refl _) _, hb, by omega⟩⟩

def DrawnT (w w' : World) (R K : Nat) (a : Option Addr) (l : List (List Int)) : Prop :=
  1 ≤ l.length ∧ l.length ≤ R ∧ (∀ j, j < l.length → 1 ≤ (l.getD j []).length ∧ (l.getD j []).length ≤ K + 1) ∧ InT w.heap.size w'.heap.size w' a l

set_option maxHeartbeats 1000000 in
theorem l91One_any (a : Option Addr) (nb cb : Nat) (w : World) (hc : nb ≤ cb) (h63 : cb ≤ 9223372036854775807) (hb : BytR w a nb) :
    Calls Try.prog 100 #[.slice a nb cb] w fun e w' => ∃ a' cap l, e = .returned (.slice a' l.length cap) ∧ w.Since w.heap.size w' ∧ DrawnT w w' 5 5 a' l := by
  have E := Lib.hid (l6Open_any a nb cb w hc h63 hb)
  clear hb
  go_enter Try.func100, Try.ntmps100
  go_wp2_with fail
  refine (E.out).mono ?_
  rintro e w1 ⟨n', c', rfl, hs, hz, hd⟩
  have HD := Lib.hid hd
  clear hd
  go_wp2_with fail
  refine (l91Some_any w w1 w.heap.size n' c' 0 5 5 a HD.out (by omega) (by omega) (by omega) (by omega) (by omega)).mono ?_
  rintro e w2 ⟨a', cap', l, p', rfl, hg, hd2, hp, h1, h5, hl, hit⟩
  go_wp2
  go_ret
  exact ⟨a', cap', l, rfl, hs.trans (since_grown hg (Nat.le_refl _) hs.size), h1, h5, hl, hit.mono hs.size (Nat.le_refl _)⟩

end Go.Proofs.Yteaabemnolacdaa
end

section
namespace Go.Proofs.Yteaabemnolacdaa
open Go.RowKit Go.Deep

theorem results_four {fn : Func} {a b c d : Tmp} (h : fn.results = #[.tmp a, .tmp b, .tmp c, .tmp d]) (tmps : Array Value) (P : Program) (w : World) :
    (results fn tmps).run P w = .ok (.tuple #[tmps.getD a undef, tmps.getD b undef, tmps.getD c undef, tmps.getD d undef]) w := by
  simp [results, h]

set_option maxRecDepth 100000 in
set_option maxHeartbeats 2000000 in
theorem drawAdd_any (a : Option Addr) (nb cb : Nat) (w : World) (hc : nb ≤ cb) (h63 : cb ≤ 9223372036854775807) (hb : BytR w a nb) :
    Calls Try.prog 49 #[.slice a nb cb] w fun e w' => ∃ a' cap l, ∃ (x y z : Int), e = .returned (.tuple #[.slice a' l.length cap, .int .i64 x, .int .i64 y, .int .i64 z]) ∧ w.Since w.heap.size w' ∧ DrawnT w w' 5 5 a' l := by
  have E := Lib.hid (l6Open_any a nb cb w hc h63 hb)
  clear hb
  go_enter Try.func49, Try.ntmps49
  go_wp2_with fail
  refine (E.out).mono ?_
  rintro e w1 ⟨n', c', rfl, hs, hz, hd⟩
  have HD0 := Lib.hid hd
  clear hd
  have hz1 : w.heap.size < w1.heap.size := by omega
  clear hz
  go_wp2_with fail
  refine (l91Some_any w w1 w.heap.size n' c' 0 5 5 a HD0.out (by omega) (by omega) (by omega) (by omega) (by omega)).mono ?_
  rintro e w2 ⟨a', cap', l, p', rfl, hg, hd2, hp, h1, h5, hl, hit⟩
  have HG0 := Lib.hid hg
  have HIT := Lib.hid hit
  have HL := Lib.hid hl
  have HD := Lib.hid hd2
  obtain ⟨nn, hnn⟩ : ∃ n, l.length = n := ⟨_, rfl⟩
  rw [hnn] at h1 h5 ⊢
  have HN := Lib.hid hnn
  clear hg hit hl hd2 hnn
  have HG := Lib.hid (World.grownBy_refl w2 (some w.heap.size))
  have hn0 : ((nn : Int) == 0) = false := by simp; omega
  go_wp2_with (first
    | (go_at_call 60; refine (pick_any w _ w.heap.size n' c' _ a _ HD.out (by omega)).mono ?_; rintro e wk ⟨y, rfl, hy, hg, hd⟩; have HG := Lib.hid (grown_trans HG.out hg); have HD := Lib.hid hd; clear hd hg))
  have hs2 : w.Since w.heap.size w2 := hs.trans (since_grown HG0.out (Nat.le_refl _) hs.size)
  have hs3 := hs2.trans (since_grown HG.out (Nat.le_refl _) hs2.size)
  (try simp only [Exit.inBlock, Exit.then]); refine bodyPost_ret (results_four rfl _ _ _) rfl ?_
  exact ⟨_, _, l, _, _, _, by rw [HN.out]; rfl, hs3, by rw [HN.out]; exact h1, by rw [HN.out]; exact h5, HL.out, (HIT.out.kept HG.out hz1).mono hs.size HG.out.size⟩

set_option maxRecDepth 100000 in
set_option maxHeartbeats 2000000 in
theorem drawBeside_any (a : Option Addr) (nb cb : Nat) (w : World) (hc : nb ≤ cb) (h63 : cb ≤ 9223372036854775807) (hb : BytR w a nb) :
    Calls Try.prog 46 #[.slice a nb cb] w fun e w' => ∃ a' cap l b' cap2 u, e = .returned (.tuple #[.slice a' l.length cap, .slice b' u.length cap2]) ∧ w.Since w.heap.size w' ∧ DrawnT w w' 3 3 a' l ∧ DrawnT w w' 4 3 b' u := by
  have E := Lib.hid (l6Open_any a nb cb w hc h63 hb)
  clear hb
  go_enter Try.func46, Try.ntmps46
  go_wp2_with fail
  refine (E.out).mono ?_
  rintro e w1 ⟨n', c', rfl, hs, hz, hd⟩
  have HD0 := Lib.hid hd
  clear hd
  have hz1 : w.heap.size < w1.heap.size := by omega
  clear hz
  go_wp2_with fail
  refine (l91Some_any w w1 w.heap.size n' c' 0 3 3 a HD0.out (by omega) (by omega) (by omega) (by omega) (by omega)).mono ?_
  rintro e w2 ⟨a', cap', l, p', rfl, hg, hd2, hp, h1, h5, hl, hit⟩
  have HG0 := Lib.hid hg
  have HIT := Lib.hid hit
  have HL := Lib.hid hl
  have HD := Lib.hid hd2
  obtain ⟨nn, hnn⟩ : ∃ n, l.length = n := ⟨_, rfl⟩
  rw [hnn] at h1 h5 ⊢
  have HN := Lib.hid hnn
  clear hg hit hl hd2 hnn
  go_wp2_with fail
  refine (l91Some_any w w2 w.heap.size n' c' p' 4 3 a HD.out (by omega) (by omega) (by omega) (by omega) (by omega)).mono ?_
  rintro e w2q ⟨aq', capq', lq, pq', rfl, hgq, hd2q, hpq, h1q, h5q, hlq, hitq⟩
  have HG0q := Lib.hid hgq
  have HITq := Lib.hid hitq
  have HLq := Lib.hid hlq
  have HDq := Lib.hid hd2q
  obtain ⟨nnq, hnnq⟩ : ∃ n, lq.length = n := ⟨_, rfl⟩
  rw [hnnq] at h1q h5q ⊢
  have HNq := Lib.hid hnnq
  clear hgq hitq hlq hd2q hnnq
  have hs2 : w.Since w.heap.size w2 := hs.trans (since_grown HG0.out (Nat.le_refl _) hs.size)
  have hs3 := hs2.trans (since_grown HG0q.out (Nat.le_refl _) hs2.size)
  go_wp2
  go_ret2
  exact ⟨_, _, l, _, _, lq, by rw [HN.out, HNq.out]; rfl, hs3, ⟨by rw [HN.out]; exact h1, by rw [HN.out]; exact h5, HL.out, (HIT.out.kept HG0q.out hz1).mono hs.size HG0q.out.size⟩, ⟨by rw [HNq.out]; exact h1q, by rw [HNq.out]; exact h5q, HLq.out, HITq.out.mono hs2.size (Nat.le_refl _)⟩⟩

end Go.Proofs.Yteaabemnolacdaa
end

section
namespace Go.Proofs.Yteaabemnolacdaa
open Go.RowKit Go.Deep

theorem grown_of_since' {w w' : World} {G : Nat} (h : w.Since w.heap.size w') : w.grownBy w' (some G) := ⟨h.os, h.tape, h.output, h.size, fun k hk _ => h.block k hk⟩
theorem grown_of_drew {w w' : World} {row : Option Nat} (h : w.drew.grownBy w' row) : w.grownBy w' row := ⟨h.os, h.tape, h.output, h.size, h.block⟩
theorem heap_cell {X Y : World} {b : Nat} (e : Y.heap[b]? = X.heap[b]?) (k : Nat) : Y.cell? ⟨b, k, none⟩ = X.cell? ⟨b, k, none⟩ ∧ Y.frozen? ⟨b, k, none⟩ = X.frozen? ⟨b, k, none⟩ := by
  constructor
  · simp only [World.cell?, e]
  · simp only [World.frozen?, e]
theorem OwnT.grown {lo hi G0 : Nat} {w W : World} {a : Option Addr} {l : List (List Int)} (h : OwnT lo hi w a l) (hg : w.grownBy W (some G0)) (h0 : G0 < lo) (hh : hi ≤ w.heap.size) : OwnT lo hi W a l := by
  intro hl
  obtain ⟨b, A, G, C, e, hb, hr, hd⟩ := h hl
  have kp : ∀ g, lo ≤ g → g < hi → W.heap[g]? = w.heap[g]? := fun g g1 g2 => hg.block g (by omega) (fun e => by injection e; omega)
  refine ⟨b, A, G, C, e, hb, fun r h1 => ?_, hd⟩
  obtain ⟨c1, c2⟩ := hr r h1
  refine ⟨(heap_cell (kp b hb.1 hb.2) r).1.trans c1, fun h2 => ?_⟩
  obtain ⟨d1, d2, d3⟩ := c2 h2
  exact ⟨d1, d2, fun i hi => ⟨(heap_cell (kp _ d2.1 d2.2.1) i).1.trans (d3 i hi).1, (heap_cell (kp _ d2.1 d2.2.1) i).2.trans (d3 i hi).2⟩⟩
theorem OwnT.setNum {lo hi : Nat} {w : World} {a : Option Addr} {l : List (List Int)} (h : OwnT lo hi w a l) {r k : Nat} (hr : r < l.length) (hk : k < (l.getD r []).length) :
    ∃ b g c, a = some ⟨b, 0, none⟩ ∧ w.cell? ⟨b, r, none⟩ = some (.slice (some ⟨g, 0, none⟩) (l.getD r []).length c) ∧ w.cell? ⟨g, k, none⟩ = some (.int .i64 ((l.getD r []).getD k 0)) ∧ (lo ≤ g ∧ g ≠ b) ∧
      ∀ W : World, (∀ g', lo ≤ g' → g' < hi → W.heap[g']? = w.heap[g']?) → W.cell? ⟨b, r, none⟩ = some (.slice (some ⟨g, 0, none⟩) (l.getD r []).length c) ∧ W.cell? ⟨g, k, none⟩ = some (.int .i64 ((l.getD r []).getD k 0)) ∧ W.frozen? ⟨g, k, none⟩ = false ∧ ∀ v : Int, MatR (W.setCell ⟨g, k, none⟩ (.int .i64 v)) a (l.set r ((l.getD r []).set k v)) := by
  obtain ⟨b, A, G, C, e, hb, hc0, hd⟩ := h (by omega)
  obtain ⟨c1, c2⟩ := hc0 r hr
  obtain ⟨d1, d2, d3⟩ := c2 (by omega)
  rw [d1] at c1
  refine ⟨b, G r, C r, e, c1, (d3 k hk).1, ⟨d2.1, d2.2.2⟩, fun W hW => ?_⟩
  have hc : ∀ r, r < l.length → W.cell? ⟨b, r, none⟩ = some (.slice (A r) (l.getD r []).length (C r)) ∧
      (0 < (l.getD r []).length → A r = some ⟨G r, 0, none⟩ ∧ (lo ≤ G r ∧ G r < hi ∧ G r ≠ b) ∧ ∀ i, i < (l.getD r []).length → W.cell? ⟨G r, i, none⟩ = some (.int .i64 ((l.getD r []).getD i 0)) ∧ W.frozen? ⟨G r, i, none⟩ = false) := fun r h1 => by
    obtain ⟨c1, c2⟩ := hc0 r h1
    refine ⟨(heap_cell (hW b hb.1 hb.2) r).1.trans c1, fun h2 => ?_⟩
    obtain ⟨d1, d2, d3⟩ := c2 h2
    exact ⟨d1, d2, fun i hi => ⟨(heap_cell (hW _ d2.1 d2.2.1) i).1.trans (d3 i hi).1, (heap_cell (hW _ d2.1 d2.2.1) i).2.trans (d3 i hi).2⟩⟩
  clear c1 c2 d3 hc0
  obtain ⟨c1, c2⟩ := hc r hr
  obtain ⟨d1, d2, d3⟩ := c2 (by omega)
  rw [d1] at c1
  refine ⟨c1, (d3 k hk).1, (d3 k hk).2, fun v => ?_⟩
  subst e
  intro _
  refine ⟨b, 0, A, C, rfl, fun s hs => ?_⟩
  rw [List.length_set] at hs
  obtain ⟨s1, s2⟩ := hc s hs
  have hrow : (l.set r ((l.getD r []).set k v)).getD s [] = if s = r then (l.getD r []).set k v else l.getD s [] := by
    by_cases e : s = r
    · subst e; rw [if_pos rfl]; simp [List.getD, hs]
    · rw [if_neg e]; simp [List.getD, Ne.symm e]
  have hlen : ((l.set r ((l.getD r []).set k v)).getD s []).length = (l.getD s []).length := by
    rw [hrow]
    split
    · rename_i e; subst e; exact List.length_set
    · rfl
  rw [hlen, Nat.zero_add]
  refine ⟨cell_set_ne s1 (show b ≠ G r from fun e => d2.2.2 e.symm), fun h0 => ?_⟩
  rw [hlen] at h0
  obtain ⟨t1, t2, t3⟩ := s2 h0
  refine ⟨G s, 0, t1, fun i hi => ?_⟩
  rw [Nat.zero_add]
  rw [hlen] at hi
  by_cases e : s = r
  · subst e
    rw [hrow, if_pos rfl]
    by_cases ek : i = k
    · subst ek
      rw [World.cell?_setCell_same W _ _ (d3 i hk).1]
      have e3 : ((l.getD s []).set i v).getD i 0 = v := by
        generalize l.getD s [] = x at hk
        simp [List.getD, hk]
      rw [e3]
    · rw [World.cell?_setCell_other _ _ _ _ (by intro h; simp only [Addr.mk.injEq] at h; omega)]
      have e2 : ((l.getD s []).set k v).getD i 0 = (l.getD s []).getD i 0 := by simp [List.getD, Ne.symm ek]
      rw [e2]
      exact (d3 i hi).1
  · rw [hrow, if_neg e]
    exact cell_set_ne (t3 i hi).1 (show G s ≠ G r from fun e2 => e (hd s r hs hr h0 (by omega) e2))

end Go.Proofs.Yteaabemnolacdaa
end

section
namespace Go.Proofs.Yteaabemnolacdaa
open Go.RowKit Go.Deep

theorem grown_setCell5 {w : World} {g : Nat} {v : Value} : w.grownBy (w.setCell ⟨g, 0, none⟩ v) (some g) := grownBy_setCell' w g v
theorem since_rowG {w W W' : World} {g : Nat} (h : w.Since w.heap.size W) (hg : W.grownBy W' (some g)) (hr : w.heap.size ≤ g) : w.Since w.heap.size W' :=
  ⟨hg.os.trans h.os, hg.tape.trans h.tape, hg.output.trans h.output, Nat.le_trans h.size hg.size, fun k hk => (hg.block k (by have := h.size; omega) (fun e => by injection e; omega)).trans (h.block k hk)⟩

theorem InT.above {lo hi g : Nat} {w W : World} {a : Option Addr} {l : List (List Int)} (h : InT lo hi w a l) (hg : w.grownBy W (some g)) (h0 : hi ≤ g) (hh : hi ≤ w.heap.size) : InT lo hi W a l := by
  intro hl
  obtain ⟨b, o, A, G, O, C, e, hb, hr⟩ := h hl
  have kp : ∀ g', lo ≤ g' → g' < hi → W.heap[g']? = w.heap[g']? := fun g' g1 g2 => hg.block g' (by omega) (fun e => by injection e; omega)
  refine ⟨b, o, A, G, O, C, e, hb, fun r h1 => ?_⟩
  obtain ⟨c1, c2⟩ := hr r h1
  refine ⟨(heap_cell (kp b hb.1 hb.2) _).1.trans c1, fun h2 => ?_⟩
  obtain ⟨d1, d2, d3⟩ := c2 h2
  exact ⟨d1, d2, fun i hi => (heap_cell (kp _ d2.1 d2.2) _).1.trans (d3 i hi)⟩

set_option maxRecDepth 100000 in
set_option maxHeartbeats 2000000 in
theorem drawSame_any (a : Option Addr) (nb cb : Nat) (w : World) (hc : nb ≤ cb) (h63 : cb ≤ 9223372036854775807) (hb : BytR w a nb) :
    Calls Try.prog 22 #[.slice a nb cb] w fun e w' => ∃ a' cap l b' cap2 u, e = .returned (.tuple #[.slice a' l.length cap, .slice b' u.length cap2]) ∧ w.Since w.heap.size w' ∧ DrawnT w w' 4 4 a' l ∧ u.length ≤ 4 ∧ (∀ j, j < u.length → (u.getD j []).length ≤ 5) ∧ MatR w' b' u := by
  have E := Lib.hid (l6Open_any a nb cb w hc h63 hb)
  clear hb
  go_enter Try.func22, Try.ntmps22
  go_wp2_with fail
  refine (E.out).mono ?_
  rintro e w1 ⟨n', c', rfl, hs, hz, hd⟩
  have HD0 := Lib.hid hd
  clear hd
  have hz1 : w.heap.size < w1.heap.size := by omega
  clear hz
  go_wp2_with fail
  refine (l91Some_any w w1 w.heap.size n' c' 0 4 4 a HD0.out (by omega) (by omega) (by omega) (by omega) (by omega)).mono ?_
  rintro e w2 ⟨a', cap', l, p', rfl, hg, hd2, hp, h1, h5, hl, hit⟩
  have HG0 := Lib.hid hg
  have HIT := Lib.hid hit
  have HL := Lib.hid hl
  have HD := Lib.hid hd2
  obtain ⟨nn, hnn⟩ : ∃ n, l.length = n := ⟨_, rfl⟩
  rw [hnn] at h1 h5 ⊢
  have HN := Lib.hid hnn
  clear hg hit hl hd2 hnn
  go_wp2_with fail
  refine (pick_any w w2 w.heap.size n' c' p' a 2 HD.out (by omega)).mono ?_
  rintro e w3 ⟨y, rfl, hy, hg3, hd3⟩
  have hsa : w.Since w.heap.size w2 := hs.trans (since_grown HG0.out (Nat.le_refl _) hs.size)
  have hsb : w.Since w.heap.size w3 := hsa.trans (since_grown hg3 (Nat.le_refl _) hsa.size)
  have hit3 := HIT.out.kept hg3 hz1
  have hz2 := HG0.out.size
  have hz3 := hg3.size
  have EC := Lib.hid (l1Copy_gen a' cap' nn l w3 HN.out (by omega) (fun r hr => by have := HL.out r (by rw [HN.out]; exact hr); omega) hit3.matR)
  have HD3 := Lib.hid hd3
  have HS3 := Lib.hid hsb
  have HI3 := Lib.hid hit3
  have hle : w.heap.size ≤ w1.heap.size := by omega
  clear hg3 hd3 hsa hsb hit3
  by_cases hy0 : y = 0
  · subst hy0
    go_wp2_with fail
    refine (EC.out).mono ?_
    rintro e w4 ⟨b', cap2, rfl, hs4, ho4, _⟩
    have HS4 := Lib.hid hs4
    have HO4 := Lib.hid ho4
    clear hs4 ho4
    go_wp2
    go_ret2
    exact ⟨_, _, l, _, _, l, by rw [HN.out]; rfl, HS3.out.trans (since_mono HS4.out HS3.out.size), ⟨by rw [HN.out]; exact h1, by rw [HN.out]; exact h5, HL.out, (HI3.out.kept (grown_of_since' HS4.out) (by omega)).mono hle (Nat.le_trans hz3 HS4.out.size)⟩, by rw [HN.out]; exact h5, fun j hj => (HL.out j hj).2, HO4.out.matR⟩
  · have hy1 : ((y : Int) == 0) = false := by simp; omega
    go_wp2_with fail
    refine (EC.out).mono ?_
    rintro e w4 ⟨b', cap2, rfl, hs4, ho4, _⟩
    obtain ⟨s, hns⟩ : ∃ s, nn = s + 1 := ⟨nn - 1, by omega⟩
    have hr1 : IntKind.i64.wrap ((nn : Int) - 1) = (s : Int) := by rw [show (nn : Int) - 1 = s by omega]; exact IntWalk.i64_in _ ⟨by omega, by omega⟩
    have hsl := HL.out s (by rw [HN.out]; omega)
    obtain ⟨b, g, c, rfl, t1, t2, ⟨hgl, hgb⟩, hset⟩ := ho4.setNum (r := s) (k := 0) (by rw [HN.out]; omega) (by omega)
    obtain ⟨mm, hmm⟩ : ∃ m, (l.getD s []).length = m := ⟨_, rfl⟩
    obtain ⟨z, hz⟩ : ∃ z, (l.getD s []).getD 0 0 = z := ⟨_, rfl⟩
    rw [hmm] at t1 hsl
    rw [hz] at t2
    simp only [hz, hmm] at hset
    have hz4 := hs4.size
    have HD4 := Lib.hid ((HD3.out.later hs4).later (World.Since.refl _ _).drew)
    have HSET := Lib.hid hset
    have HS4 := Lib.hid hs4
    have HHM := Lib.hid hmm
    have hm0 : 0 < mm := by omega
    have hsn : s < nn := by omega
    have hwg : w.heap.size ≤ g := by omega
    have hwg2 : w2.heap.size ≤ g := by omega
    have t1d : w4.drew.cell? ⟨b, s, none⟩ = some (.slice (some ⟨g, 0, none⟩) mm c) := t1
    have t2d : w4.drew.cell? ⟨g, 0, none⟩ = some (.int .i64 z) := t2
    clear hset hs4 hz ho4 hmm hns
    go_wp2
    go_region_with
      (first
        | (go_at_call 60; refine (pick_any w w4.drew w.heap.size n' c' _ a 2 HD4.out (by omega)).mono ?_; rintro e w5 ⟨y2, rfl, hy2, hg5, _⟩; obtain ⟨f0, f1, f2, f3⟩ := HSET.out w5 (fun g' g1 g2 => hg5.block g' (show g' < w4.heap.size by omega) (fun e => by injection e; omega)); have HF3 := Lib.hid f3; have HG5 := Lib.hid hg5; have hz5 := hg5.size; clear f3 hg5))
    all_goals
      have hsx : w4.drew.Since w4.drew.heap.size w4.drew := World.Since.refl _ _
      have hs5 : w.Since w.heap.size w5 := (HS3.out.trans (since_mono HS4.out HS3.out.size)).trans (since_grown (grown_of_drew HG5.out) (Nat.le_refl _) (Nat.le_trans HS3.out.size HS4.out.size))
      have hI5 := (HI3.out.kept (grown_of_since' HS4.out) (by omega)).kept (grown_of_drew HG5.out) (by omega)
      go_wp2
      go_ret2
      have hrow : ∀ j, j < (l.set s ((l.getD s []).set 0 (IntKind.i64.wrap (z + (y2 : Int))))).length → ((l.set s ((l.getD s []).set 0 (IntKind.i64.wrap (z + (y2 : Int))))).getD j []).length ≤ 5 := fun j hj => by
        rw [List.length_set] at hj
        by_cases e : j = s
        · subst e
          have : (l.set j ((l.getD j []).set 0 (IntKind.i64.wrap (z + (y2 : Int))))).getD j [] = (l.getD j []).set 0 (IntKind.i64.wrap (z + (y2 : Int))) := by simp [List.getD, hj]
          rw [this, List.length_set]
          exact (HL.out j hj).2
        · have : (l.set s ((l.getD s []).set 0 (IntKind.i64.wrap (z + (y2 : Int))))).getD j [] = l.getD j [] := by simp [List.getD, Ne.symm e]
          rw [this]
          exact (HL.out j hj).2
      have hsl2 : (l.set s ((l.getD s []).set 0 (IntKind.i64.wrap (z + (y2 : Int))))).length = nn := by rw [List.length_set]; exact HN.out
      have hwg3 : w2.heap.size ≤ w5.heap.size := by
        have hz5' : w4.heap.size ≤ w5.heap.size := hz5
        omega
      have hgs := grown_setCell5 (w := w5) (g := g) (v := .int .i64 (IntKind.i64.wrap (z + (y2 : Int))))
      exact ⟨_, _, l, _, _, l.set s ((l.getD s []).set 0 (IntKind.i64.wrap (z + (y2 : Int)))), by rw [HN.out, hsl2]; rfl, since_rowG hs5 hgs hwg, ⟨by rw [HN.out]; exact h1, by rw [HN.out]; exact h5, HL.out, (hI5.above hgs hwg2 hwg3).mono hle (by simp; omega)⟩, by rw [hsl2]; exact h5, hrow, HF3.out _⟩

end Go.Proofs.Yteaabemnolacdaa
end

section
namespace Go.Proofs.Yteaabemnolacdaa
open Go.RowKit Go.Deep

def timesL (l : List (List Int)) (f : Int) : List (List Int) := tabF l.length (l.getD 0 []).length fun i k => at2 l i k * f
theorem timesL_length (l : List (List Int)) (f : Int) : (timesL l f).length = l.length := tabF_length _ _ _
theorem mul_bd {a b : Int} (h1 : -30 ≤ a) (h2 : a ≤ 30) (h3 : -30 ≤ b) (h4 : b ≤ 30) : -900 ≤ a * b ∧ a * b ≤ 900 := by
  have h : ∀ x : Nat, ∀ y : Nat, x ≤ 30 → y ≤ 30 → x * y ≤ 900 := fun x y hx hy => Nat.le_trans (Nat.mul_le_mul hx hy) (by decide)
  have h5 := h a.natAbs b.natAbs (by omega) (by omega)
  rw [← Int.natAbs_mul] at h5
  omega

noncomputable def timesOk (l : List (List Int)) (f : Int) : Bool := tabIn l && (inB f (-30) 30 && tabIn (timesL l f))
theorem szL_times {l : List (List Int)} (f : Int) (h : TabIn l) : szL (timesL l f) ≤ 1048576 := szL_tabF _ _ _ (by have := h.2.1; omega) (by have := h.width; omega)

end Go.Proofs.Yteaabemnolacdaa
end

section
namespace Go.Proofs.Yteaabemnolacdaa
open Go.RowKit Go.Deep

theorem szL_timesOk (l : List (List Int)) (f : Int) (h : timesOk l f = true) : szL (timesL l f) ≤ 1048576 := by
  unfold timesOk at h
  rw [Bool.and_eq_true] at h
  exact szL_times f (tabIn_of h.1)

end Go.Proofs.Yteaabemnolacdaa
end

section
namespace Go.Proofs.Yteaabemnolacdaa
open Go.RowKit Go.Deep

def sumL (l u : List (List Int)) : List (List Int) := tabF l.length (l.getD 0 []).length fun i k => at2 l i k + at2 u i k
theorem sumL_length (l u : List (List Int)) : (sumL l u).length = l.length := tabF_length _ _ _

def alikeB (l u : List (List Int)) : Bool := (l.length == u.length) && ((l.getD 0 []).length == (u.getD 0 []).length)
noncomputable def sumOk (l u : List (List Int)) : Bool := tabIn l && (tabIn u && (alikeB l u && tabIn (sumL l u)))
theorem szL_sum {l : List (List Int)} (u : List (List Int)) (h : TabIn l) : szL (sumL l u) ≤ 1048576 := szL_tabF _ _ _ (by have := h.2.1; omega) (by have := h.width; omega)

set_option maxHeartbeats 1000000 in
theorem alike_any (a a2 : Option Addr) (cap cap2 n n2 : Nat) (l u : List (List Int)) (w : World) (hn : l.length = n) (hu : u.length = n2) (hT : TabIn l) (hTu : TabIn u) (hm : MatR w a l) (hmu : MatR w a2 u) :
    Calls Try.prog 122 #[.slice a n cap, .slice a2 n2 cap2] w fun e w' => e = .returned (.bool (alikeB l u)) ∧ w = w' := by
  have h6 := hT.2.1
  have h1 := hT.1
  have g6 := hTu.2.1
  have g1 := hTu.1
  have hw := hT.width
  have gw := hTu.width
  have E1 := width_any a cap n l w hn (by omega) (by omega) hm
  have E2 := width_any a2 cap2 n2 u w hu (by omega) (by omega) hmu
  unfold alikeB
  rw [hn, hu]
  rw [hn] at h1 h6
  rw [hu] at g1 g6
  obtain ⟨m, hmm⟩ : ∃ m, (l.getD 0 []).length = m := ⟨_, rfl⟩
  obtain ⟨m', hmm'⟩ : ∃ m, (u.getD 0 []).length = m := ⟨_, rfl⟩
  rw [hmm] at E1 hw ⊢
  rw [hmm'] at E2 gw ⊢
  have HE1 := Lib.hid E1
  have HE2 := Lib.hid E2
  clear E1 E2 hmm hmm' hm hmu hT hTu hn hu
  by_cases hne : n = n2
  · subst hne
    by_cases hw2 : m = m'
    · subst hw2
      go_enter Try.func122, Try.ntmps122
      go_wp2_with fail
      refine (HE1.out).mono ?_
      rintro e w' ⟨rfl, rfl⟩
      go_wp2_with fail
      refine (HE2.out).mono ?_
      rintro e w' ⟨rfl, rfl⟩
      go_wp2
      go_ret
      exact ⟨ret_bool (by simp), rfl⟩
    · have hb : ((m : Int) == (m' : Int)) = false := by simp; omega
      have HB : Hid ((n == n && m == m') = false) := by show _ = _; simp [hw2]
      go_enter Try.func122, Try.ntmps122
      go_wp2_with fail
      refine (HE1.out).mono ?_
      rintro e w' ⟨rfl, rfl⟩
      go_wp2_with fail
      refine (HE2.out).mono ?_
      rintro e w' ⟨rfl, rfl⟩
      go_wp2
      go_ret
      exact ⟨ret_bool (by first | exact HB.out.symm | (simp; omega) | simp [hw2]), rfl⟩
  · have hb : ((n : Int) == (n2 : Int)) = false := by simp; omega
    have HB : Hid ((n == n2 && m == m') = false) := by show _ = _; simp [hne]
    go_enter Try.func122, Try.ntmps122
    go_wp2
    go_ret
    exact ⟨ret_bool (by first | exact HB.out.symm | (simp; omega) | simp [hne]), rfl⟩

end Go.Proofs.Yteaabemnolacdaa
end

section
namespace Go.Proofs.Yteaabemnolacdaa
open Go.RowKit Go.Deep

end Go.Proofs.Yteaabemnolacdaa
end

section
namespace Go.Proofs.Yteaabemnolacdaa
open Go.RowKit Go.Deep

theorem szL_sumOk (l u : List (List Int)) (h : sumOk l u = true) : szL (sumL l u) ≤ 1048576 := by
  unfold sumOk at h
  rw [Bool.and_eq_true] at h
  exact szL_sum u (tabIn_of h.1)

end Go.Proofs.Yteaabemnolacdaa
end

section
namespace Go.Proofs.Yteaabemnolacdaa

noncomputable def sameOk (l u : List (List Int)) : Bool := tabIn l && (tabIn u && decide (l = u))

end Go.Proofs.Yteaabemnolacdaa
end

section
namespace Go.Proofs.Yteaabemnolacdaa
open Go.RowKit Go.Deep Go.Shelf

set_option maxHeartbeats 1000000 in
theorem slicesEqual_any (a b : Option Addr) (ca cb m : Nat) (x y : List Int) (w : World) (hx : x.length = m) (hy : y.length = m) (h63 : m ≤ 1048576) (ha : RowR w a x) (hb : RowR w b y) :
    Calls Try.prog 123 #[.slice a m ca, .slice b m cb] w fun e w' => e = .returned (.bool (decide (x = y))) ∧ Drawn w w' := by
  have hext : (∀ j, j < m → x.getD j 0 = y.getD j 0) → x = y := fun h => by
    refine List.ext_getElem (by omega) fun c g1 g2 => ?_
    have := h c (by omega)
    simpa [List.getD, g1, g2] using this
  have HX := Lib.hid hx
  have HY := Lib.hid hy
  have HEXT := Lib.hid hext
  clear hx hy hext
  go_enter Try.func123, Try.ntmps123
  go_wp2
  go_loopg [5, 13] m (fun g _ i wr => ∃ k : Nat, k ≤ m ∧ g = m - k ∧ i = .int .i64 k ∧ Drawn w wr ∧ ∀ j, j < k → x.getD j 0 = y.getD j 0)
  case atStart => exact ⟨0, Nat.zero_le _, rfl, rfl, Drawn.refl w, fun j hj => absurd hj (Nat.not_lt_zero _)⟩
  case round =>
    obtain ⟨k, hk, rfl, rfl, hD, hS⟩ := hrel
    have HS := Lib.hid hS
    clear hS
    by_cases hlt : k < m
    · obtain ⟨b1, o1, rfl, hc1⟩ := ha (by rw [HX.out]; omega)
      obtain ⟨b2, o2, rfl, hc2⟩ := hb (by rw [HY.out]; omega)
      have c1 := hc1 k (by rw [HX.out]; exact hlt)
      have c2 := hc2 k (by rw [HY.out]; exact hlt)
      obtain ⟨p, hp⟩ : ∃ p, x.getD k 0 = p := ⟨_, rfl⟩
      obtain ⟨q, hq⟩ : ∃ q, y.getD k 0 = q := ⟨_, rfl⟩
      rw [hp] at c1
      rw [hq] at c2
      rw [← hD.cell] at c1 c2
      have HP := Lib.hid hp
      have HQ := Lib.hid hq
      clear hp hq hc1 hc2 ha hb
      by_cases hpq : p = q
      · subst hpq
        go_wp2
        go_quiet (fail)
        go_wp2
        go_roundg (m - (k + 1))
        case measure => omega
        case rel => exact ⟨k + 1, by omega, rfl, by go_num, hD.trans (Drawn.mk _ _), fun j hj => by
          by_cases e : j = k
          · subst e; rw [HP.out, HQ.out]
          · exact HS.out j (by omega)⟩
      · have hne : (p != q) = true := by simp [hpq]
        go_wp2
        go_quiet (fail)
        go_wp2
        go_ret
        refine ⟨ret_bool (decide_eq_false fun e => ?_).symm, hD.trans (Drawn.mk _ _)⟩
        subst e
        exact hpq (by rw [← HP.out, ← HQ.out])
    · have : k = m := by omega
      subst this
      have HXY := Lib.hid (HEXT.out HS.out)
      go_wp2
      go_ret
      exact ⟨ret_bool (decide_eq_true HXY.out).symm, hD⟩

theorem rows_eq {l u : List (List Int)} {n : Nat} (hn : l.length = n) (hu : u.length = n) (h : ∀ r, r < n → l.getD r [] = u.getD r []) : l = u := by
  refine List.ext_getElem (by omega) fun c g1 g2 => ?_
  have := h c (by omega)
  simpa [List.getD, g1, g2] using this

attribute [local go_sem] Oper.semAt_some

set_option maxRecDepth 100000 in
set_option maxHeartbeats 2000000 in
theorem same_any (a a2 : Option Addr) (cap cap2 n n2 : Nat) (l u : List (List Int)) (w : World) (hn : l.length = n) (hu : u.length = n2) (hm : MatR w a l) (hmu : MatR w a2 u) (hT : TabIn l) (hTu : TabIn u) :
    Calls Try.prog 74 #[.slice a n cap, .slice a2 n2 cap2] w fun e w' => e = .returned (.bool (decide (l = u))) ∧ w.Since w.heap.size w' := by
  have h6 := hT.2.1
  have h1 := hT.1
  rw [hn] at h1 h6
  have hw := hT.width
  have E := Lib.hid (fun (W : World) (hs : Below w.heap.size w W) => alike_any a a2 cap cap2 n n2 l u W hn hu hT hTu (hm.since (below_since hs)) (hmu.since (below_since hs)))
  refine (callsIn_wide (n := 9)).1 ?_
  refine callsIn_of_wp_marks Try.func74 rfl trivial ?_ rfl
  simp only [Try.ntmps74, List.size_toArray, List.length_cons, List.length_nil, Nat.reduceAdd, Nat.reduceSub, Array.replicate_succ, Array.replicate_zero, List.push_toArray, List.append_toArray, List.nil_append, List.cons_append]
  have hB2 : Below w.heap.size w ((w.alloc (.cells #[.slice a2 n2 cap2] 53)).alloc (.cells #[.bool false] 4)) := ((Below.refl _ w).alloc (Nat.le_refl _) _).alloc (by simp) _
  have HB2 := Lib.hid hB2
  clear hB2
  cases hal : alikeB l u with
  | false =>
    rw [hal] at E
    have hno : l ≠ u := by
      rintro rfl
      unfold alikeB at hal
      simp at hal
    have HNO := Lib.hid hno
    clear hm hmu hT hTu hn hu hno hal
    gi_wp2_with (refine ⟨trivial, ?_⟩; gi_at_call 122; refine (callsIn_wide.2 (E.out _ HB2.out)).mono ?_; rintro e w' ⟨rfl, rfl⟩)
    refine ⟨.bool false, ?_, ret_bool (decide_eq_false HNO.out).symm, below_since HB2.out⟩
    simp [results, Try.f74, go_sem]
  | true =>
    rw [hal] at E
    unfold alikeB at hal
    rw [Bool.and_eq_true, beq_iff_eq, beq_iff_eq] at hal
    obtain rfl : n2 = n := by omega
    obtain ⟨m, hmm⟩ : ∃ m, (l.getD 0 []).length = m := ⟨_, rfl⟩
    have hrow : ∀ r, r < n2 → (l.getD r []).length = m := fun r hr => by rw [hT.row (by omega), hmm]
    have hrowu : ∀ r, r < n2 → (u.getD r []).length = m := fun r hr => by rw [hTu.row (by omega), ← hal.2, hmm]
    rw [hmm] at hw
    obtain ⟨b, o, A, C, ha, hc⟩ := hm (by omega)
    obtain ⟨d, q, A2, C2, ha2, hc2⟩ := hmu (by omega)
    have hbl : b < w.heap.size := World.block_lt_of_cell? _ _ (hc 0 (by omega)).1
    have hdl : d < w.heap.size := World.block_lt_of_cell? _ _ (hc2 0 (by omega)).1
    have hc1 : ∀ r, r < n2 → w.cell? ⟨b, o + r, none⟩ = some (.slice (A r) m (C r)) ∧ RowR w (A r) (l.getD r []) := fun r hr => by
      have := hc r (by omega); rw [hrow r hr] at this; exact this
    have hc3 : ∀ r, r < n2 → w.cell? ⟨d, q + r, none⟩ = some (.slice (A2 r) m (C2 r)) ∧ RowR w (A2 r) (u.getD r []) := fun r hr => by
      have := hc2 r (by omega); rw [hrowu r hr] at this; exact this
    subst ha
    subst ha2
    have HC := Lib.hid hc1
    have HC2 := Lib.hid hc3
    have HROW := Lib.hid hrow
    have HROWU := Lib.hid hrowu
    have HEQ := Lib.hid (rows_eq hn hu)
    have hpow : 2 ^ n2 - 1 ≤ 63 := by have : 2 ^ n2 ≤ 2 ^ 6 := Nat.pow_le_pow_right (by omega) h6; omega
    clear hm hmu hT hTu hn hu hal hmm hc hc2 hc1 hc3 hrow hrowu
    gi_wp2_with (first
      | (refine ⟨trivial, ?_⟩; gi_at_call 122; refine (callsIn_wide.2 (E.out _ HB2.out)).mono ?_; rintro e w' ⟨rfl, rfl⟩)
      | (refine ⟨trivial, ?_⟩; gi_at_call 119; refine (callsIn_wide.2 (allRows_any _ _ _ _ h6)).mono ?_; rintro e w' ⟨rfl, rfl⟩)
      | (refine ⟨trivial, ?_⟩; gi_at_call 118; refine (callsIn_wide.2 (rows_any _ _ _ _ _)).mono ?_; rintro e w' ⟨rfl, rfl⟩))
    obtain ⟨W0, hW0⟩ : ∃ W0, W0 = (((w.alloc (.cells #[.slice (some ⟨d, q, none⟩) n2 cap2] 53)).alloc (.cells #[.bool false] 4)).alloc (.cells #[.slice (some ⟨b, o, none⟩) n2 cap] 53)).alloc (.cells #[.int .i64 (2 ^ n2 - 1 : Nat)] 3) := ⟨_, rfl⟩
    rw [← hW0]
    have hsz0 : W0.heap.size = w.heap.size + 1 + 1 + 1 + 1 := by rw [hW0]; simp
    have hB0 : Below w.heap.size w W0 := by rw [hW0]; exact (HB2.out.alloc (by simp; omega) _).alloc (by simp; omega) _
    have c0 := cell_new_l w (.slice (some ⟨d, q, none⟩) n2 cap2) 53
    have c1 := cell_new_l (w.alloc (.cells #[.slice (some ⟨d, q, none⟩) n2 cap2] 53)) (.bool false) 4
    have c2 := cell_new_l ((w.alloc (.cells #[.slice (some ⟨d, q, none⟩) n2 cap2] 53)).alloc (.cells #[.bool false] 4)) (.slice (some ⟨b, o, none⟩) n2 cap) 53
    have c3 := cell_new_l (((w.alloc (.cells #[.slice (some ⟨d, q, none⟩) n2 cap2] 53)).alloc (.cells #[.bool false] 4)).alloc (.cells #[.slice (some ⟨b, o, none⟩) n2 cap] 53)) (.int .i64 (2 ^ n2 - 1 : Nat)) 3
    simp only [World.size_alloc] at c1 c2 c3
    have d0 : W0.cell? ⟨w.heap.size, 0, none⟩ = some (.slice (some ⟨d, q, none⟩) n2 cap2) := by rw [hW0]; exact cell_alloc_l _ (cell_alloc_l _ (cell_alloc_l _ c0.1))
    have d1 : W0.cell? ⟨w.heap.size + 1, 0, none⟩ = some (.bool false) := by rw [hW0]; exact cell_alloc_l _ (cell_alloc_l _ c1.1)
    have d1f : W0.frozen? ⟨w.heap.size + 1, 0, none⟩ = false := by rw [hW0]; exact frozen_alloc_l _ (cell_alloc_l _ c1.1) (frozen_alloc_l _ c1.1 c1.2)
    have d2 : W0.cell? ⟨w.heap.size + 1 + 1, 0, none⟩ = some (.slice (some ⟨b, o, none⟩) n2 cap) := by rw [hW0]; exact cell_alloc_l _ c2.1
    have d3 : W0.cell? ⟨w.heap.size + 1 + 1 + 1, 0, none⟩ = some (.int .i64 (2 ^ n2 - 1 : Nat)) := by rw [hW0]; exact c3.1
    clear c0 c1 c2 c3
    have hc0' : ∀ k, k < n2 → W0.cell? ⟨b, o + k, none⟩ = some (.slice (A k) m (C k)) := fun k hk => (hB0.cell (p := ⟨b, o + k, none⟩) hbl).trans (HC.out k hk).1
    have hstops := rows_stops 8 (by omega) (w.heap.size + 1 + 1) (w.heap.size + 1 + 1 + 1) b o n2 cap (2 ^ n2 - 1) W0.heap.size (by omega) hpow A (fun _ => m) C W0 (Nat.le_refl _) (by omega) (by omega) (by omega) d2 d3 hc0'
    clear hc0' d2 d3
    refine wpIn_rangeFunc_ownF (F := Fence.wide) (n := 9) rfl (by omega) (gf := 133) (lb := #[.pointer (some ⟨w.heap.size + 1 + 1, 0, none⟩), .pointer (some ⟨w.heap.size + 1 + 1 + 1, 0, none⟩)]) rfl trivial (enters_of Try.func133 (by kernel_rfl) rfl)
      hstops belowK_t (belowK_b (Nat.le_refl _)) (Below.refl _ _) (fun _ => rfl)
      (fun pre W => (W.cell? ⟨w.heap.size, 0, none⟩ = some (.slice (some ⟨d, q, none⟩) n2 cap2) ∧ W.cell? ⟨w.heap.size + 1, 0, none⟩ = some (.bool false) ∧ W.frozen? ⟨w.heap.size + 1, 0, none⟩ = false ∧ ∀ x ∈ pre, l.getD x.1 [] = u.getD x.1 []) ∧ Below w.heap.size w W)
      (fun c _ W => (c = .ret ∧ l ≠ u ∧ W.cell? ⟨w.heap.size + 1, 0, none⟩ = some (.bool false)) ∧ Below w.heap.size w W)
      (OwnFrom.and (Own.from (fun s A B row hs hg hr => ⟨cell_kept hs.1 hg hr, cell_kept hs.2.1 hg hr, (frozen_kept hs.2.1 hg hr).trans hs.2.2.1, hs.2.2.2⟩) _) (ownFrom_below (Nat.le_refl _) (by omega)))
      (fun c => OwnFrom.and (Own.from (fun s A B row hs hg hr => ⟨hs.1, hs.2.1, cell_kept hs.2.2 hg hr⟩) _) (ownFrom_below (Nat.le_refl _) (by omega)))
      ⟨⟨d0, d1, d1f, by simp⟩, hB0⟩
      (fun x => { tmps := #[.slice (some ⟨b, o, none⟩) n2 cap, .slice (some ⟨d, q, none⟩) n2 cap2, undef, .pointer (some ⟨w.heap.size, 0, none⟩), .pointer (some ⟨w.heap.size + 1, 0, none⟩), .int .i64 x.1, .slice (A x.1) m (C x.1), .slice (some ⟨b, o, none⟩) n2 cap, .slice (some ⟨d, q, none⟩) n2 cap2,
          .bool true, .bool false, .slice (some ⟨b, o, none⟩) n2 cap, .slice (some ⟨b, o, none⟩) n2 cap, .int .i64 (2 ^ n2 - 1 : Nat),
          .func (.func 133) #[] #[.pointer (some ⟨w.heap.size + 1 + 1, 0, none⟩), .pointer (some ⟨w.heap.size + 1 + 1 + 1, 0, none⟩)],
          .int .i64 x.1, .slice (A x.1) m (C x.1), undef, undef, undef, undef, undef, undef, undef], defers := [] }) ?assign ?body ?done ?stop
    case assign =>
      intro lp x W K hK
      gi_wp2
      exact hK
    case body =>
      rintro lp pre x W ⟨⟨g0, g1, g2, g3⟩, gB⟩ hlen
      obtain ⟨_, r1⟩ := HC.out x.1 x.2
      obtain ⟨e2, r2⟩ := HC2.out x.1 x.2
      rw [← gB.cell (p := ⟨d, q + x.1, none⟩) hdl] at e2
      have hx2 := x.2
      obtain ⟨X, hX⟩ : ∃ X, l.getD x.1 [] = X := ⟨_, rfl⟩
      obtain ⟨Y, hY⟩ : ∃ Y, u.getD x.1 [] = Y := ⟨_, rfl⟩
      have hXm := HROW.out x.1 x.2
      have hYm := HROWU.out x.1 x.2
      rw [hX] at r1 hXm
      rw [hY] at r2 hYm
      have E5 := slicesEqual_any (A x.1) (A2 x.1) (C x.1) (C2 x.1) m X Y W hXm hYm (by omega) (r1.since (below_since gB)) (r2.since (below_since gB))
      have HX := Lib.hid hX
      have HY := Lib.hid hY
      obtain ⟨bb, hbb⟩ : ∃ bb, decide (X = Y) = bb := ⟨_, rfl⟩
      rw [hbb] at E5
      have HBB := Lib.hid hbb
      replace E5 := Lib.hid E5
      clear hX hY hXm hYm r1 r2 hbb
      cases bb with
      | true =>
        gi_wp2_with (refine ⟨trivial, ?_⟩; gi_at_call 123; refine (CallsIn.inRound lp (callsIn_wide.2 E5.out)).mono ?_; rintro e w' ⟨rfl, qq, rfl⟩)
        have hxy : X = Y := of_decide_eq_true HBB.out
        refine ⟨⟨Nat.le_refl _, fun _ _ h _ => h⟩, ⟨rfl, rfl, rfl, Nat.le_refl _, fun _ _ => rfl⟩, ⟨g0, g1, g2, fun y hy => ?_⟩, ⟨gB.os, gB.tape, gB.output, gB.size, gB.block⟩⟩
        rcases List.mem_append.1 hy with hy | hy
        · exact g3 y hy
        · simp at hy
          subst hy
          rw [HX.out, HY.out]; exact hxy
      | false =>
        gi_wp2_with (refine ⟨trivial, ?_⟩; gi_at_call 123; refine (CallsIn.inRound lp (callsIn_wide.2 E5.out)).mono ?_; rintro e w' ⟨rfl, qq, rfl⟩)
        have hxy : X ≠ Y := of_decide_eq_false HBB.out
        have gB' : Below w.heap.size w (W.drewN qq) := ⟨gB.os, gB.tape, gB.output, gB.size, gB.block⟩
        have g1' : (W.drewN qq).cell? ⟨w.heap.size + 1, 0, none⟩ = some (.bool false) := g1
        have hk0 : KeepsOthers W (W.drewN qq) := ⟨Nat.le_refl _, fun _ _ h _ => h⟩
        exact ⟨hk0.trans (KeepsOthers.setCell _ _ _), ⟨rfl, fun e => hxy (by rw [← HX.out, ← HY.out, e]), World.cell?_setCell_same' _ _ _ (by rw [g1']; rfl)⟩, gB'.setCell (p := ⟨w.heap.size + 1, 0, none⟩) (by simp) _⟩
    case done =>
      rintro D ys W hD rfl ⟨⟨g0, g1, g2, g3⟩, gB⟩ hK
      have hlu : l = u := HEQ.out fun r hr => g3 ⟨r, hr⟩ (sel_mem (2 ^ n2 - 1) n2 hr (Nat.le_refl _) (by rw [Nat.testBit_two_pow_sub_one]; simpa using hr))
      have HLU := Lib.hid hlu
      clear hlu
      gi_wp2
      have hK' := (KeepsOthers.setCell W ⟨w.heap.size + 1, 0, none⟩ (.bool true)).same D _ hK rfl
      refine ⟨by simp, .inl ⟨_, _, rfl, run_takeDeferred hK', ?_⟩⟩
      have hc5 := cell_kept (World.cell?_setCell_same' W ⟨w.heap.size + 1, 0, none⟩ (.bool true) (by rw [g1]; rfl)) (grownBy_putObj' _ D (.deferred none)) (fun r e => by cases e; exact ⟨_, hK', rfl⟩)
      refine ⟨.bool true, ?_, ret_bool (decide_eq_true HLU.out).symm, below_since ((gB.setCell (p := ⟨w.heap.size + 1, 0, none⟩) (by simp) _).trans (belowK_b (w := w) (Nat.le_refl _) _ D _ _ (by omega) hK' rfl rfl))⟩
      simp [results, Try.f74, go_sem, hc5]
    case stop =>
      rintro D c pre W hD hpre ⟨⟨rfl, hnot, hcr⟩, gB⟩ hK
      have HNOT := Lib.hid hnot
      clear hnot
      gi_wp2
      refine ⟨by simp, .inl ⟨_, _, rfl, run_takeDeferred hK, ?_⟩⟩
      have hc5 := cell_kept hcr (grownBy_putObj' _ D (.deferred none)) (fun r e => by cases e; exact ⟨_, hK, rfl⟩)
      refine ⟨.bool false, ?_, ret_bool (decide_eq_false HNOT.out).symm, below_since (gB.trans (belowK_b (w := w) (Nat.le_refl _) W D _ _ (by omega) hK rfl rfl))⟩
      simp [results, Try.f74, go_sem, hc5]

set_option maxHeartbeats 1000000 in
theorem implTableSame_any (a a2 : Option Addr) (cap cap2 n n2 : Nat) (l u : List (List Int)) (w : World) (hn : l.length = n) (hu : u.length = n2) (hsz : szL l ≤ 1048576) (hszu : szL u ≤ 1048576) (hm : MatR w a l) (hmu : MatR w a2 u) :
    Calls Try.prog 23 #[.slice a n cap, .slice a2 n2 cap2] w fun e w' => e = .returned (.bool (sameOk l u)) ∧ w.Since w.heap.size w' := by
  have E := Lib.hid (implTableIn_any a cap n l w hn hsz hm)
  have E2 := Lib.hid (fun (W : World) (hs : w.Since w.heap.size W) => implTableIn_any a2 cap2 n2 u W hu hszu (hmu.since hs))
  cases hT : tabIn l with
  | false =>
    have hok : sameOk l u = false := by unfold sameOk; rw [hT]; rfl
    rw [hT] at E
    rw [hok]
    clear hT hsz hm hn hok E2 hszu hmu hu
    go_enter Try.func23, Try.ntmps23
    go_wp2_with fail
    refine (E.out).mono ?_
    rintro e w1 ⟨rfl, hs⟩
    go_wp2
    go_ret
    exact ⟨rfl, hs⟩
  | true =>
    have hTT := tabIn_of hT
    rw [hT] at E
    cases hTu : tabIn u with
    | false =>
      have hok : sameOk l u = false := by unfold sameOk; rw [hT, hTu]; rfl
      rw [hTu] at E2
      rw [hok]
      clear hT hsz hm hn hok hTT hTu hszu hmu hu
      go_enter Try.func23, Try.ntmps23
      go_wp2_with fail
      refine (E.out).mono ?_
      rintro e w1 ⟨rfl, hs⟩
      go_wp2_with fail
      refine (E2.out w1 hs).mono ?_
      rintro e w2 ⟨rfl, hs2⟩
      go_wp2
      go_ret
      exact ⟨rfl, hs.trans (since_mono hs2 hs.size)⟩
    | true =>
      have hTTu := tabIn_of hTu
      rw [hTu] at E2
      have hok : sameOk l u = decide (l = u) := by unfold sameOk; rw [hT, hTu]; rfl
      rw [hok]
      have E3 := Lib.hid (fun (W : World) (hs : w.Since w.heap.size W) => same_any a a2 cap cap2 n n2 l u W hn hu (hm.since hs) (hmu.since hs) hTT hTTu)
      obtain ⟨bb, hb⟩ : ∃ bb, decide (l = u) = bb := ⟨_, rfl⟩
      rw [hb] at E3 ⊢
      clear hT hsz hm hn hok hTT hTu hszu hmu hu hTTu hb
      go_enter Try.func23, Try.ntmps23
      go_wp2_with fail
      refine (E.out).mono ?_
      rintro e w1 ⟨rfl, hs⟩
      go_wp2_with fail
      refine (E2.out w1 hs).mono ?_
      rintro e w2 ⟨rfl, hs2⟩
      have hs12 := hs.trans (since_mono hs2 hs.size)
      go_wp2_with fail
      refine (E3.out w2 hs12).mono ?_
      rintro e w3 ⟨rfl, hs3⟩
      go_wp2
      go_ret
      exact ⟨rfl, hs12.trans (since_mono hs3 hs12.size)⟩

end Go.Proofs.Yteaabemnolacdaa
end

section
namespace Go.Proofs.Yteaabemnolacdaa
open Go.RowKit Go.Deep

theorem same_ext {l u : List (List Int)} {n m : Nat} (hn : l.length = n) (hu : u.length = n) (hl : ∀ r, r < n → (l.getD r []).length = m) (hul : ∀ r, r < n → (u.getD r []).length = m) (h : ∀ r c, r < n → c < m → at2 l r c = at2 u r c) : l = u := by
  refine List.ext_getElem (by omega) fun r h1 h2 => ?_
  have e1 : l.getD r [] = l[r] := by simp [List.getD, h1]
  have e2 : u.getD r [] = u[r] := by simp [List.getD, h2]
  have l1 := hl r (by omega)
  have l2 := hul r (by omega)
  rw [e1] at l1
  rw [e2] at l2
  refine List.ext_getElem (by omega) fun c g1 g2 => ?_
  have := h r c (by omega) (by omega)
  unfold at2 at this
  rw [e1, e2] at this
  simpa [List.getD, g1, g2] using this

def SameTo (l u : List (List Int)) (m r c : Nat) : Prop := (∀ i j, i < r → j < m → at2 l i j = at2 u i j) ∧ ∀ j, j < c → at2 l r j = at2 u r j
theorem SameTo.next {l u : List (List Int)} {m r : Nat} (h : SameTo l u m r m) : SameTo l u m (r + 1) 0 :=
  ⟨fun i j hi hj => by
    by_cases e : i = r
    · subst e; exact h.2 j hj
    · exact h.1 i j (by omega) hj, fun j hj => absurd hj (Nat.not_lt_zero _)⟩
theorem SameTo.step {l u : List (List Int)} {m r c : Nat} (h : SameTo l u m r c) (e : at2 l r c = at2 u r c) : SameTo l u m r (c + 1) :=
  ⟨h.1, fun j hj => by
    by_cases e' : j = c
    · subst e'; exact e
    · exact h.2 j (by omega)⟩

set_option maxRecDepth 100000 in
set_option maxHeartbeats 2000000 in
theorem l1Same_any (a a2 : Option Addr) (cap cap2 n n2 : Nat) (l u : List (List Int)) (w : World) (hn : l.length = n) (hu : u.length = n2) (hm : MatR w a l) (hmu : MatR w a2 u) (hT : TabIn l) (hTu : TabIn u) :
    Calls Try.prog 76 #[.slice a n cap, .slice a2 n2 cap2] w fun e w' => e = .returned (.bool (decide (l = u))) ∧ Drawn w w' := by
  have h6 := hT.2.1
  have h1 := hT.1
  have g6 := hTu.2.1
  have hw := hT.width
  have gw := hTu.width
  rw [hn] at h1 h6
  rw [hu] at g6
  by_cases hne : n = n2
  · subst hne
    obtain ⟨m, hmm⟩ : ∃ m, (l.getD 0 []).length = m := ⟨_, rfl⟩
    obtain ⟨m', hmm'⟩ : ∃ m, (u.getD 0 []).length = m := ⟨_, rfl⟩
    have hrow : ∀ r, r < n → (l.getD r []).length = m := fun r hr => by rw [hT.row (by omega), hmm]
    have hrowu : ∀ r, r < n → (u.getD r []).length = m' := fun r hr => by rw [hTu.row (by omega), hmm']
    obtain ⟨bt, ot, At, Ct, rfl, hlen, hcell⟩ := hm.grid hn hT hmm
    obtain ⟨bu, ou, Au, Cu, rfl, hlenu, hcellu⟩ := hmu.grid hu hTu hmm'
    rw [hmm] at hw
    rw [hmm'] at gw
    have HC := Lib.hid hcell
    have HCU := Lib.hid hcellu
    have HL := Lib.hid hlen
    have HLU := Lib.hid hlenu
    by_cases hmm2 : m = m'
    · subst hmm2
      have hext := same_ext hn hu hrow hrowu
      have HEXT := Lib.hid hext
      clear hm hmu hT hTu hcell hcellu hlen hlenu hmm hmm' hext hrow hrowu hn hu
      go_enter Try.func76, Try.ntmps76
      go_wp2
      go_loopg [5, 6] n (fun g i _ wr => ∃ r : Nat, r ≤ n ∧ g = n - r ∧ i = .int .i64 r ∧ Drawn w wr ∧ SameTo l u m r 0)
      case atStart => exact ⟨0, Nat.zero_le _, rfl, rfl, Drawn.refl w, fun i j hi => absurd hi (Nat.not_lt_zero _), fun j hj => absurd hj (Nat.not_lt_zero _)⟩
      case round =>
        obtain ⟨r, hr, rfl, rfl, hD, hSm⟩ := hrel
        obtain ⟨wo, rfl⟩ : ∃ wo : World, wo = wr := ⟨_, rfl⟩
        by_cases hlt : r < n
        · have e1 := HL.out r hlt
          have e2 := HLU.out r hlt
          rw [← hD.cell] at e1 e2
          have HSm := Lib.hid hSm
          clear hSm
          go_wp2
          go_quiet (fail)
          go_wp2
          go_loopg [6] m (fun g j wi => ∃ c : Nat, c ≤ m ∧ g = m - c ∧ j = .int .i64 c ∧ Drawn wo wi ∧ SameTo l u m r c)
          case atStart => exact ⟨0, Nat.zero_le _, rfl, rfl, Drawn.mk _ _, HSm.out⟩
          case round =>
            obtain ⟨c, hc, rfl, rfl, hDi, hSi⟩ := hrel
            clear HSm
            rw [← hDi.cell] at e1 e2
            by_cases hcm : c < m
            · clear e1 e2
              obtain ⟨b', o', e1, e2, _, _⟩ := HC.out r c hlt hcm
              obtain ⟨d', q', g1, g2, _, _⟩ := HCU.out r c hlt hcm
              rw [← hD.cell, ← hDi.cell] at e1 e2 g1 g2
              obtain ⟨y, hy⟩ : ∃ y, at2 l r c = y := ⟨_, rfl⟩
              obtain ⟨z, hz⟩ : ∃ z, at2 u r c = z := ⟨_, rfl⟩
              rw [hy] at e2
              rw [hz] at g2
              have HY := Lib.hid hy
              have HZ := Lib.hid hz
              have HSi := Lib.hid hSi
              clear hy hz hSi
              by_cases hyz : y = z
              · subst hyz
                go_wp2
                go_quiet (fail)
                go_wp2
                go_roundg (m - (c + 1))
                case measure => omega
                case rel => exact ⟨c + 1, by omega, rfl, by go_num, hDi.trans (Drawn.mk _ _), HSi.out.step (by rw [HY.out, HZ.out])⟩
              · have hb : (y != z) = true := by simp [hyz]
                go_wp2
                go_quiet (fail)
                go_wp2
                go_ret
                refine ⟨ret_bool (decide_eq_false fun e => ?_).symm, (hD.trans hDi).trans (Drawn.mk _ _)⟩
                subst e
                exact hyz (by rw [← HY.out, ← HZ.out])
            · have : c = m := by omega
              subst this
              have HSn := Lib.hid hSi.next
              clear hSi
              go_wp2
              go_roundg (n - (r + 1))
              case measure => omega
              case rel => exact ⟨r + 1, by omega, rfl, by go_num, hD.trans hDi, HSn.out⟩
        · have : r = n := by omega
          subst this
          have hlu : l = u := HEXT.out fun i j hi hj => hSm.1 i j hi hj
          have HLUu := Lib.hid hlu
          clear hlu hSm
          go_wp2
          go_ret
          exact ⟨ret_bool (decide_eq_true HLUu.out).symm, hD⟩
    · have hb : ((m : Int) != (m' : Int)) = true := by simp; omega
      have hno : l ≠ u := by
        rintro rfl
        exact hmm2 (hmm.symm.trans hmm')
      have HNO := Lib.hid hno
      have e1 := HL.out 0 (by omega)
      have e2 := HLU.out 0 (by omega)
      rw [Nat.add_zero] at e1 e2
      clear hm hmu hT hTu hcell hcellu hlen hlenu hmm hmm' hrow hrowu hn hu hno
      go_enter Try.func76, Try.ntmps76
      go_wp2
      go_loopg [5, 6] 0 (fun g i _ wr => i = .int .i64 0 ∧ wr = w)
      case atStart => exact ⟨rfl, rfl⟩
      case round =>
        obtain ⟨rfl, rfl⟩ := hrel
        go_wp2
        go_quiet (fail)
        go_wp2
        go_ret
        exact ⟨ret_bool (decide_eq_false HNO.out).symm, Drawn.mk _ _⟩
  · have hb : ((n : Int) != (n2 : Int)) = true := by simp; omega
    have hno : l ≠ u := by
      rintro rfl
      exact hne (hn.symm.trans hu)
    have HNO := Lib.hid hno
    clear hm hmu hT hTu hn hu hno
    go_enter Try.func76, Try.ntmps76
    go_wp2
    go_ret
    exact ⟨ret_bool (decide_eq_false HNO.out).symm, Drawn.refl _⟩

set_option maxHeartbeats 1000000 in
theorem specTableSame_any (a a2 : Option Addr) (cap cap2 n n2 : Nat) (l u : List (List Int)) (w : World) (hn : l.length = n) (hu : u.length = n2) (hsz : szL l ≤ 1048576) (hszu : szL u ≤ 1048576) (hm : MatR w a l) (hmu : MatR w a2 u) :
    Calls Try.prog 24 #[.slice a n cap, .slice a2 n2 cap2] w fun e w' => e = .returned (.bool (sameOk l u)) ∧ w.Since w.heap.size w' := by
  have E := Lib.hid (specTableIn_any a cap n l w hn hsz hm)
  have E2 := Lib.hid (fun (W : World) (hs : Drawn w W) => specTableIn_any a2 cap2 n2 u W hu hszu (hmu.drawn hs))
  cases hT : tabIn l with
  | false =>
    have hok : sameOk l u = false := by unfold sameOk; rw [hT]; rfl
    rw [hT] at E
    rw [hok]
    clear hT hsz hm hn hok E2 hszu hmu hu
    go_enter Try.func24, Try.ntmps24
    go_wp2_with fail
    refine (E.out).mono ?_
    rintro e w1 ⟨rfl, hd⟩
    go_wp2
    go_ret
    exact ⟨rfl, hd.since _⟩
  | true =>
    have hTT := tabIn_of hT
    rw [hT] at E
    cases hTu : tabIn u with
    | false =>
      have hok : sameOk l u = false := by unfold sameOk; rw [hT, hTu]; rfl
      rw [hTu] at E2
      rw [hok]
      clear hT hsz hm hn hok hTT hTu hszu hmu hu
      go_enter Try.func24, Try.ntmps24
      go_wp2_with fail
      refine (E.out).mono ?_
      rintro e w1 ⟨rfl, hd⟩
      go_wp2_with fail
      refine (E2.out w1 hd).mono ?_
      rintro e w2 ⟨rfl, hd2⟩
      go_wp2
      go_ret
      exact ⟨rfl, (hd.trans hd2).since _⟩
    | true =>
      have hTTu := tabIn_of hTu
      rw [hTu] at E2
      have hok : sameOk l u = decide (l = u) := by unfold sameOk; rw [hT, hTu]; rfl
      rw [hok]
      have E3 := Lib.hid (fun (W : World) (hs : Drawn w W) => l1Same_any a a2 cap cap2 n n2 l u W hn hu (hm.drawn hs) (hmu.drawn hs) hTT hTTu)
      obtain ⟨b, hb⟩ : ∃ b, decide (l = u) = b := ⟨_, rfl⟩
      rw [hb] at E3 ⊢
      clear hT hsz hm hn hok hTT hTu hszu hmu hu hTTu hb
      go_enter Try.func24, Try.ntmps24
      go_wp2_with fail
      refine (E.out).mono ?_
      rintro e w1 ⟨rfl, hd⟩
      go_wp2_with fail
      refine (E2.out w1 hd).mono ?_
      rintro e w2 ⟨rfl, hd2⟩
      have hd12 := hd.trans hd2
      go_wp2_with fail
      refine (E3.out w2 hd12).mono ?_
      rintro e w3 ⟨rfl, hd3⟩
      go_wp2
      go_ret
      exact ⟨rfl, (hd12.trans hd3).since _⟩

end Go.Proofs.Yteaabemnolacdaa
end

section
namespace Go.Proofs.Yteaabemnolacdaa
open Go.RowKit Go.Deep

def nzM (l : List (List Int)) (r c : Nat) : Prop := popcS r = popcS c ∧ ordF (partL l r c) (popcS r) (popcS r) 0 ≠ 0
theorem stepR_ge (l : List (List Int)) (r c b : Nat) : b ≤ stepR l r c b := by
  unfold stepR
  split
  · omega
  · omega
theorem stepR_yes {l : List (List Int)} {r c : Nat} (h : nzM l r c) (b : Nat) : popcS r ≤ stepR l r c b := by
  unfold stepR
  by_cases hb : b < popcS r
  · rw [if_pos ⟨h.1, hb, h.2⟩]; omega
  · have := stepR_ge l r c b
    unfold stepR at this
    omega
theorem stepR_ex (l : List (List Int)) (r c b : Nat) : stepR l r c b = b ∨ (stepR l r c b = popcS r ∧ nzM l r c) := by
  unfold stepR
  split
  · rename_i h; exact .inr ⟨rfl, h.1, h.2.2⟩
  · exact .inl rfl
theorem rkC_step (l : List (List Int)) (r b : Nat) : ∀ c, 1 ≤ c → b ≤ rkC l r b c ∧ (∀ c', 1 ≤ c' → c' < c → nzM l r c' → popcS r ≤ rkC l r b c) ∧ (rkC l r b c = b ∨ (rkC l r b c = popcS r ∧ ∃ c', c' < c ∧ nzM l r c'))
  | 0, h => by omega
  | 1, _ => by rw [rkC_one]; exact ⟨by omega, fun c' h1 h2 => by omega, .inl rfl⟩
  | c + 2, _ => by
    obtain ⟨i1, i2, i3⟩ := rkC_step l r b (c + 1) (by omega)
    rw [rkC_succ l r b (by omega)]
    have g := stepR_ge l r (c + 1) (rkC l r b (c + 1))
    refine ⟨by omega, fun c' h1 h2 hn => ?_, ?_⟩
    · by_cases e : c' = c + 1
      · subst e; exact stepR_yes hn _
      · have := i2 c' h1 (by omega) hn
        omega
    · rcases stepR_ex l r (c + 1) (rkC l r b (c + 1)) with e | ⟨e, hn⟩
      · rw [e]
        rcases i3 with e2 | ⟨e2, c', h1, h2⟩
        · exact .inl e2
        · exact .inr ⟨e2, c', by omega, h2⟩
      · exact .inr ⟨e, c + 1, by omega, hn⟩
theorem rkR_step (l : List (List Int)) (C : Nat) (hC : 1 ≤ C) : ∀ r, 1 ≤ r → (∀ r' c', 1 ≤ r' → r' < r → 1 ≤ c' → c' < C → nzM l r' c' → popcS r' ≤ rkR l C r) ∧ (rkR l C r = 0 ∨ ∃ r' c', r' < r ∧ c' < C ∧ nzM l r' c' ∧ rkR l C r = popcS r')
  | 0, h => by omega
  | 1, _ => by rw [rkR_one]; exact ⟨fun r' c' h1 h2 => by omega, .inl rfl⟩
  | r + 2, _ => by
    obtain ⟨i1, i2⟩ := rkR_step l C hC (r + 1) (by omega)
    rw [rkR_succ l C (by omega)]
    obtain ⟨j1, j2, j3⟩ := rkC_step l (r + 1) (rkR l C (r + 1)) C hC
    refine ⟨fun r' c' h1 h2 h3 h4 hn => ?_, ?_⟩
    · by_cases e : r' = r + 1
      · subst e; exact j2 c' h3 h4 hn
      · have := i1 r' c' h1 (by omega) h3 h4 hn
        omega
    · rcases j3 with e | ⟨e, c', h1, h2⟩
      · rw [e]
        rcases i2 with e2 | ⟨r', c', h1, h2, h3, h4⟩
        · exact .inl e2
        · exact .inr ⟨r', c', by omega, h2, h3, h4⟩
      · exact .inr ⟨r + 1, c', by omega, h1, h2, e⟩
theorem popc_le_n : ∀ n : Fin 7, ∀ s : Fin 64, s.val < 2 ^ n.val → popcS s.val ≤ n.val := by decide +kernel
theorem hasB_iff {l : List (List Int)} {k M1 M2 : Nat} : hasB l k M1 M2 = true ↔ ∃ r c, (r < M1 ∧ popcS r = k) ∧ (c < M2 ∧ popcS c = k) ∧ dt k (at2 (partL l r c)) ≠ 0 := by
  unfold hasB hasR
  rw [List.any_eq_true]
  constructor
  · rintro ⟨r, hr, h⟩
    obtain ⟨c, hc, h⟩ := List.any_eq_true.1 h
    exact ⟨r, c, (setsTo_mem k).1 hr, (setsTo_mem k).1 hc, by simpa using h⟩
  · rintro ⟨r, c, hr, hc, h⟩
    exact ⟨r, (setsTo_mem k).2 hr, List.any_eq_true.2 ⟨c, (setsTo_mem k).2 hc, by simpa using h⟩⟩
theorem rank_down {l : List (List Int)} {n m : Nat} (hn : n ≤ 6) (hm : m ≤ 6) :
    rkR l (2 ^ m) (2 ^ n) ≤ n ∧ rkR l (2 ^ m) (2 ^ n) ≤ m ∧ ∀ k, 1 ≤ k → (hasB l k (2 ^ n) (2 ^ m) = true → k ≤ rkR l (2 ^ m) (2 ^ n)) ∧ (hasB l k (2 ^ n) (2 ^ m) = false → rkR l (2 ^ m) (2 ^ n) ≠ k) := by
  have p1 : 2 ^ n ≤ 2 ^ 6 := Nat.pow_le_pow_right (by omega) hn
  have p2 : 2 ^ m ≤ 2 ^ 6 := Nat.pow_le_pow_right (by omega) hm
  have q1 : 1 ≤ 2 ^ n := Nat.pow_pos (by omega)
  have q2 : 1 ≤ 2 ^ m := Nat.pow_pos (by omega)
  obtain ⟨s1, s2⟩ := rkR_step l (2 ^ m) q2 (2 ^ n) q1
  have hle : rkR l (2 ^ m) (2 ^ n) ≤ n ∧ rkR l (2 ^ m) (2 ^ n) ≤ m := by
    rcases s2 with e | ⟨r, c, h1, h2, h3, h4⟩
    · omega
    · have e1 := popc_le_n ⟨n, by omega⟩ ⟨r, by omega⟩ h1
      have e2 := popc_le_n ⟨m, by omega⟩ ⟨c, by omega⟩ h2
      have := h3.1
      simp only at e1 e2
      omega
  refine ⟨hle.1, hle.2, fun k hk => ⟨fun h => ?_, fun h e => ?_⟩⟩
  · obtain ⟨r, c, ⟨r1, r2⟩, ⟨c1, c2⟩, hd⟩ := hasB_iff.1 h
    have g1 := popcS_pos ⟨r, by omega⟩ (by rw [r2]; exact hk)
    have g2 := popcS_pos ⟨c, by omega⟩ (by rw [c2]; exact hk)
    have hk6 : k ≤ 6 := by rw [← r2]; exact popcS_le r
    have := s1 r c g1 r1 g2 c1 ⟨by omega, by rw [r2, ordF_all _ hk6]; exact hd⟩
    omega
  · rcases s2 with e2 | ⟨r, c, h1, h2, h3, h4⟩
    · omega
    · have hk6 : k ≤ 6 := by rw [← e, h4]; exact popcS_le r
      have hr : popcS r = k := by omega
      have : hasB l k (2 ^ n) (2 ^ m) = true := hasB_iff.2 ⟨r, c, ⟨h1, hr⟩, ⟨h2, by rw [← h3.1]; exact hr⟩, by
        have := h3.2
        rw [hr, ordF_all _ hk6] at this
        exact this⟩
      rw [h] at this
      cases this

end Go.Proofs.Yteaabemnolacdaa
end

section
namespace Go.Proofs.Yteaabemnolacdaa
open Go.RowKit Go.Deep

set_option maxRecDepth 100000 in
set_option maxHeartbeats 2000000 in
theorem rank_any (a : Option Addr) (cap n m : Nat) (l : List (List Int)) (w : World) (hn : l.length = n) (hT : TabIn l) (hmm : (l.getD 0 []).length = m) (hm : MatR w a l) :
    Calls Try.prog 77 #[.slice a n cap] w fun e w' => e = .returned (.int .i64 (rkR l (2 ^ m) (2 ^ n) : Nat)) ∧ w.Since w.heap.size w' := by
  have h6 := hT.2.1
  have h1 := hT.1
  have hw := hT.width
  rw [hn] at h6 h1
  rw [hmm] at hw
  obtain ⟨r1, r2, r3⟩ := rank_down (l := l) h6 hw.2
  obtain ⟨b, hb⟩ : ∃ b, rkR l (2 ^ m) (2 ^ n) = b := ⟨_, rfl⟩
  rw [hb] at r1 r2 r3 ⊢
  have EW := width_any a cap n l w hn (by omega) (by omega) hm
  rw [hmm] at EW
  have EH := Lib.hid (fun (k : Nat) (W : World) (h : w.Since w.heap.size W) => hasMinor_any a cap n m k l W hn hmm hT (hm.since h))
  replace EW := Lib.hid EW
  have R3 := Lib.hid r3
  clear r3 hn hmm hm hT hb
  go_enter Try.func77, Try.ntmps77
  go_wp2_with fail
  refine (EW.out).mono ?_
  rintro e w1 ⟨rfl, rfl⟩
  go_wp2
  all_goals
    go_loopg [3] 6 (fun g v wr => ∃ c : Nat, b ≤ c ∧ c ≤ 6 ∧ c ≤ g ∧ v = .int .i64 c ∧ w.Since w.heap.size wr)
    case atStart => first | exact ⟨n, r1, h6, h6, rfl, World.Since.refl _ _⟩ | exact ⟨m, r2, hw.2, hw.2, rfl, World.Since.refl _ _⟩
    case round =>
      obtain ⟨c, hbc, hc6, hcg, rfl, hS⟩ := hrel
      by_cases hc0 : c = 0
      · have hb0 : b = 0 := by omega
        subst hc0 hb0
        have HS := Lib.hid hS
        clear hS
        go_wp2
        go_ret
        exact ⟨rfl, HS.out⟩
      · have hc1 : decide ((0 : Int) < (c : Int)) = true := by simp; omega
        have E := EH.out c wr hS
        obtain ⟨q1, q2⟩ := R3.out c (by omega)
        obtain ⟨h, hh⟩ : ∃ h, hasB l c (2 ^ n) (2 ^ m) = h := ⟨_, rfl⟩
        rw [hh] at E q1 q2
        replace E := Lib.hid E
        have HS := Lib.hid hS
        clear hS hh
        go_wp2_with fail
        refine (E.out).mono ?_
        rintro e w2 ⟨rfl, hs2⟩
        have HS2 := Lib.hid (HS.out.trans (since_mono hs2 HS.out.size))
        clear hs2
        cases h with
        | true =>
          have hcb : c = b := by have := q1 rfl; omega
          subst hcb
          go_wp2
          go_ret
          exact ⟨rfl, HS2.out⟩
        | false =>
          have hcb := q2 rfl
          go_wp2
          go_roundg (gk - 1)
          case measure => omega
          case rel => exact ⟨c - 1, by omega, by omega, by omega, by go_num, HS2.out⟩

set_option maxHeartbeats 1000000 in
theorem implValueRank_any (a : Option Addr) (cap n : Nat) (l : List (List Int)) (w : World) (hn : l.length = n) (hsz : szL l ≤ 1048576) (hm : MatR w a l) :
    Calls Try.prog 25 #[.slice a n cap] w (SpecW w (tabIn l) (rkR l (2 ^ (l.getD 0 []).length) (2 ^ n) : Nat)) := by
  have E := implTableIn_any a cap n l w hn hsz hm
  cases hT : tabIn l with
  | false =>
    rw [hT] at E
    replace E := Lib.hid E
    clear hT hm hn hsz
    go_enter Try.func25, Try.ntmps25
    go_wp2_with fail
    refine (E.out).mono ?_
    rintro e w1 ⟨rfl, hd⟩
    have HD := Lib.hid hd
    clear hd
    go_wp2
    go_ret2
    exact ⟨rfl, HD.out⟩
  | true =>
    rw [hT] at E
    replace E := Lib.hid E
    have E2 := Lib.hid (fun (W : World) (hd : w.Since w.heap.size W) => rank_any a cap n _ l W hn (tabIn_of hT) rfl (hm.since hd))
    clear hT hm hn hsz
    go_enter Try.func25, Try.ntmps25
    go_wp2_with fail
    refine (E.out).mono ?_
    rintro e w1 ⟨rfl, hd⟩
    have HD := Lib.hid hd
    clear hd
    go_wp2_with fail
    refine (E2.out w1 HD.out).mono ?_
    rintro e w2 ⟨rfl, hs2⟩
    have HS2 := Lib.hid (HD.out.trans (since_mono hs2 HD.out.size))
    clear hs2
    go_wp2
    go_ret2
    exact ⟨rfl, HS2.out⟩

end Go.Proofs.Yteaabemnolacdaa
end

section
namespace Go.Proofs.Yteaabemnolacdaa
open Go.RowKit Go.Deep

set_option maxHeartbeats 1000000 in
theorem sameInts_same (a b : Option Addr) (ca cb n : Nat) (l : List Int) (w : World) (hn : l.length = n) (h63 : n ≤ 9223372036854775807) (ha : RowR w a l) (hb : RowR w b l) :
    Calls Try.prog 67 #[.slice a n ca, .slice b n cb] w fun e w' => e = .returned (.bool true) ∧ Drawn w w' := by
  have H := Lib.hid hn; clear hn
  go_enter Try.func67, Try.ntmps67
  go_wp2
  go_loopg [5] n (fun g i wr => ∃ k : Nat, k ≤ n ∧ g = n - k ∧ i = .int .i64 k ∧ Drawn w wr)
  case atStart => exact ⟨0, Nat.zero_le _, rfl, rfl, Drawn.refl w⟩
  case round =>
    obtain ⟨k, hk, rfl, rfl, hD⟩ := hrel
    by_cases hlt : k < n
    · obtain ⟨b1, o1, rfl, hc1⟩ := ha (by rw [H.out]; omega)
      obtain ⟨b2, o2, rfl, hc2⟩ := hb (by rw [H.out]; omega)
      have c1 := hc1 k (by rw [H.out]; exact hlt)
      have c2 := hc2 k (by rw [H.out]; exact hlt)
      obtain ⟨x, hx⟩ : ∃ x, x = l.getD k 0 := ⟨_, rfl⟩
      rw [← hx] at c1 c2
      rw [← hD.cell] at c1 c2
      clear hx hc1 hc2 ha hb
      go_wp2
      go_quiet (fail)
      go_wp2
      go_roundg (n - (k + 1))
      case measure => omega
      case rel => exact ⟨k + 1, by omega, rfl, by go_num, hD.trans (Drawn.mk _ _)⟩
    · go_wp2
      go_ret
      exact ⟨rfl, hD⟩

set_option maxHeartbeats 1000000 in
theorem sameRows_same (a b : Option Addr) (ca cb n : Nat) (l : List (List Int)) (w : World) (hn : l.length = n) (h63 : n ≤ 9223372036854775807) (hl : ∀ r, r < l.length → (l.getD r []).length ≤ 9223372036854775807)
    (ha : MatR w a l) (hb : MatR w b l) :
    Calls Try.prog 19 #[.slice a n ca, .slice b n cb] w fun e w' => e = .returned (.bool true) ∧ Drawn w w' := by
  have H := Lib.hid hn; clear hn
  go_enter Try.func19, Try.ntmps19
  go_wp2
  go_loopg [5] n (fun g i wr => ∃ k : Nat, k ≤ n ∧ g = n - k ∧ i = .int .i64 k ∧ Drawn w wr)
  case atStart => exact ⟨0, Nat.zero_le _, rfl, rfl, Drawn.refl w⟩
  case round =>
    obtain ⟨k, hk, rfl, rfl, hD⟩ := hrel
    by_cases hlt : k < n
    · obtain ⟨b1, o1, A1, C1, rfl, hc1⟩ := ha (by rw [H.out]; omega)
      obtain ⟨b2, o2, A2, C2, rfl, hc2⟩ := hb (by rw [H.out]; omega)
      obtain ⟨c1, r1⟩ := hc1 k (by rw [H.out]; exact hlt)
      obtain ⟨c2, r2⟩ := hc2 k (by rw [H.out]; exact hlt)
      have hlk := hl k (by rw [H.out]; exact hlt)
      obtain ⟨x, hx⟩ : ∃ x, x = l.getD k [] := ⟨_, rfl⟩
      rw [← hx] at c1 c2 r1 r2 hlk
      obtain ⟨m, hm⟩ : ∃ m, x.length = m := ⟨_, rfl⟩
      rw [hm] at c1 c2 hlk
      have HM := Lib.hid hm
      clear hx hc1 hc2 ha hb hl hm
      have r1 := r1.drawn hD
      have r2 := r2.drawn hD
      rw [← hD.cell] at c1 c2
      have e1 := fun (p : Nat) => sameInts_same (A1 k) (A2 k) (C1 k) (C2 k) m x (wr.drewN p) HM.out hlk r1 r2
      have E1 := Lib.hid e1; clear e1 r1 r2
      go_wp2
      go_quiet ((go_at_call 67; exact Calls.quiet_of (E1.out _)))
      go_wp2
      go_roundg (n - (k + 1))
      case measure => omega
      case rel => exact ⟨k + 1, by omega, rfl, by go_num, hD.trans (Drawn.mk _ _)⟩
    · go_wp2
      go_ret
      exact ⟨rfl, hD⟩

end Go.Proofs.Yteaabemnolacdaa
end

section
namespace Go.Proofs.Yteaabemnolacdaa
open Go.RowKit Go.Deep

theorem szL_of {l : List (List Int)} {n k : Nat} (h1 : l.length ≤ n) (h2 : ∀ j, j < l.length → (l.getD j []).length ≤ k) (hnk : n * k + n ≤ 1048576) : szL l ≤ 1048576 := by
  have h3 := sumTo_le_mul l k h2 l.length (Nat.le_refl _)
  have h4 : l.length * k ≤ n * k := Nat.mul_le_mul_right _ h1
  have h5 : k * l.length = l.length * k := Nat.mul_comm _ _
  unfold szL
  omega
theorem rows_le {l : List (List Int)} (h : szL l ≤ 1048576) : ∀ r, r < l.length → (l.getD r []).length ≤ 9223372036854775807 := fun r hr => by
  have := row_le l hr
  unfold szL at h
  omega

theorem tab_self {l : List (List Int)} {n m : Nat} (hn : l.length = n) (hm : ∀ r, r < n → (l.getD r []).length = m) : tabF n m (at2 l) = l := by
  refine List.ext_getElem (by rw [tabF_length, hn]) fun r h1 h2 => ?_
  have hr : r < n := by rw [tabF_length] at h1; exact h1
  have e1 : (tabF n m (at2 l))[r] = (tabF n m (at2 l)).getD r [] := by simp [List.getD, h1]
  have e2 : l[r] = l.getD r [] := by simp [List.getD, h2]
  rw [e1, e2, tabF_get _ _ _ _ hr]
  refine List.ext_getElem (by rw [List.length_map, List.length_range, hm r hr]) fun k h3 h4 => ?_
  rw [List.getElem_map, List.getElem_range]
  unfold at2
  obtain ⟨x, hx⟩ : ∃ x, x = l.getD r [] := ⟨_, rfl⟩
  subst hx
  generalize l.getD r [] = x at *
  simp [List.getD, h4]

theorem turnL_turnL {l : List (List Int)} (hT : TabIn l) : turnL (turnL l) = l := by
  have h1 := hT.1
  have hw := hT.width
  have e0 : ((turnL l).getD 0 []).length = l.length := tabF_len _ _ _ _ hw.1
  have e1 : turnL (turnL l) = tabF l.length (l.getD 0 []).length fun k i => at2 (turnL l) i k := by
    show tabF ((turnL l).getD 0 []).length (turnL l).length _ = _
    rw [e0, turnL_length]
  rw [e1]
  have e2 : tabF l.length (l.getD 0 []).length (fun k i => at2 (turnL l) i k) = tabF l.length (l.getD 0 []).length (at2 l) := by
    unfold tabF
    refine List.map_congr_left fun r hr => List.map_congr_left fun k hk => ?_
    exact tabF_at _ _ _ _ _ (List.mem_range.1 hk) (List.mem_range.1 hr)
  rw [e2]
  exact tab_self rfl (fun r hr => hT.row hr)

end Go.Proofs.Yteaabemnolacdaa
end

section
namespace Go.Proofs.Yteaabemnolacdaa
open Go.RowKit Go.Deep

set_option maxRecDepth 100000 in
set_option maxHeartbeats 4000000 in
theorem fnSame (a : Option Addr) (cap n : Nat) (w : World) (hc : n ≤ cap) (h63 : cap ≤ 9223372036854775807) (hb : BytR w a n) :
    Calls Try.prog 4 #[.slice a n cap] w fun e w' => e = .returned (.bool true) ∧ w.Since w.heap.size w' := by
  by_cases hlen : 1048576 < n
  · have hl' : decide ((1048576 : Int) < (n : Int)) = true := by simp; omega
    clear hb
    go_enter Try.func4, Try.ntmps4
    go_wp2
    go_ret
    exact ⟨rfl, World.Since.refl _ _⟩
  · have hl' : decide ((1048576 : Int) < (n : Int)) = false := by simp; omega
    have ED := Lib.hid (drawSame_any a n cap w hc h63 hb)
    clear hb
    go_enter Try.func4, Try.ntmps4
    go_wp2_with fail
    refine (ED.out).mono ?_
    rintro e w1 ⟨a1, c1, l, a6, c6, u, rfl, hs1, ⟨h1, h5, hlens, hit⟩, g4, glens, git⟩
    have hsz : szL l ≤ 1048576 := szL_of h5 (fun j hj => (hlens j hj).2) (by decide)
    have hszu : szL u ≤ 1048576 := szL_of g4 glens (by decide)
    obtain ⟨nn, hn⟩ : ∃ nn, l.length = nn := ⟨_, rfl⟩
    obtain ⟨nu, hu⟩ : ∃ nu, u.length = nu := ⟨_, rfl⟩
    rw [hn, hu]
    have HM := Lib.hid (fun (W : World) (h : w1.Since w1.heap.size W) => hit.matR.since h)
    have HMU := Lib.hid (fun (W : World) (h : w1.Since w1.heap.size W) => MatR.since git h)
    have HS1 := Lib.hid hs1
    obtain ⟨ok, hok⟩ : ∃ ok, sameOk l u = ok := ⟨_, rfl⟩
    have E1 := implTableSame_any a1 a6 c1 c6 nn nu l u w1 hn hu hsz hszu hit.matR git
    have E2 := fun (W : World) (h : w1.Since w1.heap.size W) => specTableSame_any a1 a6 c1 c6 nn nu l u W hn hu hsz hszu (HM.out W h) (HMU.out W h)
    rw [hok] at E1
    simp only [hok] at E2
    have hall : ok = true → nu = nn ∧ tabIn l = true ∧ (∀ (W : World), w1.Since w1.heap.size W → Calls Try.prog 25 #[.slice a6 nn c6] W (SpecW W (tabIn l) (rkR l (2 ^ (l.getD 0 []).length) (2 ^ nn) : Nat))) ∧
        (∀ (W : World), w1.Since w1.heap.size W → Calls Try.prog 23 #[.slice a6 nn c6, .slice a1 nn c1] W fun e w' => e = .returned (.bool true) ∧ W.Since W.heap.size w') := fun h => by
      rw [h] at hok
      have hok2 := hok
      unfold sameOk at hok
      simp only [Bool.and_eq_true, decide_eq_true_eq] at hok
      obtain ⟨k1, _, k3⟩ := hok
      subst k3
      have e : nu = nn := by rw [← hn, ← hu]
      refine ⟨e, k1, fun W hW => implValueRank_any a6 c6 nn l W hn hsz (HMU.out W hW), fun W hW => ?_⟩
      have := implTableSame_any a6 a1 c6 c1 nn nn l l W hn hn hsz hsz (HMU.out W hW) (HM.out W hW)
      rw [hok2] at this
      exact this
    have E3 := fun (W : World) (h : w1.Since w1.heap.size W) => implValueRank_any a1 c1 nn l W hn hsz (HM.out W h)
    replace E1 := Lib.hid E1
    replace E2 := Lib.hid E2
    clear hn hu hsz hszu hit hs1 h1 h5 hlens hok g4 glens git
    go_wp2_with fail
    refine (E1.out).mono ?_
    rintro e w2 ⟨rfl, hs2⟩
    have HS2 := Lib.hid hs2
    clear hs2
    go_wp2_with fail
    refine (E2.out w2 HS2.out).mono ?_
    rintro e w3 ⟨rfl, hs3⟩
    have HS3 := Lib.hid (HS2.out.trans (since_mono hs3 HS2.out.size))
    clear hs3
    cases ok with
    | false =>
      clear hall
      go_wp2
      go_ret
      exact ⟨rfl, HS1.out.trans (since_mono HS3.out HS1.out.size)⟩
    | true =>
      obtain ⟨rfl, k1, E4, E5⟩ := hall rfl
      unfold SpecW at E3 E4
      simp only [k1, if_true] at E3 E4
      generalize rkR l (2 ^ (l.getD 0 []).length) (2 ^ nu) = r at E3 E4
      replace E3 := Lib.hid E3
      replace E4 := Lib.hid E4
      replace E5 := Lib.hid E5
      clear k1 hall
      go_wp2_with fail
      refine (E3.out w3 HS3.out).mono ?_
      rintro e w4 ⟨rfl, hs4⟩
      have HS4 := Lib.hid (HS3.out.trans (since_mono hs4 HS3.out.size))
      clear hs4
      go_wp2_with fail
      refine (E4.out w4 HS4.out).mono ?_
      rintro e w5 ⟨rfl, hs5⟩
      have HS5 := Lib.hid (HS4.out.trans (since_mono hs5 HS4.out.size))
      clear hs5
      go_wp2_with fail
      refine (E5.out w5 HS5.out).mono ?_
      rintro e w6 ⟨rfl, hs6⟩
      have HS6 := Lib.hid (HS5.out.trans (since_mono hs6 HS5.out.size))
      clear hs6
      go_wp2
      go_ret
      exact ⟨rfl, HS1.out.trans (since_mono HS6.out HS1.out.size)⟩

end Go.Proofs.Yteaabemnolacdaa
end

section
namespace Go.Proofs.Yteaabemnolacdaa
open Go.ChangeShapes Go.WideShapes Go.ChangeAt Go.RowKit Go.Deep

theorem below_since' {B : Nat} {w w' : World} (h : Below B w w') : w.Since B w' := ⟨h.os, h.tape, h.output, h.size, h.block⟩
theorem since_below' {B : Nat} {w w' : World} (h : w.Since B w') : Below B w w' := ⟨h.os, h.tape, h.output, h.size, h.block⟩

section
variable {H : Type} {enc : TypeId × Value → H} {P : Program}
theorem post_of_below {f : Func} {s : ChangeSpec} {apart fresh handsOn again : Bool} {W W' : World} {args : Array Value} {v : Value} {ds gs : List (DataW H)} {before pa pv : List MemPlace}
    (hW : DataW.Whole enc P f.params.toList s.vars apart W args.toList ds gs before)
    (hres : ∀ (b : Nat) (sp : Nat → Bool) (hd : Bool), DataW.TrodAll enc P W' b sp hd f.resultTypes.toList (v.resultList f.resultTypes.size) (s.fn H (ds ++ gs)).results [])
    (hargs : ∀ sp : Nat → Bool, (∀ p ∈ before, sp p.block = true) → DataW.TrodAll enc P W' 0 sp true f.params.toList args.toList (s.fn H (ds ++ gs)).args pa)
    (hvars : ∀ sp : Nat → Bool, (∀ p ∈ before, sp p.block = true) → DataW.TrodVars enc P W' sp s.vars (s.fn H (ds ++ gs)).vars pv)
    (hps : before = pa ++ pv) (hb : Below W.heap.size W W') (hag : again = false) :
    s.post enc P f apart fresh handsOn again W args v W' := by
  have hlt : ∀ p ∈ before, p.block < W.heap.size := fun p hp => hW.lt p hp
  have hold : ∀ p ∈ before, (fun b => decide (b < W.heap.size)) p.block = true := fun p hp => by simpa using hlt p hp
  refine ⟨ds, gs, before, [], pa, pv, hW, hres _ _ _, hargs _ hold, hvars _ hold, World.keptBut_mono (fun p hp => ⟨hp, ?_⟩) (hb.frame (· ∈ before)), fun h => ?_⟩
  · rw [hps, List.mem_append] at hp
    exact Or.inr hp
  · rw [hag] at h; cases h

theorem open_mat {W : World} {t e q : TypeId} {a : Option Addr} {n cap : Nat} {d : DataW H} {p : List MemPlace} (ht : P.underlying t = some (.slice e)) (he : P.underlying e = some (.slice q)) (hq : P.underlying q = some (.int .i64))
    (ce : P.cellsOf e = 1) (cq : P.cellsOf q = 1) (h : DataW.Trod enc P W 0 (fun _ => true) true t (.slice a n cap) d p) :
    ∃ l : List (List Int), l.length = n ∧ MatR W a l ∧ n ≤ 9223372036854775807 ∧ ∀ r, r < l.length → (l.getD r []).length ≤ 9223372036854775807 := by
  obtain ⟨fuel, hf⟩ := h
  rcases open_int_rows ht he hq ce cq hf with ⟨hcs, _⟩ | ⟨a', len', cap', A, L, C, Z, hcs, _, hl, hm, _, hrows⟩
  · simp [Value.cells] at hcs
    obtain ⟨rfl, rfl, rfl⟩ := hcs
    exact ⟨[], rfl, (fun h => by simp at h), by omega, fun r hr => by simp at hr⟩
  · simp [Value.cells] at hcs
    obtain ⟨rfl, rfl, rfl⟩ := hcs
    have hmx : maxLen = 9223372036854775807 := rfl
    have hlen : ∀ r, r < n → ((Z r).take (L r)).length = L r := fun r hr => by
      obtain ⟨_, h1, _, h2, _⟩ := hrows r (by omega)
      rw [List.length_take]; omega
    have hget : ∀ r, r < n → ((List.range n).map fun r => (Z r).take (L r)).getD r [] = (Z r).take (L r) := fun r hr => by simp [List.getD, hr]
    refine ⟨(List.range n).map fun r => (Z r).take (L r), by simp, fun h => ?_, by omega, fun r hr => ?_⟩
    · obtain ⟨b, o, spot⟩ := a'
      simp at h
      have hspot : spot = none := by simpa [Addr.add] using World.cell?_spot (hrows 0 (by omega)).1
      subst hspot
      refine ⟨b, o, A, C, rfl, fun r hr => ?_⟩
      simp at hr
      rw [hget r hr, hlen r hr]
      obtain ⟨g1, g2, g3, g4, g5, g6, g7⟩ := hrows r (by omega)
      refine ⟨by rw [← add_plain]; exact g1, fun h0 => ?_⟩
      rw [hlen r hr] at h0
      cases hA : A r with
      | none => have := g6 hA; omega
      | some a'' =>
        obtain ⟨_, hcell⟩ := g7 a'' hA
        obtain ⟨b', o', sp⟩ := a''
        have hs : sp = none := by simpa [Addr.add] using World.cell?_spot (hcell 0 (by omega))
        subst hs
        refine ⟨b', o', rfl, fun i hi => ?_⟩
        rw [hlen r hr] at hi
        rw [← add_plain, hcell i (by omega)]
        congr 2
        simp [List.getD, hi]
    · simp at hr
      rw [hget r hr, hlen r hr]
      obtain ⟨_, h1, h2, _⟩ := hrows r (by omega)
      omega
end

theorem Try.own : ownKnob Try.prog.godebug = none := by kernel_rfl
theorem Try.laidOut : laidOutB Try.prog = true := by kernel_rfl
theorem Try.cellsR : Try.prog.cellsOf 36 = 1 := by kernel_rfl
theorem Try.cellsI : Try.prog.cellsOf 3 = 1 := by kernel_rfl

end Go.Proofs.Yteaabemnolacdaa
end

section
namespace Go.Proofs.Yteaabemnolacdaa
open Go.ChangeShapes Go.WideShapes Go.ChangeAt Go.RowKit Go.Deep

theorem wf_u8_of {n : Int} (h : (Lit.int .u8 n).wf = true) : 0 ≤ n ∧ n ≤ 255 := by
  have h2 : (0 : Int) ≤ n ∧ n ≤ 255 := by simpa [Lit.wf, IntKind.min, IntKind.max, IntKind.signed, IntKind.bits] using h
  exact h2

theorem open_bytes {H : Type} {enc : TypeId × Value → H} {P : Program} {W : World} {t e : TypeId} {a : Option Addr} {n cap : Nat} {d : DataW H} {p : List MemPlace} (ht : P.underlying t = some (.slice e)) (he : P.underlying e = some (.int .u8)) (ce : P.cellsOf e = 1)
    (h : DataW.Trod enc P W 0 (fun _ => true) true t (.slice a n cap) d p) : BytR W a n ∧ n ≤ cap ∧ cap ≤ 9223372036854775807 := by
  obtain ⟨fuel, hf⟩ := h
  rcases open_ints ht he ce hf with ⟨hcs, _⟩ | ⟨a', len, cap', zs, hcs, _, hl, hm, hlen, _, hcell, hwf⟩
  · simp [Value.cells] at hcs
    obtain ⟨rfl, rfl, rfl⟩ := hcs
    exact ⟨fun h => absurd h (by omega), by omega, by omega⟩
  · simp [Value.cells] at hcs
    obtain ⟨rfl, rfl, rfl⟩ := hcs
    have hmx : maxLen = 9223372036854775807 := rfl
    have hzl : zs.length = cap := by simpa using hlen
    refine ⟨fun h0 => ?_, by omega, by omega⟩
    obtain ⟨b, o, spot⟩ := a'
    have hspot : spot = none := by simpa [Addr.add] using World.cell?_spot (hcell 0 (by omega))
    subst hspot
    refine ⟨b, o, rfl, fun i hi => ?_⟩
    have hi' : i < zs.length := by omega
    have hw := wf_u8_of (hwf (zs.getD i 0) (by simp [List.getD, hi']))
    obtain ⟨z, hz⟩ := Int.eq_ofNat_of_zero_le hw.1
    refine ⟨z, by omega, ?_⟩
    rw [← add_plain, hcell i hi', hz]

theorem Try.cellsB : Try.prog.cellsOf 5 = 1 := by kernel_rfl

end Go.Proofs.Yteaabemnolacdaa
end

section
namespace Go.Proofs.Yteaabemnolacdaa
open Go.ChangeShapes Go.WideShapes Go.ChangeAt Go.RowKit Go.Deep

set_option maxRecDepth 100000 in
theorem lifted_FnSame (os : Os) (started : os.Started) (H : Type) (enc : TypeId × Value → H) :
    ReturnsInHanded {} Try.checked os 4 .any (Rows.fnSameSpec.pre6 enc Try.prog Try.f4 Rows.fnSameRow.domain false) (Rows.fnSameSpec.post enc Try.prog Try.f4 false true false false) := by
  refine returnsInHanded_of_change (C := Try.checked) Try.own started (by kernel_rfl) Try.func4
    (ChangeSpec.witness6 (enc := enc) (C := Try.checked) false ⟨#[], #[.slice none 0 0], []⟩ 8 (by kernel_rfl) (by kernel_rfl) (by kernel_rfl) (by kernel_rfl)) ?_
  intro W base args ds gs before hval0 hW _ _
  have hval : ∀ (j : Nat) t v, Try.f4.params[j]? = some t → args[j]? = some v → Value.okWide Try.prog W .any base t v := hval0
  have hW' := hW
  obtain ⟨p, q, hA0, hV, rfl, hfz, hnd⟩ := hW
  have hA : DataW.TrodAll enc Try.prog W 0 (fun _ => true) true Try.f4.params.toList args.toList ds p := hA0
  rw [Try.params4] at hA hval
  obtain ⟨v0, d0, rfl, rfl, h0⟩ := trodAll_one hA
  obtain ⟨p0, hp0⟩ : ∃ p0, p0 = p := ⟨_, rfl⟩
  subst hp0
  obtain ⟨rfl, rfl⟩ := trodVars_none hV
  obtain ⟨a0, n0, cap0, rfl⟩ := okWide_slice Try.underlying22 (hval 0 22 v0 rfl rfl)
  obtain ⟨hb0, hc0, h630⟩ := open_bytes Try.underlying22 Try.underlying5 Try.cellsB h0
  clear hA0 hval0
  simp only [List.append_nil] at hW'
  have hlt0 : ∀ x ∈ p0, x.block < W.heap.size := fun x hx => hW'.lt x (by simp [hx])
  refine (fnSame a0 cap0 n0 W hc0 h630 hb0).mono fun e W' ⟨he, hs⟩ => ?_
  subst he
  have hb := since_below' hs
  have ht0 : ∀ sp : Nat → Bool, (∀ x ∈ p0, sp x.block = true) → DataW.Trod enc Try.prog W' 0 sp true 22 (.slice a0 n0 cap0) d0 p0 := fun sp hsp =>
    WideElems.Trod_stays Try.laidOut (by kernel_rfl) (of_decide_eq_true (by kernel_rfl)) h0 (fun x hx => hb.same (hlt0 x hx)) hsp
  have hargs : ∀ sp : Nat → Bool, (∀ x ∈ (p0), sp x.block = true) → DataW.TrodAll enc Try.prog W' 0 sp true [22] [.slice a0 n0 cap0] [d0] (p0) := fun sp hsp => by
    have := trodAll_mk1 (enc := enc) (P := Try.prog) (w := W') (base := 0) (spare := sp) (held := true) (ht0 sp (fun x hx => hsp x (by simp [hx])))
    simpa using this
  exact ⟨_, rfl, post_of_below (pa := p0) (pv := []) hW' (fun _ _ _ => trodAll_mk1 (shut_bool Try.underlying4 true)) (fun sp hsp => hargs sp (fun x hx => hsp x (by simpa using hx))) (fun _ _ => rfl) (by simp) hb rfl⟩

theorem FnSame_holds : Rows.FnSameSaid :=
  OpenClaim.holds_of_wide 4 Try.f4 rfl rfl rfl rfl rfl rfl rfl ⟨rfl, rfl, rfl, rfl, rfl⟩ rfl rfl rfl rfl rfl (by kernel_rfl) Try.func4 (by kernel_rfl)
    (of_decide_eq_true (by kernel_rfl)) (by unfold Func.isWrapper; first | (rw [if_pos (by decide +kernel)]; kernel_rfl) | (rw [if_neg (by decide +kernel)]; exact ⟨rfl, rfl⟩))
    (fun os started H enc _ => lifted_FnSame os started H enc)

end Go.Proofs.Yteaabemnolacdaa
end
