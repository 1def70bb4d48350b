import Derived.Test.YtpoabeniejmpkaaCopy
import Derived.Test.YtpoabeniejmpkaaTurnSpec
import Derived.Deep.QuietTactic
import Derived.Deep.AppendLies
import Derived.Deep.RegionHeld3
import Derived.OwnWalk
import Derived.Test.YtpoabeniejmpkaaWR
import Derived.RangeFuncBox
import Derived.Test.YtpoabeniejmpkaaSameDef
import Derived.Test.YtpoabeniejmpkaaRankV
import Derived.Test.YtpoabeniejmpkaaOrdDet
import Derived.Test.YtpoabeniejmpkaaHasM
import Derived.Test.YtpoabeniejmpkaaHarn2
import Derived.Test.YtpoabeniejmpkaaRows
import Derived.Test.YtpoabeniejmpkaaData
import Derived.ProofKit
import Derived.Deep.Matrix

section
/- The contract of spec.l1Copy at any table of few rows. -/
namespace Go.Proofs.Ytpoabeniejmpkaa
open Go.RowKit Go.Deep

set_option maxRecDepth 100000 in
set_option maxHeartbeats 2000000 in
theorem l1Copy_gen (a : Option Addr) (cap n : Nat) (l : List (List Int)) (w : World) (hn : l.length = n) (hn6 : 1 ≤ n ∧ n ≤ 6) (hT : ∀ r, r < n → 1 ≤ (l.getD r []).length ∧ (l.getD r []).length ≤ 6) (hm : MatR w a l) :
    Calls Try.prog 57 #[.slice a n cap] w fun e w' => ∃ a' cap', e = .returned (.slice a' n cap') ∧ w.Since w.heap.size w' ∧ OwnT w.heap.size w'.heap.size w' a' l ∧ FreeTop w' a' n := by
  obtain ⟨i42, hi42⟩ := info42_parts
  obtain ⟨i3, hi3⟩ := info3_parts
  have HI := Lib.hid hi42
  have HJ := Lib.hid hi3
  clear hi42 hi3
  have hst := bt_start w (fun _ => none) (fun _ => 0) #[] rfl
  obtain ⟨b, o, A0, C0, rfl, hc⟩ := hm (by omega)
  have HC := Lib.hid hc
  have HN := Lib.hid hn
  have HTT := Lib.hid hT
  clear hc hm hn hT
  go_enter Try.func57, Try.ntmps57
  go_wp2
  go_loopg [3, 4] n (fun g v k wr => ∃ r : Nat, ∃ A C, r ≤ n ∧ g = n - r ∧ k = .int .i64 r ∧ BT w wr v (l.take r) A C)
  case atStart => exact ⟨0, _, _, Nat.zero_le _, rfl, rfl, hst⟩
  case round =>
    obtain ⟨r, A, C, hr, rfl, rfl, hR⟩ := hrel
    clear hst
    by_cases hlt : r < n
    · obtain ⟨c1, r1⟩ := HC.out r (by rw [HN.out]; exact hlt)
      have hrl := HTT.out r hlt
      obtain ⟨b', o', hA, hce⟩ := r1 (by omega)
      rw [hA] at c1
      rw [← hR.since.cell (a := ⟨b, o + r, none⟩) (World.block_lt_of_cell? _ _ c1)] at c1
      obtain ⟨x, hx⟩ : ∃ x, x = l.getD r [] := ⟨_, rfl⟩
      rw [← hx] at c1 hce hrl
      obtain ⟨m, hmm⟩ : ∃ m, x.length = m := ⟨_, rfl⟩
      rw [hmm] at c1 hce hrl
      have hm6 : 1 ≤ m ∧ m ≤ 6 := by omega
      clear hrl
      have hcells : ∀ (j : Nat) (u : Value), (x.map (Value.int .i64))[j]? = some u → (wr.alloc (.cells #[] 3)).cell? ((⟨b', o', none⟩ : Addr).add j) = some u := fun j u hj => by
        rw [Go.WideShapes.add_plain]
        obtain ⟨hjl, he⟩ := List.getElem?_eq_some_iff.1 hj
        have hjx : j < m := by rw [← hmm]; simpa using hjl
        have h2 := hce j hjx
        refine cell_alloc_l _ ?_
        rw [hR.since.cell (a := ⟨b', o' + j, none⟩) (World.block_lt_of_cell? _ _ h2), h2, ← he]
        simp [List.getD, show j < x.length by omega]
      have HCE := Lib.hid hcells
      have c1a := fun ob => cell_alloc_l ob c1
      have HR := Lib.hid hR
      have hsz := hR.since.size
      have hlen : (l.take r).length = r := by rw [List.length_take]; have := HN.out; omega
      have HMM := Lib.hid hmm
      have HX := Lib.hid hx
      have hRB0 : (wr.alloc (.cells #[] 3)).ownsRow wr.heap.size 3 1 (.slice (some ⟨wr.heap.size, 0, none⟩) 0 0) 0 [] := World.ownsRow_made wr #[] 0 (Nat.le_refl _) (Nat.zero_le _) rfl
      have HRB := Lib.hid hRB0
      clear hR hcells hmm hx hce hA r1 hRB0
      go_wp2_with (first
        | (at_builtin; (refine wpList_append_own _ rfl (.tmp 13) (.tmp 17) 32 rfl wr.heap.size 3 i3 (.int .i64 0) 1 8 Try.underlying32 HJ.out.1 HJ.out.2.1 HJ.out.2.2.1 HJ.out.2.2.2 rfl (by decide) _ 0 [] rfl HRB.out ⟨b', o', none⟩ m _ (x.map (Value.int .i64)) rfl (by rw [List.length_map, HMM.out]; omega) HCE.out (fun u hu => by obtain ⟨z, _, rfl⟩ := List.mem_map.1 hu; rfl) (by unfold maxLen; omega) (by omega) (by simp) ?_);
            intro v1 w1 hown1 hgrow1 _; have hrb := RB.of_append #[] HMM.out hown1 hgrow1; obtain ⟨ra, rcp, hv1, hrow1⟩ := hrb.slice; rw [HMM.out] at hv1; subst hv1; have HBT := Lib.hid (HR.out.later hrb.since); have HRW := Lib.hid hrow1; have hz1 := hrb.since.size; clear hown1 hgrow1 hrb hrow1)
        | (at_builtin; (refine wpList_append_own _ rfl (.tmp 12) (.tmp 19) 23 rfl w.heap.size 32 i42 (.slice none 0 0) 1 24 Try.underlying23 HI.out.1 HI.out.2.1 HI.out.2.2.1 HI.out.2.2.2 rfl (by decide) _ _ _ rfl (HBT.out.own.alloc _) ⟨w1.heap.size, 0, none⟩ 1 1 [.slice ra m rcp] rfl rfl (cell_one_at _ _ _ rfl) (fun x hx => by simp at hx; subst hx; rfl) (by unfold maxLen; omega) (by omega) (by simp; omega) ?_); intro v' w2 hown' hgrow _))
      have hP := HBT.out.push (rv := .slice ra m rcp) (x := x) (a := ra) (cp := rcp) (by rw [HMM.out]) (fun h => by obtain ⟨G, e, h2, h3⟩ := HRW.out h; exact ⟨G, e, by omega, h3⟩) (fun h => by obtain ⟨G, e, h2, _⟩ := HRW.out h; exact HR.out.fresh e h2) hown' hgrow
      rw [HX.out, ← take_succ_get l (by rw [HN.out]; exact hlt)] at hP
      have HP := Lib.hid hP
      clear hP hown' hgrow hlen c1 c1a
      go_roundg (n - (r + 1))
      case measure => omega
      case rel => exact ⟨r + 1, _, _, by omega, rfl, by go_num, HP.out⟩
    · have : r = n := by omega
      subst this
      rw [List.take_of_length_le (by rw [HN.out]; exact Nat.le_refl _)] at hR
      obtain ⟨ra, rcp, hv, hin⟩ := hR.ownT
      rw [HN.out] at hv
      have hfree := hR.free hv
      subst hv
      have HS := Lib.hid hR.since
      clear hR
      go_wp2
      go_ret
      exact ⟨ra, rcp, rfl, HS.out, hin, hfree⟩

end Go.Proofs.Ytpoabeniejmpkaa
end

section
/- Words for drawing: the reader's block, bytes, tables that grow while the reader's block turns. -/
namespace Go.Proofs.Ytpoabeniejmpkaa
open Go.RowKit Go.Deep

theorem World.grownBy_refl (w : World) (row : Option Nat) : w.grownBy w row := ⟨rfl, rfl, rfl, Nat.le_refl _, fun _ _ _ => rfl⟩
theorem grown_trans {a b c : World} {row : Option Nat} (h : a.grownBy b row) (k : b.grownBy c row) : a.grownBy c row :=
  ⟨k.os.trans h.os, k.tape.trans h.tape, k.output.trans h.output, Nat.le_trans h.size k.size, fun i hi hn => (k.block i (Nat.lt_of_lt_of_le hi h.size) hn).trans (h.block i hi hn)⟩
theorem grown_since {a b : World} (row : Option Nat) (h : a.Since a.heap.size b) : a.grownBy b row := ⟨h.os, h.tape, h.output, h.size, fun i hi _ => h.block i hi⟩
/-- What is done to blocks from B on. -/
theorem grown_of {a b : World} {row row' : Option Nat} (h : a.grownBy b row) (hr : ∀ k, row = some k → a.heap.size ≤ k ∨ some k = row') : a.grownBy b row' :=
  ⟨h.os, h.tape, h.output, h.size, fun i hi hn => h.block i hi (fun e => by
    rcases hr i e.symm with h1 | h1
    · omega
    · exact hn h1)⟩
theorem since_grown {a b : World} {G B : Nat} (h : a.grownBy b (some G)) (hG : B ≤ G) (hB : B ≤ a.heap.size) : a.Since B b :=
  ⟨h.os, h.tape, h.output, h.size, fun i hi => h.block i (by omega) (fun e => by injection e with e; omega)⟩

/-- A slice of bytes. -/
def BytR (w : World) (a : Option Addr) (n : Nat) : Prop :=
  0 < n → ∃ b o, a = some ⟨b, o, none⟩ ∧ ∀ i, i < n → ∃ z : Nat, z ≤ 255 ∧ w.cell? ⟨b, o + i, none⟩ = some (.int .u8 z)
theorem BytR.since {w w' : World} {a : Option Addr} {n : Nat} (h : BytR w a n) (hs : w.Since w.heap.size w') : BytR w' a n := by
  intro h0
  obtain ⟨b, o, e, hc⟩ := h h0
  refine ⟨b, o, e, fun i hi => ?_⟩
  obtain ⟨z, h1, h2⟩ := hc i hi
  exact ⟨z, h1, (hs.cell (a := ⟨b, o + i, none⟩) (World.block_lt_of_cell? _ _ h2)).trans h2⟩

/-- The reader at G: its bytes and its place. -/
structure RD (w0 w : World) (G : Nat) (a : Option Addr) (n c : Nat) (tr : TypeId) (p : Nat) : Prop where
  blk : w.heap[G]? = some (.cells #[.slice a n c, .int .i64 p] tr (0, 0))
  base : w0.heap.size ≤ G
  since : w0.Since w0.heap.size w
  bytes : BytR w0 a n
  small : n ≤ 2000
theorem RD.lt {w0 w : World} {G : Nat} {a : Option Addr} {n c : Nat} {tr : TypeId} {p : Nat} (h : RD w0 w G a n c tr p) : G < w.heap.size := (Array.getElem?_eq_some_iff.1 h.blk).1
theorem RD.cell0 {w0 w : World} {G : Nat} {a : Option Addr} {n c : Nat} {tr : TypeId} {p : Nat} (h : RD w0 w G a n c tr p) : w.cell? ⟨G, 0, none⟩ = some (.slice a n c) := by simp [World.cell?, h.blk]
theorem RD.cell1 {w0 w : World} {G : Nat} {a : Option Addr} {n c : Nat} {tr : TypeId} {p : Nat} (h : RD w0 w G a n c tr p) : w.cell? ⟨G, 1, none⟩ = some (.int .i64 p) := by simp [World.cell?, h.blk]
theorem RD.free1 {w0 w : World} {G : Nat} {a : Option Addr} {n c : Nat} {tr : TypeId} {p : Nat} (h : RD w0 w G a n c tr p) : w.frozen? ⟨G, 1, none⟩ = false := by simp [World.frozen?, h.blk]
/-- The place goes on. -/
theorem RD.set {w0 w : World} {G : Nat} {a : Option Addr} {n c : Nat} {tr : TypeId} {p : Nat} (h : RD w0 w G a n c tr p) (q : Nat) : RD w0 (w.setCell ⟨G, 1, none⟩ (.int .i64 q)) G a n c tr q :=
  ⟨by simp [World.setCell, Array.getElem?_modify, h.blk], h.base, h.since.setCell h.base _, h.bytes, h.small⟩
theorem RD.later {w0 w w' : World} {G : Nat} {a : Option Addr} {n c : Nat} {tr : TypeId} {p : Nat} (h : RD w0 w G a n c tr p) (hs : w.Since w.heap.size w') : RD w0 w' G a n c tr p :=
  ⟨(hs.block G h.lt).trans h.blk, h.base, h.since.trans (since_mono hs h.since.size), h.bytes, h.small⟩
theorem RD.grown {w0 w w' : World} {G : Nat} {a : Option Addr} {n c : Nat} {tr : TypeId} {p : Nat} {row : Option Nat} (h : RD w0 w G a n c tr p) (hg : w.grownBy w' row) (hr : ∀ k, row = some k → G < k) : RD w0 w' G a n c tr p :=
  ⟨(hg.block G h.lt (fun e => by have := hr G e.symm; omega)).trans h.blk, h.base, h.since.grown hg h.since.size (fun k e => by have := hr k e; have := h.base; omega), h.bytes, h.small⟩

/-- A row of one's own, in a block from B on. -/
def RW (B : Nat) (w : World) (v : Value) (x : List Int) : Prop := w.ownsRow B 3 1 v x.length (x.map (Value.int .i64))
theorem RW.kept {B : Nat} {w w' : World} {v : Value} {x : List Int} {G : Nat} (h : RW B w v x) (hg : w.grownBy w' (some G)) (hG : G < B) : RW B w' v x :=
  World.ownsRow.kept h hg (by
    cases hv : v.ownBlock with
    | none => exact .inl rfl
    | some k => exact .inr (fun e => by injection e with e; have := (World.ownsRow.lt h k hv).1; omega))
theorem RW.base {B B' : Nat} {w : World} {v : Value} {x : List Int} (h : RW B w v x) (hB : B' ≤ B) : RW B' w v x := by
  refine ⟨h.1, ?_⟩
  rcases h.2 with h1 | ⟨g, cap, cur, e, hb, hr⟩
  · exact .inl h1
  · exact .inr ⟨g, cap, cur, e, by omega, hr⟩
theorem RW.form {B : Nat} {w : World} {v : Value} {x : List Int} (h : RW B w v x) (h0 : 0 < x.length) : ∃ g cap, v = .slice (some ⟨g, 0, none⟩) x.length cap ∧ B ≤ g ∧ RowB w g x := RowB.of_owns h h0
/-- A number of the row is written. -/
theorem RW.set {B : Nat} {w : World} {g cap k : Nat} {x : List Int} (h : RW B w (.slice (some ⟨g, 0, none⟩) x.length cap) x) (_hk : k < x.length) (y : Int) : RW B (w.setCell ⟨g, k, none⟩ (.int .i64 y)) (.slice (some ⟨g, 0, none⟩) x.length cap) (x.set k y) := by
  rcases h.2 with ⟨e, _⟩ | ⟨g', cap', cur, e, hb, hg, hn, hm, hs, ht⟩
  · cases e
  · injection e with e1 e2 e3
    injection e1 with e1
    injection e1 with e1
    subst e1; subst e3
    refine ⟨by simp, .inr ⟨g, cap, cur.setIfInBounds k (.int .i64 y), by rw [List.length_set], hb, ?_, by rw [List.length_set]; exact hn, hm, by simpa using hs, ?_⟩⟩
    · simp [World.setCell, Array.getElem?_modify, hg]
    · rw [List.length_set, Nat.mul_one]
      rw [Nat.mul_one] at ht
      rw [List.map_set, ← ht]
      simp [List.take_set]

/-- A table that is being built of rows of one's own, all in blocks from B on. -/
structure BD (B : Nat) (w : World) (v : Value) (l : List (List Int)) (A : Nat → Option Addr) (C : Nat → Nat) : Prop where
  own : w.ownsRow B 32 1 v l.length ((List.range l.length).map fun r => .slice (A r) (l.getD r []).length (C r))
  rows : ∀ r, r < l.length → 0 < (l.getD r []).length ∧ RW B w (.slice (A r) (l.getD r []).length (C r)) (l.getD r [])
  apart : ∀ r r', r < l.length → r' < l.length → A r = A r' → r = r'
theorem BD.start (w : World) (A : Nat → Option Addr) (C : Nat → Nat) {B : Nat} (hB : B ≤ w.heap.size) : BD B (w.alloc (.cells #[] 32)) (.slice (some ⟨w.heap.size, 0, none⟩) 0 0) [] A C :=
  ⟨World.ownsRow_made w #[] 0 hB (Nat.zero_le _) rfl, fun r hr => by simp at hr, fun r _ hr => by simp at hr⟩
theorem BD.kept {B : Nat} {w w' : World} {v : Value} {l : List (List Int)} {A : Nat → Option Addr} {C : Nat → Nat} {G : Nat} (h : BD B w v l A C) (hg : w.grownBy w' (some G)) (hG : G < B) : BD B w' v l A C :=
  ⟨World.ownsRow.kept h.own hg (by
      cases hv : v.ownBlock with
      | none => exact .inl rfl
      | some k => exact .inr (fun e => by injection e with e; have := (h.own.lt k hv).1; omega)),
    fun r hr => ⟨(h.rows r hr).1, (h.rows r hr).2.kept hg hG⟩, h.apart⟩
theorem BD.later {B : Nat} {w w' : World} {v : Value} {l : List (List Int)} {A : Nat → Option Addr} {C : Nat → Nat} (h : BD B w v l A C) (hs : w.Since w.heap.size w') : BD B w' v l A C := by
  have hg : w.grownBy w' none := grown_since none hs
  refine ⟨World.ownsRow.kept h.own hg ?_, fun r hr => ⟨(h.rows r hr).1, World.ownsRow.kept (h.rows r hr).2 hg ?_⟩, h.apart⟩
  · cases hv : v.ownBlock <;> simp
  · cases hv : (Value.slice (A r) (l.getD r []).length (C r)).ownBlock <;> simp
theorem BD.row {B : Nat} {w : World} {v : Value} {l : List (List Int)} {A : Nat → Option Addr} {C : Nat → Nat} (h : BD B w v l A C) {r : Nat} (hr : r < l.length) : ∃ g, A r = some ⟨g, 0, none⟩ ∧ B ≤ g ∧ RowB w g (l.getD r []) := by
  obtain ⟨g, cap, e, hb, hw⟩ := (h.rows r hr).2.form (h.rows r hr).1
  injection e with e _ _
  exact ⟨g, e, hb, hw⟩
theorem BD.top {B : Nat} {w : World} {v : Value} {l : List (List Int)} {A : Nat → Option Addr} {C : Nat → Nat} (h : BD B w v l A C) (h0 : 0 < l.length) : ∃ b cap cur, v = .slice (some ⟨b, 0, none⟩) l.length cap ∧ B ≤ b ∧ w.heap[b]? = some (.cells cur 32 (0, 0)) ∧ ∀ r, r < l.length → cur[r]? = some (.slice (A r) (l.getD r []).length (C r)) := by
  rcases h.own.2 with ⟨_, hn⟩ | ⟨g, cap, cur, e, hb, hg, hn, _, hs, ht⟩
  · omega
  · refine ⟨g, cap, cur, e, hb, hg, fun r hr => ?_⟩
    have h1 : (cur.toList.take (l.length * 1))[r]? = some (.slice (A r) (l.getD r []).length (C r)) := by rw [ht]; simp [hr]
    rw [List.getElem?_take] at h1
    have h2 : r < l.length ∧ cur[r]? = some (.slice (A r) (l.getD r []).length (C r)) := by simpa using h1
    exact h2.2
/-- One row more. -/
theorem BD.push {B : Nat} {w w1 : World} {v v' : Value} {l : List (List Int)} {A : Nat → Option Addr} {C : Nat → Nat} {x : List Int} {a : Option Addr} {cp : Nat} (h : BD B w v l A C) (h0 : 0 < x.length) (hx : RW B w (.slice a x.length cp) x)
    (hfresh : ∀ r, r < l.length → A r ≠ a)
    (hown : w1.ownsRow B 32 1 v' (l.length + 1) (((List.range l.length).map fun r => .slice (A r) (l.getD r []).length (C r)) ++ [.slice a x.length cp])) (hg : (w.alloc (.cells #[.slice a x.length cp] 32)).grownBy w1 v.ownBlock) :
    BD B w1 v' (l ++ [x]) (fun r => if r = l.length then a else A r) (fun r => if r = l.length then cp else C r) := by
  have hkeep : ∀ (u : Value) (y : List Int), 0 < y.length → RW B w u y → RW B w1 u y := by
    intro u y hy hu
    refine World.ownsRow.kept (World.ownsRow.alloc hu _) hg ?_
    obtain ⟨g, cap, e, _, cs, hc, _⟩ := hu.form hy
    subst e
    refine .inr fun e => ?_
    rcases h.own.2 with ⟨rfl, _⟩ | ⟨g', cap', cur, rfl, _, hgg, _⟩
    · cases e
    · injection e with e
      have e : g = g' := e
      rw [← e, hc] at hgg
      injection hgg with hgg
      injection hgg with _ e2 _
      exact absurd e2 (by decide)
  have e4 : ∀ q, q < l.length → (l ++ [x]).getD q [] = l.getD q [] := fun q hq => by simp [List.getD, List.getElem?_append_left hq]
  have e5 : (l ++ [x]).getD l.length [] = x := by simp [List.getD]
  have e6 : (l ++ [x]).length = l.length + 1 := by simp
  refine ⟨?_, fun r hr => ?_, fun r r' hr hr' e => ?_⟩
  · rw [e6, List.range_succ, List.map_append]
    have e2 : (List.range l.length).map (fun r => Value.slice (if r = l.length then a else A r) ((l ++ [x]).getD r []).length (if r = l.length then cp else C r)) = (List.range l.length).map fun r => .slice (A r) (l.getD r []).length (C r) := by
      refine List.map_congr_left fun r hr => ?_
      have hr' := List.mem_range.1 hr
      rw [if_neg (by omega), if_neg (by omega), e4 r hr']
    rw [e2]
    simpa [e5] using hown
  · by_cases e : r = l.length
    · subst e
      rw [e5, if_pos rfl, if_pos rfl]
      exact ⟨h0, hkeep _ _ h0 hx⟩
    · rw [e6] at hr
      rw [e4 r (by omega), if_neg e, if_neg e]
      exact ⟨(h.rows r (by omega)).1, hkeep _ _ (h.rows r (by omega)).1 (h.rows r (by omega)).2⟩
  · rw [e6] at hr hr'
    by_cases e1 : r = l.length <;> by_cases e2 : r' = l.length
    · omega
    · rw [if_pos e1, if_neg e2] at e
      exact absurd e.symm (hfresh r' (by omega))
    · rw [if_neg e1, if_pos e2] at e
      exact absurd e (hfresh r (by omega))
    · rw [if_neg e1, if_neg e2] at e
      exact h.apart r r' (by omega) (by omega) e
theorem BD.fresh {B : Nat} {w : World} {v : Value} {l : List (List Int)} {A : Nat → Option Addr} {C : Nat → Nat} (h : BD B w v l A C) {a : Option Addr} {g : Nat} (ha : a = some ⟨g, 0, none⟩) (hg : w.heap.size ≤ g) : ∀ r, r < l.length → A r ≠ a := by
  intro r hr e
  obtain ⟨g', e', _, hw⟩ := h.row hr
  have := hw.lt
  rw [e', ha] at e
  injection e with e; injection e with e
  omega
/-- A table that reads as a list of lists. -/
theorem BD.matR {B : Nat} {w : World} {v : Value} {l : List (List Int)} {A : Nat → Option Addr} {C : Nat → Nat} (h : BD B w v l A C) : ∃ a cap, v = .slice a l.length cap ∧ MatR w a l := by
  by_cases h0 : 0 < l.length
  · obtain ⟨b, cap, cur, e, _, hg, hc⟩ := h.top h0
    refine ⟨_, cap, e, fun _ => ⟨b, 0, A, C, rfl, fun r hr => ⟨?_, fun h1 => ?_⟩⟩⟩
    · rw [Nat.zero_add]; simp [World.cell?, hg, hc r hr]
    · obtain ⟨g, e, _, hw⟩ := h.row hr
      exact ⟨g, 0, e, fun i hi => by rw [Nat.zero_add]; exact hw.cell hi⟩
  · rcases h.own.2 with ⟨hv, hn⟩ | ⟨g, cap, cur, e, _⟩
    · exact ⟨none, 0, by rw [hv, hn], fun h => absurd h h0⟩
    · exact ⟨_, cap, e, fun h => absurd h h0⟩

end Go.Proofs.Ytpoabeniejmpkaa
end

section
/- The contract of the reader's pick. -/
namespace Go.Proofs.Ytpoabeniejmpkaa
open Go.RowKit Go.Deep

theorem grown_drewN {a b : World} {row : Option Nat} (h : a.grownBy b row) (q : Nat) : a.grownBy (b.drewN q) row := ⟨h.os, h.tape, h.output, h.size, h.block⟩
theorem xor_i64_nat (a b : Nat) (ha : a < 2 ^ 62) (hb : b < 2 ^ 62) : bits .xor .i64 (a : Int) (b : Int) = ((a ^^^ b : Nat) : Int) := by
  have hx : a ^^^ b < 2 ^ 62 := Nat.xor_lt_two_pow ha hb
  have h1 : (BitVec.ofInt 64 (a : Int)).toNat = a := by
    rw [BitVec.ofInt_natCast, BitVec.toNat_ofNat]; exact Nat.mod_eq_of_lt (by omega)
  have h2 : (BitVec.ofInt 64 (b : Int)).toNat = b := by
    rw [BitVec.ofInt_natCast, BitVec.toNat_ofNat]; exact Nat.mod_eq_of_lt (by omega)
  show IntKind.i64.wrap ((BitVec.ofInt 64 (a : Int) ^^^ BitVec.ofInt 64 (b : Int)).toNat : Int) = _
  rw [BitVec.toNat_xor, h1, h2]
  exact IntWalk.i64_in _ ⟨by omega, by omega⟩

set_option maxRecDepth 100000 in
set_option maxHeartbeats 2000000 in
theorem pick_any (w0 w : World) (G n c p : Nat) (a : Option Addr) (m : Int) (h : RD w0 w G a n c 76 p) (hp : p ≤ 100000) :
    Calls Try.prog 56 #[.pointer (some ⟨G, 0, none⟩), .int .i64 m] w fun e w' => ∃ x : Nat, e = .returned (.int .i64 x) ∧ ((x : Int) < m ∨ x = 0) ∧ w.grownBy w' (some G) ∧ RD w0 w' G a n c 76 (p + 1) := by
  have e0 := h.cell0
  have e1 := h.cell1
  have e2 := h.free1
  have hs := h.set (p + 1)
  have hwp : IntKind.i64.wrap ((p : Int) + 1) = (p : Int) + 1 := IntWalk.i64_in _ ⟨by omega, by omega⟩
  have hc : ((p + 1 : Nat) : Int) = (p : Int) + 1 := by omega
  have hgr : w.grownBy (w.setCell ⟨G, 1, none⟩ (.int .i64 (p + 1 : Nat))) (some G) := ⟨rfl, rfl, rfl, by simp, fun k _ hk => Below.heap_setCell _ _ _ _ (fun e => hk (by rw [e]))⟩
  rw [hc] at hs hgr
  have s0 := hs.cell0
  have s1 := hs.cell1
  rw [hc] at s1
  have hsm := hs.small
  have hbb := hs.bytes.since hs.since
  have HS := Lib.hid hs
  have HG := Lib.hid hgr
  have HB := Lib.hid hbb
  clear hs hgr h hbb hc
  by_cases hm : m < 1
  · go_enter Try.func56, Try.ntmps56
    go_wp2
    go_wp2
    go_ret
    exact ⟨0, rfl, .inr rfl, HG.out, HS.out⟩
  · obtain ⟨M, rfl⟩ := Int.eq_ofNat_of_zero_le (show 0 ≤ m by omega)
    have hM1 : 1 ≤ M := by omega
    have hd : decide ((M : Int) < 1) = false := by simp; omega
    by_cases hn : n = 0
    · subst hn
      go_enter Try.func56, Try.ntmps56
      go_wp2
      go_wp2
      go_ret
      exact ⟨0, rfl, .inr rfl, HG.out, HS.out⟩
    · have hn1 : 1 ≤ n := by omega
      have hnb : ((n : Int) == 0) = false := by simp; omega
      obtain ⟨b, o, rfl, hb⟩ := HB.out (by omega)
      have hwm : IntKind.i64.wrap ((p : Int) + 1 - 1) = (p : Int) := by rw [show (p : Int) + 1 - 1 = p by omega]; exact IntWalk.i64_in _ ⟨by omega, by omega⟩
      by_cases hlt : p < n
      · obtain ⟨z, hz, hzc⟩ := hb p hlt
        have hl : decide ((p : Int) < n) = true := by simp; omega
        clear hb
        go_enter Try.func56, Try.ntmps56
        go_wp2
        go_ret
        exact ⟨z % M, rfl, .inl (by have := Nat.mod_lt z hM1; omega), HG.out, HS.out⟩
      · have hl : decide ((p : Int) < n) = false := by simp; omega
        obtain ⟨q1, hq1, hql1⟩ : ∃ q : Nat, (p : Int) % (n : Int) = q ∧ q < n := ⟨p % n, (Int.natCast_emod p n).symm, Nat.mod_lt _ (by omega)⟩
        obtain ⟨q2, hq2, hql2⟩ : ∃ q : Nat, ((p : Int) * 7 + 3) % (n : Int) = q ∧ q < n := ⟨(p * 7 + 3) % n, by rw [Int.natCast_emod]; simp, Nat.mod_lt _ (by omega)⟩
        obtain ⟨dd, hdd, hdl⟩ : ∃ q : Nat, (p : Int) / (n : Int) = q ∧ q ≤ p := ⟨p / n, (Int.natCast_ediv p n).symm, Nat.div_le_self _ _⟩
        obtain ⟨z1, hz1, hzc1⟩ := hb q1 hql1
        obtain ⟨z2, hz2, hzc2⟩ := hb q2 hql2
        clear hb
        have w1 : IntKind.i64.wrap ((p : Int) * 7) = (p : Int) * 7 := IntWalk.i64_in _ ⟨by omega, by omega⟩
        have w2 : IntKind.i64.wrap ((p : Int) * 7 + 3) = (p : Int) * 7 + 3 := IntWalk.i64_in _ ⟨by omega, by omega⟩
        have w3 : IntKind.i64.wrap ((z1 : Int) * 131) = (z1 : Int) * 131 := IntWalk.i64_in _ ⟨by omega, by omega⟩
        have w4 : IntKind.i64.wrap ((z2 : Int) * 1117) = (z2 : Int) * 1117 := IntWalk.i64_in _ ⟨by omega, by omega⟩
        have w5 : IntKind.i64.wrap ((z1 : Int) * 131 + (z2 : Int) * 1117) = (z1 : Int) * 131 + (z2 : Int) * 1117 := IntWalk.i64_in _ ⟨by omega, by omega⟩
        have w6 : IntKind.i64.wrap ((p : Int) * 29) = (p : Int) * 29 := IntWalk.i64_in _ ⟨by omega, by omega⟩
        have w7 : IntKind.i64.wrap ((z1 : Int) * 131 + (z2 : Int) * 1117 + (p : Int) * 29) = (z1 : Int) * 131 + (z2 : Int) * 1117 + (p : Int) * 29 := IntWalk.i64_in _ ⟨by omega, by omega⟩
        have w8 : IntKind.i64.wrap ((dd : Int) * 53) = (dd : Int) * 53 := IntWalk.i64_in _ ⟨by omega, by omega⟩
        have w9 : IntKind.i64.wrap ((z1 : Int) * 131 + (z2 : Int) * 1117 + (p : Int) * 29 + (dd : Int) * 53) = (z1 : Int) * 131 + (z2 : Int) * 1117 + (p : Int) * 29 + (dd : Int) * 53 := IntWalk.i64_in _ ⟨by omega, by omega⟩
        go_enter Try.func56, Try.ntmps56
        go_wp2
        go_quiet (fail)
        obtain ⟨X, hX⟩ : ∃ X : Nat, (z1 : Int) * 131 + (z2 : Int) * 1117 + (p : Int) * 29 + (dd : Int) * 53 = X := ⟨z1 * 131 + z2 * 1117 + p * 29 + dd * 53, by omega⟩
        have hx : bits .xor .i64 (X : Int) ((X : Int) / 64) = ((X ^^^ X / 64 : Nat) : Int) := by
          rw [show ((X : Int) / 64) = ((X / 64 : Nat) : Int) by omega]
          exact xor_i64_nat _ _ (by omega) (by omega)
        obtain ⟨y, hy⟩ : ∃ y : Nat, bits .xor .i64 (X : Int) ((X : Int) / 64) = y := ⟨_, hx⟩
        clear hx
        go_wp2
        go_ret
        exact ⟨y % M, rfl, .inl (by have := Nat.mod_lt y hM1; omega), grown_drewN HG.out nq, HS.out.later (since_drewN (World.Since.refl _ _) nq)⟩

end Go.Proofs.Ytpoabeniejmpkaa
end

section
/- Steps of the walks through the drawing functions. -/
namespace Go.Proofs.Ytpoabeniejmpkaa
open Go.RowKit Go.Deep

theorem grown_new {a b c : World} {G : Nat} {row : Option Nat} (h : a.grownBy b (some G)) (k : b.grownBy c row) (hr : ∀ i, row = some i → a.heap.size ≤ i) : a.grownBy c (some G) :=
  ⟨k.os.trans h.os, k.tape.trans h.tape, k.output.trans h.output, Nat.le_trans h.size k.size, fun i hi hn => (k.block i (Nat.lt_of_lt_of_le hi h.size) (fun e => by have := hr i e.symm; omega)).trans (h.block i hi hn)⟩
theorem grown_alloc {a b : World} {G : Nat} (h : a.grownBy b (some G)) (o : Obj) : a.grownBy (b.alloc o) (some G) := grown_new h (World.grownBy_alloc b o none) (fun i e => by cases e)
theorem grown_set {a b : World} {G : Nat} (h : a.grownBy b (some G)) {g k : Nat} (hg : a.heap.size ≤ g) (v : Value) : a.grownBy (b.setCell ⟨g, k, none⟩ v) (some G) :=
  grown_new h (row := some g) ⟨rfl, rfl, rfl, by simp, fun i _ hi => Below.heap_setCell _ _ _ _ (fun e => hi (by rw [e]))⟩ (fun i e => by cases e; exact hg)
theorem cell_grown {a b : World} {G : Nat} {p : Addr} {v : Value} (h : a.cell? p = some v) (hg : a.grownBy b (some G)) (hp : p.block ≠ G) : b.cell? p = some v := hg.cell h (fun e => hp (by injection e))
theorem cell_set_far {w : World} {g j : Nat} {v : Value} {p : Addr} {u : Value} (h : w.cell? p = some u) (hne : p.block ≠ g) : (w.setCell ⟨g, j, none⟩ v).cell? p = some u := by
  rw [World.cell?_setCell_other _ _ _ _ (fun e => hne (by rw [← e]))]; exact h

/-- append(row, y). -/
theorem wpList_append_int {P : Program} (w : World) {ops : Array Oper} {rest : List Oper} {o : Oper} {a : Act} {Q : Exit → Act → World → Prop} (hgd : o.guard = none) (s x : Operand) (t : TypeId)
    (ho : o.op = .call { callee := .builtin .append, args := #[s, x], argTypes := #[t, t] }) (B : Nat) (i : TypeInfo) (ht : P.underlying t = some (.slice 3)) (hi : P.info? 3 = some i) (hz : i.zero = some (.int .i64 0)) (hsz : i.size = 1) (hby : i.bytes = 8)
    (v : Value) (xs : List Int) (hs : a.eval s = v) (h : RW B w v xs) (y : Int) (hx : a.eval x = .slice (some ⟨w.heap.size, 0, none⟩) 1 1) (hlen : xs.length ≤ 1000) (hB : B ≤ w.heap.size)
    (hK : ∀ v' w', RW B w' v' (xs ++ [y]) → w.grownBy w' v.ownBlock → wpList P ops Q rest (a.put o.dst v') w') : wpList P ops Q (o :: rest) a (w.alloc (.cells #[.int .i64 y] 3)) := by
  refine wpList_append_own _ hgd s x t ho B 3 i (.int .i64 0) 1 8 ht hi hz hsz hby rfl (by decide) v xs.length (xs.map (Value.int .i64)) hs (World.ownsRow.alloc h _) ⟨w.heap.size, 0, none⟩ 1 1 [.int .i64 y] hx rfl (cell_one_at _ _ _ rfl) (fun u hu => by simp at hu; subst hu; rfl) (by unfold maxLen; omega) (by omega) (by simp; omega) ?_
  intro v' w' hown hg _
  refine hK v' w' ?_ ⟨hg.os, hg.tape, hg.output, by have := hg.size; simp at this; omega, fun j hj hn => (hg.block j (by simp; omega) hn).trans (Below.heap_alloc _ _ _ hj)⟩
  unfold RW
  rw [List.length_append, List.map_append]
  exact hown

/-- append(out, row). -/
theorem wpList_append_row {P : Program} (w : World) {ops : Array Oper} {rest : List Oper} {o : Oper} {a : Act} {Q : Exit → Act → World → Prop} (hgd : o.guard = none) (s x : Operand) (t : TypeId)
    (ho : o.op = .call { callee := .builtin .append, args := #[s, x], argTypes := #[t, t] }) (B B' : Nat) (i : TypeInfo) (ht : P.underlying t = some (.slice 32)) (hi : P.info? 32 = some i) (hz : i.zero = some (.slice none 0 0)) (hsz : i.size = 1) (hby : i.bytes = 24)
    (v : Value) (l : List (List Int)) (A : Nat → Option Addr) (C : Nat → Nat) (hs : a.eval s = v) (h : BD B w v l A C) (g cp m : Nat) (y : List Int) (hy : y.length = m) (h0 : 0 < m) (hr : RW B' w (.slice (some ⟨g, 0, none⟩) m cp) y) (hfresh : ∀ r, r < l.length → A r ≠ some ⟨g, 0, none⟩)
    (hBB : B ≤ B') (hx : a.eval x = .slice (some ⟨w.heap.size, 0, none⟩) 1 1) (hlen : l.length ≤ 1000) (hB : B ≤ w.heap.size)
    (hK : ∀ v' w' A' C', BD B w' v' (l ++ [y]) A' C' → w.grownBy w' v.ownBlock → wpList P ops Q rest (a.put o.dst v') w') : wpList P ops Q (o :: rest) a (w.alloc (.cells #[.slice (some ⟨g, 0, none⟩) m cp] 32)) := by
  subst hy
  refine wpList_append_own _ hgd s x t ho B 32 i (.slice none 0 0) 1 24 ht hi hz hsz hby rfl (by decide) v l.length _ hs (h.own.alloc _) ⟨w.heap.size, 0, none⟩ 1 1 [.slice (some ⟨g, 0, none⟩) y.length cp] hx rfl (cell_one_at _ _ _ rfl) (fun u hu => by simp at hu; subst hu; rfl) (by unfold maxLen; omega) (by omega) (by simp; omega) ?_
  intro v' w' hown hg _
  refine hK v' w' _ _ (h.push h0 (hr.base hBB) hfresh hown hg) ⟨hg.os, hg.tape, hg.output, by have := hg.size; simp at this; omega, fun j hj hn => (hg.block j (by simp; omega) hn).trans (Below.heap_alloc _ _ _ hj)⟩

end Go.Proofs.Ytpoabeniejmpkaa
end

section
/- The contract of spec.l91Table. -/
namespace Go.Proofs.Ytpoabeniejmpkaa
open Go.RowKit Go.Deep

theorem RW.set' {B : Nat} {w : World} {g cap k m : Nat} {x : List Int} (hm : x.length = m) (h : RW B w (.slice (some ⟨g, 0, none⟩) m cap) x) (hk : k < m) (y : Int) : RW B (w.setCell ⟨g, k, none⟩ (.int .i64 y)) (.slice (some ⟨g, 0, none⟩) m cap) (x.set k y) := by
  subst hm; exact h.set hk y
theorem RW.rowB {B : Nat} {w : World} {g k cap : Nat} {x : List Int} (h : RW B w (.slice (some ⟨g, 0, none⟩) k cap) x) (h0 : 0 < x.length) : B ≤ g ∧ RowB w g x := by
  obtain ⟨g', cap', e, h1, h2⟩ := h.form h0
  injection e with e
  injection e with e
  injection e with e
  subst e
  exact ⟨h1, h2⟩
theorem grown_set_any (w : World) (g k : Nat) (v : Value) : w.grownBy (w.setCell ⟨g, k, none⟩ v) (some g) := ⟨rfl, rfl, rfl, by simp, fun i _ hi => Below.heap_setCell _ _ _ _ (fun e => hi (by rw [e]))⟩
theorem grown_undrew' {W w' : World} {row : Option Nat} (h : W.drew.grownBy w' row) : W.grownBy w' row := ⟨h.os, h.tape, h.output, h.size, h.block⟩
theorem lens_snoc {l : List (List Int)} {x : List Int} {r m : Nat} (hl : l.length = r) (h : ∀ j, j < r → (l.getD j []).length = m) (hx : x.length = m) : ∀ j, j < r + 1 → ((l ++ [x]).getD j []).length = m := by
  intro j hj
  by_cases e : j = r
  · subst e; subst hl; simpa [List.getD] using hx
  · rw [show (l ++ [x]).getD j [] = l.getD j [] by simp [List.getD, List.getElem?_append_left (show j < l.length by omega)]]
    exact h j (by omega)

set_option maxRecDepth 100000 in
set_option maxHeartbeats 8000000 in
theorem l91Table_any (w0 w : World) (G nb c p n m : Nat) (a : Option Addr) (h : RD w0 w G a nb c 76 p) (hn : n ≤ 10) (hm1 : 1 ≤ m) (hm : m ≤ 10) (hp : p ≤ 50000) :
    Calls Try.prog 85 #[.pointer (some ⟨G, 0, none⟩), .int .i64 n, .int .i64 m] w fun e w' => ∃ v l A C p', e = .returned v ∧ l.length = n ∧ (∀ j, j < n → (l.getD j []).length = m) ∧ w.grownBy w' (some G) ∧ RD w0 w' G a nb c 76 p' ∧ p' ≤ p + 500 ∧ BD w.heap.size w' v l A C := by
  obtain ⟨i42, hi42⟩ := info42_parts
  obtain ⟨i3, hi3⟩ := info3_parts
  have HI := Lib.hid hi42
  have HJ := Lib.hid hi3
  have hG := h.lt
  have HRD := Lib.hid h
  clear h hi42 hi3
  go_enter Try.func85, Try.ntmps85
  go_wp2_with fail
  refine (pick_any w0 _ G nb c _ a _ (HRD.out.grown (World.grownBy_alloc w _ none) (fun k e => by cases e)) (by omega)).mono ?_
  rintro e w1 ⟨κ, rfl, hκ, hg, hd⟩
  have hk : κ = 0 ∨ κ = 1 ∨ κ = 2 ∨ κ = 3 := by omega
  have HST := Lib.hid ((BD.start w (fun _ => none) (fun _ => 0) (Nat.le_refl _)).kept hg hG)
  have HG1 := Lib.hid (grown_trans (World.grownBy_alloc w _ _) hg)
  have HD1 := Lib.hid hd
  clear hg hd hκ HRD
  go_wp2
  go_loopg [7, 9, 10, 11, 12, 13] n (fun g v i _ _ _ _ wr => ∃ r A C p' l, r ≤ n ∧ g = n - r ∧ i = .int .i64 (r : Nat) ∧ List.length l = r ∧ (∀ j, j < r → (List.getD l j []).length = m) ∧ w.grownBy wr (some G) ∧ RD w0 wr G a nb c 76 p' ∧ p' ≤ p + 1 + 40 * r ∧ BD w.heap.size wr v l A C)
  case atStart => exact ⟨0, _, _, _, [], Nat.zero_le _, rfl, rfl, rfl, fun j hj => by omega, HG1.out, HD1.out, by omega, HST.out⟩
  case round =>
    obtain ⟨r, A, C, p', l, hr, rfl, rfl, hl, hlm, hgw, hd, hp', hB⟩ := hrel
    clear HST HG1 HD1
    by_cases hlt : r < n
    · have HB := Lib.hid hB
      have HGW := Lib.hid hgw
      have HD := Lib.hid hd
      have hzw := hgw.size
      obtain ⟨wo, hwo⟩ : ∃ wo : World, wo = wr := ⟨_, rfl⟩
      clear hB hgw hd
      go_wp2
      subst hwo
      go_loopg [10, 11, 12] m (fun g v k _ wi => ∃ q x p'', q ≤ m ∧ g = m - q ∧ k = .int .i64 (q : Nat) ∧ List.length x = q ∧ wo.grownBy wi (some G) ∧ RD w0 wi G a nb c 76 p'' ∧ p'' ≤ p' + 2 * q ∧ RW wo.heap.size wi v x)
      case atStart => exact ⟨0, [], p', Nat.zero_le _, rfl, rfl, rfl, World.grownBy_alloc _ _ _, HD.out.grown (World.grownBy_alloc _ _ none) (fun k e => by cases e), by omega, World.ownsRow_made wo #[] 0 (Nat.le_refl _) (Nat.zero_le _) rfl⟩
      case round =>
        obtain ⟨q, x, p'', hq, rfl, rfl, hxl, hgi, hdi, hp'', hW⟩ := hrel
        clear HD
        have HD := Lib.hid hdi
        have HG := Lib.hid hgi
        have HW := Lib.hid hW
        have hz1 := hgi.size
        clear hdi hgi hW
        by_cases hlq : q < m
        · rcases hk with rfl | rfl | rfl | rfl
          all_goals
            go_wp2_with (first
              | (go_at_call 56; refine (pick_any w0 _ G nb c _ a _ HD.out (by omega)).mono ?_; rintro e w2 ⟨y, rfl, _, hg, hd⟩; have HW := Lib.hid (HW.out.kept hg (by omega)); have HG := Lib.hid (grown_trans HG.out hg); have HD := Lib.hid hd; have hz2 := HG.out.size; clear hd hg)
              | (at_builtin; (refine wpList_append_int _ rfl (.tmp 42) (.tmp 44) 32 rfl wo.heap.size i3 Try.underlying32 HJ.out.1 HJ.out.2.1 HJ.out.2.2.1 HJ.out.2.2.2 _ x rfl HW.out _ rfl (by omega) (by omega) ?_); intro v' w3 hrw hgr; have hge := fun i e => (World.ownsRow.lt HW.out i e).1; have HD := Lib.hid (HD.out.grown hgr (fun i e => by have := hge i e; omega)); have HG := Lib.hid (grown_new HG.out hgr hge); have HW := Lib.hid hrw; clear hgr hrw hge))
            go_roundg (m - (q + 1))
            case measure => omega
            case rel => exact ⟨q + 1, x ++ [_], _, by omega, rfl, by go_num, by rw [List.length_append, hxl]; rfl, HG.out, HD.out, by omega, HW.out⟩
        · have hqm : m = q := by omega
          subst hqm
          obtain ⟨g1, cp1, hv, hge, hrb⟩ := HW.out.form (by omega)
          rw [hxl] at hv
          subst hv
          clear hrb
          rcases hk with rfl | rfl | rfl | rfl
          · go_wp2_with (first
              | (at_builtin; (refine wpList_append_row _ rfl (.tmp 77) (.tmp 79) 23 rfl w.heap.size wo.heap.size i42 Try.underlying23 HI.out.1 HI.out.2.1 HI.out.2.2.1 HI.out.2.2.2 _ l A C rfl (HB.out.kept HG.out hG) g1 cp1 m x hxl (by omega) HW.out (HB.out.fresh rfl hge) hzw rfl (by omega) (by omega) ?_); intro v' w3 A' C' hbd hgr; have hbge := fun i e => (World.ownsRow.lt (HB.out.kept HG.out hG).own i e).1; have HD := Lib.hid (HD.out.grown hgr (fun i e => by have := hbge i e; omega)); have HGG := Lib.hid (grown_new (grown_trans HGW.out HG.out) hgr hbge); have HBD := Lib.hid hbd; clear hgr hbd hbge))
            go_roundg (n - (r + 1))
            case measure => omega
            case rel => exact ⟨r + 1, A', C', _, l ++ [x], by omega, rfl, by go_num, by rw [List.length_append, hl]; rfl, lens_snoc hl hlm hxl, HGG.out, HD.out, by omega, HBD.out⟩
          · go_wp2_with (first
              | (at_builtin; (refine wpList_append_row _ rfl (.tmp 77) (.tmp 79) 23 rfl w.heap.size wo.heap.size i42 Try.underlying23 HI.out.1 HI.out.2.1 HI.out.2.2.1 HI.out.2.2.2 _ l A C rfl (HB.out.kept HG.out hG) g1 cp1 m x hxl (by omega) HW.out (HB.out.fresh rfl hge) hzw rfl (by omega) (by omega) ?_); intro v' w3 A' C' hbd hgr; have hbge := fun i e => (World.ownsRow.lt (HB.out.kept HG.out hG).own i e).1; have HD := Lib.hid (HD.out.grown hgr (fun i e => by have := hbge i e; omega)); have HGG := Lib.hid (grown_new (grown_trans HGW.out HG.out) hgr hbge); have HBD := Lib.hid hbd; clear hgr hbd hbge))
            go_roundg (n - (r + 1))
            case measure => omega
            case rel => exact ⟨r + 1, A', C', _, l ++ [x], by omega, rfl, by go_num, by rw [List.length_append, hl]; rfl, lens_snoc hl hlm hxl, HGG.out, HD.out, by omega, HBD.out⟩
          · go_wp2_with (first
              | (at_builtin; (refine wpList_append_row _ rfl (.tmp 77) (.tmp 79) 23 rfl w.heap.size wo.heap.size i42 Try.underlying23 HI.out.1 HI.out.2.1 HI.out.2.2.1 HI.out.2.2.2 _ l A C rfl (HB.out.kept HG.out hG) g1 cp1 m x hxl (by omega) HW.out (HB.out.fresh rfl hge) hzw rfl (by omega) (by omega) ?_); intro v' w3 A' C' hbd hgr; have hbge := fun i e => (World.ownsRow.lt (HB.out.kept HG.out hG).own i e).1; have HD := Lib.hid (HD.out.grown hgr (fun i e => by have := hbge i e; omega)); have HGG := Lib.hid (grown_new (grown_trans HGW.out HG.out) hgr hbge); have HBD := Lib.hid hbd; clear hgr hbd hbge))
            go_roundg (n - (r + 1))
            case measure => omega
            case rel => exact ⟨r + 1, A', C', _, l ++ [x], by omega, rfl, by go_num, by rw [List.length_append, hl]; rfl, lens_snoc hl hlm hxl, HGG.out, HD.out, by omega, HBD.out⟩
          · by_cases hr0 : r = 0
            · have hr0' : decide ((0 : Int) < (r : Int)) = false := by simp; omega
              go_wp2_with (first
                | (at_builtin; (refine wpList_append_row _ rfl (.tmp 77) (.tmp 79) 23 rfl w.heap.size wo.heap.size i42 Try.underlying23 HI.out.1 HI.out.2.1 HI.out.2.2.1 HI.out.2.2.2 _ l A C rfl (HB.out.kept HG.out hG) g1 cp1 m x hxl (by omega) HW.out (HB.out.fresh rfl hge) hzw rfl (by omega) (by omega) ?_); intro v' w3 A' C' hbd hgr; have hbge := fun i e => (World.ownsRow.lt (HB.out.kept HG.out hG).own i e).1; have HD := Lib.hid (HD.out.grown hgr (fun i e => by have := hbge i e; omega)); have HGG := Lib.hid (grown_new (grown_trans HGW.out HG.out) hgr hbge); have HBD := Lib.hid hbd; clear hgr hbd hbge))
              go_roundg (n - (r + 1))
              case measure => omega
              case rel => exact ⟨r + 1, A', C', _, l ++ [x], by omega, rfl, by go_num, by rw [List.length_append, hl]; rfl, lens_snoc hl hlm hxl, HGG.out, HD.out, by omega, HBD.out⟩
            · have hr0' : decide ((0 : Int) < (r : Int)) = true := by simp; omega
              go_wp2_with fail
              refine (pick_any w0 _ G nb c _ a _ HD.out (by omega)).mono ?_
              rintro e w2 ⟨y, rfl, hy3, hg, hd⟩
              have HW := Lib.hid (HW.out.kept hg (by omega))
              have HG := Lib.hid (grown_trans HG.out hg)
              have HD := Lib.hid hd
              have hz2 := HG.out.size
              clear hd hg
              by_cases hy0 : y = 0
              · subst hy0
                obtain ⟨s, hs⟩ : ∃ s, r = s + 1 := ⟨r - 1, by omega⟩
                have hr1 : IntKind.i64.wrap ((r : Int) - 1) = (s : Int) := by rw [show (r : Int) - 1 = s by omega]; exact IntWalk.i64_in _ ⟨by omega, by omega⟩
                have hsr : s < r := by omega
                have HSS := Lib.hid hs
                clear hs
                obtain ⟨bb, cpp, cur, hv, hbb, hcur, hc⟩ := HB.out.top (by omega)
                rw [hl] at hv
                subst hv
                have ct := hc s (by omega)
                obtain ⟨g2, hA, hg2, hrb⟩ := HB.out.row (r := s) (by omega)
                rw [hlm s hsr, hA] at ct
                have t1 : wo.cell? ⟨bb, s, none⟩ = some (.slice (some ⟨g2, 0, none⟩) m (C s)) := by simp [World.cell?, hcur, ct]
                have lb : bb < wo.heap.size := (Array.getElem?_eq_some_iff.1 hcur).1
                have lg : g2 < wo.heap.size := hrb.lt
                have HT1 := Lib.hid t1
                have HRB := Lib.hid hrb
                have HA := Lib.hid hA
                have hls := hlm s hsr
                clear t1 hcur hc ct hrb hA
                go_wp2
                go_loopg [13] m (fun g k wi => ∃ q x p'', q ≤ m ∧ g = m - q ∧ k = .int .i64 (q : Nat) ∧ List.length x = m ∧ wo.grownBy wi (some G) ∧ RD w0 wi G a nb c 76 p'' ∧ p'' ≤ p' + 2 * m + 1 + q ∧ RW wo.heap.size wi (.slice (some ⟨g1, 0, none⟩) m cp1) x)
                case atStart => exact ⟨0, x, _, Nat.zero_le _, rfl, rfl, hxl, HG.out, HD.out, by omega, HW.out⟩
                case round =>
                  obtain ⟨q, x, p'', hq, rfl, rfl, hxl, hgi, hdi, hp'', hW⟩ := hrel
                  clear HD HG HW
                  have HD := Lib.hid hdi
                  have HG := Lib.hid hgi
                  have HW := Lib.hid hW
                  have hz1 := hgi.size
                  clear hdi hgi hW
                  by_cases hlq : q < m
                  · obtain ⟨z, hz⟩ : ∃ z, z = (l.getD s []).getD q 0 := ⟨_, rfl⟩
                    have q2 := HRB.out.cell (i := q) (by rw [hls]; exact hlq)
                    rw [← hz] at q2
                    have d1 := cell_grown HT1.out HG.out (show bb ≠ G by omega)
                    have d0 := cell_grown q2 HG.out (show g2 ≠ G by omega)
                    obtain ⟨hge2, hrw⟩ := HW.out.rowB (by omega)
                    have s1 := hrw.cell (i := q) (by omega)
                    have s2 := hrw.frozen q
                    clear q2 hz hrw
                    go_wp2
                    go_region_held3 (fun w' => w'.cell? ⟨bb, s, none⟩ = some (.slice (some ⟨g2, 0, none⟩) m (C s)) ∧ w'.cell? ⟨g2, q, none⟩ = some (.int .i64 z))
                      (first | exact ⟨d1, d0⟩ | exact ⟨q1, q0⟩ | exact ⟨cell_set_far q1 (by show bb ≠ g1; omega), cell_set_far q0 (by show g2 ≠ g1; omega)⟩)
                      (first
                        | (go_at_call 56; refine (pick_any w0 _ G nb c _ a _ (HD.out.later (World.Since.refl _ _).drew) (by omega)).mono ?_; rintro e w3 ⟨y3, rfl, _, hg, hd⟩; have hg := grown_undrew' hg; have HW := Lib.hid (HW.out.kept hg (by omega)); have HG := Lib.hid (grown_trans HG.out hg); have HD := Lib.hid hd; have q1 := cell_grown d1 hg (show bb ≠ G by omega); have q0 := cell_grown d0 hg (show g2 ≠ G by omega); have k1 := cell_grown s1 hg (show g1 ≠ G by omega); have k2 : w3.frozen? ⟨g1, q, none⟩ = false := (World.frozen?_of_block (hg.block g1 (World.block_lt_of_cell? _ _ s1) (fun e => by injection e with e; omega))).trans s2; clear hg hd))
                    clear d1 d0 q1 q0 k1 k2 s1 s2
                    go_wp2
                    go_roundg (m - (q + 1))
                    case measure => omega
                    case rel => exact ⟨q + 1, x.set q _, _, by omega, rfl, by go_num, by rw [List.length_set]; exact hxl, grown_set HG.out hge2 _, HD.out.grown (row := some g1) (grown_set_any _ _ _ _) (fun i e => by cases e; omega), by omega, RW.set' hxl HW.out hlq _⟩
                  · have hqm : m = q := by omega
                    subst hqm
                    go_wp2_with (first
                      | (at_builtin; (refine wpList_append_row _ rfl (.tmp 77) (.tmp 79) 23 rfl w.heap.size wo.heap.size i42 Try.underlying23 HI.out.1 HI.out.2.1 HI.out.2.2.1 HI.out.2.2.2 _ l A C rfl (HB.out.kept HG.out hG) g1 cp1 m x hxl (by omega) HW.out (HB.out.fresh rfl hge) hzw rfl (by omega) (by omega) ?_); intro v' w3 A' C' hbd hgr; have hbge := fun i e => (World.ownsRow.lt (HB.out.kept HG.out hG).own i e).1; have HD := Lib.hid (HD.out.grown hgr (fun i e => by have := hbge i e; omega)); have HGG := Lib.hid (grown_new (grown_trans HGW.out HG.out) hgr hbge); have HBD := Lib.hid hbd; clear hgr hbd hbge))
                    go_roundg (n - (r + 1))
                    case measure => omega
                    case rel => exact ⟨r + 1, A', C', _, l ++ [x], by omega, rfl, by go_num, by rw [List.length_append, hl]; rfl, lens_snoc hl hlm hxl, HGG.out, HD.out, by omega, HBD.out⟩
              · have hy0' : ((y : Int) == 0) = false := by simp; omega
                go_wp2_with (first
                  | (at_builtin; (refine wpList_append_row _ rfl (.tmp 77) (.tmp 79) 23 rfl w.heap.size wo.heap.size i42 Try.underlying23 HI.out.1 HI.out.2.1 HI.out.2.2.1 HI.out.2.2.2 _ l A C rfl (HB.out.kept HG.out hG) g1 cp1 m x hxl (by omega) HW.out (HB.out.fresh rfl hge) hzw rfl (by omega) (by omega) ?_); intro v' w3 A' C' hbd hgr; have hbge := fun i e => (World.ownsRow.lt (HB.out.kept HG.out hG).own i e).1; have HD := Lib.hid (HD.out.grown hgr (fun i e => by have := hbge i e; omega)); have HGG := Lib.hid (grown_new (grown_trans HGW.out HG.out) hgr hbge); have HBD := Lib.hid hbd; clear hgr hbd hbge))
                go_roundg (n - (r + 1))
                case measure => omega
                case rel => exact ⟨r + 1, A', C', _, l ++ [x], by omega, rfl, by go_num, by rw [List.length_append, hl]; rfl, lens_snoc hl hlm hxl, HGG.out, HD.out, by omega, HBD.out⟩
    · have : r = n := by omega
      subst this
      go_wp2
      go_ret
      exact ⟨_, l, A, C, p', rfl, hl, hlm, hgw, hd, by omega, hB⟩

end Go.Proofs.Ytpoabeniejmpkaa
end

section
/- A drawn table: how it is read, and how one of its cells or rows is replaced. -/
namespace Go.Proofs.Ytpoabeniejmpkaa
open Go.RowKit Go.Deep

theorem BD.inT {B : Nat} {w : World} {v : Value} {l : List (List Int)} {A : Nat → Option Addr} {C : Nat → Nat} (h : BD B w v l A C) : ∃ a cap, v = .slice a l.length cap ∧ InT B w.heap.size w a l := by
  by_cases h0 : 0 < l.length
  · obtain ⟨b, cap, cur, e, hb, hg, hc⟩ := h.top h0
    refine ⟨_, cap, e, fun _ => ⟨b, 0, A, fun r => ((A r).getD default).block, fun _ => 0, C, rfl, ⟨hb, (Array.getElem?_eq_some_iff.1 hg).1⟩, fun r hr => ⟨?_, fun h1 => ?_⟩⟩⟩
    · rw [Nat.zero_add]; simp [World.cell?, hg, hc r hr]
    · obtain ⟨g, e, hB, hw⟩ := h.row hr
      have e' : ((A r).getD default).block = g := by rw [e]; rfl
      dsimp only
      rw [e']
      exact ⟨e, ⟨hB, hw.lt⟩, fun i hi => by rw [Nat.zero_add]; exact hw.cell hi⟩
  · rcases h.own.2 with ⟨hv, hn⟩ | ⟨g, cap, cur, e, _⟩
    · exact ⟨none, 0, by rw [hv, hn], fun h => absurd h h0⟩
    · exact ⟨_, cap, e, fun h => absurd h h0⟩

theorem BD.row_ne {B : Nat} {w : World} {l : List (List Int)} {A : Nat → Option Addr} {C : Nat → Nat} {b cap n : Nat} (h : BD B w (.slice (some ⟨b, 0, none⟩) n cap) l A C) {g : Nat} {x : List Int} (hw : RowB w g x) : g ≠ b := by
  rintro rfl
  obtain ⟨cs, hc, _⟩ := hw
  rcases h.own.2 with ⟨e, _⟩ | ⟨g', cap', cur, e, _, hgg, _⟩
  · cases e
  · injection e with e
    injection e with e
    injection e with e
    rw [← e, hc] at hgg
    injection hgg with hgg
    injection hgg with _ e2 _
    exact absurd e2 (by decide)

theorem BD.addr_ne {B : Nat} {w : World} {v : Value} {l : List (List Int)} {A : Nat → Option Addr} {C : Nat → Nat} (h : BD B w v l A C) {r j g g' : Nat} (hr : r < l.length) (hj : j < l.length) (hA : A r = some ⟨g, 0, none⟩) (hA' : A j = some ⟨g', 0, none⟩) (hne : j ≠ r) : g' ≠ g := by
  rintro rfl
  exact hne (h.apart j r hj hr (by rw [hA, hA']))

theorem BD.cellTop {B : Nat} {w : World} {l : List (List Int)} {A : Nat → Option Addr} {C : Nat → Nat} {b cap n : Nat} (h : BD B w (.slice (some ⟨b, 0, none⟩) n cap) l A C) {r : Nat} (hr : r < l.length) :
    w.cell? ⟨b, r, none⟩ = some (.slice (A r) (l.getD r []).length (C r)) ∧ w.frozen? ⟨b, r, none⟩ = false ∧ b < w.heap.size := by
  obtain ⟨b', cp', cur, hv, _, hcur, hc⟩ := h.top (by omega)
  injection hv with hv _ _
  injection hv with hv
  injection hv with hv
  subst hv
  exact ⟨by simp [World.cell?, hcur, hc r hr], by simp [World.frozen?, hcur], (Array.getElem?_eq_some_iff.1 hcur).1⟩

/-- A row is replaced. -/
theorem BD.setRow {B : Nat} {w w5 : World} {l : List (List Int)} {A : Nat → Option Addr} {C : Nat → Nat} {b cap n : Nat} (h : BD B w (.slice (some ⟨b, 0, none⟩) n cap) l A C) {r g : Nat} (hr : r < l.length) (hA : A r = some ⟨g, 0, none⟩) (hg : w.grownBy w5 (some g)) {g2 cp k : Nat} {y : List Int}
    (hy : RW B w5 (.slice (some ⟨g2, 0, none⟩) k cp) y) (hk : y.length = k) (h0 : 0 < k) : InT B w5.heap.size (w5.setCell ⟨b, r, none⟩ (.slice (some ⟨g2, 0, none⟩) k cp)) (some ⟨b, 0, none⟩) (l.set r y) := by
  subst hk
  obtain ⟨b', cap', cur, e, hb, hcur, hc⟩ := h.top (by omega)
  injection e with e en _
  injection e with e
  injection e with e
  subst e
  obtain ⟨g', hA', hBg, hrb⟩ := h.row hr
  rw [hA] at hA'
  injection hA' with hA'
  injection hA' with hA'
  subst hA'
  have hgb := h.row_ne hrb
  have hbl : b < w.heap.size := (Array.getElem?_eq_some_iff.1 hcur).1
  have hcur5 : w5.heap[b]? = some (.cells cur 32 (0, 0)) := (hg.block b hbl (fun e => by injection e with e; omega)).trans hcur
  obtain ⟨hB2, hrb2⟩ := hy.rowB h0
  have hg2b : g2 ≠ b := by
    rintro rfl
    obtain ⟨cs, h1, _⟩ := hrb2
    rw [h1] at hcur5
    injection hcur5 with h2
    injection h2 with _ h2 _
    exact absurd h2 (by decide)
  have hbl5 : b < w5.heap.size := (Array.getElem?_eq_some_iff.1 hcur5).1
  intro _
  refine ⟨b, 0, fun j => if j = r then some ⟨g2, 0, none⟩ else A j, fun j => if j = r then g2 else ((A j).getD default).block, fun _ => 0, fun j => if j = r then cp else C j, rfl, ⟨hb, hbl5⟩, fun j hj => ?_⟩
  rw [List.length_set] at hj
  show (w5.setCell ⟨b, r, none⟩ _).cell? ⟨b, 0 + j, none⟩ = _ ∧ _
  rw [Nat.zero_add]
  by_cases ej : j = r
  · subst ej
    have e1 : (l.set j y).getD j [] = y := by simp [List.getD, hj]
    rw [e1]
    simp only [↓reduceIte]
    refine ⟨World.cell?_setCell_same' _ _ _ (by simp [World.cell?, hcur5, hc j hj]), fun _ => ⟨trivial, ⟨hB2, hrb2.lt⟩, fun i hi => ?_⟩⟩
    rw [Nat.zero_add]
    exact cell_set_far (hrb2.cell hi) hg2b
  · have e1 : (l.set r y).getD j [] = l.getD j [] := by simp [List.getD, List.getElem?_set_ne (Ne.symm ej)]
    rw [e1]
    simp only [if_neg ej]
    obtain ⟨gj, hAj, hBj, hrbj⟩ := h.row hj
    have hgj := h.addr_ne hr hj hA hAj ej
    have hrb5 : RowB w5 gj (l.getD j []) := hrbj.of_block (hg.block gj hrbj.lt (fun e => by injection e with e; omega))
    have hgjb := h.row_ne hrbj
    refine ⟨?_, fun _ => ?_⟩
    · rw [World.cell?_setCell_other _ _ _ _ (fun e => ej (by injection e with _ e; exact e.symm))]
      simp [World.cell?, hcur5, hc j hj]
    · have e' : ((A j).getD default).block = gj := by rw [hAj]; rfl
      rw [e']
      exact ⟨hAj, ⟨hBj, hrb5.lt⟩, fun i hi => by rw [Nat.zero_add]; exact cell_set_far (hrb5.cell hi) hgjb⟩

/-- A number is replaced. -/
theorem BD.setNum {B : Nat} {w : World} {l : List (List Int)} {A : Nat → Option Addr} {C : Nat → Nat} {b cap n : Nat} (h : BD B w (.slice (some ⟨b, 0, none⟩) n cap) l A C) {r g k : Nat} (hr : r < l.length) (hA : A r = some ⟨g, 0, none⟩) (hk : k < (l.getD r []).length) (z : Int) :
    InT B w.heap.size (w.setCell ⟨g, k, none⟩ (.int .i64 z)) (some ⟨b, 0, none⟩) (l.set r ((l.getD r []).set k z)) := by
  obtain ⟨b', cap', cur, e, hb, hcur, hc⟩ := h.top (by omega)
  injection e with e en _
  injection e with e
  injection e with e
  subst e
  obtain ⟨g', hA', hBg, hrb⟩ := h.row hr
  rw [hA] at hA'
  injection hA' with hA'
  injection hA' with hA'
  subst hA'
  have hgb := h.row_ne hrb
  intro _
  refine ⟨b, 0, A, fun j => ((A j).getD default).block, fun _ => 0, C, rfl, ⟨hb, (Array.getElem?_eq_some_iff.1 hcur).1⟩, fun j hj => ?_⟩
  rw [List.length_set] at hj
  show (w.setCell ⟨g, k, none⟩ _).cell? ⟨b, 0 + j, none⟩ = _ ∧ _
  rw [Nat.zero_add]
  have hlen : ((l.set r ((l.getD r []).set k z)).getD j []).length = (l.getD j []).length := by
    by_cases ej : j = r
    · subst ej; simp [List.getD, hj]
    · simp [List.getD, List.getElem?_set_ne (Ne.symm ej)]
  rw [hlen]
  refine ⟨cell_set_far (by simp [World.cell?, hcur, hc j hj]) (Ne.symm hgb), fun _ => ?_⟩
  obtain ⟨gj, hAj, hBj, hrbj⟩ := h.row hj
  have e' : ((A j).getD default).block = gj := by rw [hAj]; rfl
  dsimp only
  rw [e']
  refine ⟨hAj, ⟨hBj, hrbj.lt⟩, fun i hi => ?_⟩
  rw [Nat.zero_add]
  by_cases ej : j = r
  · subst ej
    rw [hA] at hAj
    injection hAj with hAj
    injection hAj with hAj
    subst hAj
    have e1 : (l.set j ((l.getD j []).set k z)).getD j [] = (l.getD j []).set k z := by simp [List.getD, hj]
    rw [e1]
    by_cases ei : i = k
    · subst ei
      rw [World.cell?_setCell_same' _ _ _ (by rw [hrbj.cell hi]; rfl)]
      simp [List.getD] at hi ⊢
      simp [hi]
    · rw [World.cell?_setCell_other _ _ _ _ (fun e => ei (by injection e with _ e; exact e.symm)), hrbj.cell hi]
      simp [List.getD, List.getElem?_set_ne (Ne.symm ei)]
  · have hgj := h.addr_ne hr hj hA hAj ej
    have e1 : (l.set r ((l.getD r []).set k z)).getD j [] = l.getD j [] := by simp [List.getD, List.getElem?_set_ne (Ne.symm ej)]
    rw [e1]
    exact cell_set_far (hrbj.cell hi) hgj

/-- What the reader does leaves a drawn table. -/
theorem InT.kept {lo hi : Nat} {w w' : World} {a : Option Addr} {l : List (List Int)} {G : Nat} (h : InT lo hi w a l) (hg : w.grownBy w' (some G)) (hG : G < lo) : InT lo hi w' a l :=
  h.frame (lo' := G) (hi' := G + 1) ⟨hg.os, hg.tape, hg.output, hg.size, fun k hk ho => hg.block k hk (fun e => by injection e with e; omega)⟩ (.inr (by omega))

end Go.Proofs.Ytpoabeniejmpkaa
end

section
/- The contract of spec.l91Some. -/
namespace Go.Proofs.Ytpoabeniejmpkaa
open Go.RowKit Go.Deep

/-- A table that a call has drawn: at least one row, no row empty. -/
def Drawn0 (w w' : World) (R K : Nat) (a : Option Addr) (l : List (List Int)) : Prop :=
  1 ≤ l.length ∧ l.length ≤ R ∧ (∀ j, j < l.length → 1 ≤ (l.getD j []).length ∧ (l.getD j []).length ≤ K + 1) ∧ InT w.heap.size w'.heap.size w' a l

theorem lens_set {l : List (List Int)} {r : Nat} {y : List Int} {n m K : Nat} (hl : l.length = n) (h : ∀ j, j < n → (l.getD j []).length = m) (hm : 1 ≤ m ∧ m ≤ K) (hy : 1 ≤ y.length ∧ y.length ≤ K + 1) : ∀ j, j < (l.set r y).length → 1 ≤ ((l.set r y).getD j []).length ∧ ((l.set r y).getD j []).length ≤ K + 1 := by
  intro j hj
  rw [List.length_set] at hj
  by_cases e : j = r
  · subst e
    rw [show (l.set j y).getD j [] = y by simp [List.getD, hj]]
    exact hy
  · rw [show (l.set r y).getD j [] = l.getD j [] by simp [List.getD, List.getElem?_set_ne (Ne.symm e)], h j (by omega)]
    omega

set_option maxRecDepth 100000 in
set_option maxHeartbeats 4000000 in
theorem l91Some_any (w0 w : World) (G nb c p R K : Nat) (a : Option Addr) (h : RD w0 w G a nb c 76 p) (hR1 : 1 ≤ R) (hR : R ≤ 8) (hK1 : 1 ≤ K) (hK : K ≤ 8) (hp : p ≤ 40000) :
    Calls Try.prog 55 #[.pointer (some ⟨G, 0, none⟩), .int .i64 R, .int .i64 K] w fun e w' => ∃ a' cap l p', e = .returned (.slice a' l.length cap) ∧ w.grownBy w' (some G) ∧ RD w0 w' G a nb c 76 p' ∧ p' ≤ p + 600 ∧ Drawn0 w w' R K a' l := by
  obtain ⟨i3, hi3⟩ := info3_parts
  have HJ := Lib.hid hi3
  have hG := h.lt
  have HRD := Lib.hid h
  clear h hi3
  go_enter Try.func55, Try.ntmps55
  go_wp2_with fail
  refine (pick_any w0 _ G nb c _ a _ HRD.out (by omega)).mono ?_
  rintro e w1 ⟨y1, rfl, hy1, hg1, hd1⟩
  obtain ⟨n, hn, hnn⟩ : ∃ n : Nat, IntKind.i64.wrap (1 + (y1 : Int)) = n ∧ n = y1 + 1 := ⟨y1 + 1, (IntWalk.i64_in _ ⟨by omega, by omega⟩).trans (by omega), rfl⟩
  have hn1 : 1 ≤ n ∧ n ≤ R := by omega
  have HD1 := Lib.hid hd1
  have HG1 := Lib.hid hg1
  clear hd1 hg1 hnn hy1 HRD
  go_wp2_with fail
  refine (pick_any w0 _ G nb c _ a _ HD1.out (by omega)).mono ?_
  rintro e w2 ⟨y2, rfl, hy2, hg2, hd2⟩
  obtain ⟨m, hm, hmm⟩ : ∃ m : Nat, IntKind.i64.wrap (1 + (y2 : Int)) = m ∧ m = y2 + 1 := ⟨y2 + 1, (IntWalk.i64_in _ ⟨by omega, by omega⟩).trans (by omega), rfl⟩
  have hm1 : 1 ≤ m ∧ m ≤ K := by omega
  have HD2 := Lib.hid hd2
  have HG2 := Lib.hid (grown_trans HG1.out hg2)
  clear hd2 hg2 hmm hy2 HD1 HG1
  go_wp2_with fail
  refine (l91Table_any w0 _ G nb c _ n m a HD2.out (by omega) (by omega) (by omega) (by omega)).mono ?_
  rintro e w3 ⟨v, l, A, C, p3, rfl, hl, hlm, hg3, hd3, hp3, hB⟩
  obtain ⟨b, cp, cur, hv, hbb, hcur, hc⟩ := hB.top (by omega)
  rw [hl] at hv
  subst hv
  have hG2 := HG2.out.size
  have HD3 := Lib.hid hd3
  have HG3 := Lib.hid (grown_trans HG2.out hg3)
  have HB := Lib.hid hB
  clear hd3 hg3 hcur hc hB HD2
  go_wp2_with fail
  refine (pick_any w0 _ G nb c _ a _ HD3.out (by omega)).mono ?_
  rintro e w4 ⟨y4, rfl, hy4, hg4, hd4⟩
  have HG4 := Lib.hid (grown_trans HG3.out hg4)
  have HB4 := Lib.hid (HB.out.kept hg4 (by omega))
  have HD4 := Lib.hid hd4
  have hz4 := HG4.out.size
  clear hd4 hg4 HB HG3 HD3 hy4
  obtain ⟨g0, hA0, hg0, hrb0⟩ := HB4.out.row (r := 0) (by omega)
  by_cases hy0 : y4 = 0
  · subst hy0
    obtain ⟨t1, _, _⟩ := HB4.out.cellTop (r := 0) (by omega)
    rw [hlm 0 (by omega), hA0] at t1
    have t2 := hrb0.cell (i := 0) (by rw [hlm 0 (by omega)]; omega)
    have t3 := hrb0.frozen 0
    have hIT := HB4.out.setNum (r := 0) (k := 0) (by omega) hA0 (by rw [hlm 0 (by omega)]; omega) 31
    have hll : (l.set 0 ((l.getD 0 []).set 0 31)).length = n := by rw [List.length_set]; exact hl
    have hlens := lens_set (r := 0) (y := (l.getD 0 []).set 0 31) hl hlm hm1 (by rw [List.length_set, hlm 0 (by omega)]; omega)
    have HIT := Lib.hid hIT
    have HLL := Lib.hid hll
    have HLENS := Lib.hid hlens
    have HGS := Lib.hid (grown_set HG4.out (show w.heap.size ≤ g0 by omega) (k := 0) (.int .i64 31))
    have HDS := Lib.hid (HD4.out.grown (grown_set_any w4 g0 0 (.int .i64 31)) (fun i e => by cases e; omega))
    have p1 : 0 < n := by omega
    have p2 : 0 < m := by omega
    clear hrb0 hIT hll hlens hA0 hlm hl
    go_wp2
    go_ret
    exact ⟨_, _, l.set 0 ((l.getD 0 []).set 0 31), _, by rw [HLL.out]; rfl, HGS.out, HDS.out, by omega, by rw [HLL.out]; omega, by rw [HLL.out]; omega, HLENS.out, HIT.out.mono hG2 (by simp)⟩
  · clear hrb0 hA0 hg0
    by_cases hy1 : y4 = 1
    · subst hy1
      obtain ⟨s, hs⟩ : ∃ s, n = s + 1 := ⟨n - 1, by omega⟩
      have hr1 : IntKind.i64.wrap ((n : Int) - 1) = (s : Int) := by rw [show (n : Int) - 1 = s by omega]; exact IntWalk.i64_in _ ⟨by omega, by omega⟩
      have hsr : s < n := by omega
      clear hs
      obtain ⟨g1, hA, hg1, hrb⟩ := HB4.out.row (r := s) (by omega)
      obtain ⟨t1, t2, lb⟩ := HB4.out.cellTop (r := s) (by omega)
      have hRW := (HB4.out.rows s (by omega)).2
      have hls := hlm s hsr
      rw [hls, hA] at t1 hRW
      have hgb := HB4.out.row_ne hrb
      obtain ⟨x, hx⟩ : ∃ x, x = l.getD s [] := ⟨_, rfl⟩
      rw [← hx] at hRW hls
      have HRW := Lib.hid hRW
      have HA := Lib.hid hA
      have HL := Lib.hid hl
      have HLM := Lib.hid hlm
      have t1a := fun ob => cell_alloc_l ob t1
      clear hRW hrb hA hl hlm hx
      go_wp2_with (first
        | (at_builtin; (refine wpList_append_int _ rfl (.tmp 37) (.tmp 38) 32 rfl w2.heap.size i3 Try.underlying32 HJ.out.1 HJ.out.2.1 HJ.out.2.2.1 HJ.out.2.2.2 _ x rfl HRW.out 0 rfl (by omega) (by omega) ?_); intro v' w5 hrw hgr; have hgr : w4.grownBy w5 (some g1) := hgr; obtain ⟨g2, cp2, hv2, hg2b, hrb2⟩ := hrw.form (by simp); rw [show (x ++ [(0 : Int)]).length = m + 1 by rw [List.length_append, hls]; rfl] at hv2; subst hv2; have k1 := hgr.cell t1 (fun e => hgb (by injection e with e; exact e.symm)); have k2 : w5.frozen? ⟨b, s, none⟩ = false := (World.frozen?_of_block (hgr.block b lb (fun e => hgb (by injection e with e; exact e.symm)))).trans t2; have HRW2 := Lib.hid hrw; have HGR := Lib.hid hgr; clear hrw hgr hrb2))
      have hl2 : (x ++ [(0 : Int)]).length = m + 1 := by rw [List.length_append, hls]; rfl
      have hIT := HB4.out.setRow (r := s) (by rw [HL.out]; exact hsr) HA.out HGR.out HRW2.out hl2 (by omega)
      have hll : (l.set s (x ++ [0])).length = n := by rw [List.length_set]; exact HL.out
      have hlens := lens_set (r := s) (y := x ++ [0]) HL.out HLM.out hm1 (by rw [hl2]; omega)
      have hgs := grown_set (grown_new HG4.out HGR.out (fun i e => by cases e; omega)) (show w.heap.size ≤ b by omega) (k := s) (.slice (some ⟨g2, 0, none⟩) (m + 1) cp2)
      have hds := (HD4.out.grown HGR.out (fun i e => by cases e; omega)).grown (grown_set_any w5 b s (.slice (some ⟨g2, 0, none⟩) (m + 1) cp2)) (fun i e => by cases e; omega)
      go_ret
      exact ⟨_, _, l.set s (x ++ [0]), _, by rw [hll]; rfl, hgs, hds, by omega, by rw [hll]; omega, by rw [hll]; omega, hlens, hIT.mono hG2 (by simp)⟩
    · have h1 : ((y4 : Int) == 0) = false := by simp; omega
      have h2 : ((y4 : Int) == 1) = false := by simp; omega
      obtain ⟨a', cap', hv, hIT⟩ := HB4.out.inT
      rw [hl] at hv
      injection hv with hv _ _
      subst hv
      have HL := Lib.hid hl
      have HLM := Lib.hid hlm
      have HIT := Lib.hid hIT
      clear hl hlm hIT
      go_wp2
      go_ret
      exact ⟨_, _, l, _, by rw [HL.out]; rfl, HG4.out, HD4.out, by omega, by rw [HL.out]; omega, by rw [HL.out]; omega, fun j hj => by rw [HLM.out j (by rw [← HL.out]; exact hj)]; omega, HIT.out.mono hG2 (Nat.le_refl _)⟩

end Go.Proofs.Ytpoabeniejmpkaa
end

section
/- The contract of spec.l6Open, and of what draws one table. -/
namespace Go.Proofs.Ytpoabeniejmpkaa
open Go.RowKit Go.Deep

set_option maxHeartbeats 1000000 in
theorem l6Open_any (a : Option Addr) (nb cb : Nat) (w : World) (hc : nb ≤ cb) (h63 : cb ≤ 9223372036854775807) (hb : BytR w a nb) :
    Calls Try.prog 54 #[.slice a nb cb] w fun e w' => ∃ n' c', e = .returned (.pointer (some ⟨w.heap.size, 0, none⟩)) ∧ w.Since w.heap.size w' ∧ w'.heap.size = w.heap.size + 1 ∧ RD w w' w.heap.size a n' c' 76 0 := by
  by_cases hl : 2000 < nb
  · have hl' : decide ((2000 : Int) < (nb : Int)) = true := by simp; omega
    have h2 : (2000 : Int) ≤ (cb : Int) := by omega
    obtain ⟨b, o, rfl, hcell⟩ := hb (by omega)
    go_enter Try.func54, Try.ntmps54
    go_wp2
    go_ret
    exact ⟨_, _, rfl, (World.Since.refl _ _).alloc (Nat.le_refl _) _, by simp, ⟨heap_alloc_new _ _, Nat.le_refl _, (World.Since.refl _ _).alloc (Nat.le_refl _) _, fun _ => ⟨b, o, rfl, fun i hi => hcell i (by omega)⟩, by omega⟩⟩
  · have hl' : decide ((2000 : Int) < (nb : Int)) = false := by simp; omega
    go_enter Try.func54, Try.ntmps54
    go_wp2
    go_ret
    exact ⟨_, _, rfl, (World.Since.refl _ _).alloc (Nat.le_refl _) _, by simp, ⟨heap_alloc_new _ _, Nat.le_refl _, (World.Since.refl _ _).alloc (Nat.le_refl _) _, hb, by omega⟩⟩

/-- A call has drawn a table. -/
def DrawnT (w w' : World) (R K : Nat) (a : Option Addr) (l : List (List Int)) : Prop :=
  1 ≤ l.length ∧ l.length ≤ R ∧ (∀ j, j < l.length → 1 ≤ (l.getD j []).length ∧ (l.getD j []).length ≤ K + 1) ∧ InT w.heap.size w'.heap.size w' a l

set_option maxHeartbeats 1000000 in
theorem l91One_any (a : Option Addr) (nb cb : Nat) (w : World) (hc : nb ≤ cb) (h63 : cb ≤ 9223372036854775807) (hb : BytR w a nb) :
    Calls Try.prog 63 #[.slice a nb cb] w fun e w' => ∃ a' cap l, e = .returned (.slice a' l.length cap) ∧ w.Since w.heap.size w' ∧ DrawnT w w' 5 5 a' l := by
  have E := Lib.hid (l6Open_any a nb cb w hc h63 hb)
  clear hb
  go_enter Try.func63, Try.ntmps63
  go_wp2_with fail
  refine (E.out).mono ?_
  rintro e w1 ⟨n', c', rfl, hs, hz, hd⟩
  have HD := Lib.hid hd
  clear hd
  go_wp2_with fail
  refine (l91Some_any w w1 w.heap.size n' c' 0 5 5 a HD.out (by omega) (by omega) (by omega) (by omega) (by omega)).mono ?_
  rintro e w2 ⟨a', cap', l, p', rfl, hg, hd2, hp, h1, h5, hl, hit⟩
  go_wp2
  go_ret
  exact ⟨a', cap', l, rfl, hs.trans (since_grown hg (Nat.le_refl _) hs.size), h1, h5, hl, hit.mono hs.size (Nat.le_refl _)⟩

end Go.Proofs.Ytpoabeniejmpkaa
end

section
/- The contracts of the functions that draw one table and numbers, and two tables. -/
namespace Go.Proofs.Ytpoabeniejmpkaa
open Go.RowKit Go.Deep

theorem results_four {fn : Func} {a b c d : Tmp} (h : fn.results = #[.tmp a, .tmp b, .tmp c, .tmp d]) (tmps : Array Value) (P : Program) (w : World) :
    (results fn tmps).run P w = .ok (.tuple #[tmps.getD a undef, tmps.getD b undef, tmps.getD c undef, tmps.getD d undef]) w := by
  simp [results, h]

set_option maxRecDepth 100000 in
set_option maxHeartbeats 2000000 in
theorem drawSwap_any (a : Option Addr) (nb cb : Nat) (w : World) (hc : nb ≤ cb) (h63 : cb ≤ 9223372036854775807) (hb : BytR w a nb) :
    Calls Try.prog 42 #[.slice a nb cb] w fun e w' => ∃ a' cap l, ∃ (x y : Int), e = .returned (.tuple #[.slice a' l.length cap, .int .i64 x, .int .i64 y]) ∧ w.Since w.heap.size w' ∧ DrawnT w w' 5 5 a' l := by
  have E := Lib.hid (l6Open_any a nb cb w hc h63 hb)
  clear hb
  go_enter Try.func42, Try.ntmps42
  go_wp2_with fail
  refine (E.out).mono ?_
  rintro e w1 ⟨n', c', rfl, hs, hz, hd⟩
  have HD0 := Lib.hid hd
  clear hd
  have hz1 : w.heap.size < w1.heap.size := by omega
  clear hz
  go_wp2_with fail
  refine (l91Some_any w w1 w.heap.size n' c' 0 5 5 a HD0.out (by omega) (by omega) (by omega) (by omega) (by omega)).mono ?_
  rintro e w2 ⟨a', cap', l, p', rfl, hg, hd2, hp, h1, h5, hl, hit⟩
  have HG0 := Lib.hid hg
  have HIT := Lib.hid hit
  have HL := Lib.hid hl
  have HD := Lib.hid hd2
  obtain ⟨nn, hnn⟩ : ∃ n, l.length = n := ⟨_, rfl⟩
  rw [hnn] at h1 h5 ⊢
  have HN := Lib.hid hnn
  clear hg hit hl hd2 hnn
  have HG := Lib.hid (World.grownBy_refl w2 (some w.heap.size))
  have hn0 : ((nn : Int) == 0) = false := by simp; omega
  go_wp2_with (first
    | (go_at_call 56; refine (pick_any w _ w.heap.size n' c' _ a _ HD.out (by omega)).mono ?_; rintro e wk ⟨y, rfl, hy, hg, hd⟩; have HG := Lib.hid (grown_trans HG.out hg); have HD := Lib.hid hd; clear hd hg))
  have hs2 : w.Since w.heap.size w2 := hs.trans (since_grown HG0.out (Nat.le_refl _) hs.size)
  have hs3 := hs2.trans (since_grown HG.out (Nat.le_refl _) hs2.size)
  go_ret3
  exact ⟨_, _, l, _, _, by rw [HN.out]; rfl, hs3, by rw [HN.out]; exact h1, by rw [HN.out]; exact h5, HL.out, (HIT.out.kept HG.out hz1).mono hs.size HG.out.size⟩

set_option maxRecDepth 100000 in
set_option maxHeartbeats 2000000 in
theorem drawAdd_any (a : Option Addr) (nb cb : Nat) (w : World) (hc : nb ≤ cb) (h63 : cb ≤ 9223372036854775807) (hb : BytR w a nb) :
    Calls Try.prog 30 #[.slice a nb cb] w fun e w' => ∃ a' cap l, ∃ (x y z : Int), e = .returned (.tuple #[.slice a' l.length cap, .int .i64 x, .int .i64 y, .int .i64 z]) ∧ w.Since w.heap.size w' ∧ DrawnT w w' 5 5 a' l := by
  have E := Lib.hid (l6Open_any a nb cb w hc h63 hb)
  clear hb
  go_enter Try.func30, Try.ntmps30
  go_wp2_with fail
  refine (E.out).mono ?_
  rintro e w1 ⟨n', c', rfl, hs, hz, hd⟩
  have HD0 := Lib.hid hd
  clear hd
  have hz1 : w.heap.size < w1.heap.size := by omega
  clear hz
  go_wp2_with fail
  refine (l91Some_any w w1 w.heap.size n' c' 0 5 5 a HD0.out (by omega) (by omega) (by omega) (by omega) (by omega)).mono ?_
  rintro e w2 ⟨a', cap', l, p', rfl, hg, hd2, hp, h1, h5, hl, hit⟩
  have HG0 := Lib.hid hg
  have HIT := Lib.hid hit
  have HL := Lib.hid hl
  have HD := Lib.hid hd2
  obtain ⟨nn, hnn⟩ : ∃ n, l.length = n := ⟨_, rfl⟩
  rw [hnn] at h1 h5 ⊢
  have HN := Lib.hid hnn
  clear hg hit hl hd2 hnn
  have HG := Lib.hid (World.grownBy_refl w2 (some w.heap.size))
  have hn0 : ((nn : Int) == 0) = false := by simp; omega
  go_wp2_with (first
    | (go_at_call 56; refine (pick_any w _ w.heap.size n' c' _ a _ HD.out (by omega)).mono ?_; rintro e wk ⟨y, rfl, hy, hg, hd⟩; have HG := Lib.hid (grown_trans HG.out hg); have HD := Lib.hid hd; clear hd hg))
  have hs2 : w.Since w.heap.size w2 := hs.trans (since_grown HG0.out (Nat.le_refl _) hs.size)
  have hs3 := hs2.trans (since_grown HG.out (Nat.le_refl _) hs2.size)
  (try simp only [Exit.inBlock, Exit.then]); refine bodyPost_ret (results_four rfl _ _ _) rfl ?_
  exact ⟨_, _, l, _, _, _, by rw [HN.out]; rfl, hs3, by rw [HN.out]; exact h1, by rw [HN.out]; exact h5, HL.out, (HIT.out.kept HG.out hz1).mono hs.size HG.out.size⟩

set_option maxRecDepth 100000 in
set_option maxHeartbeats 2000000 in
theorem drawTimes_any (a : Option Addr) (nb cb : Nat) (w : World) (hc : nb ≤ cb) (h63 : cb ≤ 9223372036854775807) (hb : BytR w a nb) :
    Calls Try.prog 40 #[.slice a nb cb] w fun e w' => ∃ a' cap l, ∃ (x : Int), e = .returned (.tuple #[.slice a' l.length cap, .int .i64 x]) ∧ w.Since w.heap.size w' ∧ DrawnT w w' 5 5 a' l := by
  have E := Lib.hid (l6Open_any a nb cb w hc h63 hb)
  clear hb
  go_enter Try.func40, Try.ntmps40
  go_wp2_with fail
  refine (E.out).mono ?_
  rintro e w1 ⟨n', c', rfl, hs, hz, hd⟩
  have HD0 := Lib.hid hd
  clear hd
  have hz1 : w.heap.size < w1.heap.size := by omega
  clear hz
  go_wp2_with fail
  refine (l91Some_any w w1 w.heap.size n' c' 0 5 5 a HD0.out (by omega) (by omega) (by omega) (by omega) (by omega)).mono ?_
  rintro e w2 ⟨a', cap', l, p', rfl, hg, hd2, hp, h1, h5, hl, hit⟩
  have HG0 := Lib.hid hg
  have HIT := Lib.hid hit
  have HL := Lib.hid hl
  have HD := Lib.hid hd2
  obtain ⟨nn, hnn⟩ : ∃ n, l.length = n := ⟨_, rfl⟩
  rw [hnn] at h1 h5 ⊢
  have HN := Lib.hid hnn
  clear hg hit hl hd2 hnn
  have HG := Lib.hid (World.grownBy_refl w2 (some w.heap.size))
  have hn0 : ((nn : Int) == 0) = false := by simp; omega
  go_wp2_with (first
    | (go_at_call 56; refine (pick_any w _ w.heap.size n' c' _ a _ HD.out (by omega)).mono ?_; rintro e wk ⟨y, rfl, hy, hg, hd⟩; have HG := Lib.hid (grown_trans HG.out hg); have HD := Lib.hid hd; clear hd hg))
  have hs2 : w.Since w.heap.size w2 := hs.trans (since_grown HG0.out (Nat.le_refl _) hs.size)
  have hs3 := hs2.trans (since_grown HG.out (Nat.le_refl _) hs2.size)
  go_ret2
  exact ⟨_, _, l, _, by rw [HN.out]; rfl, hs3, by rw [HN.out]; exact h1, by rw [HN.out]; exact h5, HL.out, (HIT.out.kept HG.out hz1).mono hs.size HG.out.size⟩

set_option maxRecDepth 100000 in
set_option maxHeartbeats 2000000 in
theorem drawBeside_any (a : Option Addr) (nb cb : Nat) (w : World) (hc : nb ≤ cb) (h63 : cb ≤ 9223372036854775807) (hb : BytR w a nb) :
    Calls Try.prog 27 #[.slice a nb cb] w fun e w' => ∃ a' cap l b' cap2 u, e = .returned (.tuple #[.slice a' l.length cap, .slice b' u.length cap2]) ∧ w.Since w.heap.size w' ∧ DrawnT w w' 3 3 a' l ∧ DrawnT w w' 4 3 b' u := by
  have E := Lib.hid (l6Open_any a nb cb w hc h63 hb)
  clear hb
  go_enter Try.func27, Try.ntmps27
  go_wp2_with fail
  refine (E.out).mono ?_
  rintro e w1 ⟨n', c', rfl, hs, hz, hd⟩
  have HD0 := Lib.hid hd
  clear hd
  have hz1 : w.heap.size < w1.heap.size := by omega
  clear hz
  go_wp2_with fail
  refine (l91Some_any w w1 w.heap.size n' c' 0 3 3 a HD0.out (by omega) (by omega) (by omega) (by omega) (by omega)).mono ?_
  rintro e w2 ⟨a', cap', l, p', rfl, hg, hd2, hp, h1, h5, hl, hit⟩
  have HG0 := Lib.hid hg
  have HIT := Lib.hid hit
  have HL := Lib.hid hl
  have HD := Lib.hid hd2
  obtain ⟨nn, hnn⟩ : ∃ n, l.length = n := ⟨_, rfl⟩
  rw [hnn] at h1 h5 ⊢
  have HN := Lib.hid hnn
  clear hg hit hl hd2 hnn
  go_wp2_with fail
  refine (l91Some_any w w2 w.heap.size n' c' p' 4 3 a HD.out (by omega) (by omega) (by omega) (by omega) (by omega)).mono ?_
  rintro e w2q ⟨aq', capq', lq, pq', rfl, hgq, hd2q, hpq, h1q, h5q, hlq, hitq⟩
  have HG0q := Lib.hid hgq
  have HITq := Lib.hid hitq
  have HLq := Lib.hid hlq
  have HDq := Lib.hid hd2q
  obtain ⟨nnq, hnnq⟩ : ∃ n, lq.length = n := ⟨_, rfl⟩
  rw [hnnq] at h1q h5q ⊢
  have HNq := Lib.hid hnnq
  clear hgq hitq hlq hd2q hnnq
  have hs2 : w.Since w.heap.size w2 := hs.trans (since_grown HG0.out (Nat.le_refl _) hs.size)
  have hs3 := hs2.trans (since_grown HG0q.out (Nat.le_refl _) hs2.size)
  go_wp2
  go_ret2
  exact ⟨_, _, l, _, _, lq, by rw [HN.out, HNq.out]; rfl, hs3, ⟨by rw [HN.out]; exact h1, by rw [HN.out]; exact h5, HL.out, (HIT.out.kept HG0q.out hz1).mono hs.size HG0q.out.size⟩, ⟨by rw [HNq.out]; exact h1q, by rw [HNq.out]; exact h5q, HLq.out, HITq.out.mono hs2.size (Nat.le_refl _)⟩⟩

end Go.Proofs.Ytpoabeniejmpkaa
end

section
/- A number of a table of one's own is stored into: for DrawTableSame. -/
namespace Go.Proofs.Ytpoabeniejmpkaa
open Go.RowKit Go.Deep

theorem grown_of_since' {w w' : World} {G : Nat} (h : w.Since w.heap.size w') : w.grownBy w' (some G) := ⟨h.os, h.tape, h.output, h.size, fun k hk _ => h.block k hk⟩
theorem grown_of_drew {w w' : World} {row : Option Nat} (h : w.drew.grownBy w' row) : w.grownBy w' row := ⟨h.os, h.tape, h.output, h.size, h.block⟩
theorem heap_cell {X Y : World} {b : Nat} (e : Y.heap[b]? = X.heap[b]?) (k : Nat) : Y.cell? ⟨b, k, none⟩ = X.cell? ⟨b, k, none⟩ ∧ Y.frozen? ⟨b, k, none⟩ = X.frozen? ⟨b, k, none⟩ := by
  constructor
  · simp only [World.cell?, e]
  · simp only [World.frozen?, e]
theorem OwnT.grown {lo hi G0 : Nat} {w W : World} {a : Option Addr} {l : List (List Int)} (h : OwnT lo hi w a l) (hg : w.grownBy W (some G0)) (h0 : G0 < lo) (hh : hi ≤ w.heap.size) : OwnT lo hi W a l := by
  intro hl
  obtain ⟨b, A, G, C, e, hb, hr, hd⟩ := h hl
  have kp : ∀ g, lo ≤ g → g < hi → W.heap[g]? = w.heap[g]? := fun g g1 g2 => hg.block g (by omega) (fun e => by injection e; omega)
  refine ⟨b, A, G, C, e, hb, fun r h1 => ?_, hd⟩
  obtain ⟨c1, c2⟩ := hr r h1
  refine ⟨(heap_cell (kp b hb.1 hb.2) r).1.trans c1, fun h2 => ?_⟩
  obtain ⟨d1, d2, d3⟩ := c2 h2
  exact ⟨d1, d2, fun i hi => ⟨(heap_cell (kp _ d2.1 d2.2.1) i).1.trans (d3 i hi).1, (heap_cell (kp _ d2.1 d2.2.1) i).2.trans (d3 i hi).2⟩⟩
theorem OwnT.setNum {lo hi : Nat} {w : World} {a : Option Addr} {l : List (List Int)} (h : OwnT lo hi w a l) {r k : Nat} (hr : r < l.length) (hk : k < (l.getD r []).length) :
    ∃ b g c, a = some ⟨b, 0, none⟩ ∧ w.cell? ⟨b, r, none⟩ = some (.slice (some ⟨g, 0, none⟩) (l.getD r []).length c) ∧ w.cell? ⟨g, k, none⟩ = some (.int .i64 ((l.getD r []).getD k 0)) ∧ (lo ≤ g ∧ g ≠ b) ∧
      ∀ W : World, (∀ g', lo ≤ g' → g' < hi → W.heap[g']? = w.heap[g']?) → W.cell? ⟨b, r, none⟩ = some (.slice (some ⟨g, 0, none⟩) (l.getD r []).length c) ∧ W.cell? ⟨g, k, none⟩ = some (.int .i64 ((l.getD r []).getD k 0)) ∧ W.frozen? ⟨g, k, none⟩ = false ∧ ∀ v : Int, MatR (W.setCell ⟨g, k, none⟩ (.int .i64 v)) a (l.set r ((l.getD r []).set k v)) := by
  obtain ⟨b, A, G, C, e, hb, hc0, hd⟩ := h (by omega)
  obtain ⟨c1, c2⟩ := hc0 r hr
  obtain ⟨d1, d2, d3⟩ := c2 (by omega)
  rw [d1] at c1
  refine ⟨b, G r, C r, e, c1, (d3 k hk).1, ⟨d2.1, d2.2.2⟩, fun W hW => ?_⟩
  have hc : ∀ r, r < l.length → W.cell? ⟨b, r, none⟩ = some (.slice (A r) (l.getD r []).length (C r)) ∧
      (0 < (l.getD r []).length → A r = some ⟨G r, 0, none⟩ ∧ (lo ≤ G r ∧ G r < hi ∧ G r ≠ b) ∧ ∀ i, i < (l.getD r []).length → W.cell? ⟨G r, i, none⟩ = some (.int .i64 ((l.getD r []).getD i 0)) ∧ W.frozen? ⟨G r, i, none⟩ = false) := fun r h1 => by
    obtain ⟨c1, c2⟩ := hc0 r h1
    refine ⟨(heap_cell (hW b hb.1 hb.2) r).1.trans c1, fun h2 => ?_⟩
    obtain ⟨d1, d2, d3⟩ := c2 h2
    exact ⟨d1, d2, fun i hi => ⟨(heap_cell (hW _ d2.1 d2.2.1) i).1.trans (d3 i hi).1, (heap_cell (hW _ d2.1 d2.2.1) i).2.trans (d3 i hi).2⟩⟩
  clear c1 c2 d3 hc0
  obtain ⟨c1, c2⟩ := hc r hr
  obtain ⟨d1, d2, d3⟩ := c2 (by omega)
  rw [d1] at c1
  refine ⟨c1, (d3 k hk).1, (d3 k hk).2, fun v => ?_⟩
  subst e
  intro _
  refine ⟨b, 0, A, C, rfl, fun s hs => ?_⟩
  rw [List.length_set] at hs
  obtain ⟨s1, s2⟩ := hc s hs
  have hrow : (l.set r ((l.getD r []).set k v)).getD s [] = if s = r then (l.getD r []).set k v else l.getD s [] := by
    by_cases e : s = r
    · subst e; rw [if_pos rfl]; simp [List.getD, hs]
    · rw [if_neg e]; simp [List.getD, Ne.symm e]
  have hlen : ((l.set r ((l.getD r []).set k v)).getD s []).length = (l.getD s []).length := by
    rw [hrow]
    split
    · rename_i e; subst e; exact List.length_set
    · rfl
  rw [hlen, Nat.zero_add]
  refine ⟨cell_set_ne s1 (show b ≠ G r from fun e => d2.2.2 e.symm), fun h0 => ?_⟩
  rw [hlen] at h0
  obtain ⟨t1, t2, t3⟩ := s2 h0
  refine ⟨G s, 0, t1, fun i hi => ?_⟩
  rw [Nat.zero_add]
  rw [hlen] at hi
  by_cases e : s = r
  · subst e
    rw [hrow, if_pos rfl]
    by_cases ek : i = k
    · subst ek
      rw [World.cell?_setCell_same W _ _ (d3 i hk).1]
      have e3 : ((l.getD s []).set i v).getD i 0 = v := by
        generalize l.getD s [] = x at hk
        simp [List.getD, hk]
      rw [e3]
    · rw [World.cell?_setCell_other _ _ _ _ (by intro h; simp only [Addr.mk.injEq] at h; omega)]
      have e2 : ((l.getD s []).set k v).getD i 0 = (l.getD s []).getD i 0 := by simp [List.getD, Ne.symm ek]
      rw [e2]
      exact (d3 i hi).1
  · rw [hrow, if_neg e]
    exact cell_set_ne (t3 i hi).1 (show G s ≠ G r from fun e2 => e (hd s r hs hr h0 (by omega) e2))

end Go.Proofs.Ytpoabeniejmpkaa
end

section
/- The contract of spec.DrawTableSame. -/
namespace Go.Proofs.Ytpoabeniejmpkaa
open Go.RowKit Go.Deep

theorem grown_setCell5 {w : World} {g : Nat} {v : Value} : w.grownBy (w.setCell ⟨g, 0, none⟩ v) (some g) := grownBy_setCell' w g v
theorem since_rowG {w W W' : World} {g : Nat} (h : w.Since w.heap.size W) (hg : W.grownBy W' (some g)) (hr : w.heap.size ≤ g) : w.Since w.heap.size W' :=
  ⟨hg.os.trans h.os, hg.tape.trans h.tape, hg.output.trans h.output, Nat.le_trans h.size hg.size, fun k hk => (hg.block k (by have := h.size; omega) (fun e => by injection e; omega)).trans (h.block k hk)⟩

theorem InT.above {lo hi g : Nat} {w W : World} {a : Option Addr} {l : List (List Int)} (h : InT lo hi w a l) (hg : w.grownBy W (some g)) (h0 : hi ≤ g) (hh : hi ≤ w.heap.size) : InT lo hi W a l := by
  intro hl
  obtain ⟨b, o, A, G, O, C, e, hb, hr⟩ := h hl
  have kp : ∀ g', lo ≤ g' → g' < hi → W.heap[g']? = w.heap[g']? := fun g' g1 g2 => hg.block g' (by omega) (fun e => by injection e; omega)
  refine ⟨b, o, A, G, O, C, e, hb, fun r h1 => ?_⟩
  obtain ⟨c1, c2⟩ := hr r h1
  refine ⟨(heap_cell (kp b hb.1 hb.2) _).1.trans c1, fun h2 => ?_⟩
  obtain ⟨d1, d2, d3⟩ := c2 h2
  exact ⟨d1, d2, fun i hi => (heap_cell (kp _ d2.1 d2.2) _).1.trans (d3 i hi)⟩


set_option maxRecDepth 100000 in
set_option maxHeartbeats 2000000 in
theorem drawSame_any (a : Option Addr) (nb cb : Nat) (w : World) (hc : nb ≤ cb) (h63 : cb ≤ 9223372036854775807) (hb : BytR w a nb) :
    Calls Try.prog 15 #[.slice a nb cb] w fun e w' => ∃ a' cap l b' cap2 u, e = .returned (.tuple #[.slice a' l.length cap, .slice b' u.length cap2]) ∧ w.Since w.heap.size w' ∧ DrawnT w w' 4 4 a' l ∧ u.length ≤ 4 ∧ (∀ j, j < u.length → (u.getD j []).length ≤ 5) ∧ MatR w' b' u := by
  have E := Lib.hid (l6Open_any a nb cb w hc h63 hb)
  clear hb
  go_enter Try.func15, Try.ntmps15
  go_wp2_with fail
  refine (E.out).mono ?_
  rintro e w1 ⟨n', c', rfl, hs, hz, hd⟩
  have HD0 := Lib.hid hd
  clear hd
  have hz1 : w.heap.size < w1.heap.size := by omega
  clear hz
  go_wp2_with fail
  refine (l91Some_any w w1 w.heap.size n' c' 0 4 4 a HD0.out (by omega) (by omega) (by omega) (by omega) (by omega)).mono ?_
  rintro e w2 ⟨a', cap', l, p', rfl, hg, hd2, hp, h1, h5, hl, hit⟩
  have HG0 := Lib.hid hg
  have HIT := Lib.hid hit
  have HL := Lib.hid hl
  have HD := Lib.hid hd2
  obtain ⟨nn, hnn⟩ : ∃ n, l.length = n := ⟨_, rfl⟩
  rw [hnn] at h1 h5 ⊢
  have HN := Lib.hid hnn
  clear hg hit hl hd2 hnn
  go_wp2_with fail
  refine (pick_any w w2 w.heap.size n' c' p' a 2 HD.out (by omega)).mono ?_
  rintro e w3 ⟨y, rfl, hy, hg3, hd3⟩
  have hsa : w.Since w.heap.size w2 := hs.trans (since_grown HG0.out (Nat.le_refl _) hs.size)
  have hsb : w.Since w.heap.size w3 := hsa.trans (since_grown hg3 (Nat.le_refl _) hsa.size)
  have hit3 := HIT.out.kept hg3 hz1
  have hz2 := HG0.out.size
  have hz3 := hg3.size
  have EC := Lib.hid (l1Copy_gen a' cap' nn l w3 HN.out (by omega) (fun r hr => by have := HL.out r (by rw [HN.out]; exact hr); omega) hit3.matR)
  have HD3 := Lib.hid hd3
  have HS3 := Lib.hid hsb
  have HI3 := Lib.hid hit3
  have hle : w.heap.size ≤ w1.heap.size := by omega
  clear hg3 hd3 hsa hsb hit3
  by_cases hy0 : y = 0
  · subst hy0
    go_wp2_with fail
    refine (EC.out).mono ?_
    rintro e w4 ⟨b', cap2, rfl, hs4, ho4, _⟩
    have HS4 := Lib.hid hs4
    have HO4 := Lib.hid ho4
    clear hs4 ho4
    go_wp2
    go_ret2
    exact ⟨_, _, l, _, _, l, by rw [HN.out]; rfl, HS3.out.trans (since_mono HS4.out HS3.out.size), ⟨by rw [HN.out]; exact h1, by rw [HN.out]; exact h5, HL.out, (HI3.out.kept (grown_of_since' HS4.out) (by omega)).mono hle (Nat.le_trans hz3 HS4.out.size)⟩, by rw [HN.out]; exact h5, fun j hj => (HL.out j hj).2, HO4.out.matR⟩
  · have hy1 : ((y : Int) == 0) = false := by simp; omega
    go_wp2_with fail
    refine (EC.out).mono ?_
    rintro e w4 ⟨b', cap2, rfl, hs4, ho4, _⟩
    obtain ⟨s, hns⟩ : ∃ s, nn = s + 1 := ⟨nn - 1, by omega⟩
    have hr1 : IntKind.i64.wrap ((nn : Int) - 1) = (s : Int) := by rw [show (nn : Int) - 1 = s by omega]; exact IntWalk.i64_in _ ⟨by omega, by omega⟩
    have hsl := HL.out s (by rw [HN.out]; omega)
    obtain ⟨b, g, c, rfl, t1, t2, ⟨hgl, hgb⟩, hset⟩ := ho4.setNum (r := s) (k := 0) (by rw [HN.out]; omega) (by omega)
    obtain ⟨mm, hmm⟩ : ∃ m, (l.getD s []).length = m := ⟨_, rfl⟩
    obtain ⟨z, hz⟩ : ∃ z, (l.getD s []).getD 0 0 = z := ⟨_, rfl⟩
    rw [hmm] at t1 hsl
    rw [hz] at t2
    simp only [hz, hmm] at hset
    have hz4 := hs4.size
    have HD4 := Lib.hid ((HD3.out.later hs4).later (World.Since.refl _ _).drew)
    have HSET := Lib.hid hset
    have HS4 := Lib.hid hs4
    have HHM := Lib.hid hmm
    have hm0 : 0 < mm := by omega
    have hsn : s < nn := by omega
    have hwg : w.heap.size ≤ g := by omega
    have hwg2 : w2.heap.size ≤ g := by omega
    have t1d : w4.drew.cell? ⟨b, s, none⟩ = some (.slice (some ⟨g, 0, none⟩) mm c) := t1
    have t2d : w4.drew.cell? ⟨g, 0, none⟩ = some (.int .i64 z) := t2
    clear hset hs4 hz ho4 hmm hns
    go_wp2
    go_region_with
      (first
        | (go_at_call 56; refine (pick_any w w4.drew w.heap.size n' c' _ a 2 HD4.out (by omega)).mono ?_; rintro e w5 ⟨y2, rfl, hy2, hg5, _⟩; obtain ⟨f0, f1, f2, f3⟩ := HSET.out w5 (fun g' g1 g2 => hg5.block g' (show g' < w4.heap.size by omega) (fun e => by injection e; omega)); have HF3 := Lib.hid f3; have HG5 := Lib.hid hg5; have hz5 := hg5.size; clear f3 hg5))
    all_goals
      have hsx : w4.drew.Since w4.drew.heap.size w4.drew := World.Since.refl _ _
      have hs5 : w.Since w.heap.size w5 := (HS3.out.trans (since_mono HS4.out HS3.out.size)).trans (since_grown (grown_of_drew HG5.out) (Nat.le_refl _) (Nat.le_trans HS3.out.size HS4.out.size))
      have hI5 := (HI3.out.kept (grown_of_since' HS4.out) (by omega)).kept (grown_of_drew HG5.out) (by omega)
      go_wp2
      go_ret2
      have hrow : ∀ j, j < (l.set s ((l.getD s []).set 0 (IntKind.i64.wrap (z + (y2 : Int))))).length → ((l.set s ((l.getD s []).set 0 (IntKind.i64.wrap (z + (y2 : Int))))).getD j []).length ≤ 5 := fun j hj => by
        rw [List.length_set] at hj
        by_cases e : j = s
        · subst e
          have : (l.set j ((l.getD j []).set 0 (IntKind.i64.wrap (z + (y2 : Int))))).getD j [] = (l.getD j []).set 0 (IntKind.i64.wrap (z + (y2 : Int))) := by simp [List.getD, hj]
          rw [this, List.length_set]
          exact (HL.out j hj).2
        · have : (l.set s ((l.getD s []).set 0 (IntKind.i64.wrap (z + (y2 : Int))))).getD j [] = l.getD j [] := by simp [List.getD, Ne.symm e]
          rw [this]
          exact (HL.out j hj).2
      have hsl2 : (l.set s ((l.getD s []).set 0 (IntKind.i64.wrap (z + (y2 : Int))))).length = nn := by rw [List.length_set]; exact HN.out
      have hwg3 : w2.heap.size ≤ w5.heap.size := by
        have hz5' : w4.heap.size ≤ w5.heap.size := hz5
        omega
      have hgs := grown_setCell5 (w := w5) (g := g) (v := .int .i64 (IntKind.i64.wrap (z + (y2 : Int))))
      exact ⟨_, _, l, _, _, l.set s ((l.getD s []).set 0 (IntKind.i64.wrap (z + (y2 : Int)))), by rw [HN.out, hsl2]; rfl, since_rowG hs5 hgs hwg, ⟨by rw [HN.out]; exact h1, by rw [HN.out]; exact h5, HL.out, (hI5.above hgs hwg2 hwg3).mono hle (by simp; omega)⟩, by rw [hsl2]; exact h5, hrow, HF3.out _⟩

end Go.Proofs.Ytpoabeniejmpkaa
end

section
/- The contract of impl.TableSame. -/
namespace Go.Proofs.Ytpoabeniejmpkaa
open Go.RowKit Go.Deep Go.Shelf

set_option maxHeartbeats 1000000 in
/-- The library's comparison of two slices of one length. -/
theorem slicesEqual_any (a b : Option Addr) (ca cb m : Nat) (x y : List Int) (w : World) (hx : x.length = m) (hy : y.length = m) (h63 : m ≤ 1048576) (ha : RowR w a x) (hb : RowR w b y) :
    Calls Try.prog 100 #[.slice a m ca, .slice b m cb] w fun e w' => e = .returned (.bool (decide (x = y))) ∧ Drawn w w' := by
  have hext : (∀ j, j < m → x.getD j 0 = y.getD j 0) → x = y := fun h => by
    refine List.ext_getElem (by omega) fun c g1 g2 => ?_
    have := h c (by omega)
    simpa [List.getD, g1, g2] using this
  have HX := Lib.hid hx
  have HY := Lib.hid hy
  have HEXT := Lib.hid hext
  clear hx hy hext
  go_enter Try.func100, Try.ntmps100
  go_wp2
  go_loopg [5, 13] m (fun g _ i wr => ∃ k : Nat, k ≤ m ∧ g = m - k ∧ i = .int .i64 k ∧ Drawn w wr ∧ ∀ j, j < k → x.getD j 0 = y.getD j 0)
  case atStart => exact ⟨0, Nat.zero_le _, rfl, rfl, Drawn.refl w, fun j hj => absurd hj (Nat.not_lt_zero _)⟩
  case round =>
    obtain ⟨k, hk, rfl, rfl, hD, hS⟩ := hrel
    have HS := Lib.hid hS
    clear hS
    by_cases hlt : k < m
    · obtain ⟨b1, o1, rfl, hc1⟩ := ha (by rw [HX.out]; omega)
      obtain ⟨b2, o2, rfl, hc2⟩ := hb (by rw [HY.out]; omega)
      have c1 := hc1 k (by rw [HX.out]; exact hlt)
      have c2 := hc2 k (by rw [HY.out]; exact hlt)
      obtain ⟨p, hp⟩ : ∃ p, x.getD k 0 = p := ⟨_, rfl⟩
      obtain ⟨q, hq⟩ : ∃ q, y.getD k 0 = q := ⟨_, rfl⟩
      rw [hp] at c1
      rw [hq] at c2
      rw [← hD.cell] at c1 c2
      have HP := Lib.hid hp
      have HQ := Lib.hid hq
      clear hp hq hc1 hc2 ha hb
      by_cases hpq : p = q
      · subst hpq
        go_wp2
        go_quiet (fail)
        go_wp2
        go_roundg (m - (k + 1))
        case measure => omega
        case rel => exact ⟨k + 1, by omega, rfl, by go_num, hD.trans (Drawn.mk _ _), fun j hj => by
          by_cases e : j = k
          · subst e; rw [HP.out, HQ.out]
          · exact HS.out j (by omega)⟩
      · have hne : (p != q) = true := by simp [hpq]
        go_wp2
        go_quiet (fail)
        go_wp2
        go_ret
        refine ⟨ret_bool (decide_eq_false fun e => ?_).symm, hD.trans (Drawn.mk _ _)⟩
        subst e
        exact hpq (by rw [← HP.out, ← HQ.out])
    · have : k = m := by omega
      subst this
      have HXY := Lib.hid (HEXT.out HS.out)
      go_wp2
      go_ret
      exact ⟨ret_bool (decide_eq_true HXY.out).symm, hD⟩

theorem rows_eq {l u : List (List Int)} {n : Nat} (hn : l.length = n) (hu : u.length = n) (h : ∀ r, r < n → l.getD r [] = u.getD r []) : l = u := by
  refine List.ext_getElem (by omega) fun c g1 g2 => ?_
  have := h c (by omega)
  simpa [List.getD, g1, g2] using this

attribute [local go_sem] Oper.semAt_some

set_option maxRecDepth 100000 in
set_option maxHeartbeats 2000000 in
theorem same_any (a a2 : Option Addr) (cap cap2 n n2 : Nat) (l u : List (List Int)) (w : World) (hn : l.length = n) (hu : u.length = n2) (hm : MatR w a l) (hmu : MatR w a2 u) (hT : TabIn l) (hTu : TabIn u) :
    Calls Try.prog 59 #[.slice a n cap, .slice a2 n2 cap2] w fun e w' => e = .returned (.bool (decide (l = u))) ∧ w.Since w.heap.size w' := by
  have h6 := hT.2.1
  have h1 := hT.1
  rw [hn] at h1 h6
  have hw := hT.width
  have E := Lib.hid (fun (W : World) (hs : Below w.heap.size w W) => alike_any a a2 cap cap2 n n2 l u W hn hu hT hTu (hm.since (below_since hs)) (hmu.since (below_since hs)))
  refine (callsIn_wide (n := 9)).1 ?_
  refine callsIn_of_wp_marks Try.func59 rfl trivial ?_ rfl
  simp only [Try.ntmps59, List.size_toArray, List.length_cons, List.length_nil, Nat.reduceAdd, Nat.reduceSub, Array.replicate_succ, Array.replicate_zero, List.push_toArray, List.append_toArray, List.nil_append, List.cons_append]
  have hB2 : Below w.heap.size w ((w.alloc (.cells #[.slice a2 n2 cap2] 53)).alloc (.cells #[.bool false] 4)) := ((Below.refl _ w).alloc (Nat.le_refl _) _).alloc (by simp) _
  have HB2 := Lib.hid hB2
  clear hB2
  cases hal : alikeB l u with
  | false =>
    rw [hal] at E
    have hno : l ≠ u := by
      rintro rfl
      unfold alikeB at hal
      simp at hal
    have HNO := Lib.hid hno
    clear hm hmu hT hTu hn hu hno hal
    gi_wp2_with (refine ⟨trivial, ?_⟩; gi_at_call 86; refine (callsIn_wide.2 (E.out _ HB2.out)).mono ?_; rintro e w' ⟨rfl, rfl⟩)
    refine ⟨.bool false, ?_, ret_bool (decide_eq_false HNO.out).symm, below_since HB2.out⟩
    simp [results, Try.f59, go_sem]
  | true =>
    rw [hal] at E
    unfold alikeB at hal
    rw [Bool.and_eq_true, beq_iff_eq, beq_iff_eq] at hal
    obtain rfl : n2 = n := by omega
    obtain ⟨m, hmm⟩ : ∃ m, (l.getD 0 []).length = m := ⟨_, rfl⟩
    have hrow : ∀ r, r < n2 → (l.getD r []).length = m := fun r hr => by rw [hT.row (by omega), hmm]
    have hrowu : ∀ r, r < n2 → (u.getD r []).length = m := fun r hr => by rw [hTu.row (by omega), ← hal.2, hmm]
    rw [hmm] at hw
    obtain ⟨b, o, A, C, ha, hc⟩ := hm (by omega)
    obtain ⟨d, q, A2, C2, ha2, hc2⟩ := hmu (by omega)
    have hbl : b < w.heap.size := World.block_lt_of_cell? _ _ (hc 0 (by omega)).1
    have hdl : d < w.heap.size := World.block_lt_of_cell? _ _ (hc2 0 (by omega)).1
    have hc1 : ∀ r, r < n2 → w.cell? ⟨b, o + r, none⟩ = some (.slice (A r) m (C r)) ∧ RowR w (A r) (l.getD r []) := fun r hr => by
      have := hc r (by omega); rw [hrow r hr] at this; exact this
    have hc3 : ∀ r, r < n2 → w.cell? ⟨d, q + r, none⟩ = some (.slice (A2 r) m (C2 r)) ∧ RowR w (A2 r) (u.getD r []) := fun r hr => by
      have := hc2 r (by omega); rw [hrowu r hr] at this; exact this
    subst ha
    subst ha2
    have HC := Lib.hid hc1
    have HC2 := Lib.hid hc3
    have HROW := Lib.hid hrow
    have HROWU := Lib.hid hrowu
    have HEQ := Lib.hid (rows_eq hn hu)
    have hpow : 2 ^ n2 - 1 ≤ 63 := by have : 2 ^ n2 ≤ 2 ^ 6 := Nat.pow_le_pow_right (by omega) h6; omega
    clear hm hmu hT hTu hn hu hal hmm hc hc2 hc1 hc3 hrow hrowu
    gi_wp2_with (first
      | (refine ⟨trivial, ?_⟩; gi_at_call 86; refine (callsIn_wide.2 (E.out _ HB2.out)).mono ?_; rintro e w' ⟨rfl, rfl⟩)
      | (refine ⟨trivial, ?_⟩; gi_at_call 82; refine (callsIn_wide.2 (allRows_any _ _ _ _ h6)).mono ?_; rintro e w' ⟨rfl, rfl⟩)
      | (refine ⟨trivial, ?_⟩; gi_at_call 81; refine (callsIn_wide.2 (rows_any _ _ _ _ _)).mono ?_; rintro e w' ⟨rfl, rfl⟩))
    obtain ⟨W0, hW0⟩ : ∃ W0, W0 = (((w.alloc (.cells #[.slice (some ⟨d, q, none⟩) n2 cap2] 53)).alloc (.cells #[.bool false] 4)).alloc (.cells #[.slice (some ⟨b, o, none⟩) n2 cap] 53)).alloc (.cells #[.int .i64 (2 ^ n2 - 1 : Nat)] 3) := ⟨_, rfl⟩
    rw [← hW0]
    have hsz0 : W0.heap.size = w.heap.size + 1 + 1 + 1 + 1 := by rw [hW0]; simp
    have hB0 : Below w.heap.size w W0 := by rw [hW0]; exact (HB2.out.alloc (by simp; omega) _).alloc (by simp; omega) _
    have c0 := cell_new_l w (.slice (some ⟨d, q, none⟩) n2 cap2) 53
    have c1 := cell_new_l (w.alloc (.cells #[.slice (some ⟨d, q, none⟩) n2 cap2] 53)) (.bool false) 4
    have c2 := cell_new_l ((w.alloc (.cells #[.slice (some ⟨d, q, none⟩) n2 cap2] 53)).alloc (.cells #[.bool false] 4)) (.slice (some ⟨b, o, none⟩) n2 cap) 53
    have c3 := cell_new_l (((w.alloc (.cells #[.slice (some ⟨d, q, none⟩) n2 cap2] 53)).alloc (.cells #[.bool false] 4)).alloc (.cells #[.slice (some ⟨b, o, none⟩) n2 cap] 53)) (.int .i64 (2 ^ n2 - 1 : Nat)) 3
    simp only [World.size_alloc] at c1 c2 c3
    have d0 : W0.cell? ⟨w.heap.size, 0, none⟩ = some (.slice (some ⟨d, q, none⟩) n2 cap2) := by rw [hW0]; exact cell_alloc_l _ (cell_alloc_l _ (cell_alloc_l _ c0.1))
    have d1 : W0.cell? ⟨w.heap.size + 1, 0, none⟩ = some (.bool false) := by rw [hW0]; exact cell_alloc_l _ (cell_alloc_l _ c1.1)
    have d1f : W0.frozen? ⟨w.heap.size + 1, 0, none⟩ = false := by rw [hW0]; exact frozen_alloc_l _ (cell_alloc_l _ c1.1) (frozen_alloc_l _ c1.1 c1.2)
    have d2 : W0.cell? ⟨w.heap.size + 1 + 1, 0, none⟩ = some (.slice (some ⟨b, o, none⟩) n2 cap) := by rw [hW0]; exact cell_alloc_l _ c2.1
    have d3 : W0.cell? ⟨w.heap.size + 1 + 1 + 1, 0, none⟩ = some (.int .i64 (2 ^ n2 - 1 : Nat)) := by rw [hW0]; exact c3.1
    clear c0 c1 c2 c3
    have hc0' : ∀ k, k < n2 → W0.cell? ⟨b, o + k, none⟩ = some (.slice (A k) m (C k)) := fun k hk => (hB0.cell (p := ⟨b, o + k, none⟩) hbl).trans (HC.out k hk).1
    have hstops := rows_stops 8 (by omega) (w.heap.size + 1 + 1) (w.heap.size + 1 + 1 + 1) b o n2 cap (2 ^ n2 - 1) W0.heap.size h6 hpow A (fun _ => m) C W0 (Nat.le_refl _) (by omega) (by omega) (by omega) d2 d3 hc0'
    clear hc0' d2 d3
    refine wpIn_rangeFunc_ownF (F := Fence.wide) (n := 9) rfl (by omega) (gf := 111) (lb := #[.pointer (some ⟨w.heap.size + 1 + 1, 0, none⟩), .pointer (some ⟨w.heap.size + 1 + 1 + 1, 0, none⟩)]) rfl trivial (enters_of Try.func111 (by kernel_rfl) rfl)
      hstops belowK_t (belowK_b (Nat.le_refl _)) (Below.refl _ _) (fun _ => rfl)
      (fun pre W => (W.cell? ⟨w.heap.size, 0, none⟩ = some (.slice (some ⟨d, q, none⟩) n2 cap2) ∧ W.cell? ⟨w.heap.size + 1, 0, none⟩ = some (.bool false) ∧ W.frozen? ⟨w.heap.size + 1, 0, none⟩ = false ∧ ∀ x ∈ pre, l.getD x.1 [] = u.getD x.1 []) ∧ Below w.heap.size w W)
      (fun c _ W => (c = .ret ∧ l ≠ u ∧ W.cell? ⟨w.heap.size + 1, 0, none⟩ = some (.bool false)) ∧ Below w.heap.size w W)
      (OwnFrom.and (Own.from (fun s A B row hs hg hr => ⟨cell_kept hs.1 hg hr, cell_kept hs.2.1 hg hr, (frozen_kept hs.2.1 hg hr).trans hs.2.2.1, hs.2.2.2⟩) _) (ownFrom_below (Nat.le_refl _) (by omega)))
      (fun c => OwnFrom.and (Own.from (fun s A B row hs hg hr => ⟨hs.1, hs.2.1, cell_kept hs.2.2 hg hr⟩) _) (ownFrom_below (Nat.le_refl _) (by omega)))
      ⟨⟨d0, d1, d1f, by simp⟩, hB0⟩
      (fun x => { tmps := #[.slice (some ⟨b, o, none⟩) n2 cap, .slice (some ⟨d, q, none⟩) n2 cap2, undef, .pointer (some ⟨w.heap.size, 0, none⟩), .pointer (some ⟨w.heap.size + 1, 0, none⟩), .int .i64 x.1, .slice (A x.1) m (C x.1), .slice (some ⟨b, o, none⟩) n2 cap, .slice (some ⟨d, q, none⟩) n2 cap2,
          .bool true, .bool false, .slice (some ⟨b, o, none⟩) n2 cap, .slice (some ⟨b, o, none⟩) n2 cap, .int .i64 (2 ^ n2 - 1 : Nat),
          .func (.func 111) #[] #[.pointer (some ⟨w.heap.size + 1 + 1, 0, none⟩), .pointer (some ⟨w.heap.size + 1 + 1 + 1, 0, none⟩)],
          .int .i64 x.1, .slice (A x.1) m (C x.1), undef, undef, undef, undef, undef, undef, undef], defers := [] }) ?assign ?body ?done ?stop
    case assign =>
      intro lp x W K hK
      gi_wp2
      exact hK
    case body =>
      rintro lp pre x W ⟨⟨g0, g1, g2, g3⟩, gB⟩ hlen
      obtain ⟨_, r1⟩ := HC.out x.1 x.2
      obtain ⟨e2, r2⟩ := HC2.out x.1 x.2
      rw [← gB.cell (p := ⟨d, q + x.1, none⟩) hdl] at e2
      have hx2 := x.2
      obtain ⟨X, hX⟩ : ∃ X, l.getD x.1 [] = X := ⟨_, rfl⟩
      obtain ⟨Y, hY⟩ : ∃ Y, u.getD x.1 [] = Y := ⟨_, rfl⟩
      have hXm := HROW.out x.1 x.2
      have hYm := HROWU.out x.1 x.2
      rw [hX] at r1 hXm
      rw [hY] at r2 hYm
      have E5 := slicesEqual_any (A x.1) (A2 x.1) (C x.1) (C2 x.1) m X Y W hXm hYm (by omega) (r1.since (below_since gB)) (r2.since (below_since gB))
      have HX := Lib.hid hX
      have HY := Lib.hid hY
      obtain ⟨bb, hbb⟩ : ∃ bb, decide (X = Y) = bb := ⟨_, rfl⟩
      rw [hbb] at E5
      have HBB := Lib.hid hbb
      replace E5 := Lib.hid E5
      clear hX hY hXm hYm r1 r2 hbb
      cases bb with
      | true =>
        gi_wp2_with (refine ⟨trivial, ?_⟩; gi_at_call 100; refine (CallsIn.inRound lp (callsIn_wide.2 E5.out)).mono ?_; rintro e w' ⟨rfl, qq, rfl⟩)
        have hxy : X = Y := of_decide_eq_true HBB.out
        refine ⟨⟨Nat.le_refl _, fun _ _ h _ => h⟩, ⟨rfl, rfl, rfl, Nat.le_refl _, fun _ _ => rfl⟩, ⟨g0, g1, g2, fun y hy => ?_⟩, ⟨gB.os, gB.tape, gB.output, gB.size, gB.block⟩⟩
        rcases List.mem_append.1 hy with hy | hy
        · exact g3 y hy
        · simp at hy
          subst hy
          rw [HX.out, HY.out]; exact hxy
      | false =>
        gi_wp2_with (refine ⟨trivial, ?_⟩; gi_at_call 100; refine (CallsIn.inRound lp (callsIn_wide.2 E5.out)).mono ?_; rintro e w' ⟨rfl, qq, rfl⟩)
        have hxy : X ≠ Y := of_decide_eq_false HBB.out
        have gB' : Below w.heap.size w (W.drewN qq) := ⟨gB.os, gB.tape, gB.output, gB.size, gB.block⟩
        have g1' : (W.drewN qq).cell? ⟨w.heap.size + 1, 0, none⟩ = some (.bool false) := g1
        have hk0 : KeepsOthers W (W.drewN qq) := ⟨Nat.le_refl _, fun _ _ h _ => h⟩
        exact ⟨hk0.trans (KeepsOthers.setCell _ _ _), ⟨rfl, fun e => hxy (by rw [← HX.out, ← HY.out, e]), World.cell?_setCell_same' _ _ _ (by rw [g1']; rfl)⟩, gB'.setCell (p := ⟨w.heap.size + 1, 0, none⟩) (by simp) _⟩
    case done =>
      rintro D ys W hD rfl ⟨⟨g0, g1, g2, g3⟩, gB⟩ hK
      have hlu : l = u := HEQ.out fun r hr => g3 ⟨r, hr⟩ (sel_mem (2 ^ n2 - 1) n2 hr (Nat.le_refl _) (by rw [Nat.testBit_two_pow_sub_one]; simpa using hr))
      have HLU := Lib.hid hlu
      clear hlu
      gi_wp2
      have hK' := (KeepsOthers.setCell W ⟨w.heap.size + 1, 0, none⟩ (.bool true)).same D _ hK rfl
      refine ⟨by simp, .inl ⟨_, _, rfl, run_takeDeferred hK', ?_⟩⟩
      have hc5 := cell_kept (World.cell?_setCell_same' W ⟨w.heap.size + 1, 0, none⟩ (.bool true) (by rw [g1]; rfl)) (grownBy_putObj' _ D (.deferred none)) (fun r e => by cases e; exact ⟨_, hK', rfl⟩)
      refine ⟨.bool true, ?_, ret_bool (decide_eq_true HLU.out).symm, below_since ((gB.setCell (p := ⟨w.heap.size + 1, 0, none⟩) (by simp) _).trans (belowK_b (w := w) (Nat.le_refl _) _ D _ _ (by omega) hK' rfl rfl))⟩
      simp [results, Try.f59, go_sem, hc5]
    case stop =>
      rintro D c pre W hD hpre ⟨⟨rfl, hnot, hcr⟩, gB⟩ hK
      have HNOT := Lib.hid hnot
      clear hnot
      gi_wp2
      refine ⟨by simp, .inl ⟨_, _, rfl, run_takeDeferred hK, ?_⟩⟩
      have hc5 := cell_kept hcr (grownBy_putObj' _ D (.deferred none)) (fun r e => by cases e; exact ⟨_, hK, rfl⟩)
      refine ⟨.bool false, ?_, ret_bool (decide_eq_false HNOT.out).symm, below_since (gB.trans (belowK_b (w := w) (Nat.le_refl _) W D _ _ (by omega) hK rfl rfl))⟩
      simp [results, Try.f59, go_sem, hc5]

set_option maxHeartbeats 1000000 in
theorem implTableSame_any (a a2 : Option Addr) (cap cap2 n n2 : Nat) (l u : List (List Int)) (w : World) (hn : l.length = n) (hu : u.length = n2) (hsz : szL l ≤ 1048576) (hszu : szL u ≤ 1048576) (hm : MatR w a l) (hmu : MatR w a2 u) :
    Calls Try.prog 16 #[.slice a n cap, .slice a2 n2 cap2] w fun e w' => e = .returned (.bool (sameOk l u)) ∧ w.Since w.heap.size w' := by
  have E := Lib.hid (implTableIn_any a cap n l w hn hsz hm)
  have E2 := Lib.hid (fun (W : World) (hs : w.Since w.heap.size W) => implTableIn_any a2 cap2 n2 u W hu hszu (hmu.since hs))
  cases hT : tabIn l with
  | false =>
    have hok : sameOk l u = false := by unfold sameOk; rw [hT]; rfl
    rw [hT] at E
    rw [hok]
    clear hT hsz hm hn hok E2 hszu hmu hu
    go_enter Try.func16, Try.ntmps16
    go_wp2_with fail
    refine (E.out).mono ?_
    rintro e w1 ⟨rfl, hs⟩
    go_wp2
    go_ret
    exact ⟨rfl, hs⟩
  | true =>
    have hTT := tabIn_of hT
    rw [hT] at E
    cases hTu : tabIn u with
    | false =>
      have hok : sameOk l u = false := by unfold sameOk; rw [hT, hTu]; rfl
      rw [hTu] at E2
      rw [hok]
      clear hT hsz hm hn hok hTT hTu hszu hmu hu
      go_enter Try.func16, Try.ntmps16
      go_wp2_with fail
      refine (E.out).mono ?_
      rintro e w1 ⟨rfl, hs⟩
      go_wp2_with fail
      refine (E2.out w1 hs).mono ?_
      rintro e w2 ⟨rfl, hs2⟩
      go_wp2
      go_ret
      exact ⟨rfl, hs.trans (since_mono hs2 hs.size)⟩
    | true =>
      have hTTu := tabIn_of hTu
      rw [hTu] at E2
      have hok : sameOk l u = decide (l = u) := by unfold sameOk; rw [hT, hTu]; rfl
      rw [hok]
      have E3 := Lib.hid (fun (W : World) (hs : w.Since w.heap.size W) => same_any a a2 cap cap2 n n2 l u W hn hu (hm.since hs) (hmu.since hs) hTT hTTu)
      obtain ⟨bb, hb⟩ : ∃ bb, decide (l = u) = bb := ⟨_, rfl⟩
      rw [hb] at E3 ⊢
      clear hT hsz hm hn hok hTT hTu hszu hmu hu hTTu hb
      go_enter Try.func16, Try.ntmps16
      go_wp2_with fail
      refine (E.out).mono ?_
      rintro e w1 ⟨rfl, hs⟩
      go_wp2_with fail
      refine (E2.out w1 hs).mono ?_
      rintro e w2 ⟨rfl, hs2⟩
      have hs12 := hs.trans (since_mono hs2 hs.size)
      go_wp2_with fail
      refine (E3.out w2 hs12).mono ?_
      rintro e w3 ⟨rfl, hs3⟩
      go_wp2
      go_ret
      exact ⟨rfl, hs12.trans (since_mono hs3 hs12.size)⟩

end Go.Proofs.Ytpoabeniejmpkaa
end

section
/- The contract of spec.TableSame. -/
namespace Go.Proofs.Ytpoabeniejmpkaa
open Go.RowKit Go.Deep

/-- Two tables with the same entries are the same. -/
theorem same_ext {l u : List (List Int)} {n m : Nat} (hn : l.length = n) (hu : u.length = n) (hl : ∀ r, r < n → (l.getD r []).length = m) (hul : ∀ r, r < n → (u.getD r []).length = m) (h : ∀ r c, r < n → c < m → at2 l r c = at2 u r c) : l = u := by
  refine List.ext_getElem (by omega) fun r h1 h2 => ?_
  have e1 : l.getD r [] = l[r] := by simp [List.getD, h1]
  have e2 : u.getD r [] = u[r] := by simp [List.getD, h2]
  have l1 := hl r (by omega)
  have l2 := hul r (by omega)
  rw [e1] at l1
  rw [e2] at l2
  refine List.ext_getElem (by omega) fun c g1 g2 => ?_
  have := h r c (by omega) (by omega)
  unfold at2 at this
  rw [e1, e2] at this
  simpa [List.getD, g1, g2] using this

/-- The first r rows, and the first c numbers of row r, are the same. -/
def SameTo (l u : List (List Int)) (m r c : Nat) : Prop := (∀ i j, i < r → j < m → at2 l i j = at2 u i j) ∧ ∀ j, j < c → at2 l r j = at2 u r j
theorem SameTo.next {l u : List (List Int)} {m r : Nat} (h : SameTo l u m r m) : SameTo l u m (r + 1) 0 :=
  ⟨fun i j hi hj => by
    by_cases e : i = r
    · subst e; exact h.2 j hj
    · exact h.1 i j (by omega) hj, fun j hj => absurd hj (Nat.not_lt_zero _)⟩
theorem SameTo.step {l u : List (List Int)} {m r c : Nat} (h : SameTo l u m r c) (e : at2 l r c = at2 u r c) : SameTo l u m r (c + 1) :=
  ⟨h.1, fun j hj => by
    by_cases e' : j = c
    · subst e'; exact e
    · exact h.2 j (by omega)⟩

set_option maxRecDepth 100000 in
set_option maxHeartbeats 2000000 in
theorem l1Same_any (a a2 : Option Addr) (cap cap2 n n2 : Nat) (l u : List (List Int)) (w : World) (hn : l.length = n) (hu : u.length = n2) (hm : MatR w a l) (hmu : MatR w a2 u) (hT : TabIn l) (hTu : TabIn u) :
    Calls Try.prog 61 #[.slice a n cap, .slice a2 n2 cap2] w fun e w' => e = .returned (.bool (decide (l = u))) ∧ Drawn w w' := by
  have h6 := hT.2.1
  have h1 := hT.1
  have g6 := hTu.2.1
  have hw := hT.width
  have gw := hTu.width
  rw [hn] at h1 h6
  rw [hu] at g6
  by_cases hne : n = n2
  · subst hne
    obtain ⟨m, hmm⟩ : ∃ m, (l.getD 0 []).length = m := ⟨_, rfl⟩
    obtain ⟨m', hmm'⟩ : ∃ m, (u.getD 0 []).length = m := ⟨_, rfl⟩
    have hrow : ∀ r, r < n → (l.getD r []).length = m := fun r hr => by rw [hT.row (by omega), hmm]
    have hrowu : ∀ r, r < n → (u.getD r []).length = m' := fun r hr => by rw [hTu.row (by omega), hmm']
    obtain ⟨bt, ot, At, Ct, rfl, hlen, hcell⟩ := hm.grid hn hT hmm
    obtain ⟨bu, ou, Au, Cu, rfl, hlenu, hcellu⟩ := hmu.grid hu hTu hmm'
    rw [hmm] at hw
    rw [hmm'] at gw
    have HC := Lib.hid hcell
    have HCU := Lib.hid hcellu
    have HL := Lib.hid hlen
    have HLU := Lib.hid hlenu
    by_cases hmm2 : m = m'
    · subst hmm2
      have hext := same_ext hn hu hrow hrowu
      have HEXT := Lib.hid hext
      clear hm hmu hT hTu hcell hcellu hlen hlenu hmm hmm' hext hrow hrowu hn hu
      go_enter Try.func61, Try.ntmps61
      go_wp2
      go_loopg [5, 6] n (fun g i _ wr => ∃ r : Nat, r ≤ n ∧ g = n - r ∧ i = .int .i64 r ∧ Drawn w wr ∧ SameTo l u m r 0)
      case atStart => exact ⟨0, Nat.zero_le _, rfl, rfl, Drawn.refl w, fun i j hi => absurd hi (Nat.not_lt_zero _), fun j hj => absurd hj (Nat.not_lt_zero _)⟩
      case round =>
        obtain ⟨r, hr, rfl, rfl, hD, hSm⟩ := hrel
        obtain ⟨wo, rfl⟩ : ∃ wo : World, wo = wr := ⟨_, rfl⟩
        by_cases hlt : r < n
        · have e1 := HL.out r hlt
          have e2 := HLU.out r hlt
          rw [← hD.cell] at e1 e2
          have HSm := Lib.hid hSm
          clear hSm
          go_wp2
          go_quiet (fail)
          go_wp2
          go_loopg [6] m (fun g j wi => ∃ c : Nat, c ≤ m ∧ g = m - c ∧ j = .int .i64 c ∧ Drawn wo wi ∧ SameTo l u m r c)
          case atStart => exact ⟨0, Nat.zero_le _, rfl, rfl, Drawn.mk _ _, HSm.out⟩
          case round =>
            obtain ⟨c, hc, rfl, rfl, hDi, hSi⟩ := hrel
            clear HSm
            rw [← hDi.cell] at e1 e2
            by_cases hcm : c < m
            · clear e1 e2
              obtain ⟨b', o', e1, e2, _, _⟩ := HC.out r c hlt hcm
              obtain ⟨d', q', g1, g2, _, _⟩ := HCU.out r c hlt hcm
              rw [← hD.cell, ← hDi.cell] at e1 e2 g1 g2
              obtain ⟨y, hy⟩ : ∃ y, at2 l r c = y := ⟨_, rfl⟩
              obtain ⟨z, hz⟩ : ∃ z, at2 u r c = z := ⟨_, rfl⟩
              rw [hy] at e2
              rw [hz] at g2
              have HY := Lib.hid hy
              have HZ := Lib.hid hz
              have HSi := Lib.hid hSi
              clear hy hz hSi
              by_cases hyz : y = z
              · subst hyz
                go_wp2
                go_quiet (fail)
                go_wp2
                go_roundg (m - (c + 1))
                case measure => omega
                case rel => exact ⟨c + 1, by omega, rfl, by go_num, hDi.trans (Drawn.mk _ _), HSi.out.step (by rw [HY.out, HZ.out])⟩
              · have hb : (y != z) = true := by simp [hyz]
                go_wp2
                go_quiet (fail)
                go_wp2
                go_ret
                refine ⟨ret_bool (decide_eq_false fun e => ?_).symm, (hD.trans hDi).trans (Drawn.mk _ _)⟩
                subst e
                exact hyz (by rw [← HY.out, ← HZ.out])
            · have : c = m := by omega
              subst this
              have HSn := Lib.hid hSi.next
              clear hSi
              go_wp2
              go_roundg (n - (r + 1))
              case measure => omega
              case rel => exact ⟨r + 1, by omega, rfl, by go_num, hD.trans hDi, HSn.out⟩
        · have : r = n := by omega
          subst this
          have hlu : l = u := HEXT.out fun i j hi hj => hSm.1 i j hi hj
          have HLUu := Lib.hid hlu
          clear hlu hSm
          go_wp2
          go_ret
          exact ⟨ret_bool (decide_eq_true HLUu.out).symm, hD⟩
    · have hb : ((m : Int) != (m' : Int)) = true := by simp; omega
      have hno : l ≠ u := by
        rintro rfl
        exact hmm2 (hmm.symm.trans hmm')
      have HNO := Lib.hid hno
      have e1 := HL.out 0 (by omega)
      have e2 := HLU.out 0 (by omega)
      rw [Nat.add_zero] at e1 e2
      clear hm hmu hT hTu hcell hcellu hlen hlenu hmm hmm' hrow hrowu hn hu hno
      go_enter Try.func61, Try.ntmps61
      go_wp2
      go_loopg [5, 6] 0 (fun g i _ wr => i = .int .i64 0 ∧ wr = w)
      case atStart => exact ⟨rfl, rfl⟩
      case round =>
        obtain ⟨rfl, rfl⟩ := hrel
        go_wp2
        go_quiet (fail)
        go_wp2
        go_ret
        exact ⟨ret_bool (decide_eq_false HNO.out).symm, Drawn.mk _ _⟩
  · have hb : ((n : Int) != (n2 : Int)) = true := by simp; omega
    have hno : l ≠ u := by
      rintro rfl
      exact hne (hn.symm.trans hu)
    have HNO := Lib.hid hno
    clear hm hmu hT hTu hn hu hno
    go_enter Try.func61, Try.ntmps61
    go_wp2
    go_ret
    exact ⟨ret_bool (decide_eq_false HNO.out).symm, Drawn.refl _⟩


set_option maxHeartbeats 1000000 in
theorem specTableSame_any (a a2 : Option Addr) (cap cap2 n n2 : Nat) (l u : List (List Int)) (w : World) (hn : l.length = n) (hu : u.length = n2) (hsz : szL l ≤ 1048576) (hszu : szL u ≤ 1048576) (hm : MatR w a l) (hmu : MatR w a2 u) :
    Calls Try.prog 17 #[.slice a n cap, .slice a2 n2 cap2] w fun e w' => e = .returned (.bool (sameOk l u)) ∧ w.Since w.heap.size w' := by
  have E := Lib.hid (specTableIn_any a cap n l w hn hsz hm)
  have E2 := Lib.hid (fun (W : World) (hs : Drawn w W) => specTableIn_any a2 cap2 n2 u W hu hszu (hmu.drawn hs))
  cases hT : tabIn l with
  | false =>
    have hok : sameOk l u = false := by unfold sameOk; rw [hT]; rfl
    rw [hT] at E
    rw [hok]
    clear hT hsz hm hn hok E2 hszu hmu hu
    go_enter Try.func17, Try.ntmps17
    go_wp2_with fail
    refine (E.out).mono ?_
    rintro e w1 ⟨rfl, hd⟩
    go_wp2
    go_ret
    exact ⟨rfl, hd.since _⟩
  | true =>
    have hTT := tabIn_of hT
    rw [hT] at E
    cases hTu : tabIn u with
    | false =>
      have hok : sameOk l u = false := by unfold sameOk; rw [hT, hTu]; rfl
      rw [hTu] at E2
      rw [hok]
      clear hT hsz hm hn hok hTT hTu hszu hmu hu
      go_enter Try.func17, Try.ntmps17
      go_wp2_with fail
      refine (E.out).mono ?_
      rintro e w1 ⟨rfl, hd⟩
      go_wp2_with fail
      refine (E2.out w1 hd).mono ?_
      rintro e w2 ⟨rfl, hd2⟩
      go_wp2
      go_ret
      exact ⟨rfl, (hd.trans hd2).since _⟩
    | true =>
      have hTTu := tabIn_of hTu
      rw [hTu] at E2
      have hok : sameOk l u = decide (l = u) := by unfold sameOk; rw [hT, hTu]; rfl
      rw [hok]
      have E3 := Lib.hid (fun (W : World) (hs : Drawn w W) => l1Same_any a a2 cap cap2 n n2 l u W hn hu (hm.drawn hs) (hmu.drawn hs) hTT hTTu)
      obtain ⟨b, hb⟩ : ∃ b, decide (l = u) = b := ⟨_, rfl⟩
      rw [hb] at E3 ⊢
      clear hT hsz hm hn hok hTT hTu hszu hmu hu hTTu hb
      go_enter Try.func17, Try.ntmps17
      go_wp2_with fail
      refine (E.out).mono ?_
      rintro e w1 ⟨rfl, hd⟩
      go_wp2_with fail
      refine (E2.out w1 hd).mono ?_
      rintro e w2 ⟨rfl, hd2⟩
      have hd12 := hd.trans hd2
      go_wp2_with fail
      refine (E3.out w2 hd12).mono ?_
      rintro e w3 ⟨rfl, hd3⟩
      go_wp2
      go_ret
      exact ⟨rfl, (hd12.trans hd3).since _⟩

end Go.Proofs.Ytpoabeniejmpkaa
end

section
/- The rank that the specification finds: the greatest number of rows of a minor that is not 0: the pure side. -/
namespace Go.Proofs.Ytpoabeniejmpkaa
open Go.RowKit Go.Deep

def nzM (l : List (List Int)) (r c : Nat) : Prop := popcS r = popcS c ∧ ordF (partL l r c) (popcS r) (popcS r) 0 ≠ 0
theorem stepR_ge (l : List (List Int)) (r c b : Nat) : b ≤ stepR l r c b := by
  unfold stepR
  split
  · omega
  · omega
theorem stepR_yes {l : List (List Int)} {r c : Nat} (h : nzM l r c) (b : Nat) : popcS r ≤ stepR l r c b := by
  unfold stepR
  by_cases hb : b < popcS r
  · rw [if_pos ⟨h.1, hb, h.2⟩]; omega
  · have := stepR_ge l r c b
    unfold stepR at this
    omega
theorem stepR_ex (l : List (List Int)) (r c b : Nat) : stepR l r c b = b ∨ (stepR l r c b = popcS r ∧ nzM l r c) := by
  unfold stepR
  split
  · rename_i h; exact .inr ⟨rfl, h.1, h.2.2⟩
  · exact .inl rfl
theorem rkC_step (l : List (List Int)) (r b : Nat) : ∀ c, 1 ≤ c → b ≤ rkC l r b c ∧ (∀ c', 1 ≤ c' → c' < c → nzM l r c' → popcS r ≤ rkC l r b c) ∧ (rkC l r b c = b ∨ (rkC l r b c = popcS r ∧ ∃ c', c' < c ∧ nzM l r c'))
  | 0, h => by omega
  | 1, _ => by rw [rkC_one]; exact ⟨by omega, fun c' h1 h2 => by omega, .inl rfl⟩
  | c + 2, _ => by
    obtain ⟨i1, i2, i3⟩ := rkC_step l r b (c + 1) (by omega)
    rw [rkC_succ l r b (by omega)]
    have g := stepR_ge l r (c + 1) (rkC l r b (c + 1))
    refine ⟨by omega, fun c' h1 h2 hn => ?_, ?_⟩
    · by_cases e : c' = c + 1
      · subst e; exact stepR_yes hn _
      · have := i2 c' h1 (by omega) hn
        omega
    · rcases stepR_ex l r (c + 1) (rkC l r b (c + 1)) with e | ⟨e, hn⟩
      · rw [e]
        rcases i3 with e2 | ⟨e2, c', h1, h2⟩
        · exact .inl e2
        · exact .inr ⟨e2, c', by omega, h2⟩
      · exact .inr ⟨e, c + 1, by omega, hn⟩
theorem rkR_step (l : List (List Int)) (C : Nat) (hC : 1 ≤ C) : ∀ r, 1 ≤ r → (∀ r' c', 1 ≤ r' → r' < r → 1 ≤ c' → c' < C → nzM l r' c' → popcS r' ≤ rkR l C r) ∧ (rkR l C r = 0 ∨ ∃ r' c', r' < r ∧ c' < C ∧ nzM l r' c' ∧ rkR l C r = popcS r')
  | 0, h => by omega
  | 1, _ => by rw [rkR_one]; exact ⟨fun r' c' h1 h2 => by omega, .inl rfl⟩
  | r + 2, _ => by
    obtain ⟨i1, i2⟩ := rkR_step l C hC (r + 1) (by omega)
    rw [rkR_succ l C (by omega)]
    obtain ⟨j1, j2, j3⟩ := rkC_step l (r + 1) (rkR l C (r + 1)) C hC
    refine ⟨fun r' c' h1 h2 h3 h4 hn => ?_, ?_⟩
    · by_cases e : r' = r + 1
      · subst e; exact j2 c' h3 h4 hn
      · have := i1 r' c' h1 (by omega) h3 h4 hn
        omega
    · rcases j3 with e | ⟨e, c', h1, h2⟩
      · rw [e]
        rcases i2 with e2 | ⟨r', c', h1, h2, h3, h4⟩
        · exact .inl e2
        · exact .inr ⟨r', c', by omega, h2, h3, h4⟩
      · exact .inr ⟨r + 1, c', by omega, h1, h2, e⟩
theorem popc_le_n : ∀ n : Fin 7, ∀ s : Fin 64, s.val < 2 ^ n.val → popcS s.val ≤ n.val := by decide +kernel
theorem hasB_iff {l : List (List Int)} {k M1 M2 : Nat} : hasB l k M1 M2 = true ↔ ∃ r c, (r < M1 ∧ popcS r = k) ∧ (c < M2 ∧ popcS c = k) ∧ dt k (at2 (partL l r c)) ≠ 0 := by
  unfold hasB hasR
  rw [List.any_eq_true]
  constructor
  · rintro ⟨r, hr, h⟩
    obtain ⟨c, hc, h⟩ := List.any_eq_true.1 h
    exact ⟨r, c, (setsTo_mem k).1 hr, (setsTo_mem k).1 hc, by simpa using h⟩
  · rintro ⟨r, c, hr, hc, h⟩
    exact ⟨r, (setsTo_mem k).2 hr, List.any_eq_true.2 ⟨c, (setsTo_mem k).2 hc, by simpa using h⟩⟩
/-- The rank, from the greatest number of rows down. -/
theorem rank_down {l : List (List Int)} {n m : Nat} (hn : n ≤ 6) (hm : m ≤ 6) :
    rkR l (2 ^ m) (2 ^ n) ≤ n ∧ rkR l (2 ^ m) (2 ^ n) ≤ m ∧ ∀ k, 1 ≤ k → (hasB l k (2 ^ n) (2 ^ m) = true → k ≤ rkR l (2 ^ m) (2 ^ n)) ∧ (hasB l k (2 ^ n) (2 ^ m) = false → rkR l (2 ^ m) (2 ^ n) ≠ k) := by
  have p1 : 2 ^ n ≤ 2 ^ 6 := Nat.pow_le_pow_right (by omega) hn
  have p2 : 2 ^ m ≤ 2 ^ 6 := Nat.pow_le_pow_right (by omega) hm
  have q1 : 1 ≤ 2 ^ n := Nat.pow_pos (by omega)
  have q2 : 1 ≤ 2 ^ m := Nat.pow_pos (by omega)
  obtain ⟨s1, s2⟩ := rkR_step l (2 ^ m) q2 (2 ^ n) q1
  have hle : rkR l (2 ^ m) (2 ^ n) ≤ n ∧ rkR l (2 ^ m) (2 ^ n) ≤ m := by
    rcases s2 with e | ⟨r, c, h1, h2, h3, h4⟩
    · omega
    · have e1 := popc_le_n ⟨n, by omega⟩ ⟨r, by omega⟩ h1
      have e2 := popc_le_n ⟨m, by omega⟩ ⟨c, by omega⟩ h2
      have := h3.1
      simp only at e1 e2
      omega
  refine ⟨hle.1, hle.2, fun k hk => ⟨fun h => ?_, fun h e => ?_⟩⟩
  · obtain ⟨r, c, ⟨r1, r2⟩, ⟨c1, c2⟩, hd⟩ := hasB_iff.1 h
    have g1 := popcS_pos ⟨r, by omega⟩ (by rw [r2]; exact hk)
    have g2 := popcS_pos ⟨c, by omega⟩ (by rw [c2]; exact hk)
    have hk6 : k ≤ 6 := by rw [← r2]; exact popcS_le r
    have := s1 r c g1 r1 g2 c1 ⟨by omega, by rw [r2, ordF_all _ hk6]; exact hd⟩
    omega
  · rcases s2 with e2 | ⟨r, c, h1, h2, h3, h4⟩
    · omega
    · have hk6 : k ≤ 6 := by rw [← e, h4]; exact popcS_le r
      have hr : popcS r = k := by omega
      have : hasB l k (2 ^ n) (2 ^ m) = true := hasB_iff.2 ⟨r, c, ⟨h1, hr⟩, ⟨h2, by rw [← h3.1]; exact hr⟩, by
        have := h3.2
        rw [hr, ordF_all _ hk6] at this
        exact this⟩
      rw [h] at this
      cases this

end Go.Proofs.Ytpoabeniejmpkaa
end

section
/- The contract of impl.ValueRank. -/
namespace Go.Proofs.Ytpoabeniejmpkaa
open Go.RowKit Go.Deep

set_option maxRecDepth 100000 in
set_option maxHeartbeats 2000000 in
theorem rank_any (a : Option Addr) (cap n m : Nat) (l : List (List Int)) (w : World) (hn : l.length = n) (hT : TabIn l) (hmm : (l.getD 0 []).length = m) (hm : MatR w a l) :
    Calls Try.prog 62 #[.slice a n cap] w fun e w' => e = .returned (.int .i64 (rkR l (2 ^ m) (2 ^ n) : Nat)) ∧ w.Since w.heap.size w' := by
  have h6 := hT.2.1
  have h1 := hT.1
  have hw := hT.width
  rw [hn] at h6 h1
  rw [hmm] at hw
  obtain ⟨r1, r2, r3⟩ := rank_down (l := l) h6 hw.2
  obtain ⟨b, hb⟩ : ∃ b, rkR l (2 ^ m) (2 ^ n) = b := ⟨_, rfl⟩
  rw [hb] at r1 r2 r3 ⊢
  have EW := width_any a cap n l w hn (by omega) (by omega) hm
  rw [hmm] at EW
  have EH := Lib.hid (fun (k : Nat) (W : World) (h : w.Since w.heap.size W) => hasMinor_any a cap n m k l W hn hmm hT (hm.since h))
  replace EW := Lib.hid EW
  have R3 := Lib.hid r3
  clear r3 hn hmm hm hT hb
  go_enter Try.func62, Try.ntmps62
  go_wp2_with fail
  refine (EW.out).mono ?_
  rintro e w1 ⟨rfl, rfl⟩
  go_wp2
  all_goals
    go_loopg [3] 6 (fun g v wr => ∃ c : Nat, b ≤ c ∧ c ≤ 6 ∧ c ≤ g ∧ v = .int .i64 c ∧ w.Since w.heap.size wr)
    case atStart => first | exact ⟨n, r1, h6, h6, rfl, World.Since.refl _ _⟩ | exact ⟨m, r2, hw.2, hw.2, rfl, World.Since.refl _ _⟩
    case round =>
      obtain ⟨c, hbc, hc6, hcg, rfl, hS⟩ := hrel
      by_cases hc0 : c = 0
      · have hb0 : b = 0 := by omega
        subst hc0 hb0
        have HS := Lib.hid hS
        clear hS
        go_wp2
        go_ret
        exact ⟨rfl, HS.out⟩
      · have hc1 : decide ((0 : Int) < (c : Int)) = true := by simp; omega
        have E := EH.out c wr hS
        obtain ⟨q1, q2⟩ := R3.out c (by omega)
        obtain ⟨h, hh⟩ : ∃ h, hasB l c (2 ^ n) (2 ^ m) = h := ⟨_, rfl⟩
        rw [hh] at E q1 q2
        replace E := Lib.hid E
        have HS := Lib.hid hS
        clear hS hh
        go_wp2_with fail
        refine (E.out).mono ?_
        rintro e w2 ⟨rfl, hs2⟩
        have HS2 := Lib.hid (HS.out.trans (since_mono hs2 HS.out.size))
        clear hs2
        cases h with
        | true =>
          have hcb : c = b := by have := q1 rfl; omega
          subst hcb
          go_wp2
          go_ret
          exact ⟨rfl, HS2.out⟩
        | false =>
          have hcb := q2 rfl
          go_wp2
          go_roundg (gk - 1)
          case measure => omega
          case rel => exact ⟨c - 1, by omega, by omega, by omega, by go_num, HS2.out⟩

set_option maxHeartbeats 1000000 in
theorem implValueRank_any (a : Option Addr) (cap n : Nat) (l : List (List Int)) (w : World) (hn : l.length = n) (hsz : szL l ≤ 1048576) (hm : MatR w a l) :
    Calls Try.prog 18 #[.slice a n cap] w (SpecW w (tabIn l) (rkR l (2 ^ (l.getD 0 []).length) (2 ^ n) : Nat)) := by
  have E := implTableIn_any a cap n l w hn hsz hm
  cases hT : tabIn l with
  | false =>
    rw [hT] at E
    replace E := Lib.hid E
    clear hT hm hn hsz
    go_enter Try.func18, Try.ntmps18
    go_wp2_with fail
    refine (E.out).mono ?_
    rintro e w1 ⟨rfl, hd⟩
    have HD := Lib.hid hd
    clear hd
    go_wp2
    go_ret2
    exact ⟨rfl, HD.out⟩
  | true =>
    rw [hT] at E
    replace E := Lib.hid E
    have E2 := Lib.hid (fun (W : World) (hd : w.Since w.heap.size W) => rank_any a cap n _ l W hn (tabIn_of hT) rfl (hm.since hd))
    clear hT hm hn hsz
    go_enter Try.func18, Try.ntmps18
    go_wp2_with fail
    refine (E.out).mono ?_
    rintro e w1 ⟨rfl, hd⟩
    have HD := Lib.hid hd
    clear hd
    go_wp2_with fail
    refine (E2.out w1 HD.out).mono ?_
    rintro e w2 ⟨rfl, hs2⟩
    have HS2 := Lib.hid (HD.out.trans (since_mono hs2 HD.out.size))
    clear hs2
    go_wp2
    go_ret2
    exact ⟨rfl, HS2.out⟩

end Go.Proofs.Ytpoabeniejmpkaa
end

section
/- The contracts of laws.sameInts and laws.sameRows. -/
namespace Go.Proofs.Ytpoabeniejmpkaa
open Go.RowKit Go.Deep

set_option maxHeartbeats 1000000 in
/-- Two slices that read as one list are equal. -/
theorem sameInts_same (a b : Option Addr) (ca cb n : Nat) (l : List Int) (w : World) (hn : l.length = n) (h63 : n ≤ 9223372036854775807) (ha : RowR w a l) (hb : RowR w b l) :
    Calls Try.prog 73 #[.slice a n ca, .slice b n cb] w fun e w' => e = .returned (.bool true) ∧ Drawn w w' := by
  have H := Lib.hid hn; clear hn
  go_enter Try.func73, Try.ntmps73
  go_wp2
  go_loopg [5] n (fun g i wr => ∃ k : Nat, k ≤ n ∧ g = n - k ∧ i = .int .i64 k ∧ Drawn w wr)
  case atStart => exact ⟨0, Nat.zero_le _, rfl, rfl, Drawn.refl w⟩
  case round =>
    obtain ⟨k, hk, rfl, rfl, hD⟩ := hrel
    by_cases hlt : k < n
    · obtain ⟨b1, o1, rfl, hc1⟩ := ha (by rw [H.out]; omega)
      obtain ⟨b2, o2, rfl, hc2⟩ := hb (by rw [H.out]; omega)
      have c1 := hc1 k (by rw [H.out]; exact hlt)
      have c2 := hc2 k (by rw [H.out]; exact hlt)
      obtain ⟨x, hx⟩ : ∃ x, x = l.getD k 0 := ⟨_, rfl⟩
      rw [← hx] at c1 c2
      rw [← hD.cell] at c1 c2
      clear hx hc1 hc2 ha hb
      go_wp2
      go_quiet (fail)
      go_wp2
      go_roundg (n - (k + 1))
      case measure => omega
      case rel => exact ⟨k + 1, by omega, rfl, by go_num, hD.trans (Drawn.mk _ _)⟩
    · go_wp2
      go_ret
      exact ⟨rfl, hD⟩

set_option maxHeartbeats 1000000 in
/-- Two slices of slices that read as one list of lists are equal. -/
theorem sameRows_same (a b : Option Addr) (ca cb n : Nat) (l : List (List Int)) (w : World) (hn : l.length = n) (h63 : n ≤ 9223372036854775807) (hl : ∀ r, r < l.length → (l.getD r []).length ≤ 9223372036854775807)
    (ha : MatR w a l) (hb : MatR w b l) :
    Calls Try.prog 26 #[.slice a n ca, .slice b n cb] w fun e w' => e = .returned (.bool true) ∧ Drawn w w' := by
  have H := Lib.hid hn; clear hn
  go_enter Try.func26, Try.ntmps26
  go_wp2
  go_loopg [5] n (fun g i wr => ∃ k : Nat, k ≤ n ∧ g = n - k ∧ i = .int .i64 k ∧ Drawn w wr)
  case atStart => exact ⟨0, Nat.zero_le _, rfl, rfl, Drawn.refl w⟩
  case round =>
    obtain ⟨k, hk, rfl, rfl, hD⟩ := hrel
    by_cases hlt : k < n
    · obtain ⟨b1, o1, A1, C1, rfl, hc1⟩ := ha (by rw [H.out]; omega)
      obtain ⟨b2, o2, A2, C2, rfl, hc2⟩ := hb (by rw [H.out]; omega)
      obtain ⟨c1, r1⟩ := hc1 k (by rw [H.out]; exact hlt)
      obtain ⟨c2, r2⟩ := hc2 k (by rw [H.out]; exact hlt)
      have hlk := hl k (by rw [H.out]; exact hlt)
      obtain ⟨x, hx⟩ : ∃ x, x = l.getD k [] := ⟨_, rfl⟩
      rw [← hx] at c1 c2 r1 r2 hlk
      obtain ⟨m, hm⟩ : ∃ m, x.length = m := ⟨_, rfl⟩
      rw [hm] at c1 c2 hlk
      have HM := Lib.hid hm
      clear hx hc1 hc2 ha hb hl hm
      have r1 := r1.drawn hD
      have r2 := r2.drawn hD
      rw [← hD.cell] at c1 c2
      have e1 := fun (p : Nat) => sameInts_same (A1 k) (A2 k) (C1 k) (C2 k) m x (wr.drewN p) HM.out hlk r1 r2
      have E1 := Lib.hid e1; clear e1 r1 r2
      go_wp2
      go_quiet ((go_at_call 73; exact Calls.quiet_of (E1.out _)))
      go_wp2
      go_roundg (n - (k + 1))
      case measure => omega
      case rel => exact ⟨k + 1, by omega, rfl, by go_num, hD.trans (Drawn.mk _ _)⟩
    · go_wp2
      go_ret
      exact ⟨rfl, hD⟩

end Go.Proofs.Ytpoabeniejmpkaa
end

section
/- The walk of laws.FnTurn. -/
namespace Go.Proofs.Ytpoabeniejmpkaa
open Go.RowKit Go.Deep

theorem szL_of {l : List (List Int)} {n k : Nat} (h1 : l.length ≤ n) (h2 : ∀ j, j < l.length → (l.getD j []).length ≤ k) (hnk : n * k + n ≤ 1048576) : szL l ≤ 1048576 := by
  have h3 := sumTo_le_mul l k h2 l.length (Nat.le_refl _)
  have h4 : l.length * k ≤ n * k := Nat.mul_le_mul_right _ h1
  have h5 : k * l.length = l.length * k := Nat.mul_comm _ _
  unfold szL
  omega
theorem rows_le {l : List (List Int)} (h : szL l ≤ 1048576) : ∀ r, r < l.length → (l.getD r []).length ≤ 9223372036854775807 := fun r hr => by
  have := row_le l hr
  unfold szL at h
  omega

theorem tab_self {l : List (List Int)} {n m : Nat} (hn : l.length = n) (hm : ∀ r, r < n → (l.getD r []).length = m) : tabF n m (at2 l) = l := by
  refine List.ext_getElem (by rw [tabF_length, hn]) fun r h1 h2 => ?_
  have hr : r < n := by rw [tabF_length] at h1; exact h1
  have e1 : (tabF n m (at2 l))[r] = (tabF n m (at2 l)).getD r [] := by simp [List.getD, h1]
  have e2 : l[r] = l.getD r [] := by simp [List.getD, h2]
  rw [e1, e2, tabF_get _ _ _ _ hr]
  refine List.ext_getElem (by rw [List.length_map, List.length_range, hm r hr]) fun k h3 h4 => ?_
  rw [List.getElem_map, List.getElem_range]
  unfold at2
  obtain ⟨x, hx⟩ : ∃ x, x = l.getD r [] := ⟨_, rfl⟩
  subst hx
  generalize l.getD r [] = x at *
  simp [List.getD, h4]

theorem turnL_turnL {l : List (List Int)} (hT : TabIn l) : turnL (turnL l) = l := by
  have h1 := hT.1
  have hw := hT.width
  have e0 : ((turnL l).getD 0 []).length = l.length := tabF_len _ _ _ _ hw.1
  have e1 : turnL (turnL l) = tabF l.length (l.getD 0 []).length fun k i => at2 (turnL l) i k := by
    show tabF ((turnL l).getD 0 []).length (turnL l).length _ = _
    rw [e0, turnL_length]
  rw [e1]
  have e2 : tabF l.length (l.getD 0 []).length (fun k i => at2 (turnL l) i k) = tabF l.length (l.getD 0 []).length (at2 l) := by
    unfold tabF
    refine List.map_congr_left fun r hr => List.map_congr_left fun k hk => ?_
    exact tabF_at _ _ _ _ _ (List.mem_range.1 hk) (List.mem_range.1 hr)
  rw [e2]
  exact tab_self rfl (fun r hr => hT.row hr)

end Go.Proofs.Ytpoabeniejmpkaa
end

section
/- The walk of laws.FnSame. -/
namespace Go.Proofs.Ytpoabeniejmpkaa
open Go.RowKit Go.Deep

set_option maxRecDepth 100000 in
set_option maxHeartbeats 4000000 in
theorem fnSame (a : Option Addr) (cap n : Nat) (w : World) (hc : n ≤ cap) (h63 : cap ≤ 9223372036854775807) (hb : BytR w a n) :
    Calls Try.prog 3 #[.slice a n cap] w fun e w' => e = .returned (.bool true) ∧ w.Since w.heap.size w' := by
  by_cases hlen : 1048576 < n
  · have hl' : decide ((1048576 : Int) < (n : Int)) = true := by simp; omega
    clear hb
    go_enter Try.func3, Try.ntmps3
    go_wp2
    go_ret
    exact ⟨rfl, World.Since.refl _ _⟩
  · have hl' : decide ((1048576 : Int) < (n : Int)) = false := by simp; omega
    have ED := Lib.hid (drawSame_any a n cap w hc h63 hb)
    clear hb
    go_enter Try.func3, Try.ntmps3
    go_wp2_with fail
    refine (ED.out).mono ?_
    rintro e w1 ⟨a1, c1, l, a6, c6, u, rfl, hs1, ⟨h1, h5, hlens, hit⟩, g4, glens, git⟩
    have hsz : szL l ≤ 1048576 := szL_of h5 (fun j hj => (hlens j hj).2) (by decide)
    have hszu : szL u ≤ 1048576 := szL_of g4 glens (by decide)
    obtain ⟨nn, hn⟩ : ∃ nn, l.length = nn := ⟨_, rfl⟩
    obtain ⟨nu, hu⟩ : ∃ nu, u.length = nu := ⟨_, rfl⟩
    rw [hn, hu]
    have HM := Lib.hid (fun (W : World) (h : w1.Since w1.heap.size W) => hit.matR.since h)
    have HMU := Lib.hid (fun (W : World) (h : w1.Since w1.heap.size W) => MatR.since git h)
    have HS1 := Lib.hid hs1
    obtain ⟨ok, hok⟩ : ∃ ok, sameOk l u = ok := ⟨_, rfl⟩
    have E1 := implTableSame_any a1 a6 c1 c6 nn nu l u w1 hn hu hsz hszu hit.matR git
    have E2 := fun (W : World) (h : w1.Since w1.heap.size W) => specTableSame_any a1 a6 c1 c6 nn nu l u W hn hu hsz hszu (HM.out W h) (HMU.out W h)
    rw [hok] at E1
    simp only [hok] at E2
    have hall : ok = true → nu = nn ∧ tabIn l = true ∧ (∀ (W : World), w1.Since w1.heap.size W → Calls Try.prog 18 #[.slice a6 nn c6] W (SpecW W (tabIn l) (rkR l (2 ^ (l.getD 0 []).length) (2 ^ nn) : Nat))) ∧
        (∀ (W : World), w1.Since w1.heap.size W → Calls Try.prog 16 #[.slice a6 nn c6, .slice a1 nn c1] W fun e w' => e = .returned (.bool true) ∧ W.Since W.heap.size w') := fun h => by
      rw [h] at hok
      have hok2 := hok
      unfold sameOk at hok
      simp only [Bool.and_eq_true, decide_eq_true_eq] at hok
      obtain ⟨k1, _, k3⟩ := hok
      subst k3
      have e : nu = nn := by rw [← hn, ← hu]
      refine ⟨e, k1, fun W hW => implValueRank_any a6 c6 nn l W hn hsz (HMU.out W hW), fun W hW => ?_⟩
      have := implTableSame_any a6 a1 c6 c1 nn nn l l W hn hn hsz hsz (HMU.out W hW) (HM.out W hW)
      rw [hok2] at this
      exact this
    have E3 := fun (W : World) (h : w1.Since w1.heap.size W) => implValueRank_any a1 c1 nn l W hn hsz (HM.out W h)
    replace E1 := Lib.hid E1
    replace E2 := Lib.hid E2
    clear hn hu hsz hszu hit hs1 h1 h5 hlens hok g4 glens git
    go_wp2_with fail
    refine (E1.out).mono ?_
    rintro e w2 ⟨rfl, hs2⟩
    have HS2 := Lib.hid hs2
    clear hs2
    go_wp2_with fail
    refine (E2.out w2 HS2.out).mono ?_
    rintro e w3 ⟨rfl, hs3⟩
    have HS3 := Lib.hid (HS2.out.trans (since_mono hs3 HS2.out.size))
    clear hs3
    cases ok with
    | false =>
      clear hall
      go_wp2
      go_ret
      exact ⟨rfl, HS1.out.trans (since_mono HS3.out HS1.out.size)⟩
    | true =>
      obtain ⟨rfl, k1, E4, E5⟩ := hall rfl
      unfold SpecW at E3 E4
      simp only [k1, if_true] at E3 E4
      generalize rkR l (2 ^ (l.getD 0 []).length) (2 ^ nu) = r at E3 E4
      replace E3 := Lib.hid E3
      replace E4 := Lib.hid E4
      replace E5 := Lib.hid E5
      clear k1 hall
      go_wp2_with fail
      refine (E3.out w3 HS3.out).mono ?_
      rintro e w4 ⟨rfl, hs4⟩
      have HS4 := Lib.hid (HS3.out.trans (since_mono hs4 HS3.out.size))
      clear hs4
      go_wp2_with fail
      refine (E4.out w4 HS4.out).mono ?_
      rintro e w5 ⟨rfl, hs5⟩
      have HS5 := Lib.hid (HS4.out.trans (since_mono hs5 HS4.out.size))
      clear hs5
      go_wp2_with fail
      refine (E5.out w5 HS5.out).mono ?_
      rintro e w6 ⟨rfl, hs6⟩
      have HS6 := Lib.hid (HS5.out.trans (since_mono hs6 HS5.out.size))
      clear hs6
      go_wp2
      go_ret
      exact ⟨rfl, HS1.out.trans (since_mono HS6.out HS1.out.size)⟩

end Go.Proofs.Ytpoabeniejmpkaa
end

section
/- What an argument reads as, in the words of the walks; the last step of a row. -/
namespace Go.Proofs.Ytpoabeniejmpkaa
open Go.ChangeShapes Go.WideShapes Go.ChangeAt Go.RowKit Go.Deep

theorem below_since' {B : Nat} {w w' : World} (h : Below B w w') : w.Since B w' := ⟨h.os, h.tape, h.output, h.size, h.block⟩
theorem since_below' {B : Nat} {w w' : World} (h : w.Since B w') : Below B w w' := ⟨h.os, h.tape, h.output, h.size, h.block⟩

section
variable {H : Type} {enc : TypeId × Value → H} {P : Program}
theorem post_of_below {f : Func} {s : ChangeSpec} {apart fresh handsOn again : Bool} {W W' : World} {args : Array Value} {v : Value} {ds gs : List (DataW H)} {before pa pv : List MemPlace}
    (hW : DataW.Whole enc P f.params.toList s.vars apart W args.toList ds gs before)
    (hres : ∀ (b : Nat) (sp : Nat → Bool) (hd : Bool), DataW.TrodAll enc P W' b sp hd f.resultTypes.toList (v.resultList f.resultTypes.size) (s.fn H (ds ++ gs)).results [])
    (hargs : ∀ sp : Nat → Bool, (∀ p ∈ before, sp p.block = true) → DataW.TrodAll enc P W' 0 sp true f.params.toList args.toList (s.fn H (ds ++ gs)).args pa)
    (hvars : ∀ sp : Nat → Bool, (∀ p ∈ before, sp p.block = true) → DataW.TrodVars enc P W' sp s.vars (s.fn H (ds ++ gs)).vars pv)
    (hps : before = pa ++ pv) (hb : Below W.heap.size W W') (hag : again = false) :
    s.post enc P f apart fresh handsOn again W args v W' := by
  have hlt : ∀ p ∈ before, p.block < W.heap.size := fun p hp => hW.lt p hp
  have hold : ∀ p ∈ before, (fun b => decide (b < W.heap.size)) p.block = true := fun p hp => by simpa using hlt p hp
  refine ⟨ds, gs, before, [], pa, pv, hW, hres _ _ _, hargs _ hold, hvars _ hold, World.keptBut_mono (fun p hp => ⟨hp, ?_⟩) (hb.frame (· ∈ before)), fun h => ?_⟩
  · rw [hps, List.mem_append] at hp
    exact Or.inr hp
  · rw [hag] at h; cases h

/-- An argument of slices of integers reads as a list of lists. -/
theorem open_mat {W : World} {t e q : TypeId} {a : Option Addr} {n cap : Nat} {d : DataW H} {p : List MemPlace} (ht : P.underlying t = some (.slice e)) (he : P.underlying e = some (.slice q)) (hq : P.underlying q = some (.int .i64))
    (ce : P.cellsOf e = 1) (cq : P.cellsOf q = 1) (h : DataW.Trod enc P W 0 (fun _ => true) true t (.slice a n cap) d p) :
    ∃ l : List (List Int), l.length = n ∧ MatR W a l ∧ n ≤ 9223372036854775807 ∧ ∀ r, r < l.length → (l.getD r []).length ≤ 9223372036854775807 := by
  obtain ⟨fuel, hf⟩ := h
  rcases open_int_rows ht he hq ce cq hf with ⟨hcs, _⟩ | ⟨a', len', cap', A, L, C, Z, hcs, _, hl, hm, _, hrows⟩
  · simp [Value.cells] at hcs
    obtain ⟨rfl, rfl, rfl⟩ := hcs
    exact ⟨[], rfl, (fun h => by simp at h), by omega, fun r hr => by simp at hr⟩
  · simp [Value.cells] at hcs
    obtain ⟨rfl, rfl, rfl⟩ := hcs
    have hmx : maxLen = 9223372036854775807 := rfl
    have hlen : ∀ r, r < n → ((Z r).take (L r)).length = L r := fun r hr => by
      obtain ⟨_, h1, _, h2, _⟩ := hrows r (by omega)
      rw [List.length_take]; omega
    have hget : ∀ r, r < n → ((List.range n).map fun r => (Z r).take (L r)).getD r [] = (Z r).take (L r) := fun r hr => by simp [List.getD, hr]
    refine ⟨(List.range n).map fun r => (Z r).take (L r), by simp, fun h => ?_, by omega, fun r hr => ?_⟩
    · obtain ⟨b, o, spot⟩ := a'
      simp at h
      have hspot : spot = none := by simpa [Addr.add] using World.cell?_spot (hrows 0 (by omega)).1
      subst hspot
      refine ⟨b, o, A, C, rfl, fun r hr => ?_⟩
      simp at hr
      rw [hget r hr, hlen r hr]
      obtain ⟨g1, g2, g3, g4, g5, g6, g7⟩ := hrows r (by omega)
      refine ⟨by rw [← add_plain]; exact g1, fun h0 => ?_⟩
      rw [hlen r hr] at h0
      cases hA : A r with
      | none => have := g6 hA; omega
      | some a'' =>
        obtain ⟨_, hcell⟩ := g7 a'' hA
        obtain ⟨b', o', sp⟩ := a''
        have hs : sp = none := by simpa [Addr.add] using World.cell?_spot (hcell 0 (by omega))
        subst hs
        refine ⟨b', o', rfl, fun i hi => ?_⟩
        rw [hlen r hr] at hi
        rw [← add_plain, hcell i (by omega)]
        congr 2
        simp [List.getD, hi]
    · simp at hr
      rw [hget r hr, hlen r hr]
      obtain ⟨_, h1, h2, _⟩ := hrows r (by omega)
      omega
end

theorem Try.own : ownKnob Try.prog.godebug = none := by kernel_rfl
theorem Try.laidOut : laidOutB Try.prog = true := by kernel_rfl
theorem Try.cellsR : Try.prog.cellsOf 32 = 1 := by kernel_rfl
theorem Try.cellsI : Try.prog.cellsOf 3 = 1 := by kernel_rfl

end Go.Proofs.Ytpoabeniejmpkaa
end

section
/- An argument of bytes reads as bytes. -/
namespace Go.Proofs.Ytpoabeniejmpkaa
open Go.ChangeShapes Go.WideShapes Go.ChangeAt Go.RowKit Go.Deep

theorem wf_u8_of {n : Int} (h : (Lit.int .u8 n).wf = true) : 0 ≤ n ∧ n ≤ 255 := by
  have h2 : (0 : Int) ≤ n ∧ n ≤ 255 := by simpa [Lit.wf, IntKind.min, IntKind.max, IntKind.signed, IntKind.bits] using h
  exact h2

theorem open_bytes {H : Type} {enc : TypeId × Value → H} {P : Program} {W : World} {t e : TypeId} {a : Option Addr} {n cap : Nat} {d : DataW H} {p : List MemPlace} (ht : P.underlying t = some (.slice e)) (he : P.underlying e = some (.int .u8)) (ce : P.cellsOf e = 1)
    (h : DataW.Trod enc P W 0 (fun _ => true) true t (.slice a n cap) d p) : BytR W a n ∧ n ≤ cap ∧ cap ≤ 9223372036854775807 := by
  obtain ⟨fuel, hf⟩ := h
  rcases open_ints ht he ce hf with ⟨hcs, _⟩ | ⟨a', len, cap', zs, hcs, _, hl, hm, hlen, _, hcell, hwf⟩
  · simp [Value.cells] at hcs
    obtain ⟨rfl, rfl, rfl⟩ := hcs
    exact ⟨fun h => absurd h (by omega), by omega, by omega⟩
  · simp [Value.cells] at hcs
    obtain ⟨rfl, rfl, rfl⟩ := hcs
    have hmx : maxLen = 9223372036854775807 := rfl
    have hzl : zs.length = cap := by simpa using hlen
    refine ⟨fun h0 => ?_, by omega, by omega⟩
    obtain ⟨b, o, spot⟩ := a'
    have hspot : spot = none := by simpa [Addr.add] using World.cell?_spot (hcell 0 (by omega))
    subst hspot
    refine ⟨b, o, rfl, fun i hi => ?_⟩
    have hi' : i < zs.length := by omega
    have hw := wf_u8_of (hwf (zs.getD i 0) (by simp [List.getD, hi']))
    obtain ⟨z, hz⟩ := Int.eq_ofNat_of_zero_le hw.1
    refine ⟨z, by omega, ?_⟩
    rw [← add_plain, hcell i hi', hz]

theorem Try.cellsB : Try.prog.cellsOf 5 = 1 := by kernel_rfl

end Go.Proofs.Ytpoabeniejmpkaa
end

section
/- The statement FnSame, proved: for every input the law returns true and the argument reads as before. No conditions. -/
namespace Go.Proofs.Ytpoabeniejmpkaa
open Go.ChangeShapes Go.WideShapes Go.ChangeAt Go.RowKit Go.Deep

set_option maxRecDepth 100000 in
theorem lifted_FnSame (os : Os) (started : os.Started) (H : Type) (enc : TypeId × Value → H) :
    ReturnsInHanded {} Try.checked os 3 .any (Rows.fnSameSpec.pre6 enc Try.prog Try.f3 Rows.fnSameRow.domain false) (Rows.fnSameSpec.post enc Try.prog Try.f3 false true false false) := by
  refine returnsInHanded_of_change (C := Try.checked) Try.own started (by kernel_rfl) Try.func3
    (ChangeSpec.witness6 (enc := enc) (C := Try.checked) false ⟨#[], #[.slice none 0 0], []⟩ 8 (by kernel_rfl) (by kernel_rfl) (by kernel_rfl) (by kernel_rfl)) ?_
  intro W base args ds gs before hval0 hW _ _
  have hval : ∀ (j : Nat) t v, Try.f3.params[j]? = some t → args[j]? = some v → Value.okWide Try.prog W .any base t v := hval0
  have hW' := hW
  obtain ⟨p, q, hA0, hV, rfl, hfz, hnd⟩ := hW
  have hA : DataW.TrodAll enc Try.prog W 0 (fun _ => true) true Try.f3.params.toList args.toList ds p := hA0
  rw [Try.params3] at hA hval
  obtain ⟨v0, d0, rfl, rfl, h0⟩ := trodAll_one hA
  obtain ⟨p0, hp0⟩ : ∃ p0, p0 = p := ⟨_, rfl⟩
  subst hp0
  obtain ⟨rfl, rfl⟩ := trodVars_none hV
  obtain ⟨a0, n0, cap0, rfl⟩ := okWide_slice Try.underlying22 (hval 0 22 v0 rfl rfl)
  obtain ⟨hb0, hc0, h630⟩ := open_bytes Try.underlying22 Try.underlying5 Try.cellsB h0
  clear hA0 hval0
  simp only [List.append_nil] at hW'
  have hlt0 : ∀ x ∈ p0, x.block < W.heap.size := fun x hx => hW'.lt x (by simp [hx])
  refine (fnSame a0 cap0 n0 W hc0 h630 hb0).mono fun e W' ⟨he, hs⟩ => ?_
  subst he
  have hb := since_below' hs
  have ht0 : ∀ sp : Nat → Bool, (∀ x ∈ p0, sp x.block = true) → DataW.Trod enc Try.prog W' 0 sp true 22 (.slice a0 n0 cap0) d0 p0 := fun sp hsp =>
    WideElems.Trod_stays Try.laidOut (by kernel_rfl) (of_decide_eq_true (by kernel_rfl)) h0 (fun x hx => hb.same (hlt0 x hx)) hsp
  have hargs : ∀ sp : Nat → Bool, (∀ x ∈ (p0), sp x.block = true) → DataW.TrodAll enc Try.prog W' 0 sp true [22] [.slice a0 n0 cap0] [d0] (p0) := fun sp hsp => by
    have := trodAll_mk1 (enc := enc) (P := Try.prog) (w := W') (base := 0) (spare := sp) (held := true) (ht0 sp (fun x hx => hsp x (by simp [hx])))
    simpa using this
  exact ⟨_, rfl, post_of_below (pa := p0) (pv := []) hW' (fun _ _ _ => trodAll_mk1 (shut_bool Try.underlying4 true)) (fun sp hsp => hargs sp (fun x hx => hsp x (by simpa using hx))) (fun _ _ => rfl) (by simp) hb rfl⟩

theorem FnSame_holds : Rows.FnSameSaid :=
  OpenClaim.holds_of_wide 3 Try.f3 rfl rfl rfl rfl rfl rfl rfl ⟨rfl, rfl, rfl, rfl, rfl⟩ rfl rfl rfl rfl rfl (by kernel_rfl) Try.func3 (by kernel_rfl)
    (of_decide_eq_true (by kernel_rfl)) (by unfold Func.isWrapper; first | (rw [if_pos (by decide +kernel)]; kernel_rfl) | (rw [if_neg (by decide +kernel)]; exact ⟨rfl, rfl⟩))
    (fun os started H enc _ => lifted_FnSame os started H enc)

end Go.Proofs.Ytpoabeniejmpkaa
end
