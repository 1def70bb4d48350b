import Derived.Test.YtggmiojhglkcgaaTurnSpec
import Derived.Deep.QuietTactic
import Derived.Deep.AppendLies
import Derived.Deep.RegionHeld3
import Derived.Test.YtggmiojhglkcgaaChipR
import Derived.Test.YtggmiojhglkcgaaHarn2
import Derived.Test.YtggmiojhglkcgaaNetU
import Derived.Test.YtggmiojhglkcgaaNetV
import Derived.Test.YtggmiojhglkcgaaNetO
import Derived.Test.YtggmiojhglkcgaaChipJ
import Derived.Test.YtggmiojhglkcgaaUnitImpl
import Derived.Test.YtggmiojhglkcgaaNetG
import Derived.BigQuiet
import Derived.LaidEqlPtr
import Derived.Laws.AppendOwn
import Derived.Lib.SliceRun
import Derived.Test.YtggmiojhglkcgaaIter
import Derived.RangeFuncFrom
import Derived.RangeFuncBox
import Derived.Test.YtggmiojhglkcgaaRound
import Derived.OrdersHeld
import Derived.RangeFuncNested
import Derived.Test.YtggmiojhglkcgaaMakeEntry
import Derived.Test.YtggmiojhglkcgaaMakeImpl
import Derived.Test.YtggmiojhglkcgaaPartImpl
import Derived.Test.YtggmiojhglkcgaaProd
import Derived.Test.YtggmiojhglkcgaaRows
import Derived.Test.YtggmiojhglkcgaaData
import Derived.ProofKit
import Derived.Deep.Matrix

section
namespace Go.Proofs.Ytggmiojhglkcgaa
open Go.RowKit Go.Deep

theorem World.grownBy_refl (w : World) (row : Option Nat) : w.grownBy w row := ⟨rfl, rfl, rfl, Nat.le_refl _, fun _ _ _ => rfl⟩
theorem grown_trans {a b c : World} {row : Option Nat} (h : a.grownBy b row) (k : b.grownBy c row) : a.grownBy c row :=
  ⟨k.os.trans h.os, k.tape.trans h.tape, k.output.trans h.output, Nat.le_trans h.size k.size, fun i hi hn => (k.block i (Nat.lt_of_lt_of_le hi h.size) hn).trans (h.block i hi hn)⟩
theorem grown_since {a b : World} (row : Option Nat) (h : a.Since a.heap.size b) : a.grownBy b row := ⟨h.os, h.tape, h.output, h.size, fun i hi _ => h.block i hi⟩
theorem grown_of {a b : World} {row row' : Option Nat} (h : a.grownBy b row) (hr : ∀ k, row = some k → a.heap.size ≤ k ∨ some k = row') : a.grownBy b row' :=
  ⟨h.os, h.tape, h.output, h.size, fun i hi hn => h.block i hi (fun e => by
    rcases hr i e.symm with h1 | h1
    · omega
    · exact hn h1)⟩
theorem since_grown {a b : World} {G B : Nat} (h : a.grownBy b (some G)) (hG : B ≤ G) (hB : B ≤ a.heap.size) : a.Since B b :=
  ⟨h.os, h.tape, h.output, h.size, fun i hi => h.block i (by omega) (fun e => by injection e with e; omega)⟩

def BytR (w : World) (a : Option Addr) (n : Nat) : Prop :=
  0 < n → ∃ b o, a = some ⟨b, o, none⟩ ∧ ∀ i, i < n → ∃ z : Nat, z ≤ 255 ∧ w.cell? ⟨b, o + i, none⟩ = some (.int .u8 z)
theorem BytR.since {w w' : World} {a : Option Addr} {n : Nat} (h : BytR w a n) (hs : w.Since w.heap.size w') : BytR w' a n := by
  intro h0
  obtain ⟨b, o, e, hc⟩ := h h0
  refine ⟨b, o, e, fun i hi => ?_⟩
  obtain ⟨z, h1, h2⟩ := hc i hi
  exact ⟨z, h1, (hs.cell (a := ⟨b, o + i, none⟩) (World.block_lt_of_cell? _ _ h2)).trans h2⟩

structure RD (w0 w : World) (G : Nat) (a : Option Addr) (n c : Nat) (tr : TypeId) (p : Nat) : Prop where
  blk : w.heap[G]? = some (.cells #[.slice a n c, .int .i64 p] tr (0, 0))
  base : w0.heap.size ≤ G
  since : w0.Since w0.heap.size w
  bytes : BytR w0 a n
  small : n ≤ 2000
theorem RD.lt {w0 w : World} {G : Nat} {a : Option Addr} {n c : Nat} {tr : TypeId} {p : Nat} (h : RD w0 w G a n c tr p) : G < w.heap.size := (Array.getElem?_eq_some_iff.1 h.blk).1
theorem RD.cell0 {w0 w : World} {G : Nat} {a : Option Addr} {n c : Nat} {tr : TypeId} {p : Nat} (h : RD w0 w G a n c tr p) : w.cell? ⟨G, 0, none⟩ = some (.slice a n c) := by simp [World.cell?, h.blk]
theorem RD.cell1 {w0 w : World} {G : Nat} {a : Option Addr} {n c : Nat} {tr : TypeId} {p : Nat} (h : RD w0 w G a n c tr p) : w.cell? ⟨G, 1, none⟩ = some (.int .i64 p) := by simp [World.cell?, h.blk]
theorem RD.free1 {w0 w : World} {G : Nat} {a : Option Addr} {n c : Nat} {tr : TypeId} {p : Nat} (h : RD w0 w G a n c tr p) : w.frozen? ⟨G, 1, none⟩ = false := by simp [World.frozen?, h.blk]
theorem RD.set {w0 w : World} {G : Nat} {a : Option Addr} {n c : Nat} {tr : TypeId} {p : Nat} (h : RD w0 w G a n c tr p) (q : Nat) : RD w0 (w.setCell ⟨G, 1, none⟩ (.int .i64 q)) G a n c tr q :=
  ⟨by simp [World.setCell, Array.getElem?_modify, h.blk], h.base, h.since.setCell h.base _, h.bytes, h.small⟩
theorem RD.later {w0 w w' : World} {G : Nat} {a : Option Addr} {n c : Nat} {tr : TypeId} {p : Nat} (h : RD w0 w G a n c tr p) (hs : w.Since w.heap.size w') : RD w0 w' G a n c tr p :=
  ⟨(hs.block G h.lt).trans h.blk, h.base, h.since.trans (since_mono hs h.since.size), h.bytes, h.small⟩
theorem RD.grown {w0 w w' : World} {G : Nat} {a : Option Addr} {n c : Nat} {tr : TypeId} {p : Nat} {row : Option Nat} (h : RD w0 w G a n c tr p) (hg : w.grownBy w' row) (hr : ∀ k, row = some k → G < k) : RD w0 w' G a n c tr p :=
  ⟨(hg.block G h.lt (fun e => by have := hr G e.symm; omega)).trans h.blk, h.base, h.since.grown hg h.since.size (fun k e => by have := hr k e; have := h.base; omega), h.bytes, h.small⟩

def RW (B : Nat) (w : World) (v : Value) (x : List Int) : Prop := w.ownsRow B 3 1 v x.length (x.map (Value.int .i64))
theorem RW.kept {B : Nat} {w w' : World} {v : Value} {x : List Int} {G : Nat} (h : RW B w v x) (hg : w.grownBy w' (some G)) (hG : G < B) : RW B w' v x :=
  World.ownsRow.kept h hg (by
    cases hv : v.ownBlock with
    | none => exact .inl rfl
    | some k => exact .inr (fun e => by injection e with e; have := (World.ownsRow.lt h k hv).1; omega))
theorem RW.base {B B' : Nat} {w : World} {v : Value} {x : List Int} (h : RW B w v x) (hB : B' ≤ B) : RW B' w v x := by
  refine ⟨h.1, ?_⟩
  rcases h.2 with h1 | ⟨g, cap, cur, e, hb, hr⟩
  · exact .inl h1
  · exact .inr ⟨g, cap, cur, e, by omega, hr⟩
theorem RW.form {B : Nat} {w : World} {v : Value} {x : List Int} (h : RW B w v x) (h0 : 0 < x.length) : ∃ g cap, v = .slice (some ⟨g, 0, none⟩) x.length cap ∧ B ≤ g ∧ RowB w g x := RowB.of_owns h h0
theorem RW.set {B : Nat} {w : World} {g cap k : Nat} {x : List Int} (h : RW B w (.slice (some ⟨g, 0, none⟩) x.length cap) x) (_hk : k < x.length) (y : Int) : RW B (w.setCell ⟨g, k, none⟩ (.int .i64 y)) (.slice (some ⟨g, 0, none⟩) x.length cap) (x.set k y) := by
  rcases h.2 with ⟨e, _⟩ | ⟨g', cap', cur, e, hb, hg, hn, hm, hs, ht⟩
  · cases e
  · injection e with e1 e2 e3
    injection e1 with e1
    injection e1 with e1
    subst e1; subst e3
    refine ⟨by simp, .inr ⟨g, cap, cur.setIfInBounds k (.int .i64 y), by rw [List.length_set], hb, ?_, by rw [List.length_set]; exact hn, hm, by simpa using hs, ?_⟩⟩
    · simp [World.setCell, Array.getElem?_modify, hg]
    · rw [List.length_set, Nat.mul_one]
      rw [Nat.mul_one] at ht
      rw [List.map_set, ← ht]
      simp [List.take_set]

structure BD (B : Nat) (w : World) (v : Value) (l : List (List Int)) (A : Nat → Option Addr) (C : Nat → Nat) : Prop where
  own : w.ownsRow B 37 1 v l.length ((List.range l.length).map fun r => .slice (A r) (l.getD r []).length (C r))
  rows : ∀ r, r < l.length → 0 < (l.getD r []).length ∧ RW B w (.slice (A r) (l.getD r []).length (C r)) (l.getD r [])
  apart : ∀ r r', r < l.length → r' < l.length → A r = A r' → r = r'
theorem BD.start (w : World) (A : Nat → Option Addr) (C : Nat → Nat) {B : Nat} (hB : B ≤ w.heap.size) : BD B (w.alloc (.cells #[] 37)) (.slice (some ⟨w.heap.size, 0, none⟩) 0 0) [] A C :=
  ⟨World.ownsRow_made w #[] 0 hB (Nat.zero_le _) rfl, fun r hr => by simp at hr, fun r _ hr => by simp at hr⟩
theorem BD.kept {B : Nat} {w w' : World} {v : Value} {l : List (List Int)} {A : Nat → Option Addr} {C : Nat → Nat} {G : Nat} (h : BD B w v l A C) (hg : w.grownBy w' (some G)) (hG : G < B) : BD B w' v l A C :=
  ⟨World.ownsRow.kept h.own hg (by
      cases hv : v.ownBlock with
      | none => exact .inl rfl
      | some k => exact .inr (fun e => by injection e with e; have := (h.own.lt k hv).1; omega)),
    fun r hr => ⟨(h.rows r hr).1, (h.rows r hr).2.kept hg hG⟩, h.apart⟩
theorem BD.later {B : Nat} {w w' : World} {v : Value} {l : List (List Int)} {A : Nat → Option Addr} {C : Nat → Nat} (h : BD B w v l A C) (hs : w.Since w.heap.size w') : BD B w' v l A C := by
  have hg : w.grownBy w' none := grown_since none hs
  refine ⟨World.ownsRow.kept h.own hg ?_, fun r hr => ⟨(h.rows r hr).1, World.ownsRow.kept (h.rows r hr).2 hg ?_⟩, h.apart⟩
  · cases hv : v.ownBlock <;> simp
  · cases hv : (Value.slice (A r) (l.getD r []).length (C r)).ownBlock <;> simp
theorem BD.row {B : Nat} {w : World} {v : Value} {l : List (List Int)} {A : Nat → Option Addr} {C : Nat → Nat} (h : BD B w v l A C) {r : Nat} (hr : r < l.length) : ∃ g, A r = some ⟨g, 0, none⟩ ∧ B ≤ g ∧ RowB w g (l.getD r []) := by
  obtain ⟨g, cap, e, hb, hw⟩ := (h.rows r hr).2.form (h.rows r hr).1
  injection e with e _ _
  exact ⟨g, e, hb, hw⟩
theorem BD.top {B : Nat} {w : World} {v : Value} {l : List (List Int)} {A : Nat → Option Addr} {C : Nat → Nat} (h : BD B w v l A C) (h0 : 0 < l.length) : ∃ b cap cur, v = .slice (some ⟨b, 0, none⟩) l.length cap ∧ B ≤ b ∧ w.heap[b]? = some (.cells cur 37 (0, 0)) ∧ ∀ r, r < l.length → cur[r]? = some (.slice (A r) (l.getD r []).length (C r)) := by
  rcases h.own.2 with ⟨_, hn⟩ | ⟨g, cap, cur, e, hb, hg, hn, _, hs, ht⟩
  · omega
  · refine ⟨g, cap, cur, e, hb, hg, fun r hr => ?_⟩
    have h1 : (cur.toList.take (l.length * 1))[r]? = some (.slice (A r) (l.getD r []).length (C r)) := by rw [ht]; simp [hr]
    rw [List.getElem?_take] at h1
    have h2 : r < l.length ∧ cur[r]? = some (.slice (A r) (l.getD r []).length (C r)) := by simpa using h1
    exact h2.2
theorem BD.push {B : Nat} {w w1 : World} {v v' : Value} {l : List (List Int)} {A : Nat → Option Addr} {C : Nat → Nat} {x : List Int} {a : Option Addr} {cp : Nat} (h : BD B w v l A C) (h0 : 0 < x.length) (hx : RW B w (.slice a x.length cp) x)
    (hfresh : ∀ r, r < l.length → A r ≠ a)
    (hown : w1.ownsRow B 37 1 v' (l.length + 1) (((List.range l.length).map fun r => .slice (A r) (l.getD r []).length (C r)) ++ [.slice a x.length cp])) (hg : (w.alloc (.cells #[.slice a x.length cp] 37)).grownBy w1 v.ownBlock) :
    BD B w1 v' (l ++ [x]) (fun r => if r = l.length then a else A r) (fun r => if r = l.length then cp else C r) := by
  have hkeep : ∀ (u : Value) (y : List Int), 0 < y.length → RW B w u y → RW B w1 u y := by
    intro u y hy hu
    refine World.ownsRow.kept (World.ownsRow.alloc hu _) hg ?_
    obtain ⟨g, cap, e, _, cs, hc, _⟩ := hu.form hy
    subst e
    refine .inr fun e => ?_
    rcases h.own.2 with ⟨rfl, _⟩ | ⟨g', cap', cur, rfl, _, hgg, _⟩
    · cases e
    · injection e with e
      have e : g = g' := e
      rw [← e, hc] at hgg
      injection hgg with hgg
      injection hgg with _ e2 _
      exact absurd e2 (by decide)
  have e4 : ∀ q, q < l.length → (l ++ [x]).getD q [] = l.getD q [] := fun q hq => by simp [List.getD, List.getElem?_append_left hq]
  have e5 : (l ++ [x]).getD l.length [] = x := by simp [List.getD]
  have e6 : (l ++ [x]).length = l.length + 1 := by simp
  refine ⟨?_, fun r hr => ?_, fun r r' hr hr' e => ?_⟩
  · rw [e6, List.range_succ, List.map_append]
    have e2 : (List.range l.length).map (fun r => Value.slice (if r = l.length then a else A r) ((l ++ [x]).getD r []).length (if r = l.length then cp else C r)) = (List.range l.length).map fun r => .slice (A r) (l.getD r []).length (C r) := by
      refine List.map_congr_left fun r hr => ?_
      have hr' := List.mem_range.1 hr
      rw [if_neg (by omega), if_neg (by omega), e4 r hr']
    rw [e2]
    simpa [e5] using hown
  · by_cases e : r = l.length
    · subst e
      rw [e5, if_pos rfl, if_pos rfl]
      exact ⟨h0, hkeep _ _ h0 hx⟩
    · rw [e6] at hr
      rw [e4 r (by omega), if_neg e, if_neg e]
      exact ⟨(h.rows r (by omega)).1, hkeep _ _ (h.rows r (by omega)).1 (h.rows r (by omega)).2⟩
  · rw [e6] at hr hr'
    by_cases e1 : r = l.length <;> by_cases e2 : r' = l.length
    · omega
    · rw [if_pos e1, if_neg e2] at e
      exact absurd e.symm (hfresh r' (by omega))
    · rw [if_neg e1, if_pos e2] at e
      exact absurd e (hfresh r (by omega))
    · rw [if_neg e1, if_neg e2] at e
      exact h.apart r r' (by omega) (by omega) e
theorem BD.fresh {B : Nat} {w : World} {v : Value} {l : List (List Int)} {A : Nat → Option Addr} {C : Nat → Nat} (h : BD B w v l A C) {a : Option Addr} {g : Nat} (ha : a = some ⟨g, 0, none⟩) (hg : w.heap.size ≤ g) : ∀ r, r < l.length → A r ≠ a := by
  intro r hr e
  obtain ⟨g', e', _, hw⟩ := h.row hr
  have := hw.lt
  rw [e', ha] at e
  injection e with e; injection e with e
  omega
theorem BD.matR {B : Nat} {w : World} {v : Value} {l : List (List Int)} {A : Nat → Option Addr} {C : Nat → Nat} (h : BD B w v l A C) : ∃ a cap, v = .slice a l.length cap ∧ MatR w a l := by
  by_cases h0 : 0 < l.length
  · obtain ⟨b, cap, cur, e, _, hg, hc⟩ := h.top h0
    refine ⟨_, cap, e, fun _ => ⟨b, 0, A, C, rfl, fun r hr => ⟨?_, fun h1 => ?_⟩⟩⟩
    · rw [Nat.zero_add]; simp [World.cell?, hg, hc r hr]
    · obtain ⟨g, e, _, hw⟩ := h.row hr
      exact ⟨g, 0, e, fun i hi => by rw [Nat.zero_add]; exact hw.cell hi⟩
  · rcases h.own.2 with ⟨hv, hn⟩ | ⟨g, cap, cur, e, _⟩
    · exact ⟨none, 0, by rw [hv, hn], fun h => absurd h h0⟩
    · exact ⟨_, cap, e, fun h => absurd h h0⟩

end Go.Proofs.Ytggmiojhglkcgaa
end

section
namespace Go.Proofs.Ytggmiojhglkcgaa
open Go.RowKit Go.Deep

theorem grown_drewN {a b : World} {row : Option Nat} (h : a.grownBy b row) (q : Nat) : a.grownBy (b.drewN q) row := ⟨h.os, h.tape, h.output, h.size, h.block⟩
theorem xor_i64_nat (a b : Nat) (ha : a < 2 ^ 62) (hb : b < 2 ^ 62) : bits .xor .i64 (a : Int) (b : Int) = ((a ^^^ b : Nat) : Int) := by
  have hx : a ^^^ b < 2 ^ 62 := Nat.xor_lt_two_pow ha hb
  have h1 : (BitVec.ofInt 64 (a : Int)).toNat = a := by
    rw [BitVec.ofInt_natCast, BitVec.toNat_ofNat]; exact Nat.mod_eq_of_lt (by omega)
  have h2 : (BitVec.ofInt 64 (b : Int)).toNat = b := by
    rw [BitVec.ofInt_natCast, BitVec.toNat_ofNat]; exact Nat.mod_eq_of_lt (by omega)
  show IntKind.i64.wrap ((BitVec.ofInt 64 (a : Int) ^^^ BitVec.ofInt 64 (b : Int)).toNat : Int) = _
  rw [BitVec.toNat_xor, h1, h2]
  exact IntWalk.i64_in _ ⟨by omega, by omega⟩

set_option maxRecDepth 100000 in
set_option maxHeartbeats 2000000 in
theorem pick_any (w0 w : World) (G n c p : Nat) (a : Option Addr) (m : Int) (h : RD w0 w G a n c 116 p) (hp : p ≤ 100000) :
    Calls Try.prog 83 #[.pointer (some ⟨G, 0, none⟩), .int .i64 m] w fun e w' => ∃ x : Nat, e = .returned (.int .i64 x) ∧ ((x : Int) < m ∨ x = 0) ∧ w.grownBy w' (some G) ∧ RD w0 w' G a n c 116 (p + 1) := by
  have e0 := h.cell0
  have e1 := h.cell1
  have e2 := h.free1
  have hs := h.set (p + 1)
  have hwp : IntKind.i64.wrap ((p : Int) + 1) = (p : Int) + 1 := IntWalk.i64_in _ ⟨by omega, by omega⟩
  have hc : ((p + 1 : Nat) : Int) = (p : Int) + 1 := by omega
  have hgr : w.grownBy (w.setCell ⟨G, 1, none⟩ (.int .i64 (p + 1 : Nat))) (some G) := ⟨rfl, rfl, rfl, by simp, fun k _ hk => Below.heap_setCell _ _ _ _ (fun e => hk (by rw [e]))⟩
  rw [hc] at hs hgr
  have s0 := hs.cell0
  have s1 := hs.cell1
  rw [hc] at s1
  have hsm := hs.small
  have hbb := hs.bytes.since hs.since
  have HS := Lib.hid hs
  have HG := Lib.hid hgr
  have HB := Lib.hid hbb
  clear hs hgr h hbb hc
  by_cases hm : m < 1
  · go_enter Try.func83, Try.ntmps83
    go_wp2
    go_wp2
    go_ret
    exact ⟨0, rfl, .inr rfl, HG.out, HS.out⟩
  · obtain ⟨M, rfl⟩ := Int.eq_ofNat_of_zero_le (show 0 ≤ m by omega)
    have hM1 : 1 ≤ M := by omega
    have hd : decide ((M : Int) < 1) = false := by simp; omega
    by_cases hn : n = 0
    · subst hn
      go_enter Try.func83, Try.ntmps83
      go_wp2
      go_wp2
      go_ret
      exact ⟨0, rfl, .inr rfl, HG.out, HS.out⟩
    · have hn1 : 1 ≤ n := by omega
      have hnb : ((n : Int) == 0) = false := by simp; omega
      obtain ⟨b, o, rfl, hb⟩ := HB.out (by omega)
      have hwm : IntKind.i64.wrap ((p : Int) + 1 - 1) = (p : Int) := by rw [show (p : Int) + 1 - 1 = p by omega]; exact IntWalk.i64_in _ ⟨by omega, by omega⟩
      by_cases hlt : p < n
      · obtain ⟨z, hz, hzc⟩ := hb p hlt
        have hl : decide ((p : Int) < n) = true := by simp; omega
        clear hb
        go_enter Try.func83, Try.ntmps83
        go_wp2
        go_ret
        exact ⟨z % M, rfl, .inl (by have := Nat.mod_lt z hM1; omega), HG.out, HS.out⟩
      · have hl : decide ((p : Int) < n) = false := by simp; omega
        obtain ⟨q1, hq1, hql1⟩ : ∃ q : Nat, (p : Int) % (n : Int) = q ∧ q < n := ⟨p % n, (Int.natCast_emod p n).symm, Nat.mod_lt _ (by omega)⟩
        obtain ⟨q2, hq2, hql2⟩ : ∃ q : Nat, ((p : Int) * 7 + 3) % (n : Int) = q ∧ q < n := ⟨(p * 7 + 3) % n, by rw [Int.natCast_emod]; simp, Nat.mod_lt _ (by omega)⟩
        obtain ⟨dd, hdd, hdl⟩ : ∃ q : Nat, (p : Int) / (n : Int) = q ∧ q ≤ p := ⟨p / n, (Int.natCast_ediv p n).symm, Nat.div_le_self _ _⟩
        obtain ⟨z1, hz1, hzc1⟩ := hb q1 hql1
        obtain ⟨z2, hz2, hzc2⟩ := hb q2 hql2
        clear hb
        have w1 : IntKind.i64.wrap ((p : Int) * 7) = (p : Int) * 7 := IntWalk.i64_in _ ⟨by omega, by omega⟩
        have w2 : IntKind.i64.wrap ((p : Int) * 7 + 3) = (p : Int) * 7 + 3 := IntWalk.i64_in _ ⟨by omega, by omega⟩
        have w3 : IntKind.i64.wrap ((z1 : Int) * 131) = (z1 : Int) * 131 := IntWalk.i64_in _ ⟨by omega, by omega⟩
        have w4 : IntKind.i64.wrap ((z2 : Int) * 1117) = (z2 : Int) * 1117 := IntWalk.i64_in _ ⟨by omega, by omega⟩
        have w5 : IntKind.i64.wrap ((z1 : Int) * 131 + (z2 : Int) * 1117) = (z1 : Int) * 131 + (z2 : Int) * 1117 := IntWalk.i64_in _ ⟨by omega, by omega⟩
        have w6 : IntKind.i64.wrap ((p : Int) * 29) = (p : Int) * 29 := IntWalk.i64_in _ ⟨by omega, by omega⟩
        have w7 : IntKind.i64.wrap ((z1 : Int) * 131 + (z2 : Int) * 1117 + (p : Int) * 29) = (z1 : Int) * 131 + (z2 : Int) * 1117 + (p : Int) * 29 := IntWalk.i64_in _ ⟨by omega, by omega⟩
        have w8 : IntKind.i64.wrap ((dd : Int) * 53) = (dd : Int) * 53 := IntWalk.i64_in _ ⟨by omega, by omega⟩
        have w9 : IntKind.i64.wrap ((z1 : Int) * 131 + (z2 : Int) * 1117 + (p : Int) * 29 + (dd : Int) * 53) = (z1 : Int) * 131 + (z2 : Int) * 1117 + (p : Int) * 29 + (dd : Int) * 53 := IntWalk.i64_in _ ⟨by omega, by omega⟩
        go_enter Try.func83, Try.ntmps83
        go_wp2
        go_quiet (fail)
        obtain ⟨X, hX⟩ : ∃ X : Nat, (z1 : Int) * 131 + (z2 : Int) * 1117 + (p : Int) * 29 + (dd : Int) * 53 = X := ⟨z1 * 131 + z2 * 1117 + p * 29 + dd * 53, by omega⟩
        have hx : bits .xor .i64 (X : Int) ((X : Int) / 64) = ((X ^^^ X / 64 : Nat) : Int) := by
          rw [show ((X : Int) / 64) = ((X / 64 : Nat) : Int) by omega]
          exact xor_i64_nat _ _ (by omega) (by omega)
        obtain ⟨y, hy⟩ : ∃ y : Nat, bits .xor .i64 (X : Int) ((X : Int) / 64) = y := ⟨_, hx⟩
        clear hx
        go_wp2
        go_ret
        exact ⟨y % M, rfl, .inl (by have := Nat.mod_lt y hM1; omega), grown_drewN HG.out nq, HS.out.later (since_drewN (World.Since.refl _ _) nq)⟩

end Go.Proofs.Ytggmiojhglkcgaa
end

section
namespace Go.Proofs.Ytggmiojhglkcgaa
open Go.RowKit Go.Deep

theorem grown_new {a b c : World} {G : Nat} {row : Option Nat} (h : a.grownBy b (some G)) (k : b.grownBy c row) (hr : ∀ i, row = some i → a.heap.size ≤ i) : a.grownBy c (some G) :=
  ⟨k.os.trans h.os, k.tape.trans h.tape, k.output.trans h.output, Nat.le_trans h.size k.size, fun i hi hn => (k.block i (Nat.lt_of_lt_of_le hi h.size) (fun e => by have := hr i e.symm; omega)).trans (h.block i hi hn)⟩
theorem grown_alloc {a b : World} {G : Nat} (h : a.grownBy b (some G)) (o : Obj) : a.grownBy (b.alloc o) (some G) := grown_new h (World.grownBy_alloc b o none) (fun i e => by cases e)
theorem grown_set {a b : World} {G : Nat} (h : a.grownBy b (some G)) {g k : Nat} (hg : a.heap.size ≤ g) (v : Value) : a.grownBy (b.setCell ⟨g, k, none⟩ v) (some G) :=
  grown_new h (row := some g) ⟨rfl, rfl, rfl, by simp, fun i _ hi => Below.heap_setCell _ _ _ _ (fun e => hi (by rw [e]))⟩ (fun i e => by cases e; exact hg)
theorem cell_grown {a b : World} {G : Nat} {p : Addr} {v : Value} (h : a.cell? p = some v) (hg : a.grownBy b (some G)) (hp : p.block ≠ G) : b.cell? p = some v := hg.cell h (fun e => hp (by injection e))
theorem cell_set_far {w : World} {g j : Nat} {v : Value} {p : Addr} {u : Value} (h : w.cell? p = some u) (hne : p.block ≠ g) : (w.setCell ⟨g, j, none⟩ v).cell? p = some u := by
  rw [World.cell?_setCell_other _ _ _ _ (fun e => hne (by rw [← e]))]; exact h

theorem wpList_append_int {P : Program} (w : World) {ops : Array Oper} {rest : List Oper} {o : Oper} {a : Act} {Q : Exit → Act → World → Prop} (hgd : o.guard = none) (s x : Operand) (t : TypeId)
    (ho : o.op = .call { callee := .builtin .append, args := #[s, x], argTypes := #[t, t] }) (B : Nat) (i : TypeInfo) (ht : P.underlying t = some (.slice 3)) (hi : P.info? 3 = some i) (hz : i.zero = some (.int .i64 0)) (hsz : i.size = 1) (hby : i.bytes = 8)
    (v : Value) (xs : List Int) (hs : a.eval s = v) (h : RW B w v xs) (y : Int) (hx : a.eval x = .slice (some ⟨w.heap.size, 0, none⟩) 1 1) (hlen : xs.length ≤ 1000) (hB : B ≤ w.heap.size)
    (hK : ∀ v' w', RW B w' v' (xs ++ [y]) → w.grownBy w' v.ownBlock → wpList P ops Q rest (a.put o.dst v') w') : wpList P ops Q (o :: rest) a (w.alloc (.cells #[.int .i64 y] 3)) := by
  refine wpList_append_own _ hgd s x t ho B 3 i (.int .i64 0) 1 8 ht hi hz hsz hby rfl (by decide) v xs.length (xs.map (Value.int .i64)) hs (World.ownsRow.alloc h _) ⟨w.heap.size, 0, none⟩ 1 1 [.int .i64 y] hx rfl (cell_one_at _ _ _ rfl) (fun u hu => by simp at hu; subst hu; rfl) (by unfold maxLen; omega) (by omega) (by simp; omega) ?_
  intro v' w' hown hg _
  refine hK v' w' ?_ ⟨hg.os, hg.tape, hg.output, by have := hg.size; simp at this; omega, fun j hj hn => (hg.block j (by simp; omega) hn).trans (Below.heap_alloc _ _ _ hj)⟩
  unfold RW
  rw [List.length_append, List.map_append]
  exact hown

theorem wpList_append_row {P : Program} (w : World) {ops : Array Oper} {rest : List Oper} {o : Oper} {a : Act} {Q : Exit → Act → World → Prop} (hgd : o.guard = none) (s x : Operand) (t : TypeId)
    (ho : o.op = .call { callee := .builtin .append, args := #[s, x], argTypes := #[t, t] }) (B B' : Nat) (i : TypeInfo) (ht : P.underlying t = some (.slice 37)) (hi : P.info? 37 = some i) (hz : i.zero = some (.slice none 0 0)) (hsz : i.size = 1) (hby : i.bytes = 24)
    (v : Value) (l : List (List Int)) (A : Nat → Option Addr) (C : Nat → Nat) (hs : a.eval s = v) (h : BD B w v l A C) (g cp m : Nat) (y : List Int) (hy : y.length = m) (h0 : 0 < m) (hr : RW B' w (.slice (some ⟨g, 0, none⟩) m cp) y) (hfresh : ∀ r, r < l.length → A r ≠ some ⟨g, 0, none⟩)
    (hBB : B ≤ B') (hx : a.eval x = .slice (some ⟨w.heap.size, 0, none⟩) 1 1) (hlen : l.length ≤ 1000) (hB : B ≤ w.heap.size)
    (hK : ∀ v' w' A' C', BD B w' v' (l ++ [y]) A' C' → w.grownBy w' v.ownBlock → wpList P ops Q rest (a.put o.dst v') w') : wpList P ops Q (o :: rest) a (w.alloc (.cells #[.slice (some ⟨g, 0, none⟩) m cp] 37)) := by
  subst hy
  refine wpList_append_own _ hgd s x t ho B 37 i (.slice none 0 0) 1 24 ht hi hz hsz hby rfl (by decide) v l.length _ hs (h.own.alloc _) ⟨w.heap.size, 0, none⟩ 1 1 [.slice (some ⟨g, 0, none⟩) y.length cp] hx rfl (cell_one_at _ _ _ rfl) (fun u hu => by simp at hu; subst hu; rfl) (by unfold maxLen; omega) (by omega) (by simp; omega) ?_
  intro v' w' hown hg _
  refine hK v' w' _ _ (h.push h0 (hr.base hBB) hfresh hown hg) ⟨hg.os, hg.tape, hg.output, by have := hg.size; simp at this; omega, fun j hj hn => (hg.block j (by simp; omega) hn).trans (Below.heap_alloc _ _ _ hj)⟩

end Go.Proofs.Ytggmiojhglkcgaa
end

section
namespace Go.Proofs.Ytggmiojhglkcgaa
open Go.RowKit Go.Deep

theorem RW.set' {B : Nat} {w : World} {g cap k m : Nat} {x : List Int} (hm : x.length = m) (h : RW B w (.slice (some ⟨g, 0, none⟩) m cap) x) (hk : k < m) (y : Int) : RW B (w.setCell ⟨g, k, none⟩ (.int .i64 y)) (.slice (some ⟨g, 0, none⟩) m cap) (x.set k y) := by
  subst hm; exact h.set hk y
theorem RW.rowB {B : Nat} {w : World} {g k cap : Nat} {x : List Int} (h : RW B w (.slice (some ⟨g, 0, none⟩) k cap) x) (h0 : 0 < x.length) : B ≤ g ∧ RowB w g x := by
  obtain ⟨g', cap', e, h1, h2⟩ := h.form h0
  injection e with e
  injection e with e
  injection e with e
  subst e
  exact ⟨h1, h2⟩
theorem grown_set_any (w : World) (g k : Nat) (v : Value) : w.grownBy (w.setCell ⟨g, k, none⟩ v) (some g) := ⟨rfl, rfl, rfl, by simp, fun i _ hi => Below.heap_setCell _ _ _ _ (fun e => hi (by rw [e]))⟩
theorem grown_undrew' {W w' : World} {row : Option Nat} (h : W.drew.grownBy w' row) : W.grownBy w' row := ⟨h.os, h.tape, h.output, h.size, h.block⟩
theorem lens_snoc {l : List (List Int)} {x : List Int} {r m : Nat} (hl : l.length = r) (h : ∀ j, j < r → (l.getD j []).length = m) (hx : x.length = m) : ∀ j, j < r + 1 → ((l ++ [x]).getD j []).length = m := by
  intro j hj
  by_cases e : j = r
  · subst e; subst hl; simpa [List.getD] using hx
  · rw [show (l ++ [x]).getD j [] = l.getD j [] by simp [List.getD, List.getElem?_append_left (show j < l.length by omega)]]
    exact h j (by omega)

end Go.Proofs.Ytggmiojhglkcgaa
end

section
namespace Go.Proofs.Ytggmiojhglkcgaa
open Go.RowKit Go.Deep

theorem BD.inT {B : Nat} {w : World} {v : Value} {l : List (List Int)} {A : Nat → Option Addr} {C : Nat → Nat} (h : BD B w v l A C) : ∃ a cap, v = .slice a l.length cap ∧ InT B w.heap.size w a l := by
  by_cases h0 : 0 < l.length
  · obtain ⟨b, cap, cur, e, hb, hg, hc⟩ := h.top h0
    refine ⟨_, cap, e, fun _ => ⟨b, 0, A, fun r => ((A r).getD default).block, fun _ => 0, C, rfl, ⟨hb, (Array.getElem?_eq_some_iff.1 hg).1⟩, fun r hr => ⟨?_, fun h1 => ?_⟩⟩⟩
    · rw [Nat.zero_add]; simp [World.cell?, hg, hc r hr]
    · obtain ⟨g, e, hB, hw⟩ := h.row hr
      have e' : ((A r).getD default).block = g := by rw [e]; rfl
      dsimp only
      rw [e']
      exact ⟨e, ⟨hB, hw.lt⟩, fun i hi => by rw [Nat.zero_add]; exact hw.cell hi⟩
  · rcases h.own.2 with ⟨hv, hn⟩ | ⟨g, cap, cur, e, _⟩
    · exact ⟨none, 0, by rw [hv, hn], fun h => absurd h h0⟩
    · exact ⟨_, cap, e, fun h => absurd h h0⟩

theorem BD.row_ne {B : Nat} {w : World} {l : List (List Int)} {A : Nat → Option Addr} {C : Nat → Nat} {b cap n : Nat} (h : BD B w (.slice (some ⟨b, 0, none⟩) n cap) l A C) {g : Nat} {x : List Int} (hw : RowB w g x) : g ≠ b := by
  rintro rfl
  obtain ⟨cs, hc, _⟩ := hw
  rcases h.own.2 with ⟨e, _⟩ | ⟨g', cap', cur, e, _, hgg, _⟩
  · cases e
  · injection e with e
    injection e with e
    injection e with e
    rw [← e, hc] at hgg
    injection hgg with hgg
    injection hgg with _ e2 _
    exact absurd e2 (by decide)

theorem BD.addr_ne {B : Nat} {w : World} {v : Value} {l : List (List Int)} {A : Nat → Option Addr} {C : Nat → Nat} (h : BD B w v l A C) {r j g g' : Nat} (hr : r < l.length) (hj : j < l.length) (hA : A r = some ⟨g, 0, none⟩) (hA' : A j = some ⟨g', 0, none⟩) (hne : j ≠ r) : g' ≠ g := by
  rintro rfl
  exact hne (h.apart j r hj hr (by rw [hA, hA']))

theorem BD.cellTop {B : Nat} {w : World} {l : List (List Int)} {A : Nat → Option Addr} {C : Nat → Nat} {b cap n : Nat} (h : BD B w (.slice (some ⟨b, 0, none⟩) n cap) l A C) {r : Nat} (hr : r < l.length) :
    w.cell? ⟨b, r, none⟩ = some (.slice (A r) (l.getD r []).length (C r)) ∧ w.frozen? ⟨b, r, none⟩ = false ∧ b < w.heap.size := by
  obtain ⟨b', cp', cur, hv, _, hcur, hc⟩ := h.top (by omega)
  injection hv with hv _ _
  injection hv with hv
  injection hv with hv
  subst hv
  exact ⟨by simp [World.cell?, hcur, hc r hr], by simp [World.frozen?, hcur], (Array.getElem?_eq_some_iff.1 hcur).1⟩

theorem BD.setRow {B : Nat} {w w5 : World} {l : List (List Int)} {A : Nat → Option Addr} {C : Nat → Nat} {b cap n : Nat} (h : BD B w (.slice (some ⟨b, 0, none⟩) n cap) l A C) {r g : Nat} (hr : r < l.length) (hA : A r = some ⟨g, 0, none⟩) (hg : w.grownBy w5 (some g)) {g2 cp k : Nat} {y : List Int}
    (hy : RW B w5 (.slice (some ⟨g2, 0, none⟩) k cp) y) (hk : y.length = k) (h0 : 0 < k) : InT B w5.heap.size (w5.setCell ⟨b, r, none⟩ (.slice (some ⟨g2, 0, none⟩) k cp)) (some ⟨b, 0, none⟩) (l.set r y) := by
  subst hk
  obtain ⟨b', cap', cur, e, hb, hcur, hc⟩ := h.top (by omega)
  injection e with e en _
  injection e with e
  injection e with e
  subst e
  obtain ⟨g', hA', hBg, hrb⟩ := h.row hr
  rw [hA] at hA'
  injection hA' with hA'
  injection hA' with hA'
  subst hA'
  have hgb := h.row_ne hrb
  have hbl : b < w.heap.size := (Array.getElem?_eq_some_iff.1 hcur).1
  have hcur5 : w5.heap[b]? = some (.cells cur 37 (0, 0)) := (hg.block b hbl (fun e => by injection e with e; omega)).trans hcur
  obtain ⟨hB2, hrb2⟩ := hy.rowB h0
  have hg2b : g2 ≠ b := by
    rintro rfl
    obtain ⟨cs, h1, _⟩ := hrb2
    rw [h1] at hcur5
    injection hcur5 with h2
    injection h2 with _ h2 _
    exact absurd h2 (by decide)
  have hbl5 : b < w5.heap.size := (Array.getElem?_eq_some_iff.1 hcur5).1
  intro _
  refine ⟨b, 0, fun j => if j = r then some ⟨g2, 0, none⟩ else A j, fun j => if j = r then g2 else ((A j).getD default).block, fun _ => 0, fun j => if j = r then cp else C j, rfl, ⟨hb, hbl5⟩, fun j hj => ?_⟩
  rw [List.length_set] at hj
  show (w5.setCell ⟨b, r, none⟩ _).cell? ⟨b, 0 + j, none⟩ = _ ∧ _
  rw [Nat.zero_add]
  by_cases ej : j = r
  · subst ej
    have e1 : (l.set j y).getD j [] = y := by simp [List.getD, hj]
    rw [e1]
    simp only [↓reduceIte]
    refine ⟨World.cell?_setCell_same' _ _ _ (by simp [World.cell?, hcur5, hc j hj]), fun _ => ⟨trivial, ⟨hB2, hrb2.lt⟩, fun i hi => ?_⟩⟩
    rw [Nat.zero_add]
    exact cell_set_far (hrb2.cell hi) hg2b
  · have e1 : (l.set r y).getD j [] = l.getD j [] := by simp [List.getD, List.getElem?_set_ne (Ne.symm ej)]
    rw [e1]
    simp only [if_neg ej]
    obtain ⟨gj, hAj, hBj, hrbj⟩ := h.row hj
    have hgj := h.addr_ne hr hj hA hAj ej
    have hrb5 : RowB w5 gj (l.getD j []) := hrbj.of_block (hg.block gj hrbj.lt (fun e => by injection e with e; omega))
    have hgjb := h.row_ne hrbj
    refine ⟨?_, fun _ => ?_⟩
    · rw [World.cell?_setCell_other _ _ _ _ (fun e => ej (by injection e with _ e; exact e.symm))]
      simp [World.cell?, hcur5, hc j hj]
    · have e' : ((A j).getD default).block = gj := by rw [hAj]; rfl
      rw [e']
      exact ⟨hAj, ⟨hBj, hrb5.lt⟩, fun i hi => by rw [Nat.zero_add]; exact cell_set_far (hrb5.cell hi) hgjb⟩

theorem BD.setNum {B : Nat} {w : World} {l : List (List Int)} {A : Nat → Option Addr} {C : Nat → Nat} {b cap n : Nat} (h : BD B w (.slice (some ⟨b, 0, none⟩) n cap) l A C) {r g k : Nat} (hr : r < l.length) (hA : A r = some ⟨g, 0, none⟩) (hk : k < (l.getD r []).length) (z : Int) :
    InT B w.heap.size (w.setCell ⟨g, k, none⟩ (.int .i64 z)) (some ⟨b, 0, none⟩) (l.set r ((l.getD r []).set k z)) := by
  obtain ⟨b', cap', cur, e, hb, hcur, hc⟩ := h.top (by omega)
  injection e with e en _
  injection e with e
  injection e with e
  subst e
  obtain ⟨g', hA', hBg, hrb⟩ := h.row hr
  rw [hA] at hA'
  injection hA' with hA'
  injection hA' with hA'
  subst hA'
  have hgb := h.row_ne hrb
  intro _
  refine ⟨b, 0, A, fun j => ((A j).getD default).block, fun _ => 0, C, rfl, ⟨hb, (Array.getElem?_eq_some_iff.1 hcur).1⟩, fun j hj => ?_⟩
  rw [List.length_set] at hj
  show (w.setCell ⟨g, k, none⟩ _).cell? ⟨b, 0 + j, none⟩ = _ ∧ _
  rw [Nat.zero_add]
  have hlen : ((l.set r ((l.getD r []).set k z)).getD j []).length = (l.getD j []).length := by
    by_cases ej : j = r
    · subst ej; simp [List.getD, hj]
    · simp [List.getD, List.getElem?_set_ne (Ne.symm ej)]
  rw [hlen]
  refine ⟨cell_set_far (by simp [World.cell?, hcur, hc j hj]) (Ne.symm hgb), fun _ => ?_⟩
  obtain ⟨gj, hAj, hBj, hrbj⟩ := h.row hj
  have e' : ((A j).getD default).block = gj := by rw [hAj]; rfl
  dsimp only
  rw [e']
  refine ⟨hAj, ⟨hBj, hrbj.lt⟩, fun i hi => ?_⟩
  rw [Nat.zero_add]
  by_cases ej : j = r
  · subst ej
    rw [hA] at hAj
    injection hAj with hAj
    injection hAj with hAj
    subst hAj
    have e1 : (l.set j ((l.getD j []).set k z)).getD j [] = (l.getD j []).set k z := by simp [List.getD, hj]
    rw [e1]
    by_cases ei : i = k
    · subst ei
      rw [World.cell?_setCell_same' _ _ _ (by rw [hrbj.cell hi]; rfl)]
      simp [List.getD] at hi ⊢
      simp [hi]
    · rw [World.cell?_setCell_other _ _ _ _ (fun e => ei (by injection e with _ e; exact e.symm)), hrbj.cell hi]
      simp [List.getD, List.getElem?_set_ne (Ne.symm ei)]
  · have hgj := h.addr_ne hr hj hA hAj ej
    have e1 : (l.set r ((l.getD r []).set k z)).getD j [] = l.getD j [] := by simp [List.getD, List.getElem?_set_ne (Ne.symm ej)]
    rw [e1]
    exact cell_set_far (hrbj.cell hi) hgj

theorem InT.kept {lo hi : Nat} {w w' : World} {a : Option Addr} {l : List (List Int)} {G : Nat} (h : InT lo hi w a l) (hg : w.grownBy w' (some G)) (hG : G < lo) : InT lo hi w' a l :=
  h.frame (lo' := G) (hi' := G + 1) ⟨hg.os, hg.tape, hg.output, hg.size, fun k hk ho => hg.block k hk (fun e => by injection e with e; omega)⟩ (.inr (by omega))

end Go.Proofs.Ytggmiojhglkcgaa
end

section
namespace Go.Proofs.Ytggmiojhglkcgaa
open Go.RowKit Go.Deep

def Drawn0 (w w' : World) (R K : Nat) (a : Option Addr) (l : List (List Int)) : Prop :=
  1 ≤ l.length ∧ l.length ≤ R ∧ (∀ j, j < l.length → 1 ≤ (l.getD j []).length ∧ (l.getD j []).length ≤ K + 1) ∧ InT w.heap.size w'.heap.size w' a l

theorem lens_set {l : List (List Int)} {r : Nat} {y : List Int} {n m K : Nat} (hl : l.length = n) (h : ∀ j, j < n → (l.getD j []).length = m) (hm : 1 ≤ m ∧ m ≤ K) (hy : 1 ≤ y.length ∧ y.length ≤ K + 1) : ∀ j, j < (l.set r y).length → 1 ≤ ((l.set r y).getD j []).length ∧ ((l.set r y).getD j []).length ≤ K + 1 := by
  intro j hj
  rw [List.length_set] at hj
  by_cases e : j = r
  · subst e
    rw [show (l.set j y).getD j [] = y by simp [List.getD, hj]]
    exact hy
  · rw [show (l.set r y).getD j [] = l.getD j [] by simp [List.getD, List.getElem?_set_ne (Ne.symm e)], h j (by omega)]
    omega

end Go.Proofs.Ytggmiojhglkcgaa
end

section
namespace Go.Proofs.Ytggmiojhglkcgaa
open Go.RowKit Go.Deep

set_option maxHeartbeats 1000000 in
theorem l6Open_any (a : Option Addr) (nb cb : Nat) (w : World) (hc : nb ≤ cb) (h63 : cb ≤ 9223372036854775807) (hb : BytR w a nb) :
    Calls Try.prog 82 #[.slice a nb cb] w fun e w' => ∃ n' c', e = .returned (.pointer (some ⟨w.heap.size, 0, none⟩)) ∧ w.Since w.heap.size w' ∧ w'.heap.size = w.heap.size + 1 ∧ RD w w' w.heap.size a n' c' 116 0 := by
  by_cases hl : 2000 < nb
  · have hl' : decide ((2000 : Int) < (nb : Int)) = true := by simp; omega
    have h2 : (2000 : Int) ≤ (cb : Int) := by omega
    obtain ⟨b, o, rfl, hcell⟩ := hb (by omega)
    go_enter Try.func82, Try.ntmps82
    go_wp2
    go_ret
    exact ⟨_, _, rfl, (World.Since.refl _ _).alloc (Nat.le_refl _) _, by simp, ⟨heap_alloc_new _ _, Nat.le_refl _, (World.Since.refl _ _).alloc (Nat.le_refl _) _, fun _ => ⟨b, o, rfl, fun i hi => hcell i (by omega)⟩, by omega⟩⟩
  · have hl' : decide ((2000 : Int) < (nb : Int)) = false := by simp; omega
    go_enter Try.func82, Try.ntmps82
    go_wp2
    go_ret
    exact ⟨_, _, rfl, (World.Since.refl _ _).alloc (Nat.le_refl _) _, by simp, ⟨heap_alloc_new _ _, Nat.le_refl _, (World.Since.refl _ _).alloc (Nat.le_refl _) _, hb, by omega⟩⟩

def DrawnT (w w' : World) (R K : Nat) (a : Option Addr) (l : List (List Int)) : Prop :=
  1 ≤ l.length ∧ l.length ≤ R ∧ (∀ j, j < l.length → 1 ≤ (l.getD j []).length ∧ (l.getD j []).length ≤ K + 1) ∧ InT w.heap.size w'.heap.size w' a l

end Go.Proofs.Ytggmiojhglkcgaa
end

section
namespace Go.Proofs.Ytggmiojhglkcgaa
open Go.RowKit Go.Deep

def CW (B : Nat) (w : World) (v : Value) (cs : List RC) : Prop := w.ownsRow B 35 3 v cs.length (ch3 cs)
theorem CW.kept {B : Nat} {w w' : World} {v : Value} {cs : List RC} {G : Nat} (h : CW B w v cs) (hg : w.grownBy w' (some G)) (hG : G < B) : CW B w' v cs :=
  World.ownsRow.kept h hg (by
    cases hv : v.ownBlock with
    | none => exact .inl rfl
    | some k => exact .inr (fun e => by injection e with e; have := (World.ownsRow.lt h k hv).1; omega))
theorem CW.alloc {B : Nat} {w : World} {v : Value} {cs : List RC} (h : CW B w v cs) (o : Obj) : CW B (w.alloc o) v cs :=
  World.ownsRow.kept h (row := none) (World.grownBy_alloc w o none) (by
    cases hv : v.ownBlock with
    | none => exact .inl rfl
    | some k => exact .inr (by simp))
theorem CW.snoc {B : Nat} {w : World} {v : Value} {cs : List RC} {c : RC} {n : Nat} (hn : n = cs.length + 1) (h : w.ownsRow B 35 3 v n (ch3 cs ++ ch3 [c])) : CW B w v (cs ++ [c]) := by
  subst hn
  unfold CW
  rw [ch3_app, List.length_append]
  exact h

set_option maxHeartbeats 1000000 in
theorem of_any (w0 w : World) (G nb c p q c5 : Nat) (a : Option Addr) (h : RD w0 w G a nb c 116 p) (hp : p ≤ 100000) (hq : ∀ x, x < 5 → ∃ s, w.cell? ⟨q, x, none⟩ = some (.string s)) (hqG : q ≠ G) :
    Calls Try.prog 122 #[.pointer (some ⟨G, 0, none⟩), .slice (some ⟨q, 0, none⟩) 5 c5] w fun e w' => ∃ s, e = .returned (.string s) ∧ w.grownBy w' (some G) ∧ RD w0 w' G a nb c 116 (p + 1) := by
  have E := Lib.hid (pick_any w0 w G nb c p a 5 h hp)
  have HQ := Lib.hid hq
  clear h hq
  go_enter Try.func122, Try.ntmps122
  go_wp2_with fail
  refine (E.out).mono ?_
  rintro e w1 ⟨x, rfl, hx, hg, hd⟩
  obtain ⟨s, hs⟩ := HQ.out x (by omega)
  have hs1 := cell_grown hs hg hqG
  have hx5 : x < 5 := by omega
  have HG := Lib.hid hg
  have HD := Lib.hid hd
  clear hx hs hg hd
  go_wp2_with fail
  go_ret
  exact ⟨s, rfl, HG.out, HD.out⟩

set_option maxRecDepth 100000 in
set_option maxHeartbeats 1000000 in
theorem l91Chips_any (w0 w : World) (G nb c p n most : Nat) (a : Option Addr) (h : RD w0 w G a nb c 116 p) (hn : n ≤ 10) (hm : most ≤ 10) (hp : p ≤ 50000) :
    Calls Try.prog 84 #[.pointer (some ⟨G, 0, none⟩), .int .i64 n, .int .i64 most] w fun e w' => ∃ v cs p', e = .returned v ∧ cs.length ≤ 12 ∧ v ≠ .slice none 0 0 ∧ w.grownBy w' (some G) ∧ RD w0 w' G a nb c 116 p' ∧ p' ≤ p + 100 ∧ CW w.heap.size w' v cs := by
  obtain ⟨iC, hiC⟩ := infoChip_parts
  have HI := Lib.hid hiC
  have hGW := h.lt
  have HRD := Lib.hid h
  have hST : CW w.heap.size (w.alloc (.cells #[] 35)) (.slice (some ⟨w.heap.size, 0, none⟩) 0 0) [] := World.ownsRow_made w #[] 0 (Nat.le_refl _) (Nat.zero_le _) rfl
  have HST := Lib.hid hST
  clear h hiC hST
  go_enter Try.func84, Try.ntmps84
  go_wp2_with fail
  refine (pick_any w0 _ G nb c _ a _ (HRD.out.grown (World.grownBy_alloc w _ none) (fun k e => by cases e)) (by omega)).mono ?_
  rintro e w1 ⟨κ, rfl, hκ, hg, hd⟩
  have hk : κ ≤ 10 := by omega
  have HW1 := Lib.hid (HST.out.kept hg hGW)
  have HG1 := Lib.hid (grown_trans (World.grownBy_alloc w _ _) hg)
  have HD1 := Lib.hid hd
  clear hg hd hκ HRD HST
  go_wp2_with fail
  go_loopg [7, 9, 10, 11] κ (fun g v i _ _ wr => ∃ (r p' : Nat) (cs : List RC), r ≤ κ ∧ g = κ - r ∧ i = .int .i64 (r : Nat) ∧ cs.length = r ∧ v ≠ .slice none 0 0 ∧ w.grownBy wr (some G) ∧ RD w0 wr G a nb c 116 p' ∧ p' ≤ p + 1 + 7 * r ∧ CW w.heap.size wr v cs)
  case atStart => exact ⟨0, _, [], Nat.zero_le _, rfl, rfl, rfl, by simp, HG1.out, HD1.out, by omega, HW1.out⟩
  case round =>
    obtain ⟨r, p', cs, hr, rfl, rfl, hl, hnv, hgw, hd, hp', hW⟩ := hrel
    clear HW1 HG1 HD1
    have HW := Lib.hid hW
    have HG := Lib.hid hgw
    have HD := Lib.hid hd
    have HL := Lib.hid hl
    have HNV := Lib.hid hnv
    have hzw := hgw.size
    clear hW hgw hd hl hnv
    by_cases hlt : r < κ
    · go_wp2_with fail
      refine (of_any w0 _ G nb c _ _ _ a (HD.out.grown (World.grownBy_alloc _ _ none) (fun k e => by cases e)) (by omega) (fun x hx => ?_) (by omega)).mono ?_
      · rcases show x = 0 ∨ x = 1 ∨ x = 2 ∨ x = 3 ∨ x = 4 by omega with rfl | rfl | rfl | rfl | rfl
        all_goals exact ⟨_, by rw [World.cell?_alloc_new]; rfl⟩
      rintro e w2 ⟨K, rfl, hg2, hd2⟩
      have HW := Lib.hid ((HW.out.alloc _).kept hg2 hGW)
      have HG := Lib.hid (grown_trans (grown_alloc HG.out _) hg2)
      have HD := Lib.hid hd2
      clear hg2 hd2
      go_wp2_with fail
      refine (pick_any w0 _ G nb c _ a _ HD.out (by omega)).mono ?_
      rintro e w3 ⟨L, rfl, _, hg3, hd3⟩
      have HW := Lib.hid (HW.out.kept hg3 hGW)
      have HG := Lib.hid (grown_trans HG.out hg3)
      have HD := Lib.hid hd3
      clear hg3 hd3
      by_cases hb : K.toList = [104]
      · have hbt : (K.toList == [104]) = true := by simpa using hb
        clear hb
        go_wp2_with (first
          | (go_at_call 83; refine (pick_any w0 _ G nb c _ a _ HD.out (by omega)).mono ?_; rintro e w2 ⟨y, rfl, hy, hg, hd⟩; have HW := Lib.hid (HW.out.kept hg hGW); have HG := Lib.hid (grown_trans HG.out hg); have HD := Lib.hid hd; clear hd hg hy)
          | (at_builtin; (refine wpList_append_own _ rfl _ _ 23 rfl w.heap.size 35 iC (.agg #[.string ⟨#[]⟩, .int .i64 0, .int .i64 0]) 3 32 Try.underlying23 HI.out.1 HI.out.2.1 HI.out.2.2.1 HI.out.2.2.2 rfl (by decide) _ _ _ rfl (HW.out.alloc _) _ 1 1 (ch3 [⟨_, _, _⟩]) rfl rfl (by exact news3 _ ⟨_, _, _⟩ _) (ch3_one _) (by have := HL.out; unfold maxLen; omega) (by have := HL.out; omega) (by have := HG.out.size; simp; omega) ?_); intro v' w3 hown' hgr hnn; have hne := fun i e => (World.ownsRow.lt (HW.out.alloc (.cells #[] 0)) i e).1; have HW3 := Lib.hid (CW.snoc rfl hown'); have HG3 := Lib.hid (grown_new (grown_alloc HG.out _) hgr hne); have HD3 := Lib.hid ((HD.out.grown (World.grownBy_alloc _ _ none) (fun k e => by cases e)).grown hgr (fun i e => by have := hne i e; omega)); have HNN := Lib.hid hnn; clear hown' hgr hnn hne))
        go_roundg (κ - (r + 1))
        case measure => omega
        case rel => exact ⟨r + 1, _, _, by omega, rfl, by go_num, by rw [List.length_append, HL.out]; rfl, fun e => HNV.out (HNN.out.1 e).1, HG3.out, HD3.out, by omega, HW3.out⟩
      · have hbt : (K.toList == [104]) = false := by simpa using hb
        clear hb
        go_wp2_with (first
          | (go_at_call 83; refine (pick_any w0 _ G nb c _ a _ HD.out (by omega)).mono ?_; rintro e w2 ⟨y, rfl, hy, hg, hd⟩; have HW := Lib.hid (HW.out.kept hg hGW); have HG := Lib.hid (grown_trans HG.out hg); have HD := Lib.hid hd; clear hd hg hy)
          | (at_builtin; (refine wpList_append_own _ rfl _ _ 23 rfl w.heap.size 35 iC (.agg #[.string ⟨#[]⟩, .int .i64 0, .int .i64 0]) 3 32 Try.underlying23 HI.out.1 HI.out.2.1 HI.out.2.2.1 HI.out.2.2.2 rfl (by decide) _ _ _ rfl (HW.out.alloc _) _ 1 1 (ch3 [⟨_, _, _⟩]) rfl rfl (by exact news3 _ ⟨_, _, _⟩ _) (ch3_one _) (by have := HL.out; unfold maxLen; omega) (by have := HL.out; omega) (by have := HG.out.size; simp; omega) ?_); intro v' w3 hown' hgr hnn; have hne := fun i e => (World.ownsRow.lt (HW.out.alloc (.cells #[] 0)) i e).1; have HW3 := Lib.hid (CW.snoc rfl hown'); have HG3 := Lib.hid (grown_new (grown_alloc HG.out _) hgr hne); have HD3 := Lib.hid ((HD.out.grown (World.grownBy_alloc _ _ none) (fun k e => by cases e)).grown hgr (fun i e => by have := hne i e; omega)); have HNN := Lib.hid hnn; clear hown' hgr hnn hne))
        go_roundg (κ - (r + 1))
        case measure => omega
        case rel => exact ⟨r + 1, _, _, by omega, rfl, by go_num, by rw [List.length_append, HL.out]; rfl, fun e => HNV.out (HNN.out.1 e).1, HG3.out, HD3.out, by omega, HW3.out⟩
    · obtain rfl : r = κ := by omega
      go_wp2_with fail
      refine (pick_any w0 _ G nb c _ a _ HD.out (by omega)).mono ?_
      rintro e w2 ⟨y, rfl, _, hg2, hd2⟩
      have HW := Lib.hid (HW.out.kept hg2 hGW)
      have HG := Lib.hid (grown_trans HG.out hg2)
      have HD := Lib.hid hd2
      clear hg2 hd2
      by_cases hy : y = 0
      · subst hy
        go_wp2_with (at_builtin; (refine wpList_append_own _ rfl _ _ 23 rfl w.heap.size 35 iC (.agg #[.string ⟨#[]⟩, .int .i64 0, .int .i64 0]) 3 32 Try.underlying23 HI.out.1 HI.out.2.1 HI.out.2.2.1 HI.out.2.2.2 rfl (by decide) _ _ _ rfl (HW.out.alloc _) _ 1 1 (ch3 [⟨_, _, _⟩]) rfl rfl (by exact news3 _ ⟨_, _, _⟩ _) (ch3_one _) (by have := HL.out; unfold maxLen; omega) (by have := HL.out; omega) (by have := HG.out.size; simp; omega) ?_); intro v' w3 hown' hgr hnn; have hne := fun i e => (World.ownsRow.lt (HW.out.alloc (.cells #[] 0)) i e).1; have HW3 := Lib.hid (CW.snoc rfl hown'); have HG3 := Lib.hid (grown_new (grown_alloc HG.out _) hgr hne); have HD3 := Lib.hid ((HD.out.grown (World.grownBy_alloc _ _ none) (fun k e => by cases e)).grown hgr (fun i e => by have := hne i e; omega)); have HNN := Lib.hid hnn; clear hown' hgr hnn hne)
        go_ret
        exact ⟨_, _, _, rfl, by rw [List.length_append, HL.out]; simp; omega, fun e => HNV.out (HNN.out.1 e).1, HG3.out, HD3.out, by omega, HW3.out⟩
      · have hyb : ((y : Int) == 0) = false := by simp; omega
        go_wp2_with fail
        go_ret
        exact ⟨_, _, _, rfl, by rw [HL.out]; omega, HNV.out, HG.out, HD.out, by omega, HW.out⟩

def DrawnC (w w' : World) (a : Option Addr) (cap : Nat) (cs : List RC) : Prop :=
  cs.length ≤ 12 ∧ (∃ g, a = some ⟨g, 0, none⟩) ∧ cs.length ≤ cap ∧ cap ≤ 9223372036854775807 ∧ OwnC w.heap.size w'.heap.size w' a cs
theorem CW.drawn {w w1 w' : World} {v : Value} {cs : List RC} (h : CW w1.heap.size w' v cs) (hw : w.heap.size ≤ w1.heap.size) (hl : cs.length ≤ 12) (hv : v ≠ .slice none 0 0) : ∃ a cap, v = .slice a cs.length cap ∧ DrawnC w w' a cap cs := by
  have hm : maxLen = 9223372036854775807 := rfl
  have h' : w'.ownsRow w1.heap.size 35 3 v cs.length (ch3 cs) := h
  rcases h'.2 with ⟨hv', h0⟩ | ⟨g, cap, cur, rfl, hb, hg, hn, hmx, hs, ht⟩
  · exact absurd hv' hv
  · refine ⟨_, cap, rfl, hl, ⟨g, rfl⟩, hn, by omega, fun _ => ⟨g, rfl, ⟨by omega, (Array.getElem?_eq_some_iff.1 hg).1⟩, fun i hi => ?_⟩⟩
    obtain ⟨e1, e2, e3⟩ := ch3_get cs i hi
    have hf : ∀ j, w'.frozen? ⟨g, j, none⟩ = false := fun j => by simp [World.frozen?, hg]
    exact ⟨⟨(World.ownsRow.cellAt h' (i * 3) (by omega)).trans e1, (World.ownsRow.cellAt h' (i * 3 + 1) (by omega)).trans e2, (World.ownsRow.cellAt h' (i * 3 + 2) (by omega)).trans e3⟩, hf _, hf _, hf _⟩

set_option maxHeartbeats 1000000 in
theorem l92Net_any (a : Option Addr) (nb cb : Nat) (w : World) (hc : nb ≤ cb) (h63 : cb ≤ 9223372036854775807) (hb : BytR w a nb) :
    Calls Try.prog 55 #[.slice a nb cb] w fun e w' => ∃ (n : Nat) (a' : Option Addr) (cap : Nat) (cs : List RC), e = .returned (.tuple #[.int .i64 n, .slice a' cs.length cap]) ∧ w.Since w.heap.size w' ∧ (2 ≤ n ∧ n ≤ 5) ∧ DrawnC w w' a' cap cs := by
  have E := Lib.hid (l6Open_any a nb cb w hc h63 hb)
  clear hb
  go_enter Try.func55, Try.ntmps55
  go_wp2_with fail
  refine (E.out).mono ?_
  rintro e w1 ⟨n', c', rfl, hs, hz, hd⟩
  have HD1 := Lib.hid hd
  have HS := Lib.hid hs
  have hz1 : w.heap.size < w1.heap.size := by omega
  clear hd hs hz
  go_wp2_with fail
  refine (pick_any w _ w.heap.size n' c' _ a _ HD1.out (by omega)).mono ?_
  rintro e w2 ⟨y2, rfl, hy2, hg2, hd2⟩
  have HD2 := Lib.hid hd2
  have HG2 := Lib.hid hg2
  clear hd2 hg2
  obtain ⟨n, hn, hhn⟩ : ∃ n : Nat, IntKind.i64.wrap (2 + (y2 : Int)) = n ∧ n = y2 + 2 := ⟨y2 + 2, (IntWalk.i64_in _ ⟨by omega, by omega⟩).trans (by omega), rfl⟩
  have hbn : 2 ≤ n ∧ n ≤ 5 := by omega
  clear hhn hy2
  go_wp2_with fail
  refine (l91Chips_any w _ w.heap.size n' c' _ n 8 a HD2.out (by omega) (by omega) (by omega)).mono ?_
  rintro e w3 ⟨v, cs, p', rfl, hl, hnv, hg3, hd3, hp', hW⟩
  have hz2 := HG2.out.size
  obtain ⟨a', cap, rfl, hD⟩ := hW.drawn (w := w) (by omega) hl hnv
  have HD := Lib.hid hD
  have HS3 := Lib.hid (HS.out.trans (since_grown (grown_trans HG2.out hg3) (Nat.le_refl _) (by omega)))
  clear hl hnv hg3 hd3 hW hD
  go_wp2_with fail
  go_ret2
  exact ⟨_, _, _, _, rfl, HS3.out, hbn, HD.out⟩

end Go.Proofs.Ytggmiojhglkcgaa
end

section
namespace Go.Proofs.Ytggmiojhglkcgaa
open Go.RowKit Go.Deep

theorem drawNetIn_any (a : Option Addr) (nb cb : Nat) (w : World) (hc : nb ≤ cb) (h63 : cb ≤ 9223372036854775807) (hb : BytR w a nb) :
    Calls Try.prog 14 #[.slice a nb cb] w fun e w' => ∃ (n : Nat) (a' : Option Addr) (cap : Nat) (cs : List RC), e = .returned (.tuple #[.int .i64 n, .slice a' cs.length cap]) ∧ w.Since w.heap.size w' ∧ (2 ≤ n ∧ n ≤ 5) ∧ DrawnC w w' a' cap cs := by
  have E := Lib.hid (l92Net_any a nb cb w hc h63 hb)
  clear hb
  go_enter Try.func14, Try.ntmps14
  go_wp2_with fail
  refine (E.out).mono ?_
  rintro e w1 ⟨n, a', cap, cs, rfl, hs, hn, hd⟩
  have HS := Lib.hid hs
  have HD := Lib.hid hd
  clear hs hd
  go_wp2_with fail
  go_ret2
  exact ⟨_, _, _, _, rfl, HS.out, hn, HD.out⟩

theorem drawNetTable_any (a : Option Addr) (nb cb : Nat) (w : World) (hc : nb ≤ cb) (h63 : cb ≤ 9223372036854775807) (hb : BytR w a nb) :
    Calls Try.prog 17 #[.slice a nb cb] w fun e w' => ∃ (n : Nat) (a' : Option Addr) (cap : Nat) (cs : List RC), e = .returned (.tuple #[.int .i64 n, .slice a' cs.length cap]) ∧ w.Since w.heap.size w' ∧ (2 ≤ n ∧ n ≤ 5) ∧ DrawnC w w' a' cap cs := by
  have E := Lib.hid (l92Net_any a nb cb w hc h63 hb)
  clear hb
  go_enter Try.func17, Try.ntmps17
  go_wp2_with fail
  refine (E.out).mono ?_
  rintro e w1 ⟨n, a', cap, cs, rfl, hs, hn, hd⟩
  have HS := Lib.hid hs
  have HD := Lib.hid hd
  clear hs hd
  go_wp2_with fail
  go_ret2
  exact ⟨_, _, _, _, rfl, HS.out, hn, HD.out⟩

theorem drawNetTurn_any (a : Option Addr) (nb cb : Nat) (w : World) (hc : nb ≤ cb) (h63 : cb ≤ 9223372036854775807) (hb : BytR w a nb) :
    Calls Try.prog 31 #[.slice a nb cb] w fun e w' => ∃ (n : Nat) (a' : Option Addr) (cap : Nat) (cs : List RC), e = .returned (.tuple #[.int .i64 n, .slice a' cs.length cap]) ∧ w.Since w.heap.size w' ∧ (2 ≤ n ∧ n ≤ 5) ∧ DrawnC w w' a' cap cs := by
  have E := Lib.hid (l92Net_any a nb cb w hc h63 hb)
  clear hb
  go_enter Try.func31, Try.ntmps31
  go_wp2_with fail
  refine (E.out).mono ?_
  rintro e w1 ⟨n, a', cap, cs, rfl, hs, hn, hd⟩
  have HS := Lib.hid hs
  have HD := Lib.hid hd
  clear hs hd
  go_wp2_with fail
  go_ret2
  exact ⟨_, _, _, _, rfl, HS.out, hn, HD.out⟩

end Go.Proofs.Ytggmiojhglkcgaa
end

section
namespace Go.Proofs.Ytggmiojhglkcgaa
open Go.RowKit Go.Deep

set_option maxHeartbeats 1000000 in
theorem sameInts_same (a b : Option Addr) (ca cb n : Nat) (l : List Int) (w : World) (hn : l.length = n) (h63 : n ≤ 9223372036854775807) (ha : RowR w a l) (hb : RowR w b l) :
    Calls Try.prog 70 #[.slice a n ca, .slice b n cb] w fun e w' => e = .returned (.bool true) ∧ Drawn w w' := by
  have H := Lib.hid hn; clear hn
  go_enter Try.func70, Try.ntmps70
  go_wp2
  go_loopg [5] n (fun g i wr => ∃ k : Nat, k ≤ n ∧ g = n - k ∧ i = .int .i64 k ∧ Drawn w wr)
  case atStart => exact ⟨0, Nat.zero_le _, rfl, rfl, Drawn.refl w⟩
  case round =>
    obtain ⟨k, hk, rfl, rfl, hD⟩ := hrel
    by_cases hlt : k < n
    · obtain ⟨b1, o1, rfl, hc1⟩ := ha (by rw [H.out]; omega)
      obtain ⟨b2, o2, rfl, hc2⟩ := hb (by rw [H.out]; omega)
      have c1 := hc1 k (by rw [H.out]; exact hlt)
      have c2 := hc2 k (by rw [H.out]; exact hlt)
      obtain ⟨x, hx⟩ : ∃ x, x = l.getD k 0 := ⟨_, rfl⟩
      rw [← hx] at c1 c2
      rw [← hD.cell] at c1 c2
      clear hx hc1 hc2 ha hb
      go_wp2
      go_quiet (fail)
      go_wp2
      go_roundg (n - (k + 1))
      case measure => omega
      case rel => exact ⟨k + 1, by omega, rfl, by go_num, hD.trans (Drawn.mk _ _)⟩
    · go_wp2
      go_ret
      exact ⟨rfl, hD⟩

set_option maxHeartbeats 1000000 in
theorem sameRows_same (a b : Option Addr) (ca cb n : Nat) (l : List (List Int)) (w : World) (hn : l.length = n) (h63 : n ≤ 9223372036854775807) (hl : ∀ r, r < l.length → (l.getD r []).length ≤ 9223372036854775807)
    (ha : MatR w a l) (hb : MatR w b l) :
    Calls Try.prog 20 #[.slice a n ca, .slice b n cb] w fun e w' => e = .returned (.bool true) ∧ Drawn w w' := by
  have H := Lib.hid hn; clear hn
  go_enter Try.func20, Try.ntmps20
  go_wp2
  go_loopg [5] n (fun g i wr => ∃ k : Nat, k ≤ n ∧ g = n - k ∧ i = .int .i64 k ∧ Drawn w wr)
  case atStart => exact ⟨0, Nat.zero_le _, rfl, rfl, Drawn.refl w⟩
  case round =>
    obtain ⟨k, hk, rfl, rfl, hD⟩ := hrel
    by_cases hlt : k < n
    · obtain ⟨b1, o1, A1, C1, rfl, hc1⟩ := ha (by rw [H.out]; omega)
      obtain ⟨b2, o2, A2, C2, rfl, hc2⟩ := hb (by rw [H.out]; omega)
      obtain ⟨c1, r1⟩ := hc1 k (by rw [H.out]; exact hlt)
      obtain ⟨c2, r2⟩ := hc2 k (by rw [H.out]; exact hlt)
      have hlk := hl k (by rw [H.out]; exact hlt)
      obtain ⟨x, hx⟩ : ∃ x, x = l.getD k [] := ⟨_, rfl⟩
      rw [← hx] at c1 c2 r1 r2 hlk
      obtain ⟨m, hm⟩ : ∃ m, x.length = m := ⟨_, rfl⟩
      rw [hm] at c1 c2 hlk
      have HM := Lib.hid hm
      clear hx hc1 hc2 ha hb hl hm
      have r1 := r1.drawn hD
      have r2 := r2.drawn hD
      rw [← hD.cell] at c1 c2
      have e1 := fun (p : Nat) => sameInts_same (A1 k) (A2 k) (C1 k) (C2 k) m x (wr.drewN p) HM.out hlk r1 r2
      have E1 := Lib.hid e1; clear e1 r1 r2
      go_wp2
      go_quiet ((go_at_call 70; exact Calls.quiet_of (E1.out _)))
      go_wp2
      go_roundg (n - (k + 1))
      case measure => omega
      case rel => exact ⟨k + 1, by omega, rfl, by go_num, hD.trans (Drawn.mk _ _)⟩
    · go_wp2
      go_ret
      exact ⟨rfl, hD⟩

end Go.Proofs.Ytggmiojhglkcgaa
end

section
namespace Go.Proofs.Ytggmiojhglkcgaa
open Go.RowKit Go.Deep

theorem szL_of {l : List (List Int)} {n k : Nat} (h1 : l.length ≤ n) (h2 : ∀ j, j < l.length → (l.getD j []).length ≤ k) (hnk : n * k + n ≤ 1048576) : szL l ≤ 1048576 := by
  have h3 := sumTo_le_mul l k h2 l.length (Nat.le_refl _)
  have h4 : l.length * k ≤ n * k := Nat.mul_le_mul_right _ h1
  have h5 : k * l.length = l.length * k := Nat.mul_comm _ _
  unfold szL
  omega
theorem rows_le {l : List (List Int)} (h : szL l ≤ 1048576) : ∀ r, r < l.length → (l.getD r []).length ≤ 9223372036854775807 := fun r hr => by
  have := row_le l hr
  unfold szL at h
  omega

theorem tab_self {l : List (List Int)} {n m : Nat} (hn : l.length = n) (hm : ∀ r, r < n → (l.getD r []).length = m) : tabF n m (at2 l) = l := by
  refine List.ext_getElem (by rw [tabF_length, hn]) fun r h1 h2 => ?_
  have hr : r < n := by rw [tabF_length] at h1; exact h1
  have e1 : (tabF n m (at2 l))[r] = (tabF n m (at2 l)).getD r [] := by simp [List.getD, h1]
  have e2 : l[r] = l.getD r [] := by simp [List.getD, h2]
  rw [e1, e2, tabF_get _ _ _ _ hr]
  refine List.ext_getElem (by rw [List.length_map, List.length_range, hm r hr]) fun k h3 h4 => ?_
  rw [List.getElem_map, List.getElem_range]
  unfold at2
  obtain ⟨x, hx⟩ : ∃ x, x = l.getD r [] := ⟨_, rfl⟩
  subst hx
  generalize l.getD r [] = x at *
  simp [List.getD, h4]

theorem turnL_turnL {l : List (List Int)} (hT : TabIn l) : turnL (turnL l) = l := by
  have h1 := hT.1
  have hw := hT.width
  have e0 : ((turnL l).getD 0 []).length = l.length := tabF_len _ _ _ _ hw.1
  have e1 : turnL (turnL l) = tabF l.length (l.getD 0 []).length fun k i => at2 (turnL l) i k := by
    show tabF ((turnL l).getD 0 []).length (turnL l).length _ = _
    rw [e0, turnL_length]
  rw [e1]
  have e2 : tabF l.length (l.getD 0 []).length (fun k i => at2 (turnL l) i k) = tabF l.length (l.getD 0 []).length (at2 l) := by
    unfold tabF
    refine List.map_congr_left fun r hr => List.map_congr_left fun k hk => ?_
    exact tabF_at _ _ _ _ _ (List.mem_range.1 hk) (List.mem_range.1 hr)
  rw [e2]
  exact tab_self rfl (fun r hr => hT.row hr)

end Go.Proofs.Ytggmiojhglkcgaa
end

section
namespace Go.Proofs.Ytggmiojhglkcgaa
open Go.RowKit

theorem bytes_loop (bs : ByteArray) : ∀ (n i : Nat) (r : List UInt8), i + n = bs.size → ByteArray.toList.loop bs i r = r.reverse ++ bs.data.toList.drop i := by
  intro n
  induction n with
  | zero =>
    intro i r h
    unfold ByteArray.toList.loop
    rw [if_neg (by omega)]
    have : bs.data.toList.length = bs.size := by rw [Array.length_toList]; rfl
    rw [List.drop_of_length_le (by omega), List.append_nil]
  | succ n ih =>
    intro i r h
    unfold ByteArray.toList.loop
    rw [if_pos (by omega), ih (i + 1) _ (by omega)]
    have hl : bs.data.toList.length = bs.size := by rw [Array.length_toList]; rfl
    rw [List.drop_eq_getElem_cons (show i < bs.data.toList.length by omega), List.reverse_cons, List.append_assoc]
    congr 1
    have hi : i < bs.data.size := by have : bs.size = bs.data.size := rfl; omega
    have e : bs.get! i = bs.data[i] := getElem!_pos bs.data i hi
    rw [e]
    simp
theorem bytes_toList (bs : ByteArray) : bs.toList = bs.data.toList := by
  unfold ByteArray.toList
  rw [bytes_loop bs bs.size 0 [] (by omega)]
  simp
theorem bytes_one {K : ByteArray} {x : UInt8} (h : K.toList = [x]) : K = ⟨#[x]⟩ := by
  rw [bytes_toList] at h
  cases K with
  | mk d =>
    simp only at h
    congr 1
    cases d with
    | mk l => simp at h; rw [h]
theorem kU_list : kU.toList = [117] := by decide +kernel
theorem kD_list : kD.toList = [100] := by decide +kernel
theorem trC_k (c : RC) : (trC c).l = c.l ∧ (trC c).w = c.w := ⟨rfl, rfl⟩
theorem trC_trC (c : RC) : trC (trC c) = c := by
  obtain ⟨K, L, V⟩ := c
  unfold trC
  by_cases h : K.toList = [117]
  · simp only [h, if_true, kD_list]
    rw [if_neg (by decide), bytes_one h]
  · by_cases h2 : K.toList = [100]
    · simp only [h2, if_true, if_neg (show ¬ ([100] : List UInt8) = [117] by decide), kU_list]
      rw [bytes_one h2]
    · simp only [h, h2, if_false]
theorem turn_turn (cs : List RC) : turnC (turnC cs) = cs := by
  unfold turnC
  rw [← List.map_reverse, List.reverse_reverse, List.map_map]
  have : trC ∘ trC = id := funext trC_trC
  rw [this, List.map_id]
theorem kindB_tr (n : Int) (c : RC) : kindB n (trC c) = kindB n c := by
  obtain ⟨K, L, V⟩ := c
  unfold kindB trC
  by_cases h : K.toList = [117]
  · simp [h]
  · by_cases h2 : K.toList = [100]
    · simp [h2]
    · simp [h, h2]
theorem netB_turn (n : Int) (cs : List RC) : netB n (turnC cs) = netB n cs := by
  unfold netB turnC
  rw [List.length_map, List.length_reverse, List.all_map, List.all_reverse]
  congr 3
  funext c
  show chipB n (trC c) = chipB n c
  unfold chipB
  rw [kindB_tr]
  rfl
theorem toC_tr (c : RC) : toC (trC c) = swC (toC c) := by
  obtain ⟨K, L, V⟩ := c
  unfold toC trC swC
  by_cases h : K.toList = [117]
  · simp [h]
  · by_cases h2 : K.toList = [100]
    · simp [h2]
    · simp [h, h2]
theorem outC_turn {n : Nat} (h1 : 1 ≤ n) {cs : List RC} (hc : ∀ c ∈ cs, (toC c).1 ≤ 2) : outC n (turnC cs) = turnL (outC n cs) := by
  have e : (turnC cs).map toC = ((cs.map toC).map swC).reverse := by
    unfold turnC
    rw [← List.map_reverse, ← List.map_reverse, List.map_map, List.map_map]
    exact List.map_congr_left fun c _ => toC_tr c
  show outT n _ = tabF ((outC n cs).getD 0 []).length (outC n cs).length _
  unfold outC
  rw [e, outT_row _ (by omega), outT_length]
  unfold outT tabF
  refine List.map_congr_left fun k hk => List.map_congr_left fun i hi => ?_
  have hk' := List.mem_range.1 hk
  have hi' := List.mem_range.1 hi
  rw [net_turn (cs.map toC) (fun c h => by obtain ⟨d, hd, rfl⟩ := List.mem_map.1 h; exact hc d hd) i k hi' hk']
  exact (outT_at _ hi' hk').symm
theorem turn_self {n : Nat} (h1 : 1 ≤ n) (cs : List RC) : turnL (turnL (outC n cs)) = outC n cs := by
  have e0 : ((outC n cs).getD 0 []).length = n := outT_row _ (by omega)
  have el : (outC n cs).length = n := outT_length _ _
  have e1 : turnL (outC n cs) = tabF n n fun k i => at2 (outC n cs) i k := by
    show tabF ((outC n cs).getD 0 []).length (outC n cs).length _ = _
    rw [e0, el]
  rw [e1]
  show tabF ((tabF n n _).getD 0 []).length (tabF n n _).length _ = _
  rw [tabF_len _ _ _ _ (show 0 < n by omega), tabF_length]
  have e2 : tabF n n (fun k i => at2 (tabF n n fun k i => at2 (outC n cs) i k) i k) = tabF n n (at2 (outC n cs)) := by
    unfold tabF
    refine List.map_congr_left fun r hr => List.map_congr_left fun k hk => ?_
    exact tabF_at _ _ _ _ _ (List.mem_range.1 hk) (List.mem_range.1 hr)
  rw [e2]
  exact tab_self el (fun r hr => outT_row _ hr)
theorem ntabB_turn {n : Nat} {cs : List RC} (h : netB n cs = true) : ntabB n (turnC cs) = ntabB n cs := by
  obtain ⟨m, hm, ho⟩ := netB_ok h
  obtain rfl := Int.ofNat.inj hm
  have h2 := ho.lo
  unfold ntabB
  rw [netB_turn, h, Bool.true_and, Bool.true_and]
  show tabIn (outC n (turnC cs)) = tabIn (outC n cs)
  rw [outC_turn (by omega) (fun c hc => (ho.ok c hc).2.1)]
  by_cases hT : TabIn (outC n cs)
  · rw [tabIn_true hT, tabIn_turn hT]
  · rw [tabIn_false hT, tabIn_false]
    intro h3
    exact hT (by have := tabIn_of (tabIn_turn h3); rw [turn_self (by omega)] at this; exact this)

end Go.Proofs.Ytggmiojhglkcgaa
end

section
namespace Go.Proofs.Ytggmiojhglkcgaa
open Go.RowKit Go.Deep

set_option maxRecDepth 100000 in
set_option maxHeartbeats 1000000 in
theorem sameChips_same (a a2 : Option Addr) (cap cap2 N : Nat) (cs : List RC) (w : World) (hN : cs.length = N) (h63 : N ≤ 9223372036854775807) (hm : ChipsR w a cs) (hm2 : ChipsR w a2 cs) :
    Calls Try.prog 33 #[.slice a N cap, .slice a2 N cap2] w fun e w' => e = .returned (.bool true) ∧ w.Since w.heap.size w' := by
  have HN := Lib.hid hN
  have HM := Lib.hid hm
  have HM2 := Lib.hid hm2
  clear hN hm hm2
  go_enter Try.func33, Try.ntmps33
  go_wp2
  go_loopg [5] N (fun g i wr => ∃ r : Nat, r ≤ N ∧ g = N - r ∧ i = .int .i64 r ∧ w.Since w.heap.size wr)
  case atStart => exact ⟨0, Nat.zero_le _, rfl, rfl, World.Since.refl _ _⟩
  case round =>
    obtain ⟨r, hr, rfl, rfl, hS⟩ := hrel
    by_cases hlt : r < N
    · obtain ⟨b, o, rfl, k1, k2, k3⟩ := HM.out.at (show r < cs.length by rw [HN.out]; exact hlt)
      obtain ⟨b2, o2, rfl, m1, m2, m3⟩ := HM2.out.at (show r < cs.length by rw [HN.out]; exact hlt)
      have c1 := (hS.cell (World.block_lt_of_cell? _ _ k1)).trans k1
      have c2 := (hS.cell (World.block_lt_of_cell? _ _ k2)).trans k2
      have c3 := (hS.cell (World.block_lt_of_cell? _ _ k3)).trans k3
      have e1 := (hS.cell (World.block_lt_of_cell? _ _ m1)).trans m1
      have e2 := (hS.cell (World.block_lt_of_cell? _ _ m2)).trans m2
      have e3 := (hS.cell (World.block_lt_of_cell? _ _ m3)).trans m3
      obtain ⟨c, hc⟩ : ∃ c, cs.getD r rc0 = c := ⟨_, rfl⟩
      rw [hc] at c1 c2 c3 e1 e2 e3
      obtain ⟨K, L, V⟩ := c
      simp only at c1 c2 c3 e1 e2 e3
      have HS := Lib.hid hS
      clear k1 k2 k3 m1 m2 m3 hc hS
      go_wp2
      go_quiet (fail)
      go_wp2
      go_roundg (N - (r + 1))
      case measure => omega
      case rel => exact ⟨r + 1, by omega, rfl, by go_num, since_drewN HS.out nq⟩
    · obtain rfl : r = N := by omega
      have HS := Lib.hid hS
      clear hS
      go_wp2
      go_ret
      exact ⟨rfl, HS.out⟩

end Go.Proofs.Ytggmiojhglkcgaa
end

section
namespace Go.Proofs.Ytggmiojhglkcgaa
open Go.RowKit Go.Deep

set_option maxRecDepth 100000 in
set_option maxHeartbeats 400000 in
theorem ends_h (K : ByteArray) (L : Nat) (V : Int) (w : World) (hK : K.toList = [104]) :
    Calls Try.prog 111 #[.agg #[.string K, .int .i64 L, .int .i64 V]] w fun e w' => e = .returned (.tuple #[.int .i64 ((L : Nat) : Int), .int .i64 ((L : Nat) : Int)]) ∧ w.Since w.heap.size w' := by
  obtain ⟨d1, d2, d3⟩ := chip_box w K L V 35
  have HS := Lib.hid ((World.Since.refl w.heap.size w).alloc (Nat.le_refl _) (.cells #[.string K, .int .i64 L, .int .i64 V] 35))
  have hq1 : (K.toList == [117]) = false := by rw [hK]; decide
  have hq2 : (K.toList == [100]) = false := by rw [hK]; decide
  go_enter Try.func111, Try.ntmps111
  go_wp2
  go_region
  all_goals
    go_wp2
    go_ret2
    exact ⟨rfl, HS.out.drew⟩

set_option maxRecDepth 100000 in
set_option maxHeartbeats 400000 in
theorem ends_u (K : ByteArray) (L : Nat) (V : Int) (w : World) (hL : L ≤ 10) (hK : K.toList = [117]) :
    Calls Try.prog 111 #[.agg #[.string K, .int .i64 L, .int .i64 V]] w fun e w' => e = .returned (.tuple #[.int .i64 ((L : Nat) : Int), .int .i64 (((L + 1) : Nat) : Int)]) ∧ w.Since w.heap.size w' := by
  obtain ⟨d1, d2, d3⟩ := chip_box w K L V 35
  have HS := Lib.hid ((World.Since.refl w.heap.size w).alloc (Nat.le_refl _) (.cells #[.string K, .int .i64 L, .int .i64 V] 35))
  have hw1 : IntKind.i64.wrap ((L : Int) + 1) = (L : Int) + 1 := IntWalk.i64_in _ ⟨by omega, by omega⟩
  go_enter Try.func111, Try.ntmps111
  go_wp2
  go_region
  all_goals
    go_wp2
    go_ret2
    exact ⟨rfl, HS.out.drew⟩

set_option maxRecDepth 100000 in
set_option maxHeartbeats 400000 in
theorem ends_d (K : ByteArray) (L : Nat) (V : Int) (w : World) (hL : L ≤ 10) (hK : K.toList = [100]) :
    Calls Try.prog 111 #[.agg #[.string K, .int .i64 L, .int .i64 V]] w fun e w' => e = .returned (.tuple #[.int .i64 (((L + 1) : Nat) : Int), .int .i64 ((L : Nat) : Int)]) ∧ w.Since w.heap.size w' := by
  obtain ⟨d1, d2, d3⟩ := chip_box w K L V 35
  have HS := Lib.hid ((World.Since.refl w.heap.size w).alloc (Nat.le_refl _) (.cells #[.string K, .int .i64 L, .int .i64 V] 35))
  have hq1 : (K.toList == [117]) = false := by rw [hK]; decide
  have hw1 : IntKind.i64.wrap ((L : Int) + 1) = (L : Int) + 1 := IntWalk.i64_in _ ⟨by omega, by omega⟩
  go_enter Try.func111, Try.ntmps111
  go_wp2
  go_region
  all_goals
    go_wp2
    go_ret2
    exact ⟨rfl, HS.out.drew⟩

theorem ends_any (c : RC) (w : World) (hok : RCok c) :
    Calls Try.prog 111 #[.agg #[.string c.k, .int .i64 c.l, .int .i64 c.w]] w fun e w' => e = .returned (.tuple #[.int .i64 (chR (toC c) : Nat), .int .i64 (chK (toC c) : Nat)]) ∧ w.Since w.heap.size w' := by
  obtain ⟨K, l, V⟩ := c
  obtain ⟨hk, hl, hv⟩ := hok
  simp only at hk hl hv
  obtain ⟨L, rfl⟩ : ∃ L : Nat, l = L := ⟨l.toNat, by omega⟩
  rcases hk with h | h | h
  · rw [toC_h h]
    exact ends_h K L V w h
  · have e : toC ⟨K, (L : Int), V⟩ = (0, L, V) := by unfold toC; simp [h]
    rw [e]
    exact ends_u K L V w (by omega) h
  · have e : toC ⟨K, (L : Int), V⟩ = (1, L, V) := by unfold toC; simp [h]
    rw [e]
    exact ends_d K L V w (by omega) h

set_option maxHeartbeats 400000 in
theorem chipTurned_any (c : RC) (w : World) :
    Calls Try.prog 81 #[.agg #[.string c.k, .int .i64 c.l, .int .i64 c.w]] w fun e w' => e = .returned (.agg #[.string (trC c).k, .int .i64 (trC c).l, .int .i64 (trC c).w]) ∧ w.Since w.heap.size w' := by
  obtain ⟨K, L, V⟩ := c
  obtain ⟨d1, d2, d3⟩ := chip_box w K L V 35
  have HS := Lib.hid (fun (Y : ByteArray) (Z : Obj) => (((World.Since.refl w.heap.size w).alloc (Nat.le_refl _) (.cells #[.string Y, .int .i64 L, .int .i64 V] 35)).alloc (by simp) Z))
  unfold trC
  simp only
  by_cases hu : K.toList = [117]
  · rw [if_pos hu]
    go_enter Try.func81, Try.ntmps81
    go_wp2
    exact bodyPost_ret (v := .agg #[.string kD, .int .i64 L, .int .i64 V]) (by simp [results, Try.f81, go_sem]) rfl ⟨rfl, HS.out _ _⟩
  · rw [if_neg hu]
    have hub : (K.toList == [117]) = false := by simpa using hu
    by_cases hd : K.toList = [100]
    · rw [if_pos hd]
      clear hu
      go_enter Try.func81, Try.ntmps81
      go_wp2
      exact bodyPost_ret (v := .agg #[.string kU, .int .i64 L, .int .i64 V]) (by simp [results, Try.f81, go_sem]) rfl ⟨rfl, HS.out _ _⟩
    · rw [if_neg hd]
      have hdb : (K.toList == [100]) = false := by simpa using hd
      clear hu hd
      go_enter Try.func81, Try.ntmps81
      go_wp2
      exact bodyPost_ret (v := .agg #[.string K, .int .i64 L, .int .i64 V]) (by simp [results, Try.f81, go_sem]) rfl ⟨rfl, HS.out _ _⟩

set_option maxRecDepth 100000 in
set_option maxHeartbeats 400000 in
theorem chipTable_any (c : RC) (n : Nat) (w : World) (h1 : 1 ≤ n) (h5 : n ≤ 5) (hok : RCok c ∧ chOk n (toC c)) :
    Calls Try.prog 63 #[.agg #[.string c.k, .int .i64 c.l, .int .i64 c.w], .int .i64 n] w fun e w' => ∃ a cap, e = .returned (.slice a n cap) ∧ w.Since w.heap.size w' ∧ MatR w' a (chT n (chR (toC c)) (chK (toC c)) (toC c).2.2) := by
  have EE := fun (W : World) => ends_any c W hok.1
  obtain ⟨hr, hk⟩ := chRK hok.2
  rw [toC_w]
  obtain ⟨r, hrr⟩ : ∃ r, chR (toC c) = r := ⟨_, rfl⟩
  obtain ⟨k, hkk⟩ : ∃ k, chK (toC c) = k := ⟨_, rfl⟩
  rw [hrr] at hr ⊢
  rw [hkk] at hk ⊢
  simp only [hrr, hkk] at EE
  obtain ⟨K, L, V⟩ := c
  simp only at EE ⊢
  replace EE := Lib.hid EE
  obtain ⟨d1, d2, d3⟩ := chip_box w K L V 35
  have HS := Lib.hid ((World.Since.refl w.heap.size w).alloc (Nat.le_refl _) (.cells #[.string K, .int .i64 L, .int .i64 V] 35))
  have E := Lib.hid (fun (W : World) => unitTable_any n (by omega) W)
  have HUL := Lib.hid (unitL_length n n)
  have HUR := Lib.hid (unit_row hr)
  have hmix : Try.prog.follows .mixedOrders = true := by kernel_rfl
  clear hrr hkk hok
  go_enter Try.func63, Try.ntmps63
  go_wp2_with (first
    | (go_at_call 61; refine (E.out _).mono ?_; rintro e w1 ⟨rfl, hs1, ho1⟩; have e2 := (hs1.cell (a := ⟨w.heap.size, 1, none⟩) (by simp)).trans d2; have e3 := (hs1.cell (a := ⟨w.heap.size, 2, none⟩) (by simp)).trans d3; have e1 := (hs1.cell (a := ⟨w.heap.size, 0, none⟩) (by simp)).trans d1; have HSA := Lib.hid (HS.out.trans (since_mono hs1 HS.out.size)); have HO1 := Lib.hid ho1; clear hs1 ho1)
    | (go_at_call 111; refine (EE.out _).mono ?_; rintro e w2 ⟨rfl, hs2⟩; obtain ⟨b, g, c, hbq, t1, t2, t3, t4, t5⟩ := (HO1.out.since hs2).put (r := r) (k := k) (by rw [HUL.out]; exact hr) (by rw [HUR.out]; exact hk); rw [HUR.out] at t1; simp only [Option.some.injEq, Addr.mk.injEq, and_true, World.size_alloc] at hbq; subst hbq; rw [World.size_alloc] at t5; have HT5 := Lib.hid t5; have f3 := (hs2.cell (a := ⟨w.heap.size, 2, none⟩) (World.block_lt_of_cell? _ _ e3)).trans e3; have HSB := Lib.hid (HSA.out.trans (since_mono hs2 HSA.out.size)); have HG := Lib.hid t4; clear hs2 t5 t4 e1 e2 e3))
  go_still_tail 8, hmix
  go_wp2
  go_ret
  exact ⟨_, _, rfl, (HSB.out.setCell (a := ⟨g, k, none⟩) (by have := HG.out.1; simp at this; show w.heap.size ≤ g; omega) _).drew, HT5.out V⟩

end Go.Proofs.Ytggmiojhglkcgaa
end

section
namespace Go.Proofs.Ytggmiojhglkcgaa
open Go.RowKit Go.Deep

def StC (W : World) (p : Nat) (A B : Option Addr) (x y : Int) : Prop := W.heap[p]? = some (.cells #[.pointer A, .pointer B, .int .i64 x, .int .i64 y] 127 (0, 0))
theorem StC.cells {W : World} {p : Nat} {A B : Option Addr} {x y : Int} (h : StC W p A B x y) : W.cell? ⟨p, 0, none⟩ = some (.pointer A) ∧ W.cell? ⟨p, 1, none⟩ = some (.pointer B) ∧ W.cell? ⟨p, 2, none⟩ = some (.int .i64 x) ∧ W.cell? ⟨p, 3, none⟩ = some (.int .i64 y) := by
  have h' : W.heap[p]? = _ := h
  refine ⟨?_, ?_, ?_, ?_⟩ <;> (unfold World.cell?; rw [h']; rfl)
theorem StC.lt {W : World} {p : Nat} {A B : Option Addr} {x y : Int} (h : StC W p A B x y) : p < W.heap.size := (Array.getElem?_eq_some_iff.1 h).1
theorem StC.since {W V : World} {p : Nat} {A B : Option Addr} {x y : Int} (h : StC W p A B x y) (hs : W.Since W.heap.size V) : StC V p A B x y := (hs.block p h.lt).trans h
def Lies (W : World) (E : Nat → Nat) (n : Nat) : List CH → Nat → Nat → Prop
  | [], i, p => p = E i ∧ StC W p none none 0 0
  | c :: cs, i, p => if i = chR c then (∀ k, k < n → p ≠ E k) ∧ ∃ q, Lies W E n cs i q ∧
      (if c.1 = 2 then StC W p (some ⟨q, 0, none⟩) none c.2.2 0 else ∃ r, Lies W E n cs (chK c) r ∧ StC W p (some ⟨q, 0, none⟩) (some ⟨r, 0, none⟩) 1 c.2.2) else Lies W E n cs i p
theorem Lies.since {W V : World} {E : Nat → Nat} {n : Nat} (hs : W.Since W.heap.size V) : ∀ {cs : List CH} {i p : Nat}, Lies W E n cs i p → Lies V E n cs i p
  | [], _, _, h => ⟨h.1, h.2.since hs⟩
  | c :: cs, i, p, h => by
    unfold Lies at h ⊢
    by_cases e : i = chR c
    · rw [if_pos e] at h ⊢
      obtain ⟨h1, q, h2, h3⟩ := h
      refine ⟨h1, q, h2.since hs, ?_⟩
      by_cases e2 : c.1 = 2
      · rw [if_pos e2] at h3 ⊢
        exact h3.since hs
      · rw [if_neg e2] at h3 ⊢
        obtain ⟨r, h4, h5⟩ := h3
        exact ⟨r, h4.since hs, h5.since hs⟩
    · rw [if_neg e] at h ⊢
      exact h.since hs
theorem Lies.drawn {W V : World} {E : Nat → Nat} {n : Nat} (hs : Drawn W V) {cs : List CH} {i p : Nat} (h : Lies W E n cs i p) : Lies V E n cs i p := h.since (hs.since _)
theorem Lies.lt {W : World} {E : Nat → Nat} {n : Nat} : ∀ {cs : List CH} {i p : Nat}, Lies W E n cs i p → p < W.heap.size
  | [], _, _, h => h.2.lt
  | c :: cs, i, p, h => by
    unfold Lies at h
    by_cases e : i = chR c
    · rw [if_pos e] at h
      obtain ⟨_, q, _, h3⟩ := h
      by_cases e2 : c.1 = 2
      · rw [if_pos e2] at h3
        exact h3.lt
      · rw [if_neg e2] at h3
        obtain ⟨r, _, h5⟩ := h3
        exact h5.lt
    · rw [if_neg e] at h
      exact h.lt

theorem infoSt : (Try.prog.info? 127).map (fun i => (i.size, i.bytes)) = some (4, 32) := by kernel_rfl
theorem infoSt_parts : ∃ i, Try.prog.info? 127 = some i ∧ i.size = 4 ∧ i.bytes = 32 := by
  have h := infoSt
  cases e : Try.prog.info? 127 with
  | none => rw [e] at h; cases h
  | some i =>
    rw [e] at h
    simp only [Option.map_some, Option.some.injEq, Prod.mk.injEq] at h
    exact ⟨i, rfl, h.1, h.2⟩
theorem ptr_same (p : Nat) (w : World) : (binOp .eql 107 (.pointer (some ⟨p, 0, none⟩)) (.pointer (some ⟨p, 0, none⟩))).run Try.prog w = .ok (.bool true) w := by
  obtain ⟨i, hi, _⟩ := infoSt_parts
  exact run_eql_ptr_same w _ Try.underlying107 hi
theorem ptr_other {p t : Nat} {w : World} {A B C D : Option Addr} {x y z v : Int} (hp : StC w p A B x y) (ht : StC w t C D z v) (hne : ¬ p = t) : (binOp .eql 107 (.pointer (some ⟨p, 0, none⟩)) (.pointer (some ⟨t, 0, none⟩))).run Try.prog w = .ok (.bool false) w := by
  obtain ⟨i, hi, hs, _⟩ := infoSt_parts
  exact run_eql_ptr_other w Try.underlying107 hi (by rw [hs]; decide) (fun e => hne (by injection e)) hp ht

set_option maxRecDepth 100000 in
theorem pathsTo_nil (e : Option Addr) (w : World) :
    Calls Try.prog 116 #[.pointer none, .pointer e] w fun r w' => r = .returned (.int .i64 0) ∧ ∃ m, w' = w.drewN m := by
  go_enter Try.func116, Try.ntmps116
  go_wp2_with fail
  go_ret
  exact ⟨rfl, 0, rfl⟩
set_option maxRecDepth 100000 in
theorem pathsTo_end (p : Nat) (w : World) :
    Calls Try.prog 116 #[.pointer (some ⟨p, 0, none⟩), .pointer (some ⟨p, 0, none⟩)] w fun r w' => r = .returned (.int .i64 1) ∧ ∃ m, w' = w.drewN m := by
  have hq := ptr_same p w
  go_enter Try.func116, Try.ntmps116
  go_wp2_with fail
  go_ret
  exact ⟨rfl, 0, rfl⟩

set_option maxRecDepth 100000 in
set_option maxHeartbeats 400000 in
theorem pathsTo_step (p t : Nat) (A B : Option Addr) (x y P R : Int) (w : World) (hq : (binOp .eql 107 (.pointer (some ⟨p, 0, none⟩)) (.pointer (some ⟨t, 0, none⟩))).run Try.prog w = .ok (.bool false) w) (hc : StC w p A B x y) (hw1 : IntKind.i64.wrap (x * P) = x * P) (hw2 : IntKind.i64.wrap (y * R) = y * R) (hw3 : IntKind.i64.wrap (x * P + y * R) = x * P + y * R)
    (hA : ∀ q, Calls Try.prog 116 #[.pointer A, .pointer (some ⟨t, 0, none⟩)] (w.drewN q) fun r w' => r = .returned (.int .i64 P) ∧ ∃ m, w' = (w.drewN q).drewN m)
    (hB : ∀ q, Calls Try.prog 116 #[.pointer B, .pointer (some ⟨t, 0, none⟩)] (w.drewN q) fun r w' => r = .returned (.int .i64 R) ∧ ∃ m, w' = (w.drewN q).drewN m) :
    Calls Try.prog 116 #[.pointer (some ⟨p, 0, none⟩), .pointer (some ⟨t, 0, none⟩)] w fun r w' => r = .returned (.int .i64 (x * P + y * R)) ∧ ∃ m, w' = w.drewN m := by
  obtain ⟨c1, c2, c3, c4⟩ := hc.cells
  clear hc
  replace hA := Lib.hid hA
  replace hB := Lib.hid hB
  go_enter Try.func116, Try.ntmps116
  go_wp2_with fail
  go_quiet ((first
    | (go_at_call 116; with_reducible exact Calls.quiet_of (hA.out _))
    | (go_at_call 116; with_reducible exact Calls.quiet_of (hB.out _))))
  go_wp2_with fail
  go_ret
  exact ⟨rfl, _, rfl⟩

end Go.Proofs.Ytggmiojhglkcgaa
end

section
namespace Go.Proofs.Ytggmiojhglkcgaa
open Go.RowKit Go.Deep

theorem infoPt : (Try.prog.info? 107).map (fun i => (i.size, i.bytes)) = some (1, 8) := by kernel_rfl
theorem zeroPt : ((Try.prog.info? 107).bind (·.zero)) = some (.pointer none) := by kernel_rfl
theorem infoPt_parts : ∃ i, Try.prog.info? 107 = some i ∧ i.zero = some (.pointer none) ∧ i.size = 1 ∧ i.bytes = 8 := by
  have h := infoPt
  have hz := zeroPt
  cases e : Try.prog.info? 107 with
  | none => rw [e] at h; cases h
  | some i =>
    rw [e] at h hz
    simp only [Option.map_some, Option.some.injEq, Prod.mk.injEq] at h
    exact ⟨i, rfl, hz, h.1, h.2⟩
def ptrV (p : Nat) : Value := .pointer (some ⟨p, 0, none⟩)
def ptrs (P : Nat → Nat) (k : Nat) : List Value := (List.range k).map fun j => ptrV (P j)
theorem ptrs_len (P : Nat → Nat) (k : Nat) : (ptrs P k).length = k := by simp [ptrs]
theorem ptrs_get (P : Nat → Nat) {k j : Nat} (h : j < k) : (ptrs P k)[j]? = some (ptrV (P j)) := by simp [ptrs, h]
theorem ptrs_succ (P : Nat → Nat) (k : Nat) : ptrs P (k + 1) = ptrs P k ++ [ptrV (P k)] := by simp [ptrs, List.range_succ]
theorem ptrs_congr {P Q : Nat → Nat} {k : Nat} (h : ∀ j, j < k → P j = Q j) : ptrs P k = ptrs Q k := List.map_congr_left fun j hj => by rw [h j (List.mem_range.1 hj)]
def PR (W : World) (b n : Nat) (P : Nat → Nat) : Prop := ∃ cur, W.heap[b]? = some (.cells cur 107 (0, 0)) ∧ ∀ j, j < n → cur[j]? = some (ptrV (P j))
theorem PR.cell {W : World} {b n : Nat} {P : Nat → Nat} (h : PR W b n P) {j : Nat} (hj : j < n) : W.cell? ⟨b, j, none⟩ = some (.pointer (some ⟨P j, 0, none⟩)) ∧ W.frozen? ⟨b, j, none⟩ = false := by
  obtain ⟨cur, h1, h2⟩ := h
  refine ⟨?_, ?_⟩
  · simp only [World.cell?, h1]
    exact h2 j hj
  · simp [World.frozen?, h1]
theorem PR.lt {W : World} {b n : Nat} {P : Nat → Nat} (h : PR W b n P) : b < W.heap.size := by
  obtain ⟨cur, h1, _⟩ := h
  exact (Array.getElem?_eq_some_iff.1 h1).1
theorem PR.block {W V : World} {b n : Nat} {P : Nat → Nat} (h : PR W b n P) (e : V.heap[b]? = W.heap[b]?) : PR V b n P := by
  obtain ⟨cur, h1, h2⟩ := h
  exact ⟨cur, e.trans h1, h2⟩
theorem PR.since {W V : World} {b n : Nat} {P : Nat → Nat} (h : PR W b n P) (hs : W.Since W.heap.size V) : PR V b n P := h.block (hs.block _ h.lt)
theorem PR.of_own {W : World} {base n : Nat} {v : Value} {P : Nat → Nat} (h : W.ownsRow base 107 1 v n (ptrs P n)) (h0 : 0 < n) : ∃ g cap, v = .slice (some ⟨g, 0, none⟩) n cap ∧ base ≤ g ∧ PR W g n P := by
  rcases h.2 with ⟨_, rfl⟩ | ⟨g, cap, cur, rfl, hb, hg, hn, _, hs, ht⟩
  · omega
  · refine ⟨g, cap, rfl, hb, cur, hg, fun j hj => ?_⟩
    have h1 : (cur.toList.take (n * 1))[j]? = some (ptrV (P j)) := by rw [ht]; exact ptrs_get P hj
    rw [List.getElem?_take] at h1
    have h2 : j < n ∧ cur[j]? = some (ptrV (P j)) := by simpa using h1
    exact h2.2
theorem PR.ne {W : World} {b n : Nat} {P : Nat → Nat} (h : PR W b n P) {p : Nat} {A B : Option Addr} {x y : Int} (hp : StC W p A B x y) : p ≠ b := by
  rintro rfl
  obtain ⟨cur, h1, _⟩ := h
  have h2 : W.heap[p]? = _ := hp
  rw [h1] at h2
  simp at h2
theorem PR.set {W : World} {b n : Nat} {P : Nat → Nat} (h : PR W b n P) {f : Nat} (p : Nat) : PR (W.setCell ⟨b, f, none⟩ (.pointer (some ⟨p, 0, none⟩))) b n (fun j => if j = f then p else P j) := by
  obtain ⟨cur, h1, h2⟩ := h
  obtain ⟨hlt, hk⟩ := Array.getElem?_eq_some_iff.1 h1
  refine ⟨cur.setIfInBounds f (.pointer (some ⟨p, 0, none⟩)), ?_, fun j hj => ?_⟩
  · show (W.heap.modify b _)[b]? = _
    rw [Array.getElem?_eq_getElem (by rw [Array.size_modify]; exact hlt), Array.getElem_modify_self, hk]
    rfl
  · have h3 := h2 j hj
    have h4 := (Array.getElem?_eq_some_iff.1 h3).1
    rw [Array.getElem?_setIfInBounds]
    by_cases e : f = j
    · subst e
      simp [h4, ptrV]
    · simp [e, Ne.symm e, h3]

set_option maxRecDepth 100000 in
set_option maxHeartbeats 400000 in
theorem clonePtr_any (b n cap : Nat) (P : Nat → Nat) (w : World) (hn : 1 ≤ n) (hn10 : n ≤ 10) (hP : PR w b n P) :
    Calls Try.prog 137 #[.slice (some ⟨b, 0, none⟩) n cap] w fun e w' => ∃ g c, e = .returned (.slice (some ⟨g, 0, none⟩) n c) ∧ w.Since w.heap.size w' ∧ w.heap.size ≤ g ∧ PR w' g n P := by
  obtain ⟨iP, hiP⟩ := infoPt_parts
  have HI := Lib.hid hiP
  have HP := Lib.hid hP
  have hq := Lib.run_eql_slice_nil (P := Try.prog) w 104 107 (some ⟨b, 0, none⟩) n cap 0 0 Try.underlying104
  simp only [Option.isNone_some] at hq
  clear hiP hP
  go_enter Try.func137, Try.ntmps137
  go_wp2_with (at_builtin; (refine wpList_append_own _ rfl _ _ 104 rfl w.heap.size 107 iP (.pointer none) 1 8 Try.underlying104 HI.out.1 HI.out.2.1 HI.out.2.2.1 HI.out.2.2.2 rfl (by decide) (.slice (some ⟨w.heap.size, 0, none⟩) 0 0) 0 [] rfl (World.ownsRow_made w #[] 0 (Nat.le_refl _) (Nat.zero_le _) (by simp)) ⟨b, 0, none⟩ n cap (ptrs P n) rfl (by rw [ptrs_len]; omega) (fun j u hj => by have hl : j < n := (by have := (List.getElem?_eq_some_iff.1 hj).1; rw [ptrs_len] at this; exact this); rw [ptrs_get P hl] at hj; cases hj; rw [addr_add, Nat.zero_add]; exact ((HP.out.since ((World.Since.refl _ _).alloc (Nat.le_refl _) _)).cell hl).1) (fun u hu => by obtain ⟨j, _, rfl⟩ := List.mem_map.1 hu; rfl) (by unfold maxLen; omega) (by omega) (by simp) ?_); intro v' w1 hown' hgrow _)
  rw [Nat.zero_add, List.nil_append] at hown'
  obtain ⟨g, c, rfl, hg, hpr⟩ := PR.of_own hown' (by omega)
  have HS := Lib.hid (((World.Since.refl w.heap.size w).alloc (Nat.le_refl _) (.cells #[] 107)).grown hgrow (by simp) (fun k e => by simp [Value.ownBlock] at e; omega))
  have HPR := Lib.hid hpr
  clear hown' hgrow hpr
  go_wp2_with fail
  go_ret
  exact ⟨_, _, rfl, HS.out, hg, HPR.out⟩

set_option maxRecDepth 100000 in
set_option maxHeartbeats 400000 in
theorem cloneChips_any (a : Option Addr) (cap N : Nat) (cs : List RC) (w : World) (hN : cs.length = N) (h10 : N ≤ 10) (hm : ChipsR w a cs) (hsa : ∃ b o, a = some ⟨b, o, none⟩) :
    Calls Try.prog 125 #[.slice a N cap] w fun e w' => ∃ a' cap', e = .returned (.slice a' N cap') ∧ w.Since w.heap.size w' ∧ OwnC w.heap.size w'.heap.size w' a' cs ∧ N ≤ cap' ∧ cap' ≤ 9223372036854775807 := by
  obtain ⟨iC, hiC⟩ := infoChip_parts
  have HI := Lib.hid hiC
  have HN := Lib.hid hN
  obtain ⟨b, o, rfl⟩ := hsa
  have HA := Lib.hid (fun (W : World) (hs : w.Since w.heap.size W) => hm.cells hs)
  have HCB := Lib.hid (cb_start w #[] rfl)
  have hq := Lib.run_eql_slice_nil (P := Try.prog) w 23 35 (some ⟨b, o, none⟩) N cap 0 0 Try.underlying23
  simp only [Option.isNone_some] at hq
  clear hiC hN hm
  go_enter Try.func125, Try.ntmps125
  go_wp2_with (at_builtin; (refine wpList_append_own _ rfl _ _ 23 rfl w.heap.size 35 iC (.agg #[.string ⟨#[]⟩, .int .i64 0, .int .i64 0]) 3 32 Try.underlying23 HI.out.1 HI.out.2.1 HI.out.2.2.1 HI.out.2.2.2 rfl (by decide) (.slice (some ⟨w.heap.size, 0, none⟩) 0 0) 0 [] rfl HCB.out.own ⟨b, o, none⟩ N cap (ch3 cs) rfl (by rw [ch3_length, HN.out]) (HA.out _ ((World.Since.refl _ _).alloc (Nat.le_refl _) _)) (ch3_one _) (by unfold maxLen; omega) (by omega) (by simp) ?_); intro v' w3 hown' hgrow _; have HC3 := Lib.hid (CB.push HCB.out (ds := cs) (n := 0 + N) (by rw [HN.out]; rfl) (World.Since.refl _ _) hown' hgrow); clear hown' hgrow)
  obtain ⟨a', cap', rfl, hO, h1, h2⟩ := HC3.out.ownC
  rw [List.nil_append] at hO h1 ⊢
  rw [HN.out] at h1 ⊢
  have HO := Lib.hid hO
  have HS := Lib.hid HC3.out.since
  clear hO HC3
  go_wp2_with fail
  go_ret
  exact ⟨_, _, rfl, HS.out, HO.out, h1, h2⟩

end Go.Proofs.Ytggmiojhglkcgaa
end

section
namespace Go.Proofs.Ytggmiojhglkcgaa
open Go.RowKit Go.Deep

theorem path_skip {c : CH} {cs : List CH} {i t : Nat} (h : ¬ i = chR c) : pathN (c :: cs) i t = pathN cs i t := by
  unfold chR at h
  show (if c.1 = 2 then (if i = c.2.1 then c.2.2 * pathN cs i t else pathN cs i t) else pathN cs i t + (if i = cFrom c then c.2.2 * pathN cs (cTo c) t else 0)) = _
  by_cases e : c.1 = 2
  · rw [if_pos e] at h ⊢
    rw [if_neg h]
  · rw [if_neg e] at h ⊢
    rw [if_neg h, Int.add_zero]
theorem path_here {c : CH} {cs : List CH} {t : Nat} (e : c.1 = 2) : pathN (c :: cs) (chR c) t = c.2.2 * pathN cs (chR c) t := by
  unfold chR
  rw [if_pos e]
  show (if c.1 = 2 then (if c.2.1 = c.2.1 then _ else _) else _) = _
  rw [if_pos e, if_pos rfl]
theorem path_over {c : CH} {cs : List CH} {t : Nat} (e : ¬ c.1 = 2) : pathN (c :: cs) (chR c) t = 1 * pathN cs (chR c) t + c.2.2 * pathN cs (chK c) t := by
  unfold chR chK
  rw [if_neg e, if_neg e]
  show (if c.1 = 2 then _ else pathN cs (cFrom c) t + (if cFrom c = cFrom c then c.2.2 * pathN cs (cTo c) t else 0)) = _
  rw [if_neg e, if_pos rfl, Int.one_mul]

theorem pathsTo_any {E : Nat → Nat} {n t : Nat} (hinj : ∀ i k, i < n → k < n → E i = E k → i = k) (ht : t < n) : ∀ (cs : List CH) (i p : Nat) (w : World), (∀ c ∈ cs, chOk n c ∧ -9 ≤ c.2.2 ∧ c.2.2 ≤ 9) → cs.length ≤ 10 → i < n → Lies w E n cs i p → StC w (E t) none none 0 0 →
    Calls Try.prog 116 #[.pointer (some ⟨p, 0, none⟩), .pointer (some ⟨E t, 0, none⟩)] w fun r w' => r = .returned (.int .i64 (pathN cs i t)) ∧ ∃ m, w' = w.drewN m
  | [], i, p, w, _, _, hi, hl, hE => by
    obtain ⟨rfl, hs⟩ := hl
    by_cases e : i = t
    · subst e
      have hp : pathN [] i i = 1 := by show (if i = i then (1 : Int) else 0) = 1; rw [if_pos rfl]
      rw [hp]
      exact pathsTo_end (E i) w
    · have hp : pathN [] i t = 0 * 0 + 0 * 0 := by show (if i = t then (1 : Int) else 0) = 0; rw [if_neg e]
      rw [hp]
      exact pathsTo_step (E i) (E t) none none 0 0 0 0 w (ptr_other hs hE (fun h => e (hinj i t hi ht h))) hs (by decide) (by decide) (by decide) (fun q => pathsTo_nil _ _) (fun q => pathsTo_nil _ _)
  | c :: cs, i, p, w, hc, h10, hi, hl, hE => by
    have hcc := hc c (by simp)
    have hc' : ∀ d ∈ cs, chOk n d ∧ -9 ≤ d.2.2 ∧ d.2.2 ≤ 9 := fun d hd => hc d (by simp [hd])
    have h10' : cs.length ≤ 10 := by simp at h10; omega
    have hbd : ∀ j, -10000000000 ≤ pathN cs j t ∧ pathN cs j t ≤ 10000000000 := fun j => by
      have h1 := path_bd cs (fun d hd => (hc' d hd).2) j t
      have h2 := p10_le h10'
      omega
    by_cases e : i = chR c
    · subst e
      unfold Lies at hl
      rw [if_pos rfl] at hl
      obtain ⟨hne, q, hq, h3⟩ := hl
      have hnet := hne t ht
      obtain ⟨hw1, hb1, hb2⟩ := wrap_mul9 hcc.2 (hbd (chR c))
      obtain ⟨hw2, hb3, hb4⟩ := wrap_mul9 hcc.2 (hbd (chK c))
      have hb5 := hbd (chR c)
      have hA := fun (m : Nat) => pathsTo_any hinj ht cs (chR c) q (w.drewN m) hc' h10' hi (hq.drawn (Drawn.mk w m)) hE
      by_cases e2 : c.1 = 2
      · rw [if_pos e2] at h3
        rw [path_here e2, show c.2.2 * pathN cs (chR c) t = c.2.2 * pathN cs (chR c) t + 0 * 0 by omega]
        exact pathsTo_step p (E t) _ none c.2.2 0 _ 0 w (ptr_other h3 hE hnet) h3 hw1 (by decide) (by rw [Int.zero_mul, Int.add_zero]; exact hw1) hA (fun q => pathsTo_nil _ _)
      · rw [if_neg e2] at h3
        obtain ⟨r, hr, h5⟩ := h3
        rw [path_over e2]
        have hk := (chRK hcc.1).2
        exact pathsTo_step p (E t) _ _ 1 c.2.2 _ _ w (ptr_other h5 hE hnet) h5 (by rw [Int.one_mul]; exact IntWalk.i64_in _ ⟨by omega, by omega⟩) hw2 (IntWalk.i64_in _ ⟨by omega, by omega⟩) hA
          (fun m => pathsTo_any hinj ht cs (chK c) r (w.drewN m) hc' h10' hk (hr.drawn (Drawn.mk w m)) hE)
    · unfold Lies at hl
      rw [if_neg e] at hl
      rw [path_skip e]
      exact pathsTo_any hinj ht cs i p w hc' h10' hi hl hE

theorem Lies.mono {W V : World} {E : Nat → Nat} {n : Nat} (hs : ∀ p A B x y, StC W p A B x y → StC V p A B x y) : ∀ {cs : List CH} {i p : Nat}, Lies W E n cs i p → Lies V E n cs i p
  | [], _, _, h => ⟨h.1, hs _ _ _ _ _ h.2⟩
  | c :: cs, i, p, h => by
    unfold Lies at h ⊢
    by_cases e : i = chR c
    · rw [if_pos e] at h ⊢
      obtain ⟨h1, q, h2, h3⟩ := h
      refine ⟨h1, q, h2.mono hs, ?_⟩
      by_cases e2 : c.1 = 2
      · rw [if_pos e2] at h3 ⊢
        exact hs _ _ _ _ _ h3
      · rw [if_neg e2] at h3 ⊢
        obtain ⟨r, h4, h5⟩ := h3
        exact ⟨r, h4.mono hs, hs _ _ _ _ _ h5⟩
    · rw [if_neg e] at h ⊢
      exact h.mono hs
theorem Lies.more {V : World} {E : Nat → Nat} {n : Nat} {cs : List CH} {c : CH} {P : Nat → Nat} {p : Nat} (hL : ∀ i, i < n → Lies V E n cs i (P i)) (hc : chOk n c) (hne : ∀ k, k < n → p ≠ E k)
    (hp : if c.1 = 2 then StC V p (some ⟨P (chR c), 0, none⟩) none c.2.2 0 else StC V p (some ⟨P (chR c), 0, none⟩) (some ⟨P (chK c), 0, none⟩) 1 c.2.2) :
    ∀ i, i < n → Lies V E n (c :: cs) i (if i = chR c then p else P i) := fun i hi => by
  obtain ⟨h1, h2⟩ := chRK hc
  unfold Lies
  by_cases e : i = chR c
  · rw [if_pos e, if_pos e]
    refine ⟨hne, P (chR c), by rw [e]; exact hL _ h1, ?_⟩
    by_cases e2 : c.1 = 2
    · rw [if_pos e2] at hp ⊢
      exact hp
    · rw [if_neg e2] at hp ⊢
      exact ⟨P (chK c), hL _ h2, hp⟩
  · rw [if_neg e, if_neg e]
    exact hL i hi

end Go.Proofs.Ytggmiojhglkcgaa
end

section
namespace Go.Proofs.Ytggmiojhglkcgaa
open Go.RowKit Go.Deep Go.Shelf
attribute [local go_sem] Oper.semAt_some

def backL (N : Nat) : Nat → List {i : Nat // i < N}
  | 0 => []
  | k + 1 => if h : k < N then backL N k ++ [⟨N - 1 - k, by omega⟩] else backL N k
theorem backL_len (N k : Nat) (h : k ≤ N) : (backL N k).length = k := by
  induction k with
  | zero => rfl
  | succ k ih =>
    unfold backL
    rw [dif_pos (by omega), List.length_append, ih (by omega)]
    rfl
theorem backL_step {N k : Nat} (h : k < N) : backL N (k + 1) = backL N k ++ [⟨N - 1 - k, by omega⟩] := by
  show (if h : k < N then _ else _) = _
  rw [dif_pos h]
def cameL (cs : List RC) {N : Nat} (pre : List {i : Nat // i < N}) : List RC := pre.map fun x => cs.getD x.1 rc0
theorem came_all {cs : List RC} {N : Nat} (hN : cs.length = N) : ∀ k, k ≤ N → cameL cs (backL N k) = (cs.drop (N - k)).reverse
  | 0, _ => by
    rw [Nat.sub_zero, List.drop_of_length_le (by omega)]
    rfl
  | k + 1, h => by
    rw [backL_step (show k < N by omega)]
    unfold cameL
    rw [List.map_append]
    have ih := came_all hN k (by omega)
    unfold cameL at ih
    rw [ih, show N - k = (N - (k + 1)) + 1 by omega]
    have hlt : N - (k + 1) < cs.length := by omega
    rw [List.drop_eq_getElem_cons hlt, List.reverse_cons]
    congr 1
    show [cs.getD (N - 1 - k) rc0] = _
    rw [show N - 1 - k = N - (k + 1) by omega]
    simp [List.getD, hlt]
theorem came_whole {cs : List RC} {N : Nat} (hN : cs.length = N) : cameL cs (backL N N) = cs.reverse := by
  rw [came_all hN N (Nat.le_refl _), Nat.sub_self, List.drop_zero]

def encB (cs : List RC) {N : Nat} (x : {i : Nat // i < N}) : Array Value := #[.int .i64 (x.1 : Int), .agg #[.string (cs.getD x.1 rc0).k, .int .i64 (cs.getD x.1 rc0).l, .int .i64 (cs.getD x.1 rc0).w]]
def KpC (B b : Nat) (X Y : World) : Prop := Y.heap[B]? = X.heap[B]? ∧ Y.heap[b]? = X.heap[b]?
theorem KpC.refl (B b : Nat) (X : World) : KpC B b X X := ⟨rfl, rfl⟩
theorem KpC.trans {B b : Nat} {X Y Z : World} (h : KpC B b X Y) (k : KpC B b Y Z) : KpC B b X Z := ⟨k.1.trans h.1, k.2.trans h.2⟩
theorem KpC.grown {B b : Nat} {X Y : World} {row : Option Nat} (h : X.grownBy Y row) (h1 : B < X.heap.size) (h2 : b < X.heap.size) (h3 : row ≠ some B) (h4 : row ≠ some b) : KpC B b X Y := ⟨h.block B h1 (fun e => h3 e.symm), h.block b h2 (fun e => h4 e.symm)⟩
theorem kpC_b {B b : Nat} {w : World} (h1 : B < w.heap.size) (h2 : b < w.heap.size) (W : World) (l : Nat) (o o' : Obj) (hl : w.heap.size ≤ l) (h : W.heap[l]? = some o) (_ : o.isCells = false) (_ : o.isWalk = false) : KpC B b W (W.putObj l o') := by
  have := (Array.getElem?_eq_some_iff.1 h).1
  exact KpC.grown (grownBy_putObj' W l o') (by omega) (by omega) (fun e => by cases e; omega) (fun e => by cases e; omega)

set_option maxRecDepth 100000 in
set_option maxHeartbeats 1000000 in
theorem back_in (q : Nat) (hq : 2 ≤ q) (l B b o N cap : Nat) (a : Option Addr) (cs : List RC) (hN : N ≤ 10) (ha : 0 < N → a = some ⟨b, o, none⟩) (J Jx : List {i : Nat // i < N} → World → Prop)
    (hY : ∀ pre x W, J pre W → pre.length < 11 → YieldAt Fence.wide (q - 1) Try.prog l (encB cs x) W fun e W' =>
      (e = .returned (.bool true) ∧ J (pre ++ [x]) W' ∧ KpC B b W W') ∨ (e = .returned (.bool false) ∧ Jx (pre ++ [x]) W'))
    (W : World) (hB : W.cell? ⟨B, 0, none⟩ = some (.slice a N cap))
    (hc : ∀ k, k < N → W.cell? ⟨b, o + k * 3, none⟩ = some (.string (cs.getD k rc0).k) ∧ W.cell? ⟨b, o + k * 3 + 1, none⟩ = some (.int .i64 (cs.getD k rc0).l) ∧ W.cell? ⟨b, o + k * 3 + 2, none⟩ = some (.int .i64 (cs.getD k rc0).w)) (h0 : J [] W) :
    CallsIn Fence.wide q Try.prog 121 #[.func (.yield l) #[] #[], .pointer (some ⟨B, 0, none⟩)] W fun e W' => (∃ v, e = .returned v) ∧
      ((∃ ys, ys = backL N N ∧ J ys W') ∨ (∃ pre, (∃ k, k ≤ N ∧ pre = backL N k) ∧ Jx pre W')) := by
  have hw1 : IntKind.i64.wrap ((N : Int) - 1) = (N : Int) - 1 := IntWalk.i64_in _ ⟨by omega, by omega⟩
  refine callsIn_of_wp Try.func121 rfl trivial ?_ rfl
  simp only [Try.ntmps121, List.size_toArray, List.length_cons, List.length_nil, Nat.reduceAdd, Nat.reduceSub, Array.replicate_succ, Array.replicate_zero, List.push_toArray, List.append_toArray, List.nil_append, List.cons_append]
  gi_wp2
  gi_loopw [3] (fun i wr => ∃ (k : Nat) (z : Int), k ≤ N ∧ i = .int .i64 z ∧ z + 1 = ((N - k : Nat) : Int) ∧ J (backL N k) wr ∧ wr.cell? ⟨B, 0, none⟩ = some (.slice a N cap) ∧ (∀ k, k < N → wr.cell? ⟨b, o + k * 3, none⟩ = some (.string (cs.getD k rc0).k) ∧ wr.cell? ⟨b, o + k * 3 + 1, none⟩ = some (.int .i64 (cs.getD k rc0).l) ∧ wr.cell? ⟨b, o + k * 3 + 2, none⟩ = some (.int .i64 (cs.getD k rc0).w)))
    (fun i _ => (intOf i + 1).toNat)
  case atStart => exact ⟨0, _, Nat.zero_le _, rfl, by omega, h0, hB, hc⟩
  case round =>
    obtain ⟨k, z, hk, rfl, hz, hJs, hB', hc'⟩ := hrel
    by_cases hlt : k < N
    · obtain ⟨j, rfl⟩ : ∃ j : Nat, z = j := ⟨N - 1 - k, by omega⟩
      have hj : j = N - 1 - k := by omega
      have hjN : j < N := by omega
      obtain rfl := ha (by omega)
      obtain ⟨c1, c2, c3⟩ := hc' j hjN
      have hst := backL_step hlt
      have hpl := backL_len N k hk
      obtain ⟨fn, tmps, assign, body, hy, hR⟩ := hY _ ⟨j, hjN⟩ wr hJs (by omega)
      have hw2 : IntKind.i64.wrap ((j : Int) - 1) = (j : Int) - 1 := IntWalk.i64_in _ ⟨by omega, by omega⟩
      dsimp only [encB] at hy
      have hx : (⟨N - 1 - k, by omega⟩ : {i : Nat // i < N}) = ⟨j, hjN⟩ := Subtype.ext hj.symm
      rw [hx] at hst
      obtain ⟨K, hK⟩ : ∃ K, (cs.getD j rc0).k = K := ⟨_, rfl⟩
      obtain ⟨L, hL⟩ : ∃ L, (cs.getD j rc0).l = L := ⟨_, rfl⟩
      obtain ⟨V, hV⟩ : ∃ V, (cs.getD j rc0).w = V := ⟨_, rfl⟩
      rw [hK] at c1 hy; rw [hL] at c2 hy; rw [hV] at c3 hy
      have HST := Lib.hid hst
      have HC := Lib.hid hc'
      have HJ := Lib.hid hj
      clear hB hc hst hc' hK hL hV hpl hx hj ha hz
      gi_wp2
      refine ⟨fun _ => by omega, hR.mono ?_⟩
      rintro e W3 (⟨rfl, hJ3, hk3⟩ | ⟨rfl, hJx3⟩)
      · have HJ3 := Lib.hid hJ3
        have hB3 := (World.cell?_of_block hk3.1).trans hB'
        have HK := Lib.hid hk3
        have HJ' := HJ.out
        clear hy hR hk3 hB' hJs hJ3
        gi_wp2
        go_roundw
        case rel => exact ⟨k + 1, _, by omega, rfl, by have := HJ.out; omega, by rw [HST.out]; exact HJ3.out, hB3, fun i hi => ⟨(World.cell?_of_block HK.out.2).trans (HC.out i hi).1, (World.cell?_of_block HK.out.2).trans (HC.out i hi).2.1, (World.cell?_of_block HK.out.2).trans (HC.out i hi).2.2⟩⟩
        case measure => simp [intOf]; omega
      · gi_wp2
        refine bodyPost_ret (results_none rfl _ _ _) rfl ?_
        exact ⟨⟨_, rfl⟩, .inr ⟨_, ⟨k + 1, by omega, HST.out.symm⟩, hJx3⟩⟩
    · obtain rfl : k = N := by omega
      obtain rfl : z = -1 := by omega
      gi_wp2
      go_end0
      exact ⟨⟨_, rfl⟩, .inl ⟨_, rfl, hJs⟩⟩

theorem back_stops (q : Nat) (hq : 2 ≤ q) (B b o N cap : Nat) (a : Option Addr) (cs : List RC) (hN : N ≤ 10) (ha : 0 < N → a = some ⟨b, o, none⟩) (w : World) (h1 : B < w.heap.size) (h2 : b < w.heap.size) (hB : w.cell? ⟨B, 0, none⟩ = some (.slice a N cap))
    (hc : ∀ k, k < N → w.cell? ⟨b, o + k * 3, none⟩ = some (.string (cs.getD k rc0).k) ∧ w.cell? ⟨b, o + k * 3 + 1, none⟩ = some (.int .i64 (cs.getD k rc0).l) ∧ w.cell? ⟨b, o + k * 3 + 2, none⟩ = some (.int .i64 (cs.getD k rc0).w)) :
    SeqStopsK Fence.wide q Try.prog 121 #[.pointer (some ⟨B, 0, none⟩)] (encB cs) (KpC B b) (fun ys => ys = backL N N) (fun pre => ∃ k, k ≤ N ∧ pre = backL N k) 11 w := fun l J Jx W hW _ _ hY hJ =>
  back_in q hq l B b o N cap a cs hN ha J Jx hY W ((hW.cell (p := ⟨B, 0, none⟩) h1).trans hB)
    (fun k hk => ⟨(hW.cell (p := ⟨b, o + k * 3, none⟩) h2).trans (hc k hk).1, (hW.cell (p := ⟨b, o + k * 3 + 1, none⟩) h2).trans (hc k hk).2.1, (hW.cell (p := ⟨b, o + k * 3 + 2, none⟩) h2).trans (hc k hk).2.2⟩) hJ

theorem backward_any (a : Option Addr) (N cap : Nat) (w : World) :
    Calls Try.prog 80 #[.slice a N cap] w fun e w' => e = .returned (.func (.func 121) #[] #[.pointer (some ⟨w.heap.size, 0, none⟩)]) ∧ w' = w.alloc (.cells #[.slice a N cap] 23) := by
  go_enter Try.func80, Try.ntmps80
  go_wp2
  go_ret
  exact ⟨rfl, rfl⟩

end Go.Proofs.Ytggmiojhglkcgaa
end

section
namespace Go.Proofs.Ytggmiojhglkcgaa
open Go.RowKit Go.Deep Go.Shelf
attribute [local go_sem] Oper.semAt_some

theorem round_region_heldL {lp n id : Nat} {P : Program} {ops : Array Oper} {Q : Exit → Act → World → Prop} {a : Act} {w : World} {S : World → Prop} (hm : P.follows .mixedOrders = true) (hd : noDefer ops = true) (hno : ¬ LetsOut Q) (hS : S w.drew)
    (h : S w.drew → wpAnyH P .any ops Q S ops.size (Array.replicate ops.size false) a w.drew) : (Code.region id ops true).wpIn (Fence.wide.inRound lp) n P Q a w :=
  wpIn_region_any hm (wpAnyIn_of_wpAny hno (noDefer_of hd) _ _ _ _ (wpAny_of_held _ _ _ _ (h hS)))

structure EndsAt (w wr : World) (v : Value) (k : Nat) (E : Nat → Nat) : Prop where
  since : w.Since w.heap.size wr
  box : Boxed wr w.heap.size 104 (.slice none 0 0)
  own : wr.ownsRow (w.heap.size + 1) 107 1 v k (ptrs E k)
  st : ∀ j, j < k → StC wr (E j) none none 0 0
  inj : ∀ i j, i < k → j < k → E i = E j → i = j

theorem EndsAt.push {w wr w1 : World} {v v' : Value} {k : Nat} {E : Nat → Nat} (h : EndsAt w wr v k E)
    (hown : w1.ownsRow (w.heap.size + 1) 107 1 v' (k + 1) (ptrs E k ++ [ptrV wr.heap.size])) (hg : ((wr.alloc (.cells #[.pointer none, .pointer none, .int .i64 0, .int .i64 0] 127)).alloc (.cells #[ptrV wr.heap.size] 107)).grownBy w1 v.ownBlock) :
    EndsAt w w1 v' (k + 1) (fun j => if j = k then wr.heap.size else E j) := by
  have hz := h.since.size
  have hzb := h.box.lt
  have hlt := fun j hj => (h.st j hj).lt
  have hnew : StC ((wr.alloc (.cells #[.pointer none, .pointer none, .int .i64 0, .int .i64 0] 127)).alloc (.cells #[ptrV wr.heap.size] 107)) wr.heap.size none none 0 0 :=
    (Below.heap_alloc _ _ _ (by simp)).trans (World.alloc_heap_new wr _)
  have hold : ∀ j, j < k → StC ((wr.alloc (.cells #[.pointer none, .pointer none, .int .i64 0, .int .i64 0] 127)).alloc (.cells #[ptrV wr.heap.size] 107)) (E j) none none 0 0 := fun j hj =>
    (h.st j hj).since (((World.Since.refl _ _).alloc (Nat.le_refl _) _).alloc (by simp) _)
  have hrow : ∀ p A B x y, StC ((wr.alloc (.cells #[.pointer none, .pointer none, .int .i64 0, .int .i64 0] 127)).alloc (.cells #[ptrV wr.heap.size] 107)) p A B x y → StC w1 p A B x y := fun p A B x y hp => by
    refine (hg.block p hp.lt fun e => ?_).trans hp
    rcases h.own.2 with ⟨rfl, _⟩ | ⟨g, cap, cur, rfl, _, hgg, _⟩
    · simp [Value.ownBlock] at e
    · simp [Value.ownBlock] at e
      subst e
      have h1 : ((wr.alloc (.cells #[.pointer none, .pointer none, .int .i64 0, .int .i64 0] 127)).alloc (.cells #[ptrV wr.heap.size] 107)).heap[p]? = wr.heap[p]? := (Below.heap_alloc _ _ _ (by have := (Array.getElem?_eq_some_iff.1 hgg).1; simp; omega)).trans (Below.heap_alloc _ _ _ (Array.getElem?_eq_some_iff.1 hgg).1)
      have h2 : (_ : World).heap[p]? = _ := hp
      rw [h1, hgg] at h2
      simp at h2
  refine ⟨((h.since.alloc hz _).alloc (by simp; omega) _).grown hg (by simp; omega) (fun b e => by have := (h.own.lt b e).1; omega), ?_, ?_, fun j hj => ?_, fun i j hi hj e => ?_⟩
  · refine ((h.box.alloc _).alloc _).kept hg fun e => ?_
    have := (h.own.lt _ e.symm).1
    omega
  · rw [ptrs_succ, if_pos rfl, ptrs_congr (Q := E) (fun j hj => by rw [if_neg (by omega)])]
    exact hown
  · by_cases e : j = k
    · rw [if_pos e]; exact hrow _ _ _ _ _ hnew
    · rw [if_neg e]; exact hrow _ _ _ _ _ (hold j (by omega))
  · by_cases e1 : i = k <;> by_cases e2 : j = k
    · omega
    · rw [if_pos e1, if_neg e2] at e; have := hlt j (by omega); omega
    · rw [if_neg e1, if_pos e2] at e; have := hlt i (by omega); omega
    · rw [if_neg e1, if_neg e2] at e; exact h.inj i j (by omega) (by omega) e

structure LinkI (w W0 : World) (sb eb n sc : Nat) (E : Nat → Nat) (L : List CH) (W : World) : Prop where
  since : w.Since w.heap.size W
  size : W0.heap.size ≤ W.heap.size
  box : Boxed W w.heap.size 104 (.slice (some ⟨sb, 0, none⟩) n sc)
  ends : PR W eb n E
  st : ∀ i, i < n → StC W (E i) none none 0 0
  lies : ∃ P, PR W sb n P ∧ ∀ i, i < n → Lies W E n L i (P i)
theorem StC.frz {W : World} {p : Nat} {A B : Option Addr} {x y : Int} (h : StC W p A B x y) (j : Nat) : W.frozen? ⟨p, j, none⟩ = false := by
  have h' : W.heap[p]? = _ := h
  simp [World.frozen?, h']
theorem StC.set1 {W : World} {p : Nat} {A B : Option Addr} {x y : Int} (h : StC W p A B x y) (C : Option Addr) : StC (W.setCell ⟨p, 1, none⟩ (.pointer C)) p A C x y := by
  obtain ⟨hlt, hk⟩ := Array.getElem?_eq_some_iff.1 h
  show (W.heap.modify p _)[p]? = _
  rw [Array.getElem?_eq_getElem (by rw [Array.size_modify]; exact hlt), Array.getElem_modify_self, hk]
  rfl
theorem StC.set3 {W : World} {p : Nat} {A B : Option Addr} {x y : Int} (h : StC W p A B x y) (z : Int) : StC (W.setCell ⟨p, 3, none⟩ (.int .i64 z)) p A B x z := by
  obtain ⟨hlt, hk⟩ := Array.getElem?_eq_some_iff.1 h
  show (W.heap.modify p _)[p]? = _
  rw [Array.getElem?_eq_getElem (by rw [Array.size_modify]; exact hlt), Array.getElem_modify_self, hk]
  rfl
theorem StC.kept {W V : World} {row : Option Nat} {p : Nat} {A B : Option Addr} {x y : Int} (h : StC W p A B x y) (hg : W.grownBy V row) (hr : ∀ r, row = some r → ∃ o : Obj, W.heap[r]? = some o ∧ o.isCells = false) : StC V p A B x y := (hg.block p h.lt (fun e => by
  obtain ⟨o, ho, hc⟩ := hr p e.symm
  have h' : W.heap[p]? = _ := h
  rw [h'] at ho; cases ho; cases hc)).trans h
theorem PR.kept {W V : World} {row : Option Nat} {b n : Nat} {P : Nat → Nat} (h : PR W b n P) (hg : W.grownBy V row) (hr : ∀ r, row = some r → ∃ o : Obj, W.heap[r]? = some o ∧ o.isCells = false) : PR V b n P := h.block (hg.block b h.lt (fun e => by
  obtain ⟨o, ho, hc⟩ := hr b e.symm
  obtain ⟨cur, h', _⟩ := h
  rw [h'] at ho; cases ho; cases hc))
theorem since_rowL {w X Y : World} {row : Option Nat} {B : Nat} (h : w.Since w.heap.size X) (hB : w.heap.size ≤ B) (hg : X.grownBy Y row) (hr : ∀ r, row = some r → B ≤ r) : w.Since w.heap.size Y :=
  ⟨hg.os.trans h.os, hg.tape.trans h.tape, hg.output.trans h.output, Nat.le_trans h.size hg.size, fun k hk => (hg.block k (by have := h.size; omega) (fun e => by have := hr k e.symm; omega)).trans (h.block k hk)⟩
theorem LinkI.own {w W0 : World} {sb eb n sc : Nat} {E : Nat → Nat} {L : List CH} {X Y : World} {row : Option Nat} (h : LinkI w W0 sb eb n sc E L X) (hg : X.grownBy Y row) (hr : ∀ r, row = some r → W0.heap.size ≤ r ∧ ∃ o : Obj, X.heap[r]? = some o ∧ o.isCells = false) (hw : w.heap.size ≤ W0.heap.size) : LinkI w W0 sb eb n sc E L Y :=
  ⟨since_rowL h.since hw hg (fun r e => (hr r e).1), Nat.le_trans h.size hg.size, boxed_own w.heap.size _ (fun (_ : Unit) => .slice (some ⟨sb, 0, none⟩) n sc) () X Y row h.box hg (fun r e => (hr r e).2), h.ends.kept hg (fun r e => (hr r e).2), fun i hi => (h.st i hi).kept hg (fun r e => (hr r e).2), by
    obtain ⟨P, h1, h2⟩ := h.lies
    exact ⟨P, h1.kept hg (fun r e => (hr r e).2), fun i hi => (h2 i hi).mono fun p A B x y hp => hp.kept hg (fun r e => (hr r e).2)⟩⟩

theorem link_end {w W0 W w4 V : World} {sb eb n sc B b : Nat} {E : Nat → Nat} {L : List CH} {CC : CH} {P : Nat → Nat} (hI : LinkI w W0 sb eb n sc E L W) (hP : PR W sb n P) (hL : ∀ i, i < n → Lies W E n L i (P i)) (hs4 : W.Since W.heap.size w4) (hV : w4.Since w4.heap.size V) (hok : chOk n CC)
    (hst : if CC.1 = 2 then StC V w4.heap.size (some ⟨P (chR CC), 0, none⟩) none CC.2.2 0 else StC V w4.heap.size (some ⟨P (chR CC), 0, none⟩) (some ⟨P (chK CC), 0, none⟩) 1 CC.2.2)
    (h1 : w.heap.size < sb) (h2 : sb < W0.heap.size) (h3 : eb ≠ sb) (h4 : B < W0.heap.size) (h5 : b < W0.heap.size) (h6 : B ≠ sb) (h7 : b ≠ sb) :
    KeepsFrom W0.heap.size W (V.setCell ⟨sb, chR CC, none⟩ (.pointer (some ⟨w4.heap.size, 0, none⟩))) ∧ KpC B b W (V.setCell ⟨sb, chR CC, none⟩ (.pointer (some ⟨w4.heap.size, 0, none⟩))) ∧ LinkI w W0 sb eb n sc E (CC :: L) (V.setCell ⟨sb, chR CC, none⟩ (.pointer (some ⟨w4.heap.size, 0, none⟩))) := by
  have hz4 := hs4.size
  have hzV := hV.size
  have hzW := hI.size
  have hsV : W.Since W.heap.size V := hs4.trans (since_mono hV hz4)
  have hblk : ∀ q, q < W.heap.size → q ≠ sb → (V.setCell ⟨sb, chR CC, none⟩ (.pointer (some ⟨w4.heap.size, 0, none⟩))).heap[q]? = W.heap[q]? := fun q hq hne => (Below.heap_setCell _ _ _ _ (by exact hne)).trans (hsV.block q hq)
  have hzS : (V.setCell ⟨sb, chR CC, none⟩ (.pointer (some ⟨w4.heap.size, 0, none⟩))).heap.size = V.heap.size := by simp
  have hPV := hP.since hsV
  have hstC : ∀ p A B x y, StC V p A B x y → StC (V.setCell ⟨sb, chR CC, none⟩ (.pointer (some ⟨w4.heap.size, 0, none⟩))) p A B x y := fun p A B x y hp => (Below.heap_setCell _ _ _ _ (by exact hPV.ne hp)).trans hp
  refine ⟨⟨by rw [hzS]; omega, fun q o hq hk _ => (hblk q (Array.getElem?_eq_some_iff.1 hk).1 (by omega)).trans hk⟩, ⟨hblk B (by omega) h6, hblk b (by omega) h7⟩, ⟨(hI.since.trans (since_mono hsV hI.since.size)).setCell (by show w.heap.size ≤ sb; omega) _, by rw [hzS]; omega, (hblk _ hI.box.lt (by omega)).trans hI.box, hI.ends.block (hblk _ hI.ends.lt h3), fun i hi => hstC _ _ _ _ _ ((hI.st i hi).since hsV), ?_⟩⟩
  refine ⟨_, hPV.set w4.heap.size, fun i hi => ?_⟩
  refine (Lies.more (fun i hi => (hL i hi).since hsV) hok (fun k hk e => ?_) hst i hi).mono hstC
  have := (hI.st k hk).lt
  omega

set_option maxRecDepth 100000 in
set_option maxHeartbeats 1000000 in
theorem linked_any (a : Option Addr) (cap N n : Nat) (cs : List RC) (w : World) (hN : cs.length = N) (ho : NetOk n cs) (hm : ChipsR w a cs) :
    Calls Try.prog 115 #[.int .i64 n, .slice a N cap] w fun e w' => ∃ (sb eb c1 c2 : Nat) (P E : Nat → Nat), e = .returned (.tuple #[.slice (some ⟨sb, 0, none⟩) n c1, .slice (some ⟨eb, 0, none⟩) n c2]) ∧ w.Since w.heap.size w' ∧
      PR w' sb n P ∧ PR w' eb n E ∧ (∀ i j, i < n → j < n → E i = E j → i = j) ∧ (∀ i, i < n → StC w' (E i) none none 0 0) ∧ ∀ i, i < n → Lies w' E n (cs.map toC) i (P i) := by
  obtain ⟨iP, hiP⟩ := infoPt_parts
  have HI := Lib.hid hiP
  have hn2 := ho.lo
  have hn5 := ho.hi
  have h10 := ho.len
  rw [hN] at h10
  have hst : EndsAt w (w.alloc (.cells #[.slice none 0 0] 104)) (.slice none 0 0) 0 (fun _ => 0) := ⟨(World.Since.refl _ _).alloc (Nat.le_refl _) _, Boxed.new w _ _, World.ownsRow_nil _ _ _ _, fun j hj => by omega, fun i j hi => by omega⟩
  have HST := Lib.hid hst
  have HN := Lib.hid hN
  have HM := Lib.hid hm
  have HO := Lib.hid ho
  clear hiP hst hN hm ho
  refine (callsIn_wide (n := 9)).1 ?_
  refine callsIn_of_wp_marks Try.func115 rfl trivial ?_ rfl
  simp only [Try.ntmps115, List.size_toArray, List.length_cons, List.length_nil, Nat.reduceAdd, Nat.reduceSub, Array.replicate_succ, Array.replicate_zero, List.push_toArray, List.append_toArray, List.nil_append, List.cons_append]
  gi_wp2
  gi_loopw [5, 12] (fun v i wr => ∃ (k : Nat) (E : Nat → Nat), k ≤ n ∧ i = .int .i64 k ∧ EndsAt w wr v k E) (fun _ i _ => n - (intOf i).toNat)
  case atStart => exact ⟨0, _, Nat.zero_le _, rfl, HST.out⟩
  case round =>
    obtain ⟨k, E, hk, rfl, hE⟩ := hrel
    clear HST
    by_cases hlt : k < n
    · have HE := Lib.hid hE
      have hz := hE.since.size
      have hzb := hE.box.lt
      clear hE
      gi_wp2_with (gi_at_builtin; (refine wpListIn_append_own _ rfl _ _ 104 rfl (w.heap.size + 1) 107 iP (.pointer none) 1 8 Try.underlying104 HI.out.1 HI.out.2.1 HI.out.2.2.1 HI.out.2.2.2 rfl (by decide) _ _ _ rfl ((HE.out.own.alloc _).alloc _) ⟨wr.heap.size + 1, 0, none⟩ 1 1 [ptrV wr.heap.size] rfl rfl (cell_one_at _ _ _ (by simp)) (fun x hx => by simp at hx; subst hx; rfl) (by unfold maxLen; omega) (by omega) (by simp; omega) ?_); intro v' w1 hown' hgrow _)
      have HP := Lib.hid (HE.out.push hown' hgrow)
      clear hown' hgrow
      go_roundw
      case rel => exact ⟨k + 1, _, by omega, by simp, HP.out⟩
      case measure => simp [intOf]; omega
    · obtain rfl : k = n := by omega
      obtain ⟨eb, ec, rfl, heb, hpr⟩ := PR.of_own hE.own (by omega)
      have HC := Lib.hid (clonePtr_any eb k ec E wr (by omega) (by omega) hpr)
      have HE := Lib.hid hE
      have HPR := Lib.hid hpr
      have hbx := hE.box.cell
      clear hE hpr
      gi_wp2_with (first
        | (refine ⟨trivial, ?_⟩; gi_at_call 137; refine (callsIn_wide.2 (HC.out)).mono ?_; rintro e w2 ⟨sb, sc, rfl, hs2, hsb, hpr2⟩; have HS2 := Lib.hid hs2; have HPR2 := Lib.hid hpr2; have bx2 := (HE.out.box.kept (row := none) ⟨hs2.os, hs2.tape, hs2.output, hs2.size, fun b hb _ => hs2.block b hb⟩ (by simp)); have cb2 := bx2.cell; have fb2 := bx2.frozen; clear hs2 hpr2)
        | (refine ⟨trivial, ?_⟩; gi_at_call 80; refine (callsIn_wide.2 (backward_any _ _ _ _)).mono ?_; rintro e w3 ⟨rfl, rfl⟩))
      obtain ⟨B, hB⟩ : ∃ B, w2.heap.size = B := ⟨_, rfl⟩
      obtain ⟨W0, hW0⟩ : ∃ W0, W0 = (w2.setCell ⟨w.heap.size, 0, none⟩ (.slice (some ⟨sb, 0, none⟩) k sc)).alloc (.cells #[.slice a N cap] 23) := ⟨_, rfl⟩
      rw [hB, ← hW0]
      have hz2 := HS2.out.size
      have hzE := HE.out.since.size
      have hsz0 : W0.heap.size = B + 1 := by rw [hW0, ← hB]; simp
      have hsb2 := HPR2.out.lt
      have hx0 := HE.out.box.lt
      have heb0 := HPR.out.lt
      have hS0 : w.Since w.heap.size W0 := by rw [hW0]; exact (((HE.out.since.trans (since_mono HS2.out hzE)).setCell (Nat.le_refl _) _).alloc (by simp; omega) _)
      have hbox : Boxed W0 w.heap.size 104 (.slice (some ⟨sb, 0, none⟩) k sc) := by rw [hW0]; exact (bx2.set _).alloc _
      have hkeep : ∀ q, q < w2.heap.size → q ≠ w.heap.size → W0.heap[q]? = w2.heap[q]? := fun q h1 h2 => by rw [hW0]; exact (Below.heap_alloc _ _ _ (by simp; omega)).trans (Below.heap_setCell _ _ _ _ (by exact h2))
      have hpr0 : PR W0 sb k E := HPR2.out.block (hkeep _ hsb2 (by omega))
      have hpe0 : PR W0 eb k E := (HPR.out.since HS2.out).block (hkeep _ (by omega) (by omega))
      have hstc0 : ∀ i, i < k → StC W0 (E i) none none 0 0 := fun i hi => by
        have h1 := (HE.out.st i hi).since HS2.out
        refine (hkeep _ h1.lt (fun e => ?_)).trans h1
        have h2 : w2.heap[E i]? = _ := h1
        have h3 : w2.heap[w.heap.size]? = _ := bx2
        rw [e, h3] at h2
        simp at h2
      have hBc : W0.cell? ⟨B, 0, none⟩ = some (.slice a N cap) := by
        have h := Boxed.new (w2.setCell ⟨w.heap.size, 0, none⟩ (.slice (some ⟨sb, 0, none⟩) k sc)) 23 (.slice a N cap)
        rw [← hW0] at h
        have h' := h.cell
        simpa [hB] using h'
      have HIN := Lib.hid HE.out.inj
      have HO5 := Lib.hid (fun (x : {i : Nat // i < N}) => show cs.getD x.1 rc0 ∈ cs from by
        have hx : x.1 < cs.length := by rw [HN.out]; exact x.2
        have : cs.getD x.1 rc0 = cs[x.1] := by simp [List.getD, hx]
        rw [this]; exact List.getElem_mem _)
      -- the chips' block
      obtain ⟨b, o, ha, hb, hc⟩ : ∃ b o, (0 < N → a = some ⟨b, o, none⟩) ∧ (b < w.heap.size ∨ b = B) ∧ ∀ q, q < N → W0.cell? ⟨b, o + q * 3, none⟩ = some (.string (cs.getD q rc0).k) ∧ W0.cell? ⟨b, o + q * 3 + 1, none⟩ = some (.int .i64 (cs.getD q rc0).l) ∧ W0.cell? ⟨b, o + q * 3 + 2, none⟩ = some (.int .i64 (cs.getD q rc0).w) := by
        by_cases h0 : 0 < N
        · obtain ⟨b, o, e, hc⟩ := HM.out (by rw [HN.out]; exact h0)
          have hl := World.block_lt_of_cell? _ _ (hc 0 (by rw [HN.out]; exact h0)).1
          exact ⟨b, o, fun _ => e, .inl hl, fun q hq => ⟨(hS0.cell (by exact hl)).trans (hc q (by rw [HN.out]; exact hq)).1, (hS0.cell (by exact hl)).trans (hc q (by rw [HN.out]; exact hq)).2.1, (hS0.cell (by exact hl)).trans (hc q (by rw [HN.out]; exact hq)).2.2⟩⟩
        · exact ⟨B, 0, fun h => absurd h h0, .inr rfl, fun q hq => by omega⟩
      have hB1 : w2.heap.size ≤ B := by omega
      have hbB : b < W0.heap.size := by omega
      have hne1 : b ≠ sb := by omega
      have hne2 : B ≠ sb := by omega
      clear hW0 hB hkeep bx2 cb2 fb2 hbx
      refine wpIn_rangeFunc_ownH (F := Fence.wide) (n := 9) rfl (by omega) (gf := 121) (lb := #[.pointer (some ⟨B, 0, none⟩)]) rfl trivial (enters_of Try.func121 (by kernel_rfl) rfl)
        (back_stops 8 (by omega) B b o N cap a cs h10 ha W0 (by omega) hbB hBc hc)
        (fun h k => h.trans k) (kpC_b (by omega) hbB) (Below.refl _ _) (fun _ => rfl)
        (fun pre W => LinkI w W0 sb eb k sc E (((cameL cs pre).reverse).map toC) W)
        (fun _ _ _ => False)
        (fun s X Y row hs hg hr => hs.own hg hr hS0.size)
        (fun c s X Y row hs hg hr => hs)
        ⟨hS0, Nat.le_refl _, hbox, hpe0, hstc0, E, hpr0, fun i hi => ⟨rfl, hstc0 i hi⟩⟩
        (fun x a' W => ∃ Bx, W0.heap.size ≤ Bx ∧ Box3 W Bx (cs.getD x.1 rc0).k (cs.getD x.1 rc0).l (cs.getD x.1 rc0).w ∧ a' = { tmps := #[.int .i64 k, .slice a N cap, undef, undef, .pointer (some ⟨w.heap.size, 0, none⟩), .slice (some ⟨eb, 0, none⟩) k ec, undef, .pointer (some ⟨Bx, 0, none⟩), undef, undef, undef, .int .i64 k, .int .i64 k, .bool false, u14, u15, u16, u17, u18, u19, .slice (some ⟨eb, 0, none⟩) k ec, .slice (some ⟨sb, 0, none⟩) k sc, .slice a N cap, .func (.func 121) #[] #[.pointer (some ⟨B, 0, none⟩)], .int .i64 (x.1 : Int), .agg #[.string (cs.getD x.1 rc0).k, .int .i64 (cs.getD x.1 rc0).l, .int .i64 (cs.getD x.1 rc0).w], undef, undef, undef, undef, undef, undef, undef, undef, undef, undef, undef, undef, undef, undef, undef, undef, undef, undef, undef, undef, undef, undef, undef, undef, undef, undef, undef, undef, undef, undef, undef, undef, undef, undef, undef, undef, undef], defers := [] })
        (fun x a' _ X Y row hs hg hr => by obtain ⟨Bx, h1, h2, h3⟩ := hs; exact ⟨Bx, h1, h2.own hg (fun r e => (hr r e).2), h3⟩)
        ?assign ?body ?done ?stop
      case assign =>
        rintro l2 pre x W Kq hI hK
        simp only [encB]
        gi_wp2
        exact hK _ _ ((KeepsOthers.alloc _ _).from _) (KpC.grown (World.grownBy_alloc _ _ none) (by have := hI.size; omega) (by have := hI.size; omega) (by simp) (by simp)) (hI.own (World.grownBy_alloc _ _ none) (fun r e => by cases e) hS0.size) ⟨W.heap.size, hI.size, Box3.new W _ _ _, rfl⟩
      case body =>
        rintro l2 pre x a' W hl ⟨r, hr⟩ hI ⟨Bx, hBx, bX, rfl⟩ hlt
        have hmem := HO5.out x
        have hcam : ((cameL cs (pre ++ [x])).reverse).map toC = toC (cs.getD x.1 rc0) :: ((cameL cs pre).reverse).map toC := by
          unfold cameL
          rw [List.map_append, List.reverse_append, List.map_append]
          rfl
        obtain ⟨L, hL⟩ : ∃ L, ((cameL cs pre).reverse).map toC = L := ⟨_, rfl⟩
        rw [hL] at hI hcam
        have hok := HO.out.ok _ hmem
        obtain ⟨c, hcc⟩ : ∃ c, cs.getD x.1 rc0 = c := ⟨_, rfl⟩
        rw [hcc] at bX hok hcam ⊢
        have hRK := chRK hok.2
        have EE := fun (V : World) => ends_any c V hok.1
        have hmore := fun (w4 V : World) (P : Nat → Nat) (hP : PR W sb k P) (hL : ∀ i, i < k → Lies W E k L i (P i)) (hs4 : W.Since W.heap.size w4) (hV : w4.Since w4.heap.size V) hst => link_end (B := B) (b := b) (CC := toC c) hI hP hL hs4 hV hok.2 hst (by omega) (by omega) (by omega) (by omega) hbB hne2 hne1
        have hkind : chR (toC c) = chK (toC c) ↔ (toC c).1 = 2 := by
          constructor
          · intro e
            by_cases e2 : (toC c).1 = 2
            · exact e2
            · unfold chR chK at e
              rw [if_neg e2, if_neg e2] at e
              exact absurd e (ch_ft hok.2 e2).2.2
          · intro e
            unfold chR chK
            rw [if_pos e, if_pos e]
        rw [toC_w] at hmore
        obtain ⟨f, hf⟩ : ∃ f, chR (toC c) = f := ⟨_, rfl⟩
        obtain ⟨t, ht⟩ : ∃ t, chK (toC c) = t := ⟨_, rfl⟩
        simp only [hf, ht] at EE hmore hRK hkind
        obtain ⟨CC, hCC⟩ : ∃ CC, toC c = CC := ⟨_, rfl⟩
        rw [hCC] at hcam hmore hkind
        obtain ⟨K, Ln, V⟩ := c
        simp only at EE hmore bX ⊢
        obtain ⟨hf5, ht5⟩ := hRK
        obtain ⟨P, hPR, hLie⟩ := hI.lies
        obtain ⟨c1, c2, c3⟩ := bX.cells
        have hI1 := hI.size
        have HII := Lib.hid hI
        have HPRR := Lib.hid hPR
        have HLIE := Lib.hid hLie
        have HMORE := Lib.hid hmore
        have HCAM := Lib.hid hcam
        have HBXX := Lib.hid bX
        have HKIND := Lib.hid hkind
        replace EE := Lib.hid EE
        have hBxl := bX.lt
        clear hI hPR hLie hmore hcam hok hcc hf ht hCC hmem hL hkind bX hr
        by_cases e2 : f = t
        · subst e2
          have HK2 := Lib.hid (HKIND.out.1 rfl)
          clear HKIND
          gi_wp2_with (first
            | (refine ⟨trivial, ?_⟩; gi_at_call 111; refine (CallsIn.inRound l2 (callsIn_wide.2 (EE.out _))).mono ?_; rintro e w4 ⟨rfl, hs4⟩; have hz4 := hs4.size; have cb4 := (hs4.cell (World.block_lt_of_cell? _ _ HII.out.box.cell)).trans HII.out.box.cell; have cp4 := (hs4.cell (World.block_lt_of_cell? _ _ (HPRR.out.cell hf5).1)).trans (HPRR.out.cell hf5).1; have fp4 := (hs4.frozen (World.block_lt_of_cell? _ _ (HPRR.out.cell hf5).1)).trans (HPRR.out.cell hf5).2; have ct4 := (hs4.cell (World.block_lt_of_cell? _ _ (HPRR.out.cell ht5).1)).trans (HPRR.out.cell ht5).1; have cw4 := (hs4.cell (World.block_lt_of_cell? _ _ c3)).trans c3; have cb5 := fun ob => cell_alloc_l ob cb4; have cp5 := fun ob => cell_alloc_l ob cp4; have ct5 := fun ob => cell_alloc_l ob ct4; have cw5 := fun ob => cell_alloc_l ob cw4; have fp5 := fun ob => frozen_alloc_l ob cp4 fp4; have HS4 := Lib.hid hs4; clear hs4 c1 c2 c3))
          have hfin := HMORE.out w4 _ P HPRR.out HLIE.out HS4.out ((World.Since.refl _ _).alloc (Nat.le_refl _) (.cells #[.pointer (some ⟨P f, 0, none⟩), .pointer none, .int .i64 V, .int .i64 0] 127)) (by rw [if_pos HK2.out]; exact World.alloc_heap_new w4 _)
          rw [← HCAM.out] at hfin
          exact hfin
        · have hft : (f == t) = false := by simpa using e2
          have hft' : ((f : Int) == (t : Int)) = false := by simp; omega
          have HK2 := Lib.hid (fun h => e2 (HKIND.out.2 h))
          clear HKIND e2
          gi_wp2_with (first
            | (refine ⟨trivial, ?_⟩; gi_at_call 111; refine (CallsIn.inRound l2 (callsIn_wide.2 (EE.out _))).mono ?_; rintro e w4 ⟨rfl, hs4⟩; have hz4 := hs4.size; have cb4 := (hs4.cell (World.block_lt_of_cell? _ _ HII.out.box.cell)).trans HII.out.box.cell; have cp4 := (hs4.cell (World.block_lt_of_cell? _ _ (HPRR.out.cell hf5).1)).trans (HPRR.out.cell hf5).1; have fp4 := (hs4.frozen (World.block_lt_of_cell? _ _ (HPRR.out.cell hf5).1)).trans (HPRR.out.cell hf5).2; have ct4 := (hs4.cell (World.block_lt_of_cell? _ _ (HPRR.out.cell ht5).1)).trans (HPRR.out.cell ht5).1; have cw4 := (hs4.cell (World.block_lt_of_cell? _ _ c3)).trans c3; have cb5 := fun ob => cell_alloc_l ob cb4; have cp5 := fun ob => cell_alloc_l ob cp4; have ct5 := fun ob => cell_alloc_l ob ct4; have cw5 := fun ob => cell_alloc_l ob cw4; have fp5 := fun ob => frozen_alloc_l ob cp4 fp4; have HS4 := Lib.hid hs4; clear hs4 c1 c2 c3))
          have hmix : Try.prog.follows .mixedOrders = true := by kernel_rfl
          have hX0 : StC (w4.alloc (.cells #[.pointer (some ⟨P f, 0, none⟩), .pointer none, .int .i64 1, .int .i64 0] 127)).drew w4.heap.size (some ⟨P f, 0, none⟩) none 1 0 := World.alloc_heap_new w4 _
          have hsX : w4.Since w4.heap.size (w4.alloc (.cells #[.pointer (some ⟨P f, 0, none⟩), .pointer none, .int .i64 1, .int .i64 0] 127)).drew := ((World.Since.refl _ _).alloc (Nat.le_refl _) _).drew
          have hbl := World.block_lt_of_cell? _ _ cb4
          have hsl := World.block_lt_of_cell? _ _ ct4
          have hxl := World.block_lt_of_cell? _ _ cw4
          simp only at hbl hsl hxl
          have hS : (fun W' : World => W'.cell? ⟨w.heap.size, 0, none⟩ = some (.slice (some ⟨sb, 0, none⟩) k sc) ∧ W'.cell? ⟨sb, t, none⟩ = some (.pointer (some ⟨P t, 0, none⟩)) ∧ W'.cell? ⟨Bx, 2, none⟩ = some (.int .i64 V)) (w4.alloc (.cells #[.pointer (some ⟨P f, 0, none⟩), .pointer none, .int .i64 1, .int .i64 0] 127)).drew := ⟨cb5 _, ct5 _, cw5 _⟩
          refine round_region_heldL (S := fun W' : World => W'.cell? ⟨w.heap.size, 0, none⟩ = some (.slice (some ⟨sb, 0, none⟩) k sc) ∧ W'.cell? ⟨sb, t, none⟩ = some (.pointer (some ⟨P t, 0, none⟩)) ∧ W'.cell? ⟨Bx, 2, none⟩ = some (.int .i64 V)) hmix (by kernel_rfl) (by rintro ⟨a, w, h⟩; exact h) hS (fun hS => ?_)
          obtain ⟨p4, hp4⟩ : ∃ p, w4.heap.size = p := ⟨_, rfl⟩
          obtain ⟨X, hX⟩ : ∃ X, (w4.alloc (.cells #[.pointer (some ⟨P f, 0, none⟩), .pointer none, .int .i64 1, .int .i64 0] 127)).drew = X := ⟨_, rfl⟩
          rw [hX] at hX0 hsX hS ⊢
          rw [hp4] at hX0 hbl hsl hxl ⊢
          have fpX : X.frozen? ⟨sb, f, none⟩ = false := by rw [← hX]; exact fp5 _
          have cpX : X.cell? ⟨sb, f, none⟩ = some (.pointer (some ⟨P f, 0, none⟩)) := by rw [← hX]; exact cp5 _
          have HP4 := Lib.hid hp4
          clear hX hp4 cb5 cp5 ct5 cw5 fp5 cb4 cp4 fp4 ct4 cw4
          refine wpAnyH_take (i := 0) (v := .pointer (some ⟨p4, 0, none⟩)) rfl (by kernel_rfl) (by kernel_rfl) (by kernel_rfl) (fun _ _ _ h => h) (Or.inl ⟨by rfl, fun W' h => by go_simp⟩) hS ?_
          simp only [Act.put, List.setIfInBounds_toArray]
          refine wpAnyH_take (i := 1) (v := .pointer (some ⟨p4, 0, none⟩)) rfl (by kernel_rfl) (by kernel_rfl) (by kernel_rfl) (fun _ _ _ h => h) (Or.inl ⟨by rfl, fun W' h => by go_simp⟩) hS ?_
          simp only [Act.put]
          refine wpAnyH_take (i := 2) (v := .slice (some ⟨sb, 0, none⟩) k sc) rfl (by kernel_rfl) (by kernel_rfl) (by kernel_rfl) (fun _ _ _ h => h) (Or.inl ⟨by rfl, fun W' h => by have hc := h.1; go_simp⟩) hS ?_
          simp only [Act.put]
          refine wpAnyH_take (i := 3) (v := .int .i64 t) rfl (by kernel_rfl) (by kernel_rfl) (by kernel_rfl) (fun _ _ _ h => h) (Or.inl ⟨by rfl, fun W' h => by go_simp⟩) hS ?_
          simp only [Act.put]
          refine wpAnyH_take (i := 4) (v := .pointer (some ⟨sb, t, none⟩)) rfl (by kernel_rfl) (by kernel_rfl) (by kernel_rfl) (fun _ _ _ h => h) (Or.inl ⟨by rfl, fun W' h => by go_simp⟩) hS ?_
          simp only [Act.put]
          refine wpAnyH_take (i := 5) (v := .pointer (some ⟨P t, 0, none⟩)) rfl (by kernel_rfl) (by kernel_rfl) (by kernel_rfl) (fun _ _ _ h => h) (Or.inl ⟨by rfl, fun W' h => by have hc := h.2.1; go_simp⟩) hS ?_
          simp only [Act.put]
          refine wpAnyH_take (i := 6) (v := .pointer (some ⟨Bx, 2, none⟩)) rfl (by kernel_rfl) (by kernel_rfl) (by kernel_rfl) (fun _ _ _ h => h) (Or.inl ⟨by rfl, fun W' h => by go_simp⟩) hS ?_
          simp only [Act.put]
          refine wpAnyH_take (i := 7) (v := .int .i64 V) rfl (by kernel_rfl) (by kernel_rfl) (by kernel_rfl) (fun _ _ _ h => h) (Or.inl ⟨by rfl, fun W' h => by have hc := h.2.2; go_simp⟩) hS ?_
          simp only [Act.put]
          refine wpAnyH_take (i := 8) (v := .pointer (some ⟨p4, 0, none⟩)) rfl (by kernel_rfl) (by kernel_rfl) (by kernel_rfl) (fun _ _ _ h => h) (Or.inl ⟨by rfl, fun W' h => by go_simp⟩) hS ?_
          simp only [Act.put]
          refine wpAnyH_take (i := 9) (v := .pointer (some ⟨p4, 1, none⟩)) rfl (by kernel_rfl) (by kernel_rfl) (by kernel_rfl) (fun _ _ _ h => h) (Or.inl ⟨by rfl, fun W' h => by go_simp⟩) hS ?_
          simp only [Act.put]
          obtain ⟨x1, x2, x3, x4⟩ := hX0.cells
          have f1 := hX0.frz
          refine wpAnyH_ready (rs := [10]) (by kernel_rfl) (by simp) (AllReadyH.cons rfl (fun K hK => ?_) AllReadyH.nil)
          go_simp
          refine hK.out _ _ ⟨cell_set_ne hS.1 (by show w.heap.size ≠ p4; omega), cell_set_ne hS.2.1 (by show sb ≠ p4; omega), cell_set_ne hS.2.2 (by show Bx ≠ p4; omega)⟩ (fun hS1 => ?_)
          clear hK K
          have hX1 := hX0.set1 (some ⟨P t, 0, none⟩)
          have hsX1 := hsX.setCell (a := ⟨p4, 1, none⟩) (by have := HP4.out; show w4.heap.size ≤ p4; omega) (.pointer (some ⟨P t, 0, none⟩))
          have cpX1 := cell_set_ne (g := p4) (j := 1) (v := .pointer (some ⟨P t, 0, none⟩)) cpX (by show sb ≠ p4; omega)
          have fpX1 : (X.setCell ⟨p4, 1, none⟩ (.pointer (some ⟨P t, 0, none⟩))).frozen? ⟨sb, f, none⟩ = false := by rw [World.frozen?_setCell]; exact fpX
          obtain ⟨X1, hX1e⟩ : ∃ X1, X.setCell ⟨p4, 1, none⟩ (.pointer (some ⟨P t, 0, none⟩)) = X1 := ⟨_, rfl⟩
          rw [hX1e] at hS1 hX1 hsX1 cpX1 fpX1 ⊢
          clear hX1e hS hX0 hsX cpX fpX x1 x2 x3 x4 f1
          refine wpAnyH_take (i := 11) (v := .pointer (some ⟨p4, 0, none⟩)) rfl (by kernel_rfl) (by kernel_rfl) (by kernel_rfl) (fun _ _ _ h => h) (Or.inl ⟨by rfl, fun W' h => by go_simp⟩) hS1 ?_
          simp only [Act.put, List.setIfInBounds_toArray]
          refine wpAnyH_take (i := 12) (v := .pointer (some ⟨p4, 3, none⟩)) rfl (by kernel_rfl) (by kernel_rfl) (by kernel_rfl) (fun _ _ _ h => h) (Or.inl ⟨by rfl, fun W' h => by go_simp⟩) hS1 ?_
          simp only [Act.put]
          obtain ⟨x1, x2, x3, x4⟩ := hX1.cells
          have f1 := hX1.frz
          refine wpAnyH_ready (rs := [13]) (by kernel_rfl) (by simp) (AllReadyH.cons rfl (fun K hK => ?_) AllReadyH.nil)
          go_simp
          refine hK.out _ _ ⟨cell_set_ne hS1.1 (by show w.heap.size ≠ p4; omega), cell_set_ne hS1.2.1 (by show sb ≠ p4; omega), cell_set_ne hS1.2.2 (by show Bx ≠ p4; omega)⟩ (fun hS2 => ?_)
          clear hK K
          have hX2 := hX1.set3 V
          have hsX2 := hsX1.setCell (a := ⟨p4, 3, none⟩) (by have := HP4.out; show w4.heap.size ≤ p4; omega) (.int .i64 V)
          have cpX2 := cell_set_ne (g := p4) (j := 3) (v := .int .i64 V) cpX1 (by show sb ≠ p4; omega)
          have fpX2 : (X1.setCell ⟨p4, 3, none⟩ (.int .i64 V)).frozen? ⟨sb, f, none⟩ = false := by rw [World.frozen?_setCell]; exact fpX1
          obtain ⟨X2, hX2e⟩ : ∃ X2, X1.setCell ⟨p4, 3, none⟩ (.int .i64 V) = X2 := ⟨_, rfl⟩
          rw [hX2e] at hS2 hX2 hsX2 cpX2 fpX2 ⊢
          clear hX2e hS1 hX1 hsX1 cpX1 fpX1 x1 x2 x3 x4 f1
          refine wpAnyH_done (by kernel_rfl) ?_ _
          obtain ⟨cb, _, _⟩ := hS2
          have hfin := HMORE.out w4 X2 P HPRR.out HLIE.out HS4.out hsX2 (by rw [if_neg HK2.out, HP4.out]; exact hX2)
          rw [← HCAM.out, HP4.out] at hfin
          have HFIN := Lib.hid hfin
          clear hfin hX2 hsX2
          gi_wp2_with fail
          have h := HFIN.out
          rw [hsz0, List.map_reverse] at h
          exact h
      case done =>
        rintro D ys W hD rfl hI hK
        rw [came_whole HN.out, List.reverse_reverse] at hI
        have cb := hI.box.cell
        have fb := hI.box.frozen
        obtain ⟨P, hPR, hLie⟩ := hI.lies
        have H1 := Lib.hid hI
        have H2 := Lib.hid (And.intro hPR hLie)
        have hzW := hI.size
        clear hI hPR hLie hc hpr0 hpe0 hstc0 hS0 hBc hbox
        gi_wp2
        have hK' := (KeepsOthers.setCell W ⟨w.heap.size, 0, none⟩ (.slice (some ⟨sb, 0, none⟩) k sc)).same D _ hK rfl
        refine ⟨by simp, .inl ⟨_, _, rfl, run_takeDeferred hK', ?_⟩⟩
        have hg := grownBy_putObj' (W.setCell ⟨w.heap.size, 0, none⟩ (.slice (some ⟨sb, 0, none⟩) k sc)) D (.deferred none)
        have hr : ∀ r, some D = some r → ∃ o : Obj, (W.setCell ⟨w.heap.size, 0, none⟩ (.slice (some ⟨sb, 0, none⟩) k sc)).heap[r]? = some o ∧ o.isCells = false := fun r e => by cases e; exact ⟨_, hK', rfl⟩
        have hbk : ∀ q, q ≠ w.heap.size → (W.setCell ⟨w.heap.size, 0, none⟩ (.slice (some ⟨sb, 0, none⟩) k sc)).heap[q]? = W.heap[q]? := fun q hq => Below.heap_setCell _ _ _ _ (by exact hq)
        have hc5 := ((H1.out.box.set (.slice (some ⟨sb, 0, none⟩) k sc)).kept hg (fun e => by injection e; omega)).cell
        have hst : ∀ p A B x y, StC W p A B x y → StC ((W.setCell ⟨w.heap.size, 0, none⟩ (.slice (some ⟨sb, 0, none⟩) k sc)).putObj D (.deferred none)) p A B x y := fun p A B x y hp => StC.kept ((hbk p (fun e => by
          have h1 : W.heap[p]? = _ := hp
          have h2 : W.heap[w.heap.size]? = _ := H1.out.box
          rw [e, h2] at h1
          simp at h1)).trans hp) hg hr
        have hsn := since_rowL ((H1.out.since.setCell (a := ⟨w.heap.size, 0, none⟩) (Nat.le_refl _) (.slice (some ⟨sb, 0, none⟩) k sc))) (Nat.le_refl _) hg (fun r e => by cases e; omega)
        refine ⟨.tuple #[.slice (some ⟨sb, 0, none⟩) k sc, .slice (some ⟨eb, 0, none⟩) k ec], ?_, sb, eb, sc, ec, P, E, rfl, hsn, ?_, ?_, HIN.out, fun i hi => hst _ _ _ _ _ (H1.out.st i hi), fun i hi => (H2.out.2 i hi).mono hst⟩
        · simp [results, Try.f115, go_sem, hc5]
        · exact (H2.out.1.block (hbk sb (by omega))).kept hg hr
        · exact (H1.out.ends.block (hbk eb (by omega))).kept hg hr
      case stop =>
        rintro D c pre W hD hpre hF hK
        exact hF.elim

set_option maxRecDepth 100000 in
set_option maxHeartbeats 400000 in
theorem pathSum_any (a : Option Addr) (cap N n i k : Nat) (cs : List RC) (w : World) (hN : cs.length = N) (ho : NetOk n cs) (hm : ChipsR w a cs) (hi : i < n) (hk : k < n) :
    Calls Try.prog 73 #[.int .i64 n, .slice a N cap, .int .i64 i, .int .i64 k] w fun e w' => e = .returned (.int .i64 (pathN (cs.map toC) i k)) ∧ w.Since w.heap.size w' := by
  have E := Lib.hid (linked_any a cap N n cs w hN ho hm)
  have HO := Lib.hid ho
  obtain ⟨Z, hZ⟩ : ∃ Z, pathN (cs.map toC) i k = Z := ⟨_, rfl⟩
  have HZ := Lib.hid hZ
  rw [hZ]
  have hw5 := ho.hi
  clear hN ho hm hZ
  go_enter Try.func73, Try.ntmps73
  go_wp2_with (go_at_call 115; refine (E.out).mono ?_; rintro e w1 ⟨sb, eb, c1, c2, P, E1, rfl, hs1, hp, he, hin, hst, hl⟩; have HS1 := Lib.hid hs1; have cp := (hp.cell hi).1; have ce := (he.cell hk).1; have EP := Lib.hid (fun (q : Nat) => pathsTo_any hin hk (cs.map toC) i (P i) (w1.drewN q) (fun c hc => by obtain ⟨d, hd, rfl⟩ := List.mem_map.1 hc; exact ⟨(HO.out.ok d hd).2, (HO.out.rc d hd).2.2⟩) (by rw [List.length_map]; exact HO.out.len) hi ((hl i hi).drawn (Drawn.mk w1 q)) (hst k hk)); clear hs1 hp he hin hst hl)
  rw [HZ.out] at EP
  go_quiet ((go_at_call 116; with_reducible exact Calls.quiet_of (EP.out _)))
  go_wp2_with fail
  go_ret
  exact ⟨rfl, since_drewN HS1.out _⟩

end Go.Proofs.Ytggmiojhglkcgaa
end

section
namespace Go.Proofs.Ytggmiojhglkcgaa
open Go.RowKit Go.Deep

set_option maxHeartbeats 400000 in
theorem netIn1_any (K : ByteArray) (L V : Int) (n Bn : Nat) (hn2 : 2 ≤ n) (hn5 : n ≤ 5) (w : World) (hb : w.cell? ⟨Bn, 0, none⟩ = some (.int .i64 n)) :
    Calls Try.prog 58 #[.agg #[.string K, .int .i64 L, .int .i64 V], .pointer (some ⟨Bn, 0, none⟩)] w fun e w' => e = .returned (.bool (!chipB n ⟨K, L, V⟩)) ∧ w.Since w.heap.size w' := by
  have E := Lib.hid (fun (W : World) => isIn_any K L V n hn2 hn5 W)
  obtain ⟨d1, d2, d3⟩ := chip_box w K L V 35
  have HS := Lib.hid ((World.Since.refl w.heap.size w).alloc (Nat.le_refl _) (.cells #[.string K, .int .i64 L, .int .i64 V] 35))
  have hb' := cell_alloc_l (.cells #[.string K, .int .i64 L, .int .i64 V] 35) hb
  clear hb
  go_enter Try.func58, Try.ntmps58
  go_wp2_with (go_at_call 59; refine (E.out _).mono ?_; rintro e w1 ⟨rfl, hs1⟩; have HS1 := Lib.hid (HS.out.trans (since_mono hs1 HS.out.size)); clear hs1)
  go_ret
  exact ⟨rfl, HS1.out⟩

theorem all_no {n : Int} {cs : List RC} {i : Nat} (hi : i < cs.length) (h : chipB n (cs.getD i rc0) = false) : cs.all (chipB n) = false := by
  cases e : cs.all (chipB n) with
  | false => rfl
  | true =>
    have h1 := List.all_eq_true.1 e (cs.getD i rc0) (by
      have : cs.getD i rc0 = cs[i] := by simp [List.getD, hi]
      rw [this]; exact List.getElem_mem _)
    rw [h] at h1; cases h1
theorem all_yes {n : Int} {cs : List RC} (h : ∀ i, i < cs.length → chipB n (cs.getD i rc0) = true) : cs.all (chipB n) = true := List.all_eq_true.2 fun c hc => by
  obtain ⟨i, hi, e⟩ := List.mem_iff_getElem.1 hc
  have := h i hi
  rw [show cs.getD i rc0 = cs[i] by simp [List.getD, hi], e] at this
  exact this

def IdxPost (b : Bool) (w : World) (e : Ending) (w' : World) : Prop := ∃ z : Int, e = .returned (.int .i64 z) ∧ decide (0 ≤ z) = !b ∧ w.Since w.heap.size w'

set_option maxRecDepth 100000 in
set_option maxHeartbeats 400000 in
theorem indexF_any (a : Option Addr) (cap N n Bn : Nat) (cs : List RC) (w : World) (hN : cs.length = N) (h10 : N ≤ 10) (hn2 : 2 ≤ n) (hn5 : n ≤ 5) (hm : ChipsR w a cs) (hb : w.cell? ⟨Bn, 0, none⟩ = some (.int .i64 n)) :
    Calls Try.prog 104 #[.slice a N cap, .func (.func 58) #[] #[.pointer (some ⟨Bn, 0, none⟩)]] w (IdxPost (cs.all (chipB n)) w) := by
  have E := Lib.hid (fun (W : World) (hs : w.Since w.heap.size W) (K : ByteArray) (L V : Int) => netIn1_any K L V n Bn hn2 hn5 W ((hs.cell (World.block_lt_of_cell? _ _ hb)).trans hb))
  have HN := Lib.hid hN
  have HM := Lib.hid hm
  have HF := Lib.hid (fun (i : Nat) (hi : i < N) h => all_no (n := n) (cs := cs) (i := i) (by omega) h)
  have HT := Lib.hid (fun h => all_yes (n := (n : Int)) (cs := cs) h)
  clear hN hm hb
  go_enter Try.func104, Try.ntmps104
  go_wp2_with fail
  go_loopg [5, 8] N (fun g _ i wr => ∃ r : Nat, r ≤ N ∧ g = N - r ∧ i = .int .i64 r ∧ w.Since w.heap.size wr ∧ ∀ j, j < r → chipB n (cs.getD j rc0) = true)
  case atStart => exact ⟨0, Nat.zero_le _, rfl, rfl, World.Since.refl _ _, fun j hj => by omega⟩
  case round =>
    obtain ⟨r, hr, rfl, rfl, hS, hall⟩ := hrel
    by_cases hlt : r < N
    · obtain ⟨b, o, rfl, k1, k2, k3⟩ := HM.out.at (show r < cs.length by rw [HN.out]; exact hlt)
      have c1 := (hS.cell (World.block_lt_of_cell? _ _ k1)).trans k1
      have c2 := (hS.cell (World.block_lt_of_cell? _ _ k2)).trans k2
      have c3 := (hS.cell (World.block_lt_of_cell? _ _ k3)).trans k3
      have hf := HF.out r hlt
      have ht := fun (h : chipB n (cs.getD r rc0) = true) => show ∀ j, j < r + 1 → chipB n (cs.getD j rc0) = true from fun j hj => by
        by_cases e : j = r
        · subst e; exact h
        · exact hall j (by omega)
      obtain ⟨c, hc⟩ : ∃ c, cs.getD r rc0 = c := ⟨_, rfl⟩
      rw [hc] at c1 c2 c3 hf ht
      obtain ⟨K, L, V⟩ := c
      simp only at c1 c2 c3
      have E1 := E.out wr hS K L V
      have HS := Lib.hid hS
      have HTT := Lib.hid ht
      cases hcb : chipB n ⟨K, L, V⟩ with
      | false =>
        have HFF := Lib.hid (hf hcb)
        rw [hcb] at E1
        replace E1 := Lib.hid E1
        clear k1 k2 k3 hc hcb hf hall hS ht
        go_wp2_with (go_at_call 58; refine (E1.out).mono ?_; rintro e w1 ⟨rfl, hs1⟩; have HS1 := Lib.hid (HS.out.trans (since_mono hs1 HS.out.size)); clear hs1)
        go_ret
        exact ⟨_, rfl, by rw [HFF.out]; simp, HS1.out⟩
      | true =>
        rw [hcb] at E1
        replace E1 := Lib.hid E1
        have HTA := Lib.hid (ht hcb)
        clear k1 k2 k3 hc hcb hf hall hS ht HTT
        go_wp2_with (go_at_call 58; refine (E1.out).mono ?_; rintro e w1 ⟨rfl, hs1⟩; have HS1 := Lib.hid (HS.out.trans (since_mono hs1 HS.out.size)); clear hs1)
        go_roundg (N - (r + 1))
        case measure => omega
        case rel => exact ⟨r + 1, by omega, rfl, by go_num, HS1.out, HTA.out⟩
    · obtain rfl : r = N := by omega
      have HTA := Lib.hid (HT.out (fun i hi => hall i (by rw [HN.out] at hi; exact hi)))
      have HS := Lib.hid hS
      clear hall hS
      go_wp2_with fail
      go_ret
      exact ⟨_, rfl, by rw [HTA.out]; rfl, HS.out⟩

set_option maxHeartbeats 400000 in
theorem containsF_any (a : Option Addr) (cap N n Bn : Nat) (cs : List RC) (w : World) (hN : cs.length = N) (h10 : N ≤ 10) (hn2 : 2 ≤ n) (hn5 : n ≤ 5) (hm : ChipsR w a cs) (hb : w.cell? ⟨Bn, 0, none⟩ = some (.int .i64 n)) :
    Calls Try.prog 57 #[.slice a N cap, .func (.func 58) #[] #[.pointer (some ⟨Bn, 0, none⟩)]] w fun e w' => e = .returned (.bool (!cs.all (chipB n))) ∧ w.Since w.heap.size w' := by
  have E := Lib.hid (indexF_any a cap N n Bn cs w hN h10 hn2 hn5 hm hb)
  obtain ⟨b, hbb⟩ : ∃ b, cs.all (chipB n) = b := ⟨_, rfl⟩
  rw [hbb] at E ⊢
  clear hbb hN hm hb
  go_enter Try.func57, Try.ntmps57
  go_wp2_with (go_at_call 104; refine (E.out).mono ?_; rintro e w1 ⟨z, rfl, hz, hs1⟩; have HZ := Lib.hid hz; have HS1 := Lib.hid hs1; clear hs1 hz)
  go_ret
  exact ⟨ret_bool HZ.out, HS1.out⟩

set_option maxHeartbeats 400000 in
theorem implNetIn_any (a : Option Addr) (cap N : Nat) (n : Int) (cs : List RC) (w : World) (hN : cs.length = N) (h63 : N ≤ 9223372036854775807) (hm : ChipsR w a cs) :
    Calls Try.prog 15 #[.int .i64 n, .slice a N cap] w fun e w' => e = .returned (.bool (netB n cs)) ∧ w.Since w.heap.size w' := by
  have hv : netB n cs = (inB n 2 5 && (decide (N ≤ 10) && cs.all (chipB n))) := by unfold netB; rw [hN]
  have HS := Lib.hid ((World.Since.refl w.heap.size w).alloc (Nat.le_refl _) (.cells #[.int .i64 n] 3))
  have hbx := (cell_new_l w (.int .i64 n) 3).1
  obtain ⟨b, hbb⟩ : ∃ b, inB n 2 5 = b := ⟨_, rfl⟩
  rw [hbb] at hv
  have E := fun (W : World) => inRange_any n 2 5 W
  simp only [hbb] at E
  replace E := Lib.hid E
  cases b with
  | false =>
    rw [hv, Bool.false_and]
    clear hv hbb hN hm
    go_enter Try.func15, Try.ntmps15
    go_wp2_with (go_at_call 56; refine (E.out _).mono ?_; rintro e w' ⟨rfl, rfl⟩)
    go_ret
    exact ⟨rfl, HS.out⟩
  | true =>
    unfold inB at hbb
    have hbb := of_decide_eq_true hbb
    obtain ⟨m, rfl⟩ : ∃ m : Nat, n = m := ⟨n.toNat, by omega⟩
    rw [Bool.true_and] at hv
    by_cases h10 : N ≤ 10
    · rw [decide_eq_true h10, Bool.true_and] at hv
      have hl' : decide ((10 : Int) < (N : Int)) = false := by simp; omega
      have E2 := Lib.hid (containsF_any a cap N m w.heap.size cs (w.alloc (.cells #[.int .i64 m] 3)) hN h10 (by omega) (by omega) (hm.since ((World.Since.refl w.heap.size w).alloc (Nat.le_refl _) _)) hbx)
      obtain ⟨q, hq⟩ : ∃ q, cs.all (chipB m) = q := ⟨_, rfl⟩
      rw [hq] at hv E2
      rw [hv]
      clear hv hbb hN hm hq
      go_enter Try.func15, Try.ntmps15
      go_wp2_with (first
        | (go_at_call 56; refine (E.out _).mono ?_; rintro e w' ⟨rfl, rfl⟩)
        | (go_at_call 57; refine (E2.out).mono ?_; rintro e w1 ⟨rfl, hs1⟩; have HS1 := Lib.hid (HS.out.trans (since_mono hs1 HS.out.size)); clear hs1))
      go_ret
      exact ⟨by simp, HS1.out⟩
    · rw [decide_eq_false h10, Bool.false_and] at hv
      have hl' : decide ((10 : Int) < (N : Int)) = true := by simp; omega
      rw [hv]
      clear hv hbb hN hm
      go_enter Try.func15, Try.ntmps15
      go_wp2_with (go_at_call 56; refine (E.out _).mono ?_; rintro e w' ⟨rfl, rfl⟩)
      go_ret
      exact ⟨rfl, HS.out⟩

end Go.Proofs.Ytggmiojhglkcgaa
end

section
namespace Go.Proofs.Ytggmiojhglkcgaa
open Go.RowKit Go.Deep Go.Shelf
attribute [local go_sem] Oper.semAt_some

theorem CB.turn {w W W' : World} {v : Value} {cs : List RC} {row : Option Nat} (h : CB w W v cs) (hg : W.grownBy W' row) (hr : ∀ r, row = some r → w.heap.size ≤ r ∧ ∃ o : Obj, W.heap[r]? = some o ∧ o.isCells = false) : CB w W' v cs := by
  refine ⟨h.since.grown hg h.since.size (fun k e => (hr k e).1), h.own.kept hg ?_⟩
  rcases h.own.2 with ⟨hv, _⟩ | ⟨g, cap, cur, hv, _, hgg, _⟩
  · exact .inl (by rw [hv]; rfl)
  · refine .inr ?_
    rw [hv]
    intro e
    obtain ⟨_, o, h2, h3⟩ := hr g e.symm
    rw [hgg] at h2
    injection h2 with h2
    rw [← h2] at h3
    cases h3
theorem CB.setBelow {w W : World} {v : Value} {cs : List RC} {g : Nat} (h : CB w W v cs) (hg : g < w.heap.size) (u : Value) : CB (w.setCell ⟨g, 0, none⟩ u) (W.setCell ⟨g, 0, none⟩ u) v cs := by
  refine ⟨⟨h.since.os, h.since.tape, h.since.output, by simpa using h.since.size, fun k hk => ?_⟩, ?_⟩
  · have hk' : k < w.heap.size := by simpa using hk
    simp [World.setCell, Array.getElem?_modify, h.since.block k hk']
  · rw [World.size_setCell]
    refine h.own.kept (row := some g) ⟨rfl, rfl, rfl, by simp, fun k hk hne => Below.heap_setCell _ _ _ _ (fun e => hne (by rw [e]))⟩ ?_
    cases hv : v.ownBlock with
    | none => exact .inl rfl
    | some k => exact .inr (fun e => by injection e with e; have := (h.own.lt k hv).1; omega)

structure TndC (W0 Wb : World) (g : Nat) : Prop where
  os : Wb.os = W0.os
  tape : Wb.tape = W0.tape
  output : Wb.output = W0.output
  size : Wb.heap.size = W0.heap.size
  block : ∀ b, b < W0.heap.size → b ≠ g → Wb.heap[b]? = W0.heap[b]?
def PCh (W0 : World) (g : Nat) (L : List RC) (W : World) : Prop :=
  ∃ Wb v, TndC W0 Wb g ∧ Wb.heap[g]? = some (.cells #[v] 23 (0, 0)) ∧ CB Wb W v L
theorem PCh.kp {W0 : World} {g : Nat} {L : List RC} {W : World} (h : PCh W0 g L W) : W0.heap.size ≤ W.heap.size ∧ ∀ b, b ≠ g → b < W0.heap.size → W.heap[b]? = W0.heap[b]? := by
  obtain ⟨Wb, v, hT, _, hB⟩ := h
  have h1 := hT.size
  exact ⟨by have := hB.since.size; omega, fun b hb hlt => (hB.since.block b (by omega)).trans (hT.block b hlt hb)⟩
theorem PCh.own {W0 A B : World} {g : Nat} {L : List RC} {row : Option Nat} (h : PCh W0 g L A) (hg : A.grownBy B row) (hr : ∀ r, row = some r → W0.heap.size ≤ r ∧ ∃ o : Obj, A.heap[r]? = some o ∧ o.isCells = false) : PCh W0 g L B := by
  obtain ⟨Wb, v, hT, hb, hB⟩ := h
  exact ⟨Wb, v, hT, hb, hB.turn hg (fun r e => by rw [hT.size]; exact hr r e)⟩
theorem PCh.since {w W0 W : World} {g : Nat} {L : List RC} (h : PCh W0 g L W) (hB : w.Since w.heap.size W0) (hg : w.heap.size ≤ g) : w.Since w.heap.size W := by
  obtain ⟨Wb, v, hT, _, hBT⟩ := h
  have h1 := hT.size
  have h0 := hB.size
  exact ⟨hBT.since.os.trans (hT.os.trans hB.os), hBT.since.tape.trans (hT.tape.trans hB.tape), hBT.since.output.trans (hT.output.trans hB.output), by have := hBT.since.size; omega,
    fun k hk => ((hBT.since.block k (by omega)).trans (hT.block k (by omega) (by omega))).trans (hB.block k hk)⟩

theorem turn_end {W0 Wb W w1 w2 : World} {v v' : Value} {xs : List RC} {c : RC} {g B b : Nat} {n : Nat} (hT : TndC W0 Wb g) (hb : Wb.heap[g]? = some (.cells #[v] 23 (0, 0))) (h : CB Wb W v xs) (hs : W.Since W.heap.size w1) (hn : n = xs.length + 1)
    (hg : g < W0.heap.size) (hB : B < W0.heap.size) (hbb : b < W0.heap.size) (hB2 : B ≠ g) (hb2 : b ≠ g)
    (hown : w2.ownsRow Wb.heap.size 35 3 v' n (ch3 xs ++ ch3 [c])) (hgr : (w1.alloc (.cells #[.string c.k, .int .i64 c.l, .int .i64 c.w] 35)).grownBy w2 v.ownBlock) :
    (∃ va vcap, v' = .slice va n vcap) ∧ (w2.cell? ⟨g, 0, none⟩ = some v ∧ w2.frozen? ⟨g, 0, none⟩ = false) ∧ ∀ u, u = v' → (KeepsFrom W0.heap.size W (w2.setCell ⟨g, 0, none⟩ u) ∧ KpC B b W (w2.setCell ⟨g, 0, none⟩ u) ∧ PCh W0 g (xs ++ [c]) (w2.setCell ⟨g, 0, none⟩ u)) := by
  have h0 := h.since.size
  have h1 := hs.size
  have hz := hT.size
  have hkeep : ∀ q, q < W.heap.size → some q ≠ v.ownBlock → w2.heap[q]? = W.heap[q]? := fun q hq hne => by
    rw [hgr.block q (by simp; omega) hne, Below.heap_alloc _ _ _ (by omega), hs.block q hq]
  have hown0 : ∀ q, q < W0.heap.size → some q ≠ v.ownBlock := fun q hq e => by have := (h.own.lt q e.symm).1; omega
  have hbw : W.heap[g]? = some (.cells #[v] 23 (0, 0)) := (h.since.block g (by omega)).trans hb
  have hg2 : w2.heap[g]? = some (.cells #[v] 23 (0, 0)) := (hkeep g (by omega) (hown0 g hg)).trans hbw
  have hz2 := hgr.size
  simp only [World.size_alloc] at hz2
  refine ⟨?_, ⟨by simp [World.cell?, hg2], by simp [World.frozen?, hg2]⟩, ?_⟩
  · rcases hown.2 with ⟨hv, h0⟩ | ⟨g, cap, cur, rfl, _⟩
    · exact ⟨none, 0, by rw [hv, h0]⟩
    · exact ⟨_, _, rfl⟩
  rintro u rfl
  have hP : CB Wb w2 u (xs ++ [c]) := h.push (ds := [c]) hn (hs.alloc (by omega) _) hown hgr
  have hk2 : KeepsOthers W w2 := ⟨by omega, fun k o hk ho => by
    have hlt := (Array.getElem?_eq_some_iff.1 hk).1
    rw [hkeep k hlt (fun e => ?_)]
    · exact hk
    · rcases h.own.2 with ⟨hv, _⟩ | ⟨g', cap, cur, hv, _, hgg, _⟩
      · rw [hv] at e; cases e
      · rw [hv] at e
        injection e with e
        rw [e, hgg] at hk
        injection hk with hk
        rw [← hk] at ho
        cases ho⟩
  refine ⟨(hk2.trans (KeepsOthers.setCell _ _ _)).from _, ⟨?_, ?_⟩, ⟨Wb.setCell ⟨g, 0, none⟩ u, u, ⟨hT.os, hT.tape, hT.output, (World.size_setCell Wb ⟨g, 0, none⟩ u).trans hT.size, fun q hq hn => (Below.heap_setCell _ _ _ _ hn).trans (hT.block q hq hn)⟩, by simp [World.setCell, Array.getElem?_modify, hb], hP.setBelow (by omega) u⟩⟩
  · rw [Below.heap_setCell _ _ _ _ hB2]; exact hkeep B (by omega) (hown0 B hB)
  · rw [Below.heap_setCell _ _ _ _ hb2]; exact hkeep b (by omega) (hown0 b hbb)

set_option maxRecDepth 100000 in
set_option maxHeartbeats 1000000 in
theorem implNetTurn_any (a : Option Addr) (cap N : Nat) (n : Int) (cs : List RC) (w : World) (hN : cs.length = N) (h63 : N ≤ 9223372036854775807) (hm : ChipsR w a cs) :
    Calls Try.prog 26 #[.int .i64 n, .slice a N cap] w fun e w' => ∃ a' cap', e = .returned (.tuple #[.slice a' (resC (netB n cs) (turnC cs)).length cap', .bool (netB n cs)]) ∧ w.Since w.heap.size w' ∧ OwnC w.heap.size w'.heap.size w' a' (resC (netB n cs) (turnC cs)) := by
  have E := implNetIn_any a cap N n cs w hN h63 hm
  cases hb : netB n cs with
  | false =>
    rw [hb] at E
    replace E := Lib.hid E
    clear hb hm hN
    go_enter Try.func26, Try.ntmps26
    go_wp2_with (go_at_call 15; refine (E.out).mono ?_; rintro e w1 ⟨rfl, hs1⟩; have HS1 := Lib.hid hs1; clear hs1)
    go_ret2
    exact ⟨_, _, rfl, HS1.out, OwnC.nil _ _ _ _⟩
  | true =>
    have hl : (resC true (turnC cs)).length = N := by unfold resC turnC; rw [if_pos rfl, List.length_map, List.length_reverse, hN]
    rw [hl]
    have hres : resC true (turnC cs) = turnC cs := rfl
    rw [hres]
    obtain ⟨m, rfl, ho⟩ := netB_ok hb
    have h10 := ho.len
    rw [hN] at h10
    rw [hb] at E
    replace E := Lib.hid E
    obtain ⟨iC, hiC⟩ := infoChip_parts
    have HI := Lib.hid hiC
    have HN := Lib.hid hN
    have HM := Lib.hid hm
    have hmix : Try.prog.follows .mixedOrders = true := by kernel_rfl
    clear hb hm hN hl hres hiC ho
    refine (callsIn_wide (n := 9)).1 ?_
    refine callsIn_of_wp_marks Try.func26 rfl trivial ?_ rfl
    simp only [Try.ntmps26, List.size_toArray, List.length_cons, List.length_nil, Nat.reduceAdd, Nat.reduceSub, Array.replicate_succ, Array.replicate_zero, List.push_toArray, List.append_toArray, List.nil_append, List.cons_append]
    gi_wp2_with (first
      | (refine ⟨trivial, ?_⟩; gi_at_call 15; refine (callsIn_wide.2 (E.out)).mono ?_; rintro e w1 ⟨rfl, hs1⟩; have HS1 := Lib.hid hs1; clear hs1)
      | (refine ⟨trivial, ?_⟩; gi_at_call 80; refine (callsIn_wide.2 (backward_any _ _ _ _)).mono ?_; rintro e w3 ⟨rfl, rfl⟩))
    obtain ⟨W0, hW0⟩ : ∃ W0, W0 = (w1.alloc (.cells #[.slice none 0 0] 23)).alloc (.cells #[.slice a N cap] 23) := ⟨_, rfl⟩
    obtain ⟨g, hg⟩ : ∃ g, w1.heap.size = g := ⟨_, rfl⟩
    rw [← hW0, hg]
    have hz1 := HS1.out.size
    have hsz0 : W0.heap.size = g + 1 + 1 := by rw [hW0, ← hg]; simp
    have hS0 : w.Since w.heap.size W0 := by rw [hW0]; exact ((HS1.out.alloc (by omega) _).alloc (by simp; omega) _)
    have hbx0 : W0.heap[g]? = some (.cells #[.slice none 0 0] 23 (0, 0)) := by rw [hW0, ← hg]; exact (Below.heap_alloc _ _ _ (by simp)).trans (World.alloc_heap_new w1 _)
    have hBc : W0.cell? ⟨g + 1, 0, none⟩ = some (.slice a N cap) := by
      have h := cell_new_l (w1.alloc (.cells #[.slice none 0 0] 23)) (.slice a N cap) 23
      rw [← hW0] at h
      have h' := h.1
      simpa [hg] using h'
    obtain ⟨b, o, ha, hb, hc⟩ : ∃ b o, (0 < N → a = some ⟨b, o, none⟩) ∧ (b < w.heap.size ∨ b = g + 1) ∧ ∀ q, q < N → W0.cell? ⟨b, o + q * 3, none⟩ = some (.string (cs.getD q rc0).k) ∧ W0.cell? ⟨b, o + q * 3 + 1, none⟩ = some (.int .i64 (cs.getD q rc0).l) ∧ W0.cell? ⟨b, o + q * 3 + 2, none⟩ = some (.int .i64 (cs.getD q rc0).w) := by
      by_cases h0 : 0 < N
      · obtain ⟨b, o, e, hc⟩ := HM.out (by rw [HN.out]; exact h0)
        have hl := World.block_lt_of_cell? _ _ (hc 0 (by rw [HN.out]; exact h0)).1
        exact ⟨b, o, fun _ => e, .inl hl, fun q hq => ⟨(hS0.cell (by exact hl)).trans (hc q (by rw [HN.out]; exact hq)).1, (hS0.cell (by exact hl)).trans (hc q (by rw [HN.out]; exact hq)).2.1, (hS0.cell (by exact hl)).trans (hc q (by rw [HN.out]; exact hq)).2.2⟩⟩
      · exact ⟨g + 1, 0, fun h => absurd h h0, .inr rfl, fun q hq => by omega⟩
    have hbB : b < W0.heap.size := by omega
    have hne1 : b ≠ g := by omega
    have hP0 : PCh W0 g [] W0 := ⟨W0, _, ⟨rfl, rfl, rfl, rfl, fun _ _ _ => rfl⟩, hbx0, cb_none _⟩
    have hwg : w.heap.size ≤ g := by omega
    clear hW0 hg hbx0
    refine wpIn_rangeFunc_ownH (F := Fence.wide) (n := 9) rfl (by omega) (gf := 121) (lb := #[.pointer (some ⟨g + 1, 0, none⟩)]) rfl trivial (enters_of Try.func121 (by kernel_rfl) rfl)
      (back_stops 8 (by omega) (g + 1) b o N cap a cs h10 ha W0 (by omega) hbB hBc hc)
      (fun h k => h.trans k) (kpC_b (by omega) hbB) (Below.refl _ _) (fun _ => rfl)
      (fun pre W => PCh W0 g ((cameL cs pre).map trC) W)
      (fun _ _ _ => False)
      (fun s X Y row hs hg hr => hs.own hg hr)
      (fun c s X Y row hs hg hr => hs)
      hP0
      (fun x a' W => ∃ Bx, W0.heap.size ≤ Bx ∧ Box3 W Bx (cs.getD x.1 rc0).k (cs.getD x.1 rc0).l (cs.getD x.1 rc0).w ∧ a' = { tmps := #[.int .i64 m, .slice a N cap, undef, undef, .slice none 0 0, .bool false, .pointer (some ⟨g, 0, none⟩), undef, .pointer (some ⟨Bx, 0, none⟩), .int .i64 m, .slice a N cap, .bool true, .bool false, .slice a N cap, .func (.func 121) #[] #[.pointer (some ⟨g + 1, 0, none⟩)], .int .i64 (x.1 : Int), .agg #[.string (cs.getD x.1 rc0).k, .int .i64 (cs.getD x.1 rc0).l, .int .i64 (cs.getD x.1 rc0).w], undef, undef, undef, undef, undef, undef], defers := [] })
      (fun x a' _ X Y row hs hg hr => by obtain ⟨Bx, h1, h2, h3⟩ := hs; exact ⟨Bx, h1, h2.own hg (fun r e => (hr r e).2), h3⟩)
      ?assign ?body ?done ?stop
    case assign =>
      rintro l2 pre x W Kq hI hK
      have hkp := hI.kp
      simp only [encB]
      gi_wp2
      exact hK _ _ ((KeepsOthers.alloc _ _).from _) (KpC.grown (World.grownBy_alloc _ _ none) (by omega) (by omega) (by simp) (by simp)) (hI.own (World.grownBy_alloc _ _ none) (fun r e => by cases e)) ⟨W.heap.size, hkp.1, Box3.new W _ _ _, rfl⟩
    case body =>
      rintro l2 pre x a' W hl ⟨r, hr⟩ hI ⟨Bx, hBx, bX, rfl⟩ hlt
      have hcam : (cameL cs (pre ++ [x])).map trC = (cameL cs pre).map trC ++ [trC (cs.getD x.1 rc0)] := by
        unfold cameL
        rw [List.map_append, List.map_append]
        rfl
      have hlen : ((cameL cs pre).map trC).length ≤ 11 := by unfold cameL; rw [List.length_map, List.length_map]; omega
      obtain ⟨c, hcc⟩ : ∃ c, cs.getD x.1 rc0 = c := ⟨_, rfl⟩
      obtain ⟨xs, hxs⟩ : ∃ xs, (cameL cs pre).map trC = xs := ⟨_, rfl⟩
      rw [hcc] at bX hcam ⊢
      rw [hxs] at hcam hI hlen
      have EE := fun (V : World) => chipTurned_any c V
      obtain ⟨c', hc'⟩ : ∃ c', trC c = c' := ⟨_, rfl⟩
      rw [hc'] at hcam
      simp only [hc'] at EE
      obtain ⟨K, L, V⟩ := c
      obtain ⟨K', L', V'⟩ := c'
      simp only at EE bX ⊢
      have HSN := Lib.hid hcam
      obtain ⟨c1, c2, c3⟩ := bX.cells
      have hkp := hI.kp
      obtain ⟨Wb, v, hTd, hbx, hCB⟩ := hI
      have hWb : Wb.heap.size ≤ W.heap.size := hCB.since.size
      have hzb := hTd.size
      have hbW : W.heap[g]? = some (.cells #[v] 23 (0, 0)) := (hCB.since.block g (by omega)).trans hbx
      have hpc : W.cell? ⟨g, 0, none⟩ = some v := by simp [World.cell?, hbW]
      have hgW : g < W.heap.size := by omega
      have hg0 : g < W0.heap.size := by omega
      have hB0 : g + 1 < W0.heap.size := by omega
      have hbb := hbB
      have hB2 : g + 1 ≠ g := by omega
      have hb2 := hne1
      have HTD := Lib.hid hTd
      have HBX := Lib.hid hbx
      have HCB := Lib.hid hCB
      replace EE := Lib.hid EE
      clear hTd hbx hCB hbW hcam hc' hcc hxs bX hr hkp hP0
      gi_wp2
      refine wpIn_region_any hmix (wpAnyIn_of_wpAny ?hno (noDefer_of (by kernel_rfl)) _ _ _ _ ?_)
      case hno =>
        rintro ⟨a, w, h⟩
        exact h
      change wpAny _ _ _ _ _ _ _ (World.drew _)
      refine wpAny_ready (rs := [0, 1]) (by kernel_rfl) (by simp) (AllReady.cons rfl (fun K hK => ?p0) (AllReady.cons rfl (fun K hK => ?p1) AllReady.nil))
      case p0 =>
        go_simp
        refine hK _ _ ?_
        clear hK K
        refine wpAny_ready (rs := [1]) (by kernel_rfl) (by simp) (AllReady.cons rfl (fun K hK => ?_) AllReady.nil)
        go_simp
        refine hK _ _ ?_
        clear hK K
        refine wpAny_ready (rs := [2]) (by kernel_rfl) (by simp) (AllReady.cons rfl (fun K hK => ?_) AllReady.nil)
        go_simp
        go_at_call 81
        refine (EE.out _).mono ?_
        rintro e w4 ⟨rfl, hs4⟩
        go_wp2_with fail
        replace hs4 := since_of_drew hs4
        have hp1 := (hs4.cell (a := ⟨g, 0, none⟩) hgW).trans hpc
        have hp2 := fun ob => cell_alloc_l ob hp1
        have hz4 := hs4.size
        have HS4 := Lib.hid hs4
        have HBL := Lib.hid (HCB.out.later hs4)
        clear hs4
        refine wpAny_ready (rs := [3]) (by kernel_rfl) (by simp) (AllReady.cons rfl (fun K hK => ?_) AllReady.nil)
        go_simp
        refine hK _ _ ?_
        clear hK K
        refine wpAny_ready (rs := [4]) (by kernel_rfl) (by simp) (AllReady.cons rfl (fun K hK => ?_) AllReady.nil)
        rw [if_pos (by rfl)]
        refine wp_append_own _ (.tmp 17) (.tmp 20) 23 rfl Wb.heap.size 35 iC (.agg #[.string ⟨#[]⟩, .int .i64 0, .int .i64 0]) 3 32 Try.underlying23 HI.out.1 HI.out.2.1 HI.out.2.2.1 HI.out.2.2.2 rfl (by decide) _ _ _ rfl (HBL.out.own.alloc _) ⟨w4.heap.size, 0, none⟩ 1 1 (ch3 [⟨K', L', V'⟩]) rfl rfl (by have := news3 w4 ⟨K', L', V'⟩ 35; simpa using this) (ch3_one _) (by unfold maxLen; omega) (by omega) (by simp; omega) ?_
        intro v' w5 hown' hgrow _
        refine hK _ _ ?_
        clear hK K
        obtain ⟨⟨va, vcap, rfl⟩, ⟨hp3, hf3⟩, hfin⟩ := turn_end (c := ⟨K', L', V'⟩) HTD.out HBX.out HCB.out HS4.out rfl hg0 hB0 hbb hB2 hb2 hown' hgrow
        have HFIN := Lib.hid (hfin _ rfl)
        clear hfin hown' hgrow
        simp only [Act.put, List.setIfInBounds_toArray]
        refine wpAny_ready (rs := [5]) (by kernel_rfl) (by simp) (AllReady.cons rfl (fun K hK => ?_) AllReady.nil)
        go_simp
        refine hK _ _ ?_
        clear hK K
        refine wpAny_done (by kernel_rfl) ?_ _
        have hfin := HFIN.out
        rw [← HSN.out] at hfin
        exact hfin
      case p1 =>
        go_simp
        refine hK _ _ ?_
        clear hK K
        refine wpAny_ready (rs := [0, 2]) (by kernel_rfl) (by simp) (AllReady.cons rfl (fun K hK => ?p10) (AllReady.cons rfl (fun K hK => ?p12) AllReady.nil))
        case p10 =>
          go_simp
          refine hK _ _ ?_
          clear hK K
          refine wpAny_ready (rs := [2]) (by kernel_rfl) (by simp) (AllReady.cons rfl (fun K hK => ?_) AllReady.nil)
          go_simp
          go_at_call 81
          refine (EE.out _).mono ?_
          rintro e w4 ⟨rfl, hs4⟩
          go_wp2_with fail
          replace hs4 := since_of_drew hs4
          have hp1 := (hs4.cell (a := ⟨g, 0, none⟩) hgW).trans hpc
          have hp2 := fun ob => cell_alloc_l ob hp1
          have hz4 := hs4.size
          have HS4 := Lib.hid hs4
          have HBL := Lib.hid (HCB.out.later hs4)
          clear hs4
          refine wpAny_ready (rs := [3]) (by kernel_rfl) (by simp) (AllReady.cons rfl (fun K hK => ?_) AllReady.nil)
          go_simp
          refine hK _ _ ?_
          clear hK K
          refine wpAny_ready (rs := [4]) (by kernel_rfl) (by simp) (AllReady.cons rfl (fun K hK => ?_) AllReady.nil)
          rw [if_pos (by rfl)]
          refine wp_append_own _ (.tmp 17) (.tmp 20) 23 rfl Wb.heap.size 35 iC (.agg #[.string ⟨#[]⟩, .int .i64 0, .int .i64 0]) 3 32 Try.underlying23 HI.out.1 HI.out.2.1 HI.out.2.2.1 HI.out.2.2.2 rfl (by decide) _ _ _ rfl (HBL.out.own.alloc _) ⟨w4.heap.size, 0, none⟩ 1 1 (ch3 [⟨K', L', V'⟩]) rfl rfl (by have := news3 w4 ⟨K', L', V'⟩ 35; simpa using this) (ch3_one _) (by unfold maxLen; omega) (by omega) (by simp; omega) ?_
          intro v' w5 hown' hgrow _
          refine hK _ _ ?_
          clear hK K
          obtain ⟨⟨va, vcap, rfl⟩, ⟨hp3, hf3⟩, hfin⟩ := turn_end (c := ⟨K', L', V'⟩) HTD.out HBX.out HCB.out HS4.out rfl hg0 hB0 hbb hB2 hb2 hown' hgrow
          have HFIN := Lib.hid (hfin _ rfl)
          clear hfin hown' hgrow
          simp only [Act.put, List.setIfInBounds_toArray]
          refine wpAny_ready (rs := [5]) (by kernel_rfl) (by simp) (AllReady.cons rfl (fun K hK => ?_) AllReady.nil)
          go_simp
          refine hK _ _ ?_
          clear hK K
          refine wpAny_done (by kernel_rfl) ?_ _
          have hfin := HFIN.out
          rw [← HSN.out] at hfin
          exact hfin
        case p12 =>
          go_simp
          go_at_call 81
          refine (EE.out _).mono ?_
          rintro e w4 ⟨rfl, hs4⟩
          go_wp2_with fail
          replace hs4 := since_of_drew hs4
          have hp1 := (hs4.cell (a := ⟨g, 0, none⟩) hgW).trans hpc
          have hp2 := fun ob => cell_alloc_l ob hp1
          have hz4 := hs4.size
          have HS4 := Lib.hid hs4
          have HBL := Lib.hid (HCB.out.later hs4)
          clear hs4
          refine wpAny_ready (rs := [0, 3]) (by kernel_rfl) (by simp) (AllReady.cons rfl (fun K hK => ?p120) (AllReady.cons rfl (fun K hK => ?p123) AllReady.nil))
          case p120 =>
            go_simp
            refine hK _ _ ?_
            clear hK K
            refine wpAny_ready (rs := [3]) (by kernel_rfl) (by simp) (AllReady.cons rfl (fun K hK => ?_) AllReady.nil)
            go_simp
            refine hK _ _ ?_
            clear hK K
            refine wpAny_ready (rs := [4]) (by kernel_rfl) (by simp) (AllReady.cons rfl (fun K hK => ?_) AllReady.nil)
            rw [if_pos (by rfl)]
            refine wp_append_own _ (.tmp 17) (.tmp 20) 23 rfl Wb.heap.size 35 iC (.agg #[.string ⟨#[]⟩, .int .i64 0, .int .i64 0]) 3 32 Try.underlying23 HI.out.1 HI.out.2.1 HI.out.2.2.1 HI.out.2.2.2 rfl (by decide) _ _ _ rfl (HBL.out.own.alloc _) ⟨w4.heap.size, 0, none⟩ 1 1 (ch3 [⟨K', L', V'⟩]) rfl rfl (by have := news3 w4 ⟨K', L', V'⟩ 35; simpa using this) (ch3_one _) (by unfold maxLen; omega) (by omega) (by simp; omega) ?_
            intro v' w5 hown' hgrow _
            refine hK _ _ ?_
            clear hK K
            obtain ⟨⟨va, vcap, rfl⟩, ⟨hp3, hf3⟩, hfin⟩ := turn_end (c := ⟨K', L', V'⟩) HTD.out HBX.out HCB.out HS4.out rfl hg0 hB0 hbb hB2 hb2 hown' hgrow
            have HFIN := Lib.hid (hfin _ rfl)
            clear hfin hown' hgrow
            simp only [Act.put, List.setIfInBounds_toArray]
            refine wpAny_ready (rs := [5]) (by kernel_rfl) (by simp) (AllReady.cons rfl (fun K hK => ?_) AllReady.nil)
            go_simp
            refine hK _ _ ?_
            clear hK K
            refine wpAny_done (by kernel_rfl) ?_ _
            have hfin := HFIN.out
            rw [← HSN.out] at hfin
            exact hfin
          case p123 =>
            go_simp
            refine hK _ _ ?_
            clear hK K
            refine wpAny_ready (rs := [0]) (by kernel_rfl) (by simp) (AllReady.cons rfl (fun K hK => ?_) AllReady.nil)
            go_simp
            refine hK _ _ ?_
            clear hK K
            refine wpAny_ready (rs := [4]) (by kernel_rfl) (by simp) (AllReady.cons rfl (fun K hK => ?_) AllReady.nil)
            rw [if_pos (by rfl)]
            refine wp_append_own _ (.tmp 17) (.tmp 20) 23 rfl Wb.heap.size 35 iC (.agg #[.string ⟨#[]⟩, .int .i64 0, .int .i64 0]) 3 32 Try.underlying23 HI.out.1 HI.out.2.1 HI.out.2.2.1 HI.out.2.2.2 rfl (by decide) _ _ _ rfl (HBL.out.own.alloc _) ⟨w4.heap.size, 0, none⟩ 1 1 (ch3 [⟨K', L', V'⟩]) rfl rfl (by have := news3 w4 ⟨K', L', V'⟩ 35; simpa using this) (ch3_one _) (by unfold maxLen; omega) (by omega) (by simp; omega) ?_
            intro v' w5 hown' hgrow _
            refine hK _ _ ?_
            clear hK K
            obtain ⟨⟨va, vcap, rfl⟩, ⟨hp3, hf3⟩, hfin⟩ := turn_end (c := ⟨K', L', V'⟩) HTD.out HBX.out HCB.out HS4.out rfl hg0 hB0 hbb hB2 hb2 hown' hgrow
            have HFIN := Lib.hid (hfin _ rfl)
            clear hfin hown' hgrow
            simp only [Act.put, List.setIfInBounds_toArray]
            refine wpAny_ready (rs := [5]) (by kernel_rfl) (by simp) (AllReady.cons rfl (fun K hK => ?_) AllReady.nil)
            go_simp
            refine hK _ _ ?_
            clear hK K
            refine wpAny_done (by kernel_rfl) ?_ _
            have hfin := HFIN.out
            rw [← HSN.out] at hfin
            exact hfin
    case done =>
      rintro D ys W hD rfl hI hK
      rw [came_whole HN.out] at hI
      have hsn := hI.since hS0 hwg
      have hkp := hI.kp
      obtain ⟨Wb, v, hTd, hbx, hCB⟩ := hI
      have hzb := hTd.size
      have hWb : Wb.heap.size ≤ W.heap.size := hCB.since.size
      have hbW : W.heap[g]? = some (.cells #[v] 23 (0, 0)) := (hCB.since.block g (by omega)).trans hbx
      obtain ⟨va, vc, rfl, hO, _, _⟩ := hCB.ownC
      have hpc : W.cell? ⟨g, 0, none⟩ = some (.slice va (cs.reverse.map trC).length vc) := by simp [World.cell?, hbW]
      have hlN : (cs.reverse.map trC).length = N := by rw [List.length_map, List.length_reverse, HN.out]
      rw [hlN] at hpc
      have HCB := Lib.hid hCB
      have HSN := Lib.hid hsn
      clear hTd hbx hCB hbW hc hP0 hBc hO hsn
      gi_wp2
      refine ⟨by simp, .inl ⟨_, _, rfl, run_takeDeferred hK, ?_⟩⟩
      have hg := grownBy_putObj' W D (.deferred none)
      have hr : ∀ r, some D = some r → ∃ o : Obj, W.heap[r]? = some o ∧ o.isCells = false := fun r e => by cases e; exact ⟨_, hK, rfl⟩
      obtain ⟨va', vc', e, hO, _, _⟩ := (HCB.out.turn hg (fun r e => ⟨by cases e; omega, hr r e⟩)).ownC
      injection e with e1 e2 e3
      subst e1
      refine ⟨.tuple #[.slice va N vc, .bool true], ?_, va, vc, rfl, since_rowL HSN.out (Nat.le_refl _) hg (fun r e => by cases e; omega), hO.mono (by omega) (Nat.le_refl _)⟩
      simp [results, Try.f26, go_sem]
    case stop =>
      rintro D c pre W hD hpre hF hK
      exact hF.elim

end Go.Proofs.Ytggmiojhglkcgaa
end

section
namespace Go.Proofs.Ytggmiojhglkcgaa
open Go.RowKit Go.Deep Go.Shelf
attribute [local go_sem] Oper.semAt_some

theorem lsum_bdR {n : Nat} (f : Nat → Int) (hf : ∀ j, j < n → -1000000000000 ≤ f j ∧ f j ≤ 1000000000000) (pre : List {i : Nat // i < n}) : -(1000000000000 * (pre.length : Int)) ≤ lsum f pre ∧ lsum f pre ≤ 1000000000000 * (pre.length : Int) := by
  have H : ∀ (pre : List {i : Nat // i < n}) (s : Int), s - 1000000000000 * (pre.length : Int) ≤ pre.foldl (fun s x => s + f x.1) s ∧ pre.foldl (fun s x => s + f x.1) s ≤ s + 1000000000000 * (pre.length : Int) := by
    intro pre
    induction pre with
    | nil => intro s; simp
    | cons x xs ih =>
      intro s
      have h1 := ih (s + f x.1)
      have h2 := hf x.1 x.2
      simp only [List.foldl_cons, List.length_cons]
      omega
  have := H pre 0
  unfold lsum
  omega

set_option maxRecDepth 100000 in
set_option maxHeartbeats 2000000 in
theorem prodEntryR_any (pu pt i k n n2 m m2 cap cap2 : Nat) (a a2 : Option Addr) (l u : List (List Int)) (w : World) (hn : l.length = n) (hu : u.length = n2) (hT : Rec l) (hTu : Rec u) (hmm : (l.getD 0 []).length = m) (hmm2 : (u.getD 0 []).length = m2) (hmn : m = n2)
    (hbu : w.cell? ⟨pu, 0, none⟩ = some (.slice a2 n2 cap2)) (hbt : w.cell? ⟨pt, 0, none⟩ = some (.slice a n cap)) (hm : MatR w a l) (hmu : MatR w a2 u) (hi : i < n) (hk : k < m2) (hB : ∀ j, j < n2 → -1000000000000 ≤ dotF l u i k j ∧ dotF l u i k j ≤ 1000000000000) :
    Calls Try.prog 108 #[.int .i64 i, .int .i64 k, .pointer (some ⟨pu, 0, none⟩), .pointer (some ⟨pt, 0, none⟩)] w fun e w' => e = .returned (.int .i64 (sumN (dotF l u i k) n2)) ∧ w.Since w.heap.size w' := by
  subst hmn
  have h6 := hT.high
  have g6 := hTu.high
  have h1 := hT.low
  have g1 := hTu.low
  have hw := hT.width
  have gw := hTu.width
  rw [hn] at h6 h1
  rw [hu] at g6 g1
  rw [hmm] at hw
  rw [hmm2] at gw
  obtain ⟨bt, ot, At, Ct, rfl, hlen, hcell⟩ := hm.gridR hn hT hmm
  obtain ⟨bu, ou, Au, Cu, rfl, hlenu, hcellu⟩ := hmu.gridR hu hTu hmm2
  have hpu : pu < w.heap.size := World.block_lt_of_cell? _ _ hbu
  have hpt : pt < w.heap.size := World.block_lt_of_cell? _ _ hbt
  have hbul : bu < w.heap.size := World.block_lt_of_cell? _ _ (hlenu 0 (by omega))
  have hbtl : bt < w.heap.size := World.block_lt_of_cell? _ _ (hlen 0 (by omega))
  have hpow : 2 ^ m - 1 ≤ 63 := by have : 2 ^ m ≤ 2 ^ 6 := Nat.pow_le_pow_right (by omega) g6; omega
  have HC := Lib.hid hcell
  have HCU := Lib.hid hcellu
  have HLU := Lib.hid hlenu
  obtain ⟨f, hf⟩ : ∃ f, f = dotF l u i k := ⟨_, rfl⟩
  rw [← hf]
  have HBF := Lib.hid (show ∀ j, j < m → -1000000000000 ≤ f j ∧ f j ≤ 1000000000000 by rw [hf]; exact hB)
  have HF := Lib.hid hf
  have hmix : Try.prog.follows .mixedOrders = true := by kernel_rfl
  clear hm hmu hT hTu hn hu hmm hmm2 hlen hcell hlenu hcellu hf hB
  refine (callsIn_wide (n := 9)).1 ?_
  refine callsIn_of_wp_marks Try.func108 rfl trivial ?_ rfl
  simp only [Try.ntmps108, List.size_toArray, List.length_cons, List.length_nil, Nat.reduceAdd, Nat.reduceSub, Array.replicate_succ, Array.replicate_zero, List.push_toArray, List.append_toArray, List.nil_append, List.cons_append]
  have hbuA := fun (o1 o2 o3 : Obj) => cell_alloc_l o3 (cell_alloc_l o2 (cell_alloc_l o1 hbu))
  gi_wp2
  gi_region_with_o (first
    | (refine ⟨trivial, ?_⟩; gi_at_call 110; refine (callsIn_wide.2 (allRows_any _ _ _ _ g6)).mono ?_; rintro e w' ⟨rfl, rfl⟩)
    | (refine ⟨trivial, ?_⟩; gi_at_call 109; refine (callsIn_wide.2 (rows_any _ _ _ _ _)).mono ?_; rintro e w' ⟨rfl, rfl⟩))
  all_goals
    gi_wp2
    obtain ⟨W0, hW0⟩ : ∃ W0, W0 = (((((w.alloc (.cells #[.int .i64 i] 3)).alloc (.cells #[.int .i64 k] 3)).alloc (.cells #[.int .i64 0] 3)).alloc (.cells #[.slice (some ⟨bu, ou, none⟩) m cap2] 59)).alloc (.cells #[.int .i64 (2 ^ m - 1 : Nat)] 3)).drew := ⟨_, rfl⟩
    rw [← hW0]
    obtain ⟨hsz0, hB0, d0, d1, d2, d2f, d3, d4⟩ := prod_world w (.int .i64 i) (.int .i64 k) (.int .i64 0) (.slice (some ⟨bu, ou, none⟩) m cap2) (.int .i64 (2 ^ m - 1 : Nat)) 59 W0 hW0
    have hc0' : ∀ j, j < m → W0.cell? ⟨bu, ou + j, none⟩ = some (.slice (Au j) m2 (Cu j)) := fun j hj => (hB0.cell (p := ⟨bu, ou + j, none⟩) hbul).trans (HLU.out j hj)
    have hstops := rows_stopsB 8 (by omega) (w.heap.size + 1 + 1) W0.heap.size (w.heap.size + 1 + 1 + 1) (w.heap.size + 1 + 1 + 1 + 1) bu ou m cap2 (2 ^ m - 1) (by omega) hpow Au (fun _ => m2) Cu W0 (Nat.le_refl _) (by omega) (by omega) (by omega) (by omega) (by omega) d3 d4 hc0'
    clear hc0' d3 d4 hbuA
    refine wpIn_rangeFunc_ownF (F := Fence.wide) (n := 9) rfl (by omega) (gf := 129) (lb := #[.pointer (some ⟨w.heap.size + 1 + 1 + 1, 0, none⟩), .pointer (some ⟨w.heap.size + 1 + 1 + 1 + 1, 0, none⟩)]) rfl trivial (enters_of Try.func129 (by kernel_rfl) rfl)
      hstops kpB_t (kpB_b (Nat.le_refl _)) (Below.refl _ _) (fun _ => rfl)
      (fun pre W => (W.cell? ⟨w.heap.size, 0, none⟩ = some (.int .i64 i) ∧ W.cell? ⟨w.heap.size + 1, 0, none⟩ = some (.int .i64 k) ∧ W.cell? ⟨w.heap.size + 1 + 1, 0, none⟩ = some (.int .i64 (lsum f pre)) ∧ W.frozen? ⟨w.heap.size + 1 + 1, 0, none⟩ = false) ∧ Below w.heap.size w W)
      (fun _ _ _ => False)
      (OwnFrom.and (Own.from (fun s A B row hs hg hr => ⟨cell_kept hs.1 hg hr, cell_kept hs.2.1 hg hr, cell_kept hs.2.2.1 hg hr, (frozen_kept hs.2.2.1 hg hr).trans hs.2.2.2⟩) _) (ownFrom_below (Nat.le_refl _) (by omega)))
      (fun c => fun s A B row hs hg hr => hs)
      ⟨⟨d0, d1, d2, d2f⟩, hB0⟩
      (fun x => { tmps := #[.int .i64 i, .int .i64 k, .pointer (some ⟨pu, 0, none⟩), .pointer (some ⟨pt, 0, none⟩), .pointer (some ⟨w.heap.size, 0, none⟩), .pointer (some ⟨w.heap.size + 1, 0, none⟩), .int .i64 0,
          .pointer (some ⟨w.heap.size + 1 + 1, 0, none⟩), .int .i64 x.1, .slice (Au x.1) m2 (Cu x.1), .slice (some ⟨bu, ou, none⟩) m cap2, .slice (some ⟨bu, ou, none⟩) m cap2, .int .i64 (2 ^ m - 1 : Nat),
          .func (.func 129) #[] #[.pointer (some ⟨w.heap.size + 1 + 1 + 1, 0, none⟩), .pointer (some ⟨w.heap.size + 1 + 1 + 1 + 1, 0, none⟩)],
          .int .i64 x.1, .slice (Au x.1) m2 (Cu x.1), undef, undef, undef, undef, undef, undef, undef, undef, undef, undef, undef, undef, undef, undef, undef], defers := [] }) ?assign ?body ?done ?stop
    case assign =>
      intro lp x W K hK
      gi_wp2
      exact hK
    case body =>
      rintro lp pre x W ⟨⟨g0, g1, g2, g2f⟩, gB⟩ hlen
      have hx2 := x.2
      obtain ⟨j, hj⟩ : ∃ j, x.1 = j := ⟨_, rfl⟩
      rw [hj] at hx2 ⊢
      obtain ⟨bi, oi, e1, e2⟩ := HC.out i j hi hx2
      obtain ⟨bj, oj, f1, f2⟩ := HCU.out j k hx2 hk
      have hAu : Au j = some ⟨bj, oj, none⟩ := by
        have := (HLU.out j hx2).symm.trans f1
        simp at this
        exact this
      rw [hAu]
      have hsn := lsum_snoc f pre x
      rw [hj] at hsn
      have hfj : f j = at2 l i j * at2 u j k := by rw [HF.out]; rfl
      have hlb := lsum_bdR f HBF.out pre
      have hpj := HBF.out j hx2
      have hl7 : pre.length ≤ 6 := by omega
      obtain ⟨p, hp⟩ : ∃ p, at2 l i j = p := ⟨_, rfl⟩
      obtain ⟨q, hq⟩ : ∃ q, at2 u j k = q := ⟨_, rfl⟩
      obtain ⟨s, hs⟩ : ∃ s, lsum f pre = s := ⟨_, rfl⟩
      rw [hp] at e2 hfj
      rw [hq] at f2 hfj
      rw [hs] at g2 hsn hlb
      rw [hfj] at hpj
      have hw1 : IntKind.i64.wrap (p * q) = p * q := IntWalk.i64_in _ ⟨by omega, by omega⟩
      have hw2 : IntKind.i64.wrap (s + p * q) = s + p * q := IntWalk.i64_in _ ⟨by omega, by omega⟩
      rw [hfj] at hsn
      have HSN := Lib.hid hsn
      have E0 := (gB.cell (p := ⟨pt, 0, none⟩) hpt).trans hbt
      have E1 := (gB.cell (p := ⟨bt, ot + i, none⟩) hbtl).trans e1
      have E2 := (gB.cell (p := ⟨bi, oi + j, none⟩) (World.block_lt_of_cell? _ _ e2)).trans e2
      have F2 := (gB.cell (p := ⟨bj, oj + k, none⟩) (World.block_lt_of_cell? _ _ f2)).trans f2
      clear hj hp hq hs hsn hlb hfj e1 e2 f1 f2 hAu hpj hl7
      gi_wp2
      refine round_still_tail 14 hmix (by kernel_rfl) (by kernel_rfl) ?hno ?_
      case hno =>
        rintro ⟨a, w, h⟩
        exact h
      simp only [List.take_succ_cons, List.take_zero, List.drop_succ_cons, List.drop_zero]
      repeat still_step
      refine wpStill_nil ?_
      go_wp2
      rw [← HSN.out] at hw2 ⊢
      have hset : ∀ v, (W.setCell ⟨w.heap.size + 1 + 1, 0, none⟩ v).frozen? ⟨w.heap.size + 1 + 1, 0, none⟩ = false := fun v => (W.frozen?_setCell _ _ _).trans g2f
      refine ⟨(KeepsOthers.setCell _ _ _).trans (KeepsOthers.drew _), ⟨?_, fun b h1 _ => ?_⟩, ⟨?_, ?_, ?_, ?_⟩, (gB.setCell (p := ⟨w.heap.size + 1 + 1, 0, none⟩) (by simp; omega) _).drew⟩
      · simp
      · exact Below.heap_setCell _ _ _ _ h1
      · exact (World.cell?_setCell_other _ _ _ _ (fun e => by injection e with e1; omega)).trans g0
      · exact (World.cell?_setCell_other _ _ _ _ (fun e => by injection e with e1; omega)).trans g1
      · exact World.cell?_setCell_same' _ _ _ (by rw [g2]; rfl)
      · exact hset _
    case done => 
      rintro D ys W hD rfl ⟨⟨g0, g1, g2, g2f⟩, gB⟩ hK
      gi_wp2
      refine ⟨by simp, .inl ⟨_, _, rfl, run_takeDeferred hK, ?_⟩⟩
      refine ⟨.int .i64 (sumN f m), ?_, rfl, below_since (gB.trans (belowK_b (w := w) (Nat.le_refl _) W D _ _ (by omega) hK rfl rfl))⟩
      have hls := lsum_sel f (2 ^ m - 1) m (fun i hi => by rw [Nat.testBit_two_pow_sub_one]; simpa using hi) m (Nat.le_refl _)
      simp [results, Try.f108, go_sem, hls]
    case stop =>
      rintro D c pre W hD hpre hF hK
      exact hF.elim

set_option maxRecDepth 100000 in
set_option maxHeartbeats 2000000 in
theorem productT_any (a : Option Addr) (cap n : Nat) (l : List (List Int)) (a2 : Option Addr) (cap2 n2 : Nat) (u : List (List Int)) (w : World) (hn : l.length = n) (hT : Rec l) (hm : MatR w a l) (hu : u.length = n2) (hTu : Rec u) (huw : (l.getD 0 []).length = n2) (hmu : MatR w a2 u) (hB : ∀ i j k, i < n → j < n2 → k < (u.getD 0 []).length → -1000000000000 ≤ at2 l i j * at2 u j k ∧ at2 l i j * at2 u j k ≤ 1000000000000) :
    Calls Try.prog 62 #[.slice a n cap, .slice a2 n2 cap2] w fun e w' => e = .returned (.slice (some ⟨w.heap.size + 1 + 1, 0, none⟩) n n) ∧ w.Since w.heap.size w' ∧ OwnT w.heap.size w'.heap.size w' (some ⟨w.heap.size + 1 + 1, 0, none⟩) (makeL l u) := by
  have hw := hTu.width
  have h6 := hT.high
  rw [hn] at h6
  have g6 := hTu.high
  have g1 := hTu.low
  rw [hu] at g6 g1
  have hwid := fun (W : World) (hs : w.Since w.heap.size W) => width_any a2 cap2 n2 u W hu (by omega) (by omega) (hmu.since hs)
  obtain ⟨m2, hmm⟩ : ∃ m, (u.getD 0 []).length = m := ⟨_, rfl⟩
  rw [hmm] at hB
  have hnt := fun (W : World) (hs : w.Since w.heap.size W) (hb0 : W.cell? ⟨w.heap.size, 0, none⟩ = some (.slice a n cap)) (hb1 : W.cell? ⟨w.heap.size + 1, 0, none⟩ = some (.slice a2 n2 cap2)) =>
    newTable_any 108 #[.pointer (some ⟨w.heap.size + 1, 0, none⟩), .pointer (some ⟨w.heap.size, 0, none⟩)] n m2 (fun i k => sumN (dotF l u i k) n2) W (by omega) (by omega) (enters_of Try.func108 (by kernel_rfl) rfl)
      (fun W' i k hs' hi hk => prodEntryR_any (w.heap.size + 1) w.heap.size i k n n2 n2 m2 cap cap2 a a2 l u W' hn hu hT hTu huw hmm rfl ((hs'.cell (a := ⟨w.heap.size + 1, 0, none⟩) (World.block_lt_of_cell? _ _ hb1)).trans hb1) ((hs'.cell (a := ⟨w.heap.size, 0, none⟩) (World.block_lt_of_cell? _ _ hb0)).trans hb0) (hm.since (hs.trans (since_mono hs' hs.size))) (hmu.since (hs.trans (since_mono hs' hs.size))) hi hk (fun j hj => hB i j k hi hj hk))
  have htl : makeL l u = tabF n m2 (fun i k => sumN (dotF l u i k) n2) := by unfold makeL; rw [hmm, hn, hu]
  rw [hmm] at hwid hw
  rw [htl]
  have HW := Lib.hid hwid
  have HNT := Lib.hid hnt
  have HS1 := Lib.hid (show w.Since w.heap.size ((w.alloc (.cells #[.slice a n cap] 59)).alloc (.cells #[.slice a2 n2 cap2] 59)) from (((World.Since.refl _ _).alloc (Nat.le_refl _) _).alloc (by simp) _))
  have hc0 := cell_new_l w (.slice a n cap) 59
  have hc1 := cell_new_l (w.alloc (.cells #[.slice a n cap] 59)) (.slice a2 n2 cap2) 59
  simp only [World.size_alloc] at hc1
  have hcb0 : ((w.alloc (.cells #[.slice a n cap] 59)).alloc (.cells #[.slice a2 n2 cap2] 59)).cell? ⟨w.heap.size, 0, none⟩ = some (.slice a n cap) := (cell_alloc_l _ hc0.1)
  have hcb1 : ((w.alloc (.cells #[.slice a n cap] 59)).alloc (.cells #[.slice a2 n2 cap2] 59)).cell? ⟨w.heap.size + 1, 0, none⟩ = some (.slice a2 n2 cap2) := hc1.1
  clear hwid hnt hm hT hn hmm htl hc0 hc1 hu hTu huw hmu hB
  go_enter Try.func62, Try.ntmps62
  go_wp2
  go_region_held3 (fun w' => w'.cell? ⟨w.heap.size, 0, none⟩ = some (.slice a n cap) ∧ w'.cell? ⟨w.heap.size + 1, 0, none⟩ = some (.slice a2 n2 cap2)) (go_keep)
    (first
      | (go_at_call 88; refine (HW.out _ ?_).mono ?_; (exact World.Since.drew HS1.out); rintro e w1 ⟨rfl, rfl⟩)
      | (go_at_call 106; refine (HNT.out _ ?_ ?_ ?_).mono ?_; (exact World.Since.drew HS1.out); (exact hcb0); (exact hcb1); rintro e w1 ⟨rfl, hs2, ho⟩; have hcc := hs2.cell (a := ⟨w.heap.size, 0, none⟩) (World.block_lt_of_cell? _ _ hcb0); simp only [World.cell?_drew, hcb0] at hcc; have hcd := hs2.cell (a := ⟨w.heap.size + 1, 0, none⟩) (World.block_lt_of_cell? _ _ hcb1); simp only [World.cell?_drew, hcb1] at hcd))
  all_goals
    go_wp2
    go_ret
    refine ⟨rfl, HS1.out.trans (since_mono (since_of_drew hs2) (by simp; omega)), ?_⟩
    have hz : ((w.alloc (.cells #[.slice a n cap] 59)).alloc (.cells #[.slice a2 n2 cap2] 59)).drew.heap.size = w.heap.size + 1 + 1 := by simp
    rw [hz] at ho
    exact ho.mono (by omega) (Nat.le_refl _)

end Go.Proofs.Ytggmiojhglkcgaa
end

section
namespace Go.Proofs.Ytggmiojhglkcgaa
open Go.RowKit Go.Deep

set_option maxRecDepth 100000 in
set_option maxHeartbeats 400000 in
theorem implNetTable_any (a : Option Addr) (cap N : Nat) (n : Int) (cs : List RC) (w : World) (hN : cs.length = N) (h63 : N ≤ 9223372036854775807) (hm : ChipsR w a cs) :
    Calls Try.prog 18 #[.int .i64 n, .slice a N cap] w fun e w' => ∃ a' cap', e = .returned (.tuple #[.slice a' (ntabL n cs).length cap', .bool (ntabB n cs)]) ∧ w.Since w.heap.size w' ∧ OwnT w.heap.size w'.heap.size w' a' (ntabL n cs) := by
  have E := implNetIn_any a cap N n cs w hN h63 hm
  cases hb : netB n cs with
  | false =>
    have hf : ntabB n cs = false := by unfold ntabB; rw [hb, Bool.false_and]
    unfold ntabL
    rw [hf]
    rw [hb] at E
    replace E := Lib.hid E
    clear hb hm hN hf
    go_enter Try.func18, Try.ntmps18
    go_wp2_with (go_at_call 15; refine (E.out).mono ?_; rintro e w1 ⟨rfl, hs1⟩; have HS1 := Lib.hid hs1; clear hs1)
    go_ret2
    exact ⟨_, _, rfl, HS1.out, OwnT.nil _ _ _ _⟩
  | true =>
    obtain ⟨m, rfl, ho⟩ := netB_ok hb
    rw [hb] at E
    replace E := Lib.hid E
    have hn2 := ho.lo
    have hn5 := ho.hi
    have h10 := ho.len
    rw [hN] at h10
    have hfB : ntabB m cs = tabIn (outC m cs) := by unfold ntabB; rw [hb, Bool.true_and]; rfl
    have hfL : ntabL m cs = resT (tabIn (outC m cs)) (outC m cs) := by unfold ntabL; rw [hfB]; rfl
    rw [hfB, hfL]
    have HN := Lib.hid hN
    have HM := Lib.hid hm
    have HO := Lib.hid ho
    have EU := Lib.hid (fun (W : World) => unitTable_any m (by omega) W)
    clear hb hm hN ho hfB hfL
    go_enter Try.func18, Try.ntmps18
    go_wp2_with (first
      | (go_at_call 15; refine (E.out).mono ?_; rintro e w1 ⟨rfl, hs1⟩; have HS1 := Lib.hid hs1; clear hs1)
      | (go_at_call 61; refine (EU.out _).mono ?_; rintro e w2 ⟨rfl, hs2, hu2⟩; have HS2 := Lib.hid (HS1.out.trans (since_mono hs2 HS1.out.size)); have HU2 := Lib.hid (hu2.mono HS1.out.size (Nat.le_refl _)); clear hs2 hu2))
    go_loopg [6, 8, 17] N (fun g v _ i wr => ∃ (r : Nat) (a' : Option Addr) (cap' : Nat), r ≤ N ∧ g = N - r ∧ i = .int .i64 r ∧ v = .slice a' m cap' ∧ w.Since w.heap.size wr ∧ OwnT w.heap.size wr.heap.size wr a' (outC m (cs.take r)))
    case atStart => exact ⟨0, _, _, Nat.zero_le _, rfl, rfl, rfl, HS2.out, by show OwnT _ _ _ _ (outT m []); rw [outT_nil]; exact HU2.out⟩
    case round =>
      obtain ⟨r, a', cap', hr, rfl, rfl, rfl, hS, hT⟩ := hrel
      by_cases hlt : r < N
      · have hlt' : r < cs.length := by rw [HN.out]; exact hlt
        obtain ⟨b, o, rfl, k1, k2, k3⟩ := HM.out.at hlt'
        have c1 := (hS.cell (World.block_lt_of_cell? _ _ k1)).trans k1
        have c2 := (hS.cell (World.block_lt_of_cell? _ _ k2)).trans k2
        have c3 := (hS.cell (World.block_lt_of_cell? _ _ k3)).trans k3
        have hmem : cs.getD r rc0 ∈ cs := by
          have : cs.getD r rc0 = cs[r] := by simp [List.getD, hlt']
          rw [this]; exact List.getElem_mem _
        have ET := Lib.hid (fun (W : World) => chipTable_any (cs.getD r rc0) m W (by omega) hn5 (HO.out.ok _ hmem))
        have hstep := outC_step HO.out hlt'
        have hrec2 := chT_rec (v := (toC (cs.getD r rc0)).2.2) (k := chK (toC (cs.getD r rc0))) (show 1 ≤ m by omega) (show m ≤ 6 by omega) (chRK (HO.out.ok _ hmem).2).1
        have hlen2 := chT_length m (chR (toC (cs.getD r rc0))) (chK (toC (cs.getD r rc0))) (toC (cs.getD r rc0)).2.2
        have hrow2 := chT_row (v := (toC (cs.getD r rc0)).2.2) (k := chK (toC (cs.getD r rc0))) (chRK (HO.out.ok _ hmem).2).1 (show 0 < m by omega)
        have hbd := outC_bd HO.out hlt'
        obtain ⟨c, hcc⟩ : ∃ c, cs.getD r rc0 = c := ⟨_, rfl⟩
        rw [hcc] at c1 c2 c3 ET hstep hrec2 hlen2 hrow2 hbd
        obtain ⟨U, hU⟩ : ∃ U, chT m (chR (toC c)) (chK (toC c)) (toC c).2.2 = U := ⟨_, rfl⟩
        rw [hU] at ET hstep hrec2 hlen2 hrow2 hbd
        have EM := Lib.hid (fun (W : World) (a2 : Option Addr) (cp2 : Nat) (h1 : wr.Since wr.heap.size W) (h2 : MatR W a2 U) => productT_any a' cap' m (outC m (cs.take r)) a2 cp2 m U W (outT_length _ _) (outT_rec (by omega) (by omega) _) (hT.since h1).matR hlen2 hrec2 (outT_row _ (by omega)) h2 (fun i j k hi hj hk => hbd i j k hi hj (by rw [hrow2] at hk; exact hk)))
        rw [hstep] at EM
        have HS' := Lib.hid hS
        clear k1 k2 k3 hstep hrec2 hlen2 hrow2 hbd hU hT hS hcc hmem hlt'
        obtain ⟨K, L, V⟩ := c
        simp only at c1 c2 c3 ET
        obtain ⟨d1, d2, d3⟩ := chip_box wr K L V 35
        have HA := Lib.hid ((World.Since.refl wr.heap.size wr).alloc (Nat.le_refl _) (.cells #[.string K, .int .i64 L, .int .i64 V] 35))
        go_wp2_with (first
          | (go_at_call 63; refine (ET.out _).mono ?_; rintro e w3 ⟨a3, cp3, rfl, hs3, hm3⟩; have H3 := Lib.hid (And.intro (HA.out.trans (since_mono hs3 HA.out.size)) hm3); clear hs3 hm3)
          | (go_at_call 62; refine (EM.out _ _ _ H3.out.1 H3.out.2).mono ?_; rintro e w4 ⟨rfl, hs4, ho4⟩; have H4 := Lib.hid (And.intro (H3.out.1.trans (since_mono hs4 H3.out.1.size)) (ho4.mono H3.out.1.size (Nat.le_refl _))); clear hs4 ho4))
        go_roundg (N - (r + 1))
        case measure => omega
        case rel => exact ⟨r + 1, _, _, by omega, rfl, by go_num, rfl, HS'.out.trans (since_mono H4.out.1 HS'.out.size), H4.out.2.mono HS'.out.size (Nat.le_refl _)⟩
      · obtain rfl : r = N := by omega
        rw [List.take_of_length_le (by rw [HN.out]; exact Nat.le_refl _)] at hT
        have ED := Lib.hid (result_any a' cap' m w.heap.size wr.heap.size (outC m cs) wr (outT_length _ _) (szL_outT hn5 _) hT)
        have HS' := Lib.hid hS
        clear hT hS
        go_wp2_with (go_at_call 64; refine (ED.out).mono ?_; rintro e w3 ⟨a3, cp3, rfl, hs3, hm3⟩; have H3 := Lib.hid (And.intro (HS'.out.trans (since_mono hs3 HS'.out.size)) (hm3.mono (Nat.le_refl _) hs3.size)); clear hs3 hm3)
        go_ret2
        exact ⟨_, _, rfl, H3.out.1, H3.out.2⟩

end Go.Proofs.Ytggmiojhglkcgaa
end

section
namespace Go.Proofs.Ytggmiojhglkcgaa
open Go.RowKit Go.Deep

set_option maxRecDepth 100000 in
set_option maxHeartbeats 4000000 in
theorem across_any (a : Option Addr) (cap n : Nat) (l : List (List Int)) (w : World) (hn : l.length = n) (hT : TabIn l) (hm : MatR w a l) :
    Calls Try.prog 34 #[.slice a n cap] w fun e w' => ∃ a' cap', e = .returned (.slice a' (l.getD 0 []).length cap') ∧ w.Since w.heap.size w' ∧ InT w.heap.size w'.heap.size w' a' (turnL l) := by
  obtain ⟨i42, hi42⟩ := info42_parts
  obtain ⟨i3, hi3⟩ := info3_parts
  have HI := Lib.hid hi42
  have HJ := Lib.hid hi3
  clear hi42 hi3
  have hst := bt_start w (fun _ => none) (fun _ => 0) #[] rfl
  have hw := hT.width
  have h6 := hT.2.1
  have h1 := hT.1
  rw [hn] at h6 h1
  obtain ⟨b, o, A0, C0, rfl, hc⟩ := hm (by omega)
  obtain ⟨m, hmm⟩ : ∃ m, (l.getD 0 []).length = m := ⟨_, rfl⟩
  have hcell : ∀ r, r < n → w.cell? ⟨b, o + r, none⟩ = some (.slice (A0 r) m (C0 r)) := fun r hr => by rw [(hc r (by omega)).1, hT.row (by omega), hmm]
  have hent : ∀ i k, i < n → k < m → ∃ b' o', A0 i = some ⟨b', o', none⟩ ∧ w.cell? ⟨b', o' + k, none⟩ = some (.int .i64 (at2 l i k)) := fun i k hi hk => by
    have hrl : (l.getD i []).length = m := by rw [hT.row (by omega), hmm]
    obtain ⟨b', o', e, h3⟩ := (hc i (by omega)).2 (by omega)
    exact ⟨b', o', e, h3 k (by omega)⟩
  have htl : turnL l = turnTo l m := by rw [← hmm]; exact (turnTo_all l).symm
  rw [hmm] at hw ⊢
  rw [htl]
  have HC := Lib.hid hcell
  have HE := Lib.hid hent
  have HN := Lib.hid hn
  clear hc hm hT hcell hent hn hmm htl
  go_enter Try.func34, Try.ntmps34
  go_wp2
  go_loopg [3, 4, 5, 6] m (fun g v k _ _ wr => ∃ r : Nat, ∃ A C, r ≤ m ∧ g = m - r ∧ k = .int .i64 r ∧ BT w wr v (turnTo l r) A C)
  case atStart => exact ⟨0, _, _, Nat.zero_le _, rfl, rfl, hst⟩
  case round =>
    obtain ⟨r, A, C, hr, rfl, rfl, hR⟩ := hrel
    clear hst
    have hc0 : wr.cell? ⟨b, o, none⟩ = some (.slice (A0 0) m (C0 0)) := by
      have h0 := HC.out 0 (by omega)
      rw [Nat.add_zero] at h0
      rw [hR.since.cell (a := ⟨b, o, none⟩) (World.block_lt_of_cell? _ _ h0), h0]
    by_cases hlt : r < m
    · have HR := Lib.hid hR
      have hrb := rb_start wr #[] rfl
      have HRB := Lib.hid hrb
      have hsz := hR.since.size
      have hlen := turnTo_length l r
      obtain ⟨wo, rfl⟩ : ∃ wo : World, wo = wr := ⟨_, rfl⟩
      clear hR hrb
      go_wp2
      go_loopg [5, 6] n (fun g v i wi => ∃ j : Nat, j ≤ n ∧ g = n - j ∧ i = .int .i64 j ∧ RB wo wi v (turnRow l r j))
      case atStart => exact ⟨0, Nat.zero_le _, rfl, rfl, HRB.out⟩
      case round =>
        obtain ⟨j, hj, rfl, rfl, hI⟩ := hrel
        clear HRB hc0
        by_cases hjn : j < n
        · obtain ⟨b', o', hA, hce⟩ := HE.out j r hjn hlt
          have hcj := HC.out j hjn
          rw [hA] at hcj
          have hS := HR.out.since.trans (since_mono hI.since hsz)
          rw [← hS.cell (a := ⟨b, o + j, none⟩) (World.block_lt_of_cell? _ _ hcj)] at hcj
          rw [← hS.cell (a := ⟨b', o' + r, none⟩) (World.block_lt_of_cell? _ _ hce)] at hce
          obtain ⟨y, hy⟩ : ∃ y, y = at2 l j r := ⟨_, rfl⟩
          rw [← hy] at hce
          have HY := Lib.hid hy
          have HII := Lib.hid hI
          have hle := turnRow_length l r j
          have hzi := hI.since.size
          clear hy hI hA hS
          go_wp2_with (at_builtin; (refine wpList_append_own _ rfl _ _ 37 rfl wo.heap.size 3 i3 (.int .i64 0) 1 8 Try.underlying37 HJ.out.1 HJ.out.2.1 HJ.out.2.2.1 HJ.out.2.2.2 rfl (by decide) _ _ _ rfl (HII.out.own.alloc _) ⟨wr.heap.size, 0, none⟩ 1 1 [.int .i64 y] rfl rfl (cell_one_at _ _ _ rfl) (fun x hx => by simp at hx; subst hx; rfl) (by unfold maxLen; omega) (by omega) (by simp; omega) ?_); intro v' w1 hown' hgrow _)
          have hP := HII.out.push hown' hgrow
          rw [HY.out, ← turnRow_succ] at hP
          have HP := Lib.hid hP
          clear hP hown' hgrow hle hcj hce
          go_roundg (n - (j + 1))
          case measure => omega
          case rel => exact ⟨j + 1, by omega, rfl, by go_num, HP.out⟩
        · have hjj : j = n := by omega
          subst hjj
          obtain ⟨ra, rcp, hv, hrow⟩ := hI.slice
          rw [turnRow_length] at hv
          subst hv
          have HII := Lib.hid hI
          have hle := turnRow_length l r j
          have hzi := hI.since.size
          have HROW := Lib.hid hrow
          clear hI hrow
          have hBT := HR.out.later HII.out.since
          have HBT := Lib.hid hBT
          clear hBT
          go_wp2_with (at_builtin; (refine wpList_append_own _ rfl _ _ 28 rfl w.heap.size 37 i42 (.slice none 0 0) 1 24 Try.underlying28 HI.out.1 HI.out.2.1 HI.out.2.2.1 HI.out.2.2.2 rfl (by decide) _ _ _ rfl (HBT.out.own.alloc _) ⟨wr.heap.size, 0, none⟩ 1 1 [.slice ra j rcp] rfl rfl (cell_one_at _ _ _ rfl) (fun x hx => by simp at hx; subst hx; rfl) (by unfold maxLen; omega) (by omega) (by simp; omega) ?_); intro v' w1 hown' hgrow _)
          have hP := HBT.out.push (rv := .slice ra j rcp) (x := turnRow l r j) (a := ra) (cp := rcp) (by rw [turnRow_length]) (fun h => by obtain ⟨G, e, h2, h3⟩ := HROW.out h; exact ⟨G, e, by omega, h3⟩) (fun h => by obtain ⟨G, e, h2, _⟩ := HROW.out h; exact HR.out.fresh e h2) hown' hgrow
          have hjl : l.length = j := HN.out
          have hts := turnTo_succ l r
          rw [hjl] at hts
          rw [← hts] at hP
          have HP := Lib.hid hP
          clear hP hown' hgrow hle hts hjl hlen
          go_roundg (m - (r + 1))
          case measure => omega
          case rel => exact ⟨r + 1, _, _, by omega, rfl, by go_num, HP.out⟩
    · have : r = m := by omega
      subst this
      obtain ⟨ra, rcp, hv, hin⟩ := hR.slice
      rw [turnTo_length] at hv
      subst hv
      have HS := Lib.hid hR.since
      clear hR
      go_wp2
      go_ret
      exact ⟨ra, rcp, rfl, HS.out, hin⟩

end Go.Proofs.Ytggmiojhglkcgaa
end

section
namespace Go.Proofs.Ytggmiojhglkcgaa
open Go.RowKit Go.Deep

set_option maxRecDepth 100000 in
set_option maxHeartbeats 1000000 in
theorem fnNetTurn (a : Option Addr) (cap n : Nat) (w : World) (hc : n ≤ cap) (h63 : cap ≤ 9223372036854775807) (hb : BytR w a n) :
    Calls Try.prog 8 #[.slice a n cap] w fun e w' => e = .returned (.bool true) ∧ w.Since w.heap.size w' := by
  by_cases hlen : 1048576 < n
  · have hl' : decide ((1048576 : Int) < (n : Int)) = true := by simp; omega
    clear hb
    go_enter Try.func8, Try.ntmps8
    go_wp2
    go_ret
    exact ⟨rfl, World.Since.refl _ _⟩
  · have hl' : decide ((1048576 : Int) < (n : Int)) = false := by simp; omega
    have ED := Lib.hid (drawNetTurn_any a n cap w hc h63 hb)
    clear hb
    go_enter Try.func8, Try.ntmps8
    go_wp2_with fail
    refine (ED.out).mono ?_
    rintro e w1 ⟨m, a1, ca, cs, rfl, hs1, hm, hl, ⟨g, rfl⟩, hcl, hc63, ho⟩
    clear ED
    obtain ⟨N, hN⟩ : ∃ N, cs.length = N := ⟨_, rfl⟩
    rw [hN] at hl hcl ⊢
    have HS1 := Lib.hid hs1
    have E1 := fun (W : World) (h : w1.Since w1.heap.size W) => implNetTurn_any (some ⟨g, 0, none⟩) ca N m cs W hN (by omega) (ho.chips.since h)
    have E2 := fun (W : World) (h : w1.Since w1.heap.size W) => specNetTurn_any (some ⟨g, 0, none⟩) ca N m cs W hN (by omega) (ho.chips.since h)
    cases hok : netB m cs with
    | false =>
      have hr : resC false (turnC cs) = [] := rfl
      simp only [hok, hr, List.length_nil] at E1 E2
      replace E1 := Lib.hid E1
      replace E2 := Lib.hid E2
      have ES := Lib.hid (fun (W : World) (x y : Option Addr) (p q : Nat) => sameChips_same x y p q 0 [] W rfl (by omega) (fun h => by simp at h) (fun h => by simp at h))
      clear ho hs1 hok hN hr
      go_wp2_with (first
        | (go_at_call 26; refine (E1.out _ (World.Since.refl _ _)).mono ?_; rintro e w2 ⟨x2, p2, rfl, hs2, _⟩; have HS2 := Lib.hid hs2; clear hs2)
        | (go_at_call 32; refine (E2.out _ HS2.out).mono ?_; rintro e w3 ⟨x3, p3, rfl, hs3, _⟩; have HS3 := Lib.hid (HS1.out.trans (since_mono (HS2.out.trans (since_mono hs3 HS2.out.size)) HS1.out.size)); clear hs3)
        | (go_at_call 33; refine (ES.out _ _ _ _ _).mono ?_; rintro e w4 ⟨rfl, hs4⟩; have HS3 := Lib.hid (HS3.out.trans (since_mono hs4 HS3.out.size)); clear hs4))
      go_ret
      exact ⟨rfl, HS3.out⟩
    | true =>
      have hr : resC true (turnC cs) = turnC cs := rfl
      have hlt : (turnC cs).length = N := by unfold turnC; rw [List.length_map, List.length_reverse, hN]
      simp only [hok, hr, hlt] at E1 E2
      obtain ⟨m', hm', hoo⟩ := netB_ok hok
      obtain rfl := Int.ofNat.inj hm'
      have h2 := hoo.lo
      have hbt := ntabB_turn hok
      have hnt := netB_turn m cs
      rw [hok] at hnt
      have E3 := fun (W : World) (x : Option Addr) (p : Nat) (h : ChipsR W x (turnC cs)) => implNetTurn_any x p N m (turnC cs) W hlt (by omega) h
      simp only [hnt, turn_turn, show resC true cs = cs from rfl, hN] at E3
      have E4 := fun (W : World) (h : w1.Since w1.heap.size W) => implNetTable_any (some ⟨g, 0, none⟩) ca N m cs W hN (by omega) (ho.chips.since h)
      have E5 := fun (W : World) (x : Option Addr) (p : Nat) (h : ChipsR W x (turnC cs)) => implNetTable_any x p N m (turnC cs) W hlt (by omega) h
      have ES := Lib.hid (fun (W : World) (x y : Option Addr) (p q : Nat) (h1 : ChipsR W x (turnC cs)) (h2 : ChipsR W y (turnC cs)) => sameChips_same x y p q N (turnC cs) W hlt (by omega) h1 h2)
      have ES2 := Lib.hid (fun (W : World) (x : Option Addr) (p : Nat) (h1 : ChipsR W x cs) (h : w1.Since w1.heap.size W) => sameChips_same x (some ⟨g, 0, none⟩) p ca N cs W hN (by omega) h1 (ho.chips.since h))
      have hotl := outC_turn (n := m) (by omega) (cs := cs) (fun c hc => (hoo.ok c hc).2.1)
      cases htb : ntabB m cs with
      | false =>
        rw [htb] at hbt
        have hL : ntabL m cs = [] := by unfold ntabL; rw [htb]; rfl
        have hL2 : ntabL m (turnC cs) = [] := by unfold ntabL; rw [hbt]; rfl
        simp only [htb, hL, List.length_nil] at E4
        simp only [hbt, hL2, List.length_nil] at E5
        replace E1 := Lib.hid E1
        replace E2 := Lib.hid E2
        replace E3 := Lib.hid E3
        replace E4 := Lib.hid E4
        replace E5 := Lib.hid E5
        clear ho hs1 hok hN hr hlt hm' hoo hbt hnt hotl htb hL hL2
        go_wp2_with (first
        | (go_at_call 26; ((with_reducible refine (E1.out _ (World.Since.refl _ _)).mono ?_); rintro e w2 ⟨x2, p2, rfl, hs2, ho2⟩; have HS2 := Lib.hid hs2; have HO2 := Lib.hid ho2; clear hs2 ho2))
        | (go_at_call 32; refine (E2.out _ HS2.out).mono ?_; rintro e w3 ⟨x3, p3, rfl, hs3, ho3, _⟩; have HS3 := Lib.hid (HS2.out.trans (since_mono hs3 HS2.out.size)); have HO3 := Lib.hid ho3; have HO2 := Lib.hid (HO2.out.since hs3); clear hs3 ho3)
        | (go_at_call 33; ((with_reducible refine (ES.out _ _ _ _ _ HO2.out.chips HO3.out.chips).mono ?_); rintro e w4 ⟨rfl, hs4⟩; have HS4 := Lib.hid (HS3.out.trans (since_mono hs4 HS3.out.size)); have HO2 := Lib.hid (HO2.out.since hs4); clear hs4))
        | (go_at_call 26; ((with_reducible refine (E3.out _ _ _ HO2.out.chips).mono ?_); rintro e w5 ⟨x5, p5, rfl, hs5, ho5⟩; have HS5 := Lib.hid (HS4.out.trans (since_mono hs5 HS4.out.size)); have HO2 := Lib.hid (HO2.out.since hs5); have HO5 := Lib.hid ho5; clear hs5 ho5))
        | (go_at_call 18; ((with_reducible refine (E4.out _ HS5.out).mono ?_); rintro e w6 ⟨x6, p6, rfl, hs6, ho6⟩; have HS6 := Lib.hid (HS5.out.trans (since_mono hs6 HS5.out.size)); have HO2 := Lib.hid (HO2.out.since hs6); have HO5 := Lib.hid (HO5.out.since hs6); have HO6 := Lib.hid ho6; clear hs6 ho6))
        | (go_at_call 18; ((with_reducible refine (E5.out _ _ _ HO2.out.chips).mono ?_); rintro e w7 ⟨x7, p7, rfl, hs7, ho7⟩; have HS7 := Lib.hid (HS6.out.trans (since_mono hs7 HS6.out.size)); have HO5 := Lib.hid (HO5.out.since hs7); have HO6 := Lib.hid (HO6.out.since hs7); have HO7 := Lib.hid ho7; clear hs7 ho7))
        | (go_at_call 33; ((with_reducible refine (ES2.out _ _ _ HO5.out.chips HS7.out).mono ?_); rintro e w8 ⟨rfl, hs8⟩; have HS8 := Lib.hid (HS7.out.trans (since_mono hs8 HS7.out.size)); have HO6 := Lib.hid (HO6.out.since hs8); have HO7 := Lib.hid (HO7.out.since hs8); clear hs8)))
        go_ret
        exact ⟨rfl, HS1.out.trans (since_mono HS8.out HS1.out.size)⟩
      | true =>
        rw [htb] at hbt
        have hL : ntabL m cs = outC m cs := by unfold ntabL; rw [htb]; rfl
        have hL2 : ntabL m (turnC cs) = turnL (outC m cs) := by unfold ntabL; rw [hbt]; exact hotl
        have hT : TabIn (outC m cs) := by unfold ntabB at htb; rw [hok, Bool.true_and] at htb; exact tabIn_of htb
        have hl1 : (outC m cs).length = m := outT_length _ _
        have hl0 : ((outC m cs).getD 0 []).length = m := outT_row _ (by omega)
        have hl2 : (turnL (outC m cs)).length = m := by rw [← hotl]; exact outT_length _ _
        have hrow : ∀ r, r < (turnL (outC m cs)).length → ((turnL (outC m cs)).getD r []).length ≤ 9223372036854775807 := fun r hr => by
          rw [hl2] at hr
          rw [← hotl]
          have : ((outC m (turnC cs)).getD r []).length = m := outT_row _ hr
          omega
        simp only [htb, hL, hl1] at E4
        simp only [hbt, hL2, hl2] at E5
        have E6 := fun (W : World) (x : Option Addr) (p : Nat) (h : MatR W x (outC m cs)) => across_any x p m (outC m cs) W hl1 hT h
        simp only [hl0] at E6
        have E7 := fun (W : World) (x y : Option Addr) (p q : Nat) (h1 : MatR W x (turnL (outC m cs))) (h2 : MatR W y (turnL (outC m cs))) => sameRows_same x y p q m (turnL (outC m cs)) W hl2 (by omega) hrow h1 h2
        replace E1 := Lib.hid E1
        replace E2 := Lib.hid E2
        replace E3 := Lib.hid E3
        replace E4 := Lib.hid E4
        replace E5 := Lib.hid E5
        replace E6 := Lib.hid E6
        replace E7 := Lib.hid E7
        clear ho hs1 hok hN hr hlt hm' hoo hbt hnt hotl htb hL hL2 hT hl1 hl0 hl2 hrow
        go_wp2_with (first
        | (go_at_call 26; ((with_reducible refine (E1.out _ (World.Since.refl _ _)).mono ?_); rintro e w2 ⟨x2, p2, rfl, hs2, ho2⟩; have HS2 := Lib.hid hs2; have HO2 := Lib.hid ho2; clear hs2 ho2))
        | (go_at_call 32; refine (E2.out _ HS2.out).mono ?_; rintro e w3 ⟨x3, p3, rfl, hs3, ho3, _⟩; have HS3 := Lib.hid (HS2.out.trans (since_mono hs3 HS2.out.size)); have HO3 := Lib.hid ho3; have HO2 := Lib.hid (HO2.out.since hs3); clear hs3 ho3)
        | (go_at_call 33; ((with_reducible refine (ES.out _ _ _ _ _ HO2.out.chips HO3.out.chips).mono ?_); rintro e w4 ⟨rfl, hs4⟩; have HS4 := Lib.hid (HS3.out.trans (since_mono hs4 HS3.out.size)); have HO2 := Lib.hid (HO2.out.since hs4); clear hs4))
        | (go_at_call 26; ((with_reducible refine (E3.out _ _ _ HO2.out.chips).mono ?_); rintro e w5 ⟨x5, p5, rfl, hs5, ho5⟩; have HS5 := Lib.hid (HS4.out.trans (since_mono hs5 HS4.out.size)); have HO2 := Lib.hid (HO2.out.since hs5); have HO5 := Lib.hid ho5; clear hs5 ho5))
        | (go_at_call 18; ((with_reducible refine (E4.out _ HS5.out).mono ?_); rintro e w6 ⟨x6, p6, rfl, hs6, ho6⟩; have HS6 := Lib.hid (HS5.out.trans (since_mono hs6 HS5.out.size)); have HO2 := Lib.hid (HO2.out.since hs6); have HO5 := Lib.hid (HO5.out.since hs6); have HO6 := Lib.hid ho6; clear hs6 ho6))
        | (go_at_call 18; ((with_reducible refine (E5.out _ _ _ HO2.out.chips).mono ?_); rintro e w7 ⟨x7, p7, rfl, hs7, ho7⟩; have HS7 := Lib.hid (HS6.out.trans (since_mono hs7 HS6.out.size)); have HO5 := Lib.hid (HO5.out.since hs7); have HO6 := Lib.hid (HO6.out.since hs7); have HO7 := Lib.hid ho7; clear hs7 ho7))
        | (go_at_call 33; ((with_reducible refine (ES2.out _ _ _ HO5.out.chips HS7.out).mono ?_); rintro e w8 ⟨rfl, hs8⟩; have HS8 := Lib.hid (HS7.out.trans (since_mono hs8 HS7.out.size)); have HO6 := Lib.hid (HO6.out.since hs8); have HO7 := Lib.hid (HO7.out.since hs8); clear hs8))
        | (go_at_call 34; refine (E6.out _ _ _ HO6.out.matR).mono ?_; rintro e w9 ⟨x9, p9, rfl, hs9, ho9⟩; have HS9 := Lib.hid (HS8.out.trans (since_mono hs9 HS8.out.size)); have HO7 := Lib.hid (HO7.out.since hs9); have HO9 := Lib.hid ho9; clear hs9 ho9)
        | (go_at_call 20; refine (E7.out _ _ _ _ _ HO9.out.matR HO7.out.matR).mono ?_; rintro e w10 ⟨rfl, hd10⟩; have HS10 := Lib.hid (HS9.out.trans (since_mono (hd10.since w9.heap.size) HS9.out.size)); clear hd10))
        go_ret
        exact ⟨rfl, HS1.out.trans (since_mono HS10.out HS1.out.size)⟩

end Go.Proofs.Ytggmiojhglkcgaa
end

section
namespace Go.Proofs.Ytggmiojhglkcgaa
open Go.ChangeShapes Go.WideShapes Go.ChangeAt Go.RowKit Go.Deep

theorem below_since' {B : Nat} {w w' : World} (h : Below B w w') : w.Since B w' := ⟨h.os, h.tape, h.output, h.size, h.block⟩
theorem since_below' {B : Nat} {w w' : World} (h : w.Since B w') : Below B w w' := ⟨h.os, h.tape, h.output, h.size, h.block⟩

section
variable {H : Type} {enc : TypeId × Value → H} {P : Program}
theorem post_of_below {f : Func} {s : ChangeSpec} {apart fresh handsOn again : Bool} {W W' : World} {args : Array Value} {v : Value} {ds gs : List (DataW H)} {before pa pv : List MemPlace}
    (hW : DataW.Whole enc P f.params.toList s.vars apart W args.toList ds gs before)
    (hres : ∀ (b : Nat) (sp : Nat → Bool) (hd : Bool), DataW.TrodAll enc P W' b sp hd f.resultTypes.toList (v.resultList f.resultTypes.size) (s.fn H (ds ++ gs)).results [])
    (hargs : ∀ sp : Nat → Bool, (∀ p ∈ before, sp p.block = true) → DataW.TrodAll enc P W' 0 sp true f.params.toList args.toList (s.fn H (ds ++ gs)).args pa)
    (hvars : ∀ sp : Nat → Bool, (∀ p ∈ before, sp p.block = true) → DataW.TrodVars enc P W' sp s.vars (s.fn H (ds ++ gs)).vars pv)
    (hps : before = pa ++ pv) (hb : Below W.heap.size W W') (hag : again = false) :
    s.post enc P f apart fresh handsOn again W args v W' := by
  have hlt : ∀ p ∈ before, p.block < W.heap.size := fun p hp => hW.lt p hp
  have hold : ∀ p ∈ before, (fun b => decide (b < W.heap.size)) p.block = true := fun p hp => by simpa using hlt p hp
  refine ⟨ds, gs, before, [], pa, pv, hW, hres _ _ _, hargs _ hold, hvars _ hold, World.keptBut_mono (fun p hp => ⟨hp, ?_⟩) (hb.frame (· ∈ before)), fun h => ?_⟩
  · rw [hps, List.mem_append] at hp
    exact Or.inr hp
  · rw [hag] at h; cases h

theorem open_mat {W : World} {t e q : TypeId} {a : Option Addr} {n cap : Nat} {d : DataW H} {p : List MemPlace} (ht : P.underlying t = some (.slice e)) (he : P.underlying e = some (.slice q)) (hq : P.underlying q = some (.int .i64))
    (ce : P.cellsOf e = 1) (cq : P.cellsOf q = 1) (h : DataW.Trod enc P W 0 (fun _ => true) true t (.slice a n cap) d p) :
    ∃ l : List (List Int), l.length = n ∧ MatR W a l ∧ n ≤ 9223372036854775807 ∧ ∀ r, r < l.length → (l.getD r []).length ≤ 9223372036854775807 := by
  obtain ⟨fuel, hf⟩ := h
  rcases open_int_rows ht he hq ce cq hf with ⟨hcs, _⟩ | ⟨a', len', cap', A, L, C, Z, hcs, _, hl, hm, _, hrows⟩
  · simp [Value.cells] at hcs
    obtain ⟨rfl, rfl, rfl⟩ := hcs
    exact ⟨[], rfl, (fun h => by simp at h), by omega, fun r hr => by simp at hr⟩
  · simp [Value.cells] at hcs
    obtain ⟨rfl, rfl, rfl⟩ := hcs
    have hmx : maxLen = 9223372036854775807 := rfl
    have hlen : ∀ r, r < n → ((Z r).take (L r)).length = L r := fun r hr => by
      obtain ⟨_, h1, _, h2, _⟩ := hrows r (by omega)
      rw [List.length_take]; omega
    have hget : ∀ r, r < n → ((List.range n).map fun r => (Z r).take (L r)).getD r [] = (Z r).take (L r) := fun r hr => by simp [List.getD, hr]
    refine ⟨(List.range n).map fun r => (Z r).take (L r), by simp, fun h => ?_, by omega, fun r hr => ?_⟩
    · obtain ⟨b, o, spot⟩ := a'
      simp at h
      have hspot : spot = none := by simpa [Addr.add] using World.cell?_spot (hrows 0 (by omega)).1
      subst hspot
      refine ⟨b, o, A, C, rfl, fun r hr => ?_⟩
      simp at hr
      rw [hget r hr, hlen r hr]
      obtain ⟨g1, g2, g3, g4, g5, g6, g7⟩ := hrows r (by omega)
      refine ⟨by rw [← add_plain]; exact g1, fun h0 => ?_⟩
      rw [hlen r hr] at h0
      cases hA : A r with
      | none => have := g6 hA; omega
      | some a'' =>
        obtain ⟨_, hcell⟩ := g7 a'' hA
        obtain ⟨b', o', sp⟩ := a''
        have hs : sp = none := by simpa [Addr.add] using World.cell?_spot (hcell 0 (by omega))
        subst hs
        refine ⟨b', o', rfl, fun i hi => ?_⟩
        rw [hlen r hr] at hi
        rw [← add_plain, hcell i (by omega)]
        congr 2
        simp [List.getD, hi]
    · simp at hr
      rw [hget r hr, hlen r hr]
      obtain ⟨_, h1, h2, _⟩ := hrows r (by omega)
      omega
end

theorem Try.own : ownKnob Try.prog.godebug = none := by kernel_rfl
theorem Try.laidOut : laidOutB Try.prog = true := by kernel_rfl
theorem Try.cellsR : Try.prog.cellsOf 37 = 1 := by kernel_rfl
theorem Try.cellsI : Try.prog.cellsOf 3 = 1 := by kernel_rfl

end Go.Proofs.Ytggmiojhglkcgaa
end

section
namespace Go.Proofs.Ytggmiojhglkcgaa
open Go.ChangeShapes Go.WideShapes Go.ChangeAt Go.RowKit Go.Deep

theorem wf_u8_of {n : Int} (h : (Lit.int .u8 n).wf = true) : 0 ≤ n ∧ n ≤ 255 := by
  have h2 : (0 : Int) ≤ n ∧ n ≤ 255 := by simpa [Lit.wf, IntKind.min, IntKind.max, IntKind.signed, IntKind.bits] using h
  exact h2

theorem open_bytes {H : Type} {enc : TypeId × Value → H} {P : Program} {W : World} {t e : TypeId} {a : Option Addr} {n cap : Nat} {d : DataW H} {p : List MemPlace} (ht : P.underlying t = some (.slice e)) (he : P.underlying e = some (.int .u8)) (ce : P.cellsOf e = 1)
    (h : DataW.Trod enc P W 0 (fun _ => true) true t (.slice a n cap) d p) : BytR W a n ∧ n ≤ cap ∧ cap ≤ 9223372036854775807 := by
  obtain ⟨fuel, hf⟩ := h
  rcases open_ints ht he ce hf with ⟨hcs, _⟩ | ⟨a', len, cap', zs, hcs, _, hl, hm, hlen, _, hcell, hwf⟩
  · simp [Value.cells] at hcs
    obtain ⟨rfl, rfl, rfl⟩ := hcs
    exact ⟨fun h => absurd h (by omega), by omega, by omega⟩
  · simp [Value.cells] at hcs
    obtain ⟨rfl, rfl, rfl⟩ := hcs
    have hmx : maxLen = 9223372036854775807 := rfl
    have hzl : zs.length = cap := by simpa using hlen
    refine ⟨fun h0 => ?_, by omega, by omega⟩
    obtain ⟨b, o, spot⟩ := a'
    have hspot : spot = none := by simpa [Addr.add] using World.cell?_spot (hcell 0 (by omega))
    subst hspot
    refine ⟨b, o, rfl, fun i hi => ?_⟩
    have hi' : i < zs.length := by omega
    have hw := wf_u8_of (hwf (zs.getD i 0) (by simp [List.getD, hi']))
    obtain ⟨z, hz⟩ := Int.eq_ofNat_of_zero_le hw.1
    refine ⟨z, by omega, ?_⟩
    rw [← add_plain, hcell i hi', hz]

theorem Try.cellsB : Try.prog.cellsOf 5 = 1 := by kernel_rfl

end Go.Proofs.Ytggmiojhglkcgaa
end

section
namespace Go.Proofs.Ytggmiojhglkcgaa
open Go.ChangeShapes Go.WideShapes Go.ChangeAt Go.RowKit Go.Deep

set_option maxRecDepth 100000 in
theorem lifted_FnNetTurn (os : Os) (started : os.Started) (H : Type) (enc : TypeId × Value → H) :
    ReturnsInHanded {} Try.checked os 8 .any (Rows.fnNetTurnSpec.pre6 enc Try.prog Try.f8 Rows.fnNetTurnRow.domain false) (Rows.fnNetTurnSpec.post enc Try.prog Try.f8 false true false false) := by
  refine returnsInHanded_of_change (C := Try.checked) Try.own started (by kernel_rfl) Try.func8
    (ChangeSpec.witness6 (enc := enc) (C := Try.checked) false ⟨#[], #[.slice none 0 0], []⟩ 8 (by kernel_rfl) (by kernel_rfl) (by kernel_rfl) (by kernel_rfl)) ?_
  intro W base args ds gs before hval0 hW _ _
  have hval : ∀ (j : Nat) t v, Try.f8.params[j]? = some t → args[j]? = some v → Value.okWide Try.prog W .any base t v := hval0
  have hW' := hW
  obtain ⟨p, q, hA0, hV, rfl, hfz, hnd⟩ := hW
  have hA : DataW.TrodAll enc Try.prog W 0 (fun _ => true) true Try.f8.params.toList args.toList ds p := hA0
  rw [Try.params8] at hA hval
  obtain ⟨v0, d0, rfl, rfl, h0⟩ := trodAll_one hA
  obtain ⟨p0, hp0⟩ : ∃ p0, p0 = p := ⟨_, rfl⟩
  subst hp0
  obtain ⟨rfl, rfl⟩ := trodVars_none hV
  obtain ⟨a0, n0, cap0, rfl⟩ := okWide_slice Try.underlying22 (hval 0 22 v0 rfl rfl)
  obtain ⟨hb0, hc0, h630⟩ := open_bytes Try.underlying22 Try.underlying5 Try.cellsB h0
  clear hA0 hval0
  simp only [List.append_nil] at hW'
  have hlt0 : ∀ x ∈ p0, x.block < W.heap.size := fun x hx => hW'.lt x (by simp [hx])
  refine (fnNetTurn a0 cap0 n0 W hc0 h630 hb0).mono fun e W' ⟨he, hs⟩ => ?_
  subst he
  have hb := since_below' hs
  have ht0 : ∀ sp : Nat → Bool, (∀ x ∈ p0, sp x.block = true) → DataW.Trod enc Try.prog W' 0 sp true 22 (.slice a0 n0 cap0) d0 p0 := fun sp hsp =>
    WideElems.Trod_stays Try.laidOut (by kernel_rfl) (of_decide_eq_true (by kernel_rfl)) h0 (fun x hx => hb.same (hlt0 x hx)) hsp
  have hargs : ∀ sp : Nat → Bool, (∀ x ∈ (p0), sp x.block = true) → DataW.TrodAll enc Try.prog W' 0 sp true [22] [.slice a0 n0 cap0] [d0] (p0) := fun sp hsp => by
    have := trodAll_mk1 (enc := enc) (P := Try.prog) (w := W') (base := 0) (spare := sp) (held := true) (ht0 sp (fun x hx => hsp x (by simp [hx])))
    simpa using this
  exact ⟨_, rfl, post_of_below (pa := p0) (pv := []) hW' (fun _ _ _ => trodAll_mk1 (shut_bool Try.underlying4 true)) (fun sp hsp => hargs sp (fun x hx => hsp x (by simpa using hx))) (fun _ _ => rfl) (by simp) hb rfl⟩

theorem FnNetTurn_holds : Rows.FnNetTurnSaid :=
  OpenClaim.holds_of_wide 8 Try.f8 rfl rfl rfl rfl rfl rfl rfl ⟨rfl, rfl, rfl, rfl, rfl⟩ rfl rfl rfl rfl rfl (by kernel_rfl) Try.func8 (by kernel_rfl)
    (of_decide_eq_true (by kernel_rfl)) (by unfold Func.isWrapper; first | (rw [if_pos (by decide +kernel)]; kernel_rfl) | (rw [if_neg (by decide +kernel)]; exact ⟨rfl, rfl⟩))
    (fun os started H enc _ => lifted_FnNetTurn os started H enc)

end Go.Proofs.Ytggmiojhglkcgaa
end
