import Derived.Test.YtpimdgijjljejaaDoorTurnSpec
import Derived.Deep.QuietTactic
import Derived.Deep.AppendLies
import Derived.Deep.RegionHeld3
import Derived.Test.YtpimdgijjljejaaDoorHarn2
import Derived.Test.YtpimdgijjljejaaDoorOrdF
import Derived.Test.YtpimdgijjljejaaDoorL2Square
import Derived.Test.YtpimdgijjljejaaDoorGrid
import Derived.Test.YtpimdgijjljejaaDoorPartPure
import Derived.Test.YtpimdgijjljejaaDoorCopy
import Derived.Test.YtpimdgijjljejaaDoorRowsF
import Derived.Test.YtpimdgijjljejaaDoorHalfF
import Derived.Test.YtpimdgijjljejaaDoorSeqD
import Derived.Test.YtpimdgijjljejaaDoorPairL
import Derived.Test.YtpimdgijjljejaaDoorTrail
import Derived.Test.YtpimdgijjljejaaDoorImpl1
import Derived.Laws.EntriesVeiled
import Derived.Test.YtpimdgijjljejaaDoorDet
import Derived.Test.YtpimdgijjljejaaDoorPartImpl
import Derived.Test.YtpimdgijjljejaaDoorPlainF
import Derived.Test.YtpimdgijjljejaaDoorRound
import Derived.Scope
import Derived.Test.YtpimdgijjljejaaDoorSumSpec
import Derived.Test.YtpimdgijjljejaaDoorSwapped
import Derived.Test.YtpimdgijjljejaaDoorAddImpl
import Derived.Test.YtpimdgijjljejaaDoorAddSpec
import Derived.Test.YtpimdgijjljejaaDoorTimesSpec
import Derived.Test.YtpimdgijjljejaaDoorTimesImpl
import Derived.Test.YtpimdgijjljejaaDoorTurnImpl
import Derived.Test.YtpimdgijjljejaaDoorHalfP
import Derived.Test.YtpimdgijjljejaaDoorRoads
import Derived.Test.YtpimdgijjljejaaDoorPivotsI
import Derived.Test.YtpimdgijjljejaaDoorOrdDet
import Derived.Test.YtpimdgijjljejaaDoorRows
import Derived.Test.YtpimdgijjljejaaDoorData
import Derived.ProofKit
import Derived.Deep.Matrix
import Derived.Test.YtpimdgijjljejaaDoorTie
import Derived.LaidMore
import Derived.OpenShut
import Derived.Stop.Joined
import Derived.Test.YtpimdgijjljejaaDoorCards
import Derived.SevenTiedAt

section
namespace Go.Proofs.YtpimdgijjljejaaDoor
open Go.RowKit Go.Deep

theorem World.grownBy_refl (w : World) (row : Option Nat) : w.grownBy w row := ⟨rfl, rfl, rfl, Nat.le_refl _, fun _ _ _ => rfl⟩
theorem grown_trans {a b c : World} {row : Option Nat} (h : a.grownBy b row) (k : b.grownBy c row) : a.grownBy c row :=
  ⟨k.os.trans h.os, k.tape.trans h.tape, k.output.trans h.output, Nat.le_trans h.size k.size, fun i hi hn => (k.block i (Nat.lt_of_lt_of_le hi h.size) hn).trans (h.block i hi hn)⟩
theorem grown_since {a b : World} (row : Option Nat) (h : a.Since a.heap.size b) : a.grownBy b row := ⟨h.os, h.tape, h.output, h.size, fun i hi _ => h.block i hi⟩
theorem grown_of {a b : World} {row row' : Option Nat} (h : a.grownBy b row) (hr : ∀ k, row = some k → a.heap.size ≤ k ∨ some k = row') : a.grownBy b row' :=
  ⟨h.os, h.tape, h.output, h.size, fun i hi hn => h.block i hi (fun e => by
    rcases hr i e.symm with h1 | h1
    · omega
    · exact hn h1)⟩
theorem since_grown {a b : World} {G B : Nat} (h : a.grownBy b (some G)) (hG : B ≤ G) (hB : B ≤ a.heap.size) : a.Since B b :=
  ⟨h.os, h.tape, h.output, h.size, fun i hi => h.block i (by omega) (fun e => by injection e with e; omega)⟩

def BytR (w : World) (a : Option Addr) (n : Nat) : Prop :=
  0 < n → ∃ b o, a = some ⟨b, o, none⟩ ∧ ∀ i, i < n → ∃ z : Nat, z ≤ 255 ∧ w.cell? ⟨b, o + i, none⟩ = some (.int .u8 z)
theorem BytR.since {w w' : World} {a : Option Addr} {n : Nat} (h : BytR w a n) (hs : w.Since w.heap.size w') : BytR w' a n := by
  intro h0
  obtain ⟨b, o, e, hc⟩ := h h0
  refine ⟨b, o, e, fun i hi => ?_⟩
  obtain ⟨z, h1, h2⟩ := hc i hi
  exact ⟨z, h1, (hs.cell (a := ⟨b, o + i, none⟩) (World.block_lt_of_cell? _ _ h2)).trans h2⟩

structure RD (w0 w : World) (G : Nat) (a : Option Addr) (n c : Nat) (tr : TypeId) (p : Nat) : Prop where
  blk : w.heap[G]? = some (.cells #[.slice a n c, .int .i64 p] tr (0, 0))
  base : w0.heap.size ≤ G
  since : w0.Since w0.heap.size w
  bytes : BytR w0 a n
  small : n ≤ 2000
theorem RD.lt {w0 w : World} {G : Nat} {a : Option Addr} {n c : Nat} {tr : TypeId} {p : Nat} (h : RD w0 w G a n c tr p) : G < w.heap.size := (Array.getElem?_eq_some_iff.1 h.blk).1
theorem RD.cell0 {w0 w : World} {G : Nat} {a : Option Addr} {n c : Nat} {tr : TypeId} {p : Nat} (h : RD w0 w G a n c tr p) : w.cell? ⟨G, 0, none⟩ = some (.slice a n c) := by simp [World.cell?, h.blk]
theorem RD.cell1 {w0 w : World} {G : Nat} {a : Option Addr} {n c : Nat} {tr : TypeId} {p : Nat} (h : RD w0 w G a n c tr p) : w.cell? ⟨G, 1, none⟩ = some (.int .i64 p) := by simp [World.cell?, h.blk]
theorem RD.free1 {w0 w : World} {G : Nat} {a : Option Addr} {n c : Nat} {tr : TypeId} {p : Nat} (h : RD w0 w G a n c tr p) : w.frozen? ⟨G, 1, none⟩ = false := by simp [World.frozen?, h.blk]
theorem RD.set {w0 w : World} {G : Nat} {a : Option Addr} {n c : Nat} {tr : TypeId} {p : Nat} (h : RD w0 w G a n c tr p) (q : Nat) : RD w0 (w.setCell ⟨G, 1, none⟩ (.int .i64 q)) G a n c tr q :=
  ⟨by simp [World.setCell, Array.getElem?_modify, h.blk], h.base, h.since.setCell h.base _, h.bytes, h.small⟩
theorem RD.later {w0 w w' : World} {G : Nat} {a : Option Addr} {n c : Nat} {tr : TypeId} {p : Nat} (h : RD w0 w G a n c tr p) (hs : w.Since w.heap.size w') : RD w0 w' G a n c tr p :=
  ⟨(hs.block G h.lt).trans h.blk, h.base, h.since.trans (since_mono hs h.since.size), h.bytes, h.small⟩
theorem RD.grown {w0 w w' : World} {G : Nat} {a : Option Addr} {n c : Nat} {tr : TypeId} {p : Nat} {row : Option Nat} (h : RD w0 w G a n c tr p) (hg : w.grownBy w' row) (hr : ∀ k, row = some k → G < k) : RD w0 w' G a n c tr p :=
  ⟨(hg.block G h.lt (fun e => by have := hr G e.symm; omega)).trans h.blk, h.base, h.since.grown hg h.since.size (fun k e => by have := hr k e; have := h.base; omega), h.bytes, h.small⟩

def RW (B : Nat) (w : World) (v : Value) (x : List Int) : Prop := w.ownsRow B 3 1 v x.length (x.map (Value.int .i64))
theorem RW.kept {B : Nat} {w w' : World} {v : Value} {x : List Int} {G : Nat} (h : RW B w v x) (hg : w.grownBy w' (some G)) (hG : G < B) : RW B w' v x :=
  World.ownsRow.kept h hg (by
    cases hv : v.ownBlock with
    | none => exact .inl rfl
    | some k => exact .inr (fun e => by injection e with e; have := (World.ownsRow.lt h k hv).1; omega))
theorem RW.base {B B' : Nat} {w : World} {v : Value} {x : List Int} (h : RW B w v x) (hB : B' ≤ B) : RW B' w v x := by
  refine ⟨h.1, ?_⟩
  rcases h.2 with h1 | ⟨g, cap, cur, e, hb, hr⟩
  · exact .inl h1
  · exact .inr ⟨g, cap, cur, e, by omega, hr⟩
theorem RW.form {B : Nat} {w : World} {v : Value} {x : List Int} (h : RW B w v x) (h0 : 0 < x.length) : ∃ g cap, v = .slice (some ⟨g, 0, none⟩) x.length cap ∧ B ≤ g ∧ RowB w g x := RowB.of_owns h h0
theorem RW.set {B : Nat} {w : World} {g cap k : Nat} {x : List Int} (h : RW B w (.slice (some ⟨g, 0, none⟩) x.length cap) x) (_hk : k < x.length) (y : Int) : RW B (w.setCell ⟨g, k, none⟩ (.int .i64 y)) (.slice (some ⟨g, 0, none⟩) x.length cap) (x.set k y) := by
  rcases h.2 with ⟨e, _⟩ | ⟨g', cap', cur, e, hb, hg, hn, hm, hs, ht⟩
  · cases e
  · injection e with e1 e2 e3
    injection e1 with e1
    injection e1 with e1
    subst e1; subst e3
    refine ⟨by simp, .inr ⟨g, cap, cur.setIfInBounds k (.int .i64 y), by rw [List.length_set], hb, ?_, by rw [List.length_set]; exact hn, hm, by simpa using hs, ?_⟩⟩
    · simp [World.setCell, Array.getElem?_modify, hg]
    · rw [List.length_set, Nat.mul_one]
      rw [Nat.mul_one] at ht
      rw [List.map_set, ← ht]
      simp [List.take_set]

structure BD (B : Nat) (w : World) (v : Value) (l : List (List Int)) (A : Nat → Option Addr) (C : Nat → Nat) : Prop where
  own : w.ownsRow B 47 1 v l.length ((List.range l.length).map fun r => .slice (A r) (l.getD r []).length (C r))
  rows : ∀ r, r < l.length → 0 < (l.getD r []).length ∧ RW B w (.slice (A r) (l.getD r []).length (C r)) (l.getD r [])
  apart : ∀ r r', r < l.length → r' < l.length → A r = A r' → r = r'
theorem BD.start (w : World) (A : Nat → Option Addr) (C : Nat → Nat) {B : Nat} (hB : B ≤ w.heap.size) : BD B (w.alloc (.cells #[] 47)) (.slice (some ⟨w.heap.size, 0, none⟩) 0 0) [] A C :=
  ⟨World.ownsRow_made w #[] 0 hB (Nat.zero_le _) rfl, fun r hr => by simp at hr, fun r _ hr => by simp at hr⟩
theorem BD.kept {B : Nat} {w w' : World} {v : Value} {l : List (List Int)} {A : Nat → Option Addr} {C : Nat → Nat} {G : Nat} (h : BD B w v l A C) (hg : w.grownBy w' (some G)) (hG : G < B) : BD B w' v l A C :=
  ⟨World.ownsRow.kept h.own hg (by
      cases hv : v.ownBlock with
      | none => exact .inl rfl
      | some k => exact .inr (fun e => by injection e with e; have := (h.own.lt k hv).1; omega)),
    fun r hr => ⟨(h.rows r hr).1, (h.rows r hr).2.kept hg hG⟩, h.apart⟩
theorem BD.later {B : Nat} {w w' : World} {v : Value} {l : List (List Int)} {A : Nat → Option Addr} {C : Nat → Nat} (h : BD B w v l A C) (hs : w.Since w.heap.size w') : BD B w' v l A C := by
  have hg : w.grownBy w' none := grown_since none hs
  refine ⟨World.ownsRow.kept h.own hg ?_, fun r hr => ⟨(h.rows r hr).1, World.ownsRow.kept (h.rows r hr).2 hg ?_⟩, h.apart⟩
  · cases hv : v.ownBlock <;> simp
  · cases hv : (Value.slice (A r) (l.getD r []).length (C r)).ownBlock <;> simp
theorem BD.row {B : Nat} {w : World} {v : Value} {l : List (List Int)} {A : Nat → Option Addr} {C : Nat → Nat} (h : BD B w v l A C) {r : Nat} (hr : r < l.length) : ∃ g, A r = some ⟨g, 0, none⟩ ∧ B ≤ g ∧ RowB w g (l.getD r []) := by
  obtain ⟨g, cap, e, hb, hw⟩ := (h.rows r hr).2.form (h.rows r hr).1
  injection e with e _ _
  exact ⟨g, e, hb, hw⟩
theorem BD.top {B : Nat} {w : World} {v : Value} {l : List (List Int)} {A : Nat → Option Addr} {C : Nat → Nat} (h : BD B w v l A C) (h0 : 0 < l.length) : ∃ b cap cur, v = .slice (some ⟨b, 0, none⟩) l.length cap ∧ B ≤ b ∧ w.heap[b]? = some (.cells cur 47 (0, 0)) ∧ ∀ r, r < l.length → cur[r]? = some (.slice (A r) (l.getD r []).length (C r)) := by
  rcases h.own.2 with ⟨_, hn⟩ | ⟨g, cap, cur, e, hb, hg, hn, _, hs, ht⟩
  · omega
  · refine ⟨g, cap, cur, e, hb, hg, fun r hr => ?_⟩
    have h1 : (cur.toList.take (l.length * 1))[r]? = some (.slice (A r) (l.getD r []).length (C r)) := by rw [ht]; simp [hr]
    rw [List.getElem?_take] at h1
    have h2 : r < l.length ∧ cur[r]? = some (.slice (A r) (l.getD r []).length (C r)) := by simpa using h1
    exact h2.2
theorem BD.push {B : Nat} {w w1 : World} {v v' : Value} {l : List (List Int)} {A : Nat → Option Addr} {C : Nat → Nat} {x : List Int} {a : Option Addr} {cp : Nat} (h : BD B w v l A C) (h0 : 0 < x.length) (hx : RW B w (.slice a x.length cp) x)
    (hfresh : ∀ r, r < l.length → A r ≠ a)
    (hown : w1.ownsRow B 47 1 v' (l.length + 1) (((List.range l.length).map fun r => .slice (A r) (l.getD r []).length (C r)) ++ [.slice a x.length cp])) (hg : (w.alloc (.cells #[.slice a x.length cp] 47)).grownBy w1 v.ownBlock) :
    BD B w1 v' (l ++ [x]) (fun r => if r = l.length then a else A r) (fun r => if r = l.length then cp else C r) := by
  have hkeep : ∀ (u : Value) (y : List Int), 0 < y.length → RW B w u y → RW B w1 u y := by
    intro u y hy hu
    refine World.ownsRow.kept (World.ownsRow.alloc hu _) hg ?_
    obtain ⟨g, cap, e, _, cs, hc, _⟩ := hu.form hy
    subst e
    refine .inr fun e => ?_
    rcases h.own.2 with ⟨rfl, _⟩ | ⟨g', cap', cur, rfl, _, hgg, _⟩
    · cases e
    · injection e with e
      have e : g = g' := e
      rw [← e, hc] at hgg
      injection hgg with hgg
      injection hgg with _ e2 _
      exact absurd e2 (by decide)
  have e4 : ∀ q, q < l.length → (l ++ [x]).getD q [] = l.getD q [] := fun q hq => by simp [List.getD, List.getElem?_append_left hq]
  have e5 : (l ++ [x]).getD l.length [] = x := by simp [List.getD]
  have e6 : (l ++ [x]).length = l.length + 1 := by simp
  refine ⟨?_, fun r hr => ?_, fun r r' hr hr' e => ?_⟩
  · rw [e6, List.range_succ, List.map_append]
    have e2 : (List.range l.length).map (fun r => Value.slice (if r = l.length then a else A r) ((l ++ [x]).getD r []).length (if r = l.length then cp else C r)) = (List.range l.length).map fun r => .slice (A r) (l.getD r []).length (C r) := by
      refine List.map_congr_left fun r hr => ?_
      have hr' := List.mem_range.1 hr
      rw [if_neg (by omega), if_neg (by omega), e4 r hr']
    rw [e2]
    simpa [e5] using hown
  · by_cases e : r = l.length
    · subst e
      rw [e5, if_pos rfl, if_pos rfl]
      exact ⟨h0, hkeep _ _ h0 hx⟩
    · rw [e6] at hr
      rw [e4 r (by omega), if_neg e, if_neg e]
      exact ⟨(h.rows r (by omega)).1, hkeep _ _ (h.rows r (by omega)).1 (h.rows r (by omega)).2⟩
  · rw [e6] at hr hr'
    by_cases e1 : r = l.length <;> by_cases e2 : r' = l.length
    · omega
    · rw [if_pos e1, if_neg e2] at e
      exact absurd e.symm (hfresh r' (by omega))
    · rw [if_neg e1, if_pos e2] at e
      exact absurd e (hfresh r (by omega))
    · rw [if_neg e1, if_neg e2] at e
      exact h.apart r r' (by omega) (by omega) e
theorem BD.fresh {B : Nat} {w : World} {v : Value} {l : List (List Int)} {A : Nat → Option Addr} {C : Nat → Nat} (h : BD B w v l A C) {a : Option Addr} {g : Nat} (ha : a = some ⟨g, 0, none⟩) (hg : w.heap.size ≤ g) : ∀ r, r < l.length → A r ≠ a := by
  intro r hr e
  obtain ⟨g', e', _, hw⟩ := h.row hr
  have := hw.lt
  rw [e', ha] at e
  injection e with e; injection e with e
  omega
theorem BD.matR {B : Nat} {w : World} {v : Value} {l : List (List Int)} {A : Nat → Option Addr} {C : Nat → Nat} (h : BD B w v l A C) : ∃ a cap, v = .slice a l.length cap ∧ MatR w a l := by
  by_cases h0 : 0 < l.length
  · obtain ⟨b, cap, cur, e, _, hg, hc⟩ := h.top h0
    refine ⟨_, cap, e, fun _ => ⟨b, 0, A, C, rfl, fun r hr => ⟨?_, fun h1 => ?_⟩⟩⟩
    · rw [Nat.zero_add]; simp [World.cell?, hg, hc r hr]
    · obtain ⟨g, e, _, hw⟩ := h.row hr
      exact ⟨g, 0, e, fun i hi => by rw [Nat.zero_add]; exact hw.cell hi⟩
  · rcases h.own.2 with ⟨hv, hn⟩ | ⟨g, cap, cur, e, _⟩
    · exact ⟨none, 0, by rw [hv, hn], fun h => absurd h h0⟩
    · exact ⟨_, cap, e, fun h => absurd h h0⟩

end Go.Proofs.YtpimdgijjljejaaDoor
end

section
namespace Go.Proofs.YtpimdgijjljejaaDoor
open Go.RowKit Go.Deep

theorem grown_drewN {a b : World} {row : Option Nat} (h : a.grownBy b row) (q : Nat) : a.grownBy (b.drewN q) row := ⟨h.os, h.tape, h.output, h.size, h.block⟩
theorem xor_i64_nat (a b : Nat) (ha : a < 2 ^ 62) (hb : b < 2 ^ 62) : bits .xor .i64 (a : Int) (b : Int) = ((a ^^^ b : Nat) : Int) := by
  have hx : a ^^^ b < 2 ^ 62 := Nat.xor_lt_two_pow ha hb
  have h1 : (BitVec.ofInt 64 (a : Int)).toNat = a := by
    rw [BitVec.ofInt_natCast, BitVec.toNat_ofNat]; exact Nat.mod_eq_of_lt (by omega)
  have h2 : (BitVec.ofInt 64 (b : Int)).toNat = b := by
    rw [BitVec.ofInt_natCast, BitVec.toNat_ofNat]; exact Nat.mod_eq_of_lt (by omega)
  show IntKind.i64.wrap ((BitVec.ofInt 64 (a : Int) ^^^ BitVec.ofInt 64 (b : Int)).toNat : Int) = _
  rw [BitVec.toNat_xor, h1, h2]
  exact IntWalk.i64_in _ ⟨by omega, by omega⟩

set_option maxRecDepth 100000 in
set_option maxHeartbeats 2000000 in
theorem pick_any (w0 w : World) (G n c p : Nat) (a : Option Addr) (m : Int) (h : RD w0 w G a n c 60 p) (hp : p ≤ 100000) :
    Calls Tryd.prog 38 #[.pointer (some ⟨G, 0, none⟩), .int .i64 m] w fun e w' => ∃ x : Nat, e = .returned (.int .i64 x) ∧ ((x : Int) < m ∨ x = 0) ∧ w.grownBy w' (some G) ∧ RD w0 w' G a n c 60 (p + 1) := by
  have e0 := h.cell0
  have e1 := h.cell1
  have e2 := h.free1
  have hs := h.set (p + 1)
  have hwp : IntKind.i64.wrap ((p : Int) + 1) = (p : Int) + 1 := IntWalk.i64_in _ ⟨by omega, by omega⟩
  have hc : ((p + 1 : Nat) : Int) = (p : Int) + 1 := by omega
  have hgr : w.grownBy (w.setCell ⟨G, 1, none⟩ (.int .i64 (p + 1 : Nat))) (some G) := ⟨rfl, rfl, rfl, by simp, fun k _ hk => Below.heap_setCell _ _ _ _ (fun e => hk (by rw [e]))⟩
  rw [hc] at hs hgr
  have s0 := hs.cell0
  have s1 := hs.cell1
  rw [hc] at s1
  have hsm := hs.small
  have hbb := hs.bytes.since hs.since
  have HS := Lib.hid hs
  have HG := Lib.hid hgr
  have HB := Lib.hid hbb
  clear hs hgr h hbb hc
  by_cases hm : m < 1
  · go_enter Tryd.func38, Tryd.ntmps38
    go_wp2
    go_wp2
    go_ret
    exact ⟨0, rfl, .inr rfl, HG.out, HS.out⟩
  · obtain ⟨M, rfl⟩ := Int.eq_ofNat_of_zero_le (show 0 ≤ m by omega)
    have hM1 : 1 ≤ M := by omega
    have hd : decide ((M : Int) < 1) = false := by simp; omega
    by_cases hn : n = 0
    · subst hn
      go_enter Tryd.func38, Tryd.ntmps38
      go_wp2
      go_wp2
      go_ret
      exact ⟨0, rfl, .inr rfl, HG.out, HS.out⟩
    · have hn1 : 1 ≤ n := by omega
      have hnb : ((n : Int) == 0) = false := by simp; omega
      obtain ⟨b, o, rfl, hb⟩ := HB.out (by omega)
      have hwm : IntKind.i64.wrap ((p : Int) + 1 - 1) = (p : Int) := by rw [show (p : Int) + 1 - 1 = p by omega]; exact IntWalk.i64_in _ ⟨by omega, by omega⟩
      by_cases hlt : p < n
      · obtain ⟨z, hz, hzc⟩ := hb p hlt
        have hl : decide ((p : Int) < n) = true := by simp; omega
        clear hb
        go_enter Tryd.func38, Tryd.ntmps38
        go_wp2
        go_ret
        exact ⟨z % M, rfl, .inl (by have := Nat.mod_lt z hM1; omega), HG.out, HS.out⟩
      · have hl : decide ((p : Int) < n) = false := by simp; omega
        obtain ⟨q1, hq1, hql1⟩ : ∃ q : Nat, (p : Int) % (n : Int) = q ∧ q < n := ⟨p % n, (Int.natCast_emod p n).symm, Nat.mod_lt _ (by omega)⟩
        obtain ⟨q2, hq2, hql2⟩ : ∃ q : Nat, ((p : Int) * 7 + 3) % (n : Int) = q ∧ q < n := ⟨(p * 7 + 3) % n, by rw [Int.natCast_emod]; simp, Nat.mod_lt _ (by omega)⟩
        obtain ⟨dd, hdd, hdl⟩ : ∃ q : Nat, (p : Int) / (n : Int) = q ∧ q ≤ p := ⟨p / n, (Int.natCast_ediv p n).symm, Nat.div_le_self _ _⟩
        obtain ⟨z1, hz1, hzc1⟩ := hb q1 hql1
        obtain ⟨z2, hz2, hzc2⟩ := hb q2 hql2
        clear hb
        have w1 : IntKind.i64.wrap ((p : Int) * 7) = (p : Int) * 7 := IntWalk.i64_in _ ⟨by omega, by omega⟩
        have w2 : IntKind.i64.wrap ((p : Int) * 7 + 3) = (p : Int) * 7 + 3 := IntWalk.i64_in _ ⟨by omega, by omega⟩
        have w3 : IntKind.i64.wrap ((z1 : Int) * 131) = (z1 : Int) * 131 := IntWalk.i64_in _ ⟨by omega, by omega⟩
        have w4 : IntKind.i64.wrap ((z2 : Int) * 1117) = (z2 : Int) * 1117 := IntWalk.i64_in _ ⟨by omega, by omega⟩
        have w5 : IntKind.i64.wrap ((z1 : Int) * 131 + (z2 : Int) * 1117) = (z1 : Int) * 131 + (z2 : Int) * 1117 := IntWalk.i64_in _ ⟨by omega, by omega⟩
        have w6 : IntKind.i64.wrap ((p : Int) * 29) = (p : Int) * 29 := IntWalk.i64_in _ ⟨by omega, by omega⟩
        have w7 : IntKind.i64.wrap ((z1 : Int) * 131 + (z2 : Int) * 1117 + (p : Int) * 29) = (z1 : Int) * 131 + (z2 : Int) * 1117 + (p : Int) * 29 := IntWalk.i64_in _ ⟨by omega, by omega⟩
        have w8 : IntKind.i64.wrap ((dd : Int) * 53) = (dd : Int) * 53 := IntWalk.i64_in _ ⟨by omega, by omega⟩
        have w9 : IntKind.i64.wrap ((z1 : Int) * 131 + (z2 : Int) * 1117 + (p : Int) * 29 + (dd : Int) * 53) = (z1 : Int) * 131 + (z2 : Int) * 1117 + (p : Int) * 29 + (dd : Int) * 53 := IntWalk.i64_in _ ⟨by omega, by omega⟩
        go_enter Tryd.func38, Tryd.ntmps38
        go_wp2
        go_quiet (fail)
        obtain ⟨X, hX⟩ : ∃ X : Nat, (z1 : Int) * 131 + (z2 : Int) * 1117 + (p : Int) * 29 + (dd : Int) * 53 = X := ⟨z1 * 131 + z2 * 1117 + p * 29 + dd * 53, by omega⟩
        have hx : bits .xor .i64 (X : Int) ((X : Int) / 64) = ((X ^^^ X / 64 : Nat) : Int) := by
          rw [show ((X : Int) / 64) = ((X / 64 : Nat) : Int) by omega]
          exact xor_i64_nat _ _ (by omega) (by omega)
        obtain ⟨y, hy⟩ : ∃ y : Nat, bits .xor .i64 (X : Int) ((X : Int) / 64) = y := ⟨_, hx⟩
        clear hx
        go_wp2
        go_ret
        exact ⟨y % M, rfl, .inl (by have := Nat.mod_lt y hM1; omega), grown_drewN HG.out nq, HS.out.later (since_drewN (World.Since.refl _ _) nq)⟩

end Go.Proofs.YtpimdgijjljejaaDoor
end

section
namespace Go.Proofs.YtpimdgijjljejaaDoor
open Go.RowKit Go.Deep

theorem grown_new {a b c : World} {G : Nat} {row : Option Nat} (h : a.grownBy b (some G)) (k : b.grownBy c row) (hr : ∀ i, row = some i → a.heap.size ≤ i) : a.grownBy c (some G) :=
  ⟨k.os.trans h.os, k.tape.trans h.tape, k.output.trans h.output, Nat.le_trans h.size k.size, fun i hi hn => (k.block i (Nat.lt_of_lt_of_le hi h.size) (fun e => by have := hr i e.symm; omega)).trans (h.block i hi hn)⟩
theorem grown_alloc {a b : World} {G : Nat} (h : a.grownBy b (some G)) (o : Obj) : a.grownBy (b.alloc o) (some G) := grown_new h (World.grownBy_alloc b o none) (fun i e => by cases e)
theorem grown_set {a b : World} {G : Nat} (h : a.grownBy b (some G)) {g k : Nat} (hg : a.heap.size ≤ g) (v : Value) : a.grownBy (b.setCell ⟨g, k, none⟩ v) (some G) :=
  grown_new h (row := some g) ⟨rfl, rfl, rfl, by simp, fun i _ hi => Below.heap_setCell _ _ _ _ (fun e => hi (by rw [e]))⟩ (fun i e => by cases e; exact hg)
theorem cell_grown {a b : World} {G : Nat} {p : Addr} {v : Value} (h : a.cell? p = some v) (hg : a.grownBy b (some G)) (hp : p.block ≠ G) : b.cell? p = some v := hg.cell h (fun e => hp (by injection e))
theorem cell_set_far {w : World} {g j : Nat} {v : Value} {p : Addr} {u : Value} (h : w.cell? p = some u) (hne : p.block ≠ g) : (w.setCell ⟨g, j, none⟩ v).cell? p = some u := by
  rw [World.cell?_setCell_other _ _ _ _ (fun e => hne (by rw [← e]))]; exact h

theorem wpList_append_int {P : Program} (w : World) {ops : Array Oper} {rest : List Oper} {o : Oper} {a : Act} {Q : Exit → Act → World → Prop} (hgd : o.guard = none) (s x : Operand) (t : TypeId)
    (ho : o.op = .call { callee := .builtin .append, args := #[s, x], argTypes := #[t, t] }) (B : Nat) (i : TypeInfo) (ht : P.underlying t = some (.slice 3)) (hi : P.info? 3 = some i) (hz : i.zero = some (.int .i64 0)) (hsz : i.size = 1) (hby : i.bytes = 8)
    (v : Value) (xs : List Int) (hs : a.eval s = v) (h : RW B w v xs) (y : Int) (hx : a.eval x = .slice (some ⟨w.heap.size, 0, none⟩) 1 1) (hlen : xs.length ≤ 1000) (hB : B ≤ w.heap.size)
    (hK : ∀ v' w', RW B w' v' (xs ++ [y]) → w.grownBy w' v.ownBlock → wpList P ops Q rest (a.put o.dst v') w') : wpList P ops Q (o :: rest) a (w.alloc (.cells #[.int .i64 y] 3)) := by
  refine wpList_append_own _ hgd s x t ho B 3 i (.int .i64 0) 1 8 ht hi hz hsz hby rfl (by decide) v xs.length (xs.map (Value.int .i64)) hs (World.ownsRow.alloc h _) ⟨w.heap.size, 0, none⟩ 1 1 [.int .i64 y] hx rfl (cell_one_at _ _ _ rfl) (fun u hu => by simp at hu; subst hu; rfl) (by unfold maxLen; omega) (by omega) (by simp; omega) ?_
  intro v' w' hown hg _
  refine hK v' w' ?_ ⟨hg.os, hg.tape, hg.output, by have := hg.size; simp at this; omega, fun j hj hn => (hg.block j (by simp; omega) hn).trans (Below.heap_alloc _ _ _ hj)⟩
  unfold RW
  rw [List.length_append, List.map_append]
  exact hown

theorem wpList_append_row {P : Program} (w : World) {ops : Array Oper} {rest : List Oper} {o : Oper} {a : Act} {Q : Exit → Act → World → Prop} (hgd : o.guard = none) (s x : Operand) (t : TypeId)
    (ho : o.op = .call { callee := .builtin .append, args := #[s, x], argTypes := #[t, t] }) (B B' : Nat) (i : TypeInfo) (ht : P.underlying t = some (.slice 47)) (hi : P.info? 47 = some i) (hz : i.zero = some (.slice none 0 0)) (hsz : i.size = 1) (hby : i.bytes = 24)
    (v : Value) (l : List (List Int)) (A : Nat → Option Addr) (C : Nat → Nat) (hs : a.eval s = v) (h : BD B w v l A C) (g cp m : Nat) (y : List Int) (hy : y.length = m) (h0 : 0 < m) (hr : RW B' w (.slice (some ⟨g, 0, none⟩) m cp) y) (hfresh : ∀ r, r < l.length → A r ≠ some ⟨g, 0, none⟩)
    (hBB : B ≤ B') (hx : a.eval x = .slice (some ⟨w.heap.size, 0, none⟩) 1 1) (hlen : l.length ≤ 1000) (hB : B ≤ w.heap.size)
    (hK : ∀ v' w' A' C', BD B w' v' (l ++ [y]) A' C' → w.grownBy w' v.ownBlock → wpList P ops Q rest (a.put o.dst v') w') : wpList P ops Q (o :: rest) a (w.alloc (.cells #[.slice (some ⟨g, 0, none⟩) m cp] 47)) := by
  subst hy
  refine wpList_append_own _ hgd s x t ho B 47 i (.slice none 0 0) 1 24 ht hi hz hsz hby rfl (by decide) v l.length _ hs (h.own.alloc _) ⟨w.heap.size, 0, none⟩ 1 1 [.slice (some ⟨g, 0, none⟩) y.length cp] hx rfl (cell_one_at _ _ _ rfl) (fun u hu => by simp at hu; subst hu; rfl) (by unfold maxLen; omega) (by omega) (by simp; omega) ?_
  intro v' w' hown hg _
  refine hK v' w' _ _ (h.push h0 (hr.base hBB) hfresh hown hg) ⟨hg.os, hg.tape, hg.output, by have := hg.size; simp at this; omega, fun j hj hn => (hg.block j (by simp; omega) hn).trans (Below.heap_alloc _ _ _ hj)⟩

end Go.Proofs.YtpimdgijjljejaaDoor
end

section
namespace Go.Proofs.YtpimdgijjljejaaDoor
open Go.RowKit Go.Deep

theorem RW.set' {B : Nat} {w : World} {g cap k m : Nat} {x : List Int} (hm : x.length = m) (h : RW B w (.slice (some ⟨g, 0, none⟩) m cap) x) (hk : k < m) (y : Int) : RW B (w.setCell ⟨g, k, none⟩ (.int .i64 y)) (.slice (some ⟨g, 0, none⟩) m cap) (x.set k y) := by
  subst hm; exact h.set hk y
theorem RW.rowB {B : Nat} {w : World} {g k cap : Nat} {x : List Int} (h : RW B w (.slice (some ⟨g, 0, none⟩) k cap) x) (h0 : 0 < x.length) : B ≤ g ∧ RowB w g x := by
  obtain ⟨g', cap', e, h1, h2⟩ := h.form h0
  injection e with e
  injection e with e
  injection e with e
  subst e
  exact ⟨h1, h2⟩
theorem grown_set_any (w : World) (g k : Nat) (v : Value) : w.grownBy (w.setCell ⟨g, k, none⟩ v) (some g) := ⟨rfl, rfl, rfl, by simp, fun i _ hi => Below.heap_setCell _ _ _ _ (fun e => hi (by rw [e]))⟩
theorem grown_undrew' {W w' : World} {row : Option Nat} (h : W.drew.grownBy w' row) : W.grownBy w' row := ⟨h.os, h.tape, h.output, h.size, h.block⟩
theorem lens_snoc {l : List (List Int)} {x : List Int} {r m : Nat} (hl : l.length = r) (h : ∀ j, j < r → (l.getD j []).length = m) (hx : x.length = m) : ∀ j, j < r + 1 → ((l ++ [x]).getD j []).length = m := by
  intro j hj
  by_cases e : j = r
  · subst e; subst hl; simpa [List.getD] using hx
  · rw [show (l ++ [x]).getD j [] = l.getD j [] by simp [List.getD, List.getElem?_append_left (show j < l.length by omega)]]
    exact h j (by omega)

set_option maxRecDepth 100000 in
set_option maxHeartbeats 8000000 in
theorem l91Table_any (w0 w : World) (G nb c p n m : Nat) (a : Option Addr) (h : RD w0 w G a nb c 60 p) (hn : n ≤ 10) (hm1 : 1 ≤ m) (hm : m ≤ 10) (hp : p ≤ 50000) :
    Calls Tryd.prog 39 #[.pointer (some ⟨G, 0, none⟩), .int .i64 n, .int .i64 m] w fun e w' => ∃ v l A C p', e = .returned v ∧ l.length = n ∧ (∀ j, j < n → (l.getD j []).length = m) ∧ w.grownBy w' (some G) ∧ RD w0 w' G a nb c 60 p' ∧ p' ≤ p + 500 ∧ BD w.heap.size w' v l A C := by
  obtain ⟨i42, hi42⟩ := info42_parts
  obtain ⟨i3, hi3⟩ := info3_parts
  have HI := Lib.hid hi42
  have HJ := Lib.hid hi3
  have hG := h.lt
  have HRD := Lib.hid h
  clear h hi42 hi3
  go_enter Tryd.func39, Tryd.ntmps39
  go_wp2_with fail
  refine (pick_any w0 _ G nb c _ a _ (HRD.out.grown (World.grownBy_alloc w _ none) (fun k e => by cases e)) (by omega)).mono ?_
  rintro e w1 ⟨κ, rfl, hκ, hg, hd⟩
  have hk : κ = 0 ∨ κ = 1 ∨ κ = 2 ∨ κ = 3 := by omega
  have HST := Lib.hid ((BD.start w (fun _ => none) (fun _ => 0) (Nat.le_refl _)).kept hg hG)
  have HG1 := Lib.hid (grown_trans (World.grownBy_alloc w _ _) hg)
  have HD1 := Lib.hid hd
  clear hg hd hκ HRD
  go_wp2
  go_loopg [7, 9, 10, 11, 12, 13] n (fun g v i _ _ _ _ wr => ∃ r A C p' l, r ≤ n ∧ g = n - r ∧ i = .int .i64 (r : Nat) ∧ List.length l = r ∧ (∀ j, j < r → (List.getD l j []).length = m) ∧ w.grownBy wr (some G) ∧ RD w0 wr G a nb c 60 p' ∧ p' ≤ p + 1 + 40 * r ∧ BD w.heap.size wr v l A C)
  case atStart => exact ⟨0, _, _, _, [], Nat.zero_le _, rfl, rfl, rfl, fun j hj => by omega, HG1.out, HD1.out, by omega, HST.out⟩
  case round =>
    obtain ⟨r, A, C, p', l, hr, rfl, rfl, hl, hlm, hgw, hd, hp', hB⟩ := hrel
    clear HST HG1 HD1
    by_cases hlt : r < n
    · have HB := Lib.hid hB
      have HGW := Lib.hid hgw
      have HD := Lib.hid hd
      have hzw := hgw.size
      obtain ⟨wo, hwo⟩ : ∃ wo : World, wo = wr := ⟨_, rfl⟩
      clear hB hgw hd
      go_wp2
      subst hwo
      go_loopg [10, 11, 12] m (fun g v k _ wi => ∃ q x p'', q ≤ m ∧ g = m - q ∧ k = .int .i64 (q : Nat) ∧ List.length x = q ∧ wo.grownBy wi (some G) ∧ RD w0 wi G a nb c 60 p'' ∧ p'' ≤ p' + 2 * q ∧ RW wo.heap.size wi v x)
      case atStart => exact ⟨0, [], p', Nat.zero_le _, rfl, rfl, rfl, World.grownBy_alloc _ _ _, HD.out.grown (World.grownBy_alloc _ _ none) (fun k e => by cases e), by omega, World.ownsRow_made wo #[] 0 (Nat.le_refl _) (Nat.zero_le _) rfl⟩
      case round =>
        obtain ⟨q, x, p'', hq, rfl, rfl, hxl, hgi, hdi, hp'', hW⟩ := hrel
        clear HD
        have HD := Lib.hid hdi
        have HG := Lib.hid hgi
        have HW := Lib.hid hW
        have hz1 := hgi.size
        clear hdi hgi hW
        by_cases hlq : q < m
        · rcases hk with rfl | rfl | rfl | rfl
          all_goals
            go_wp2_with (first
              | (go_at_call 38; refine (pick_any w0 _ G nb c _ a _ HD.out (by omega)).mono ?_; rintro e w2 ⟨y, rfl, _, hg, hd⟩; have HW := Lib.hid (HW.out.kept hg (by omega)); have HG := Lib.hid (grown_trans HG.out hg); have HD := Lib.hid hd; have hz2 := HG.out.size; clear hd hg)
              | (at_builtin; (refine wpList_append_int _ rfl (.tmp 42) (.tmp 44) 47 rfl wo.heap.size i3 Tryd.underlying47 HJ.out.1 HJ.out.2.1 HJ.out.2.2.1 HJ.out.2.2.2 _ x rfl HW.out _ rfl (by omega) (by omega) ?_); intro v' w3 hrw hgr; have hge := fun i e => (World.ownsRow.lt HW.out i e).1; have HD := Lib.hid (HD.out.grown hgr (fun i e => by have := hge i e; omega)); have HG := Lib.hid (grown_new HG.out hgr hge); have HW := Lib.hid hrw; clear hgr hrw hge))
            go_roundg (m - (q + 1))
            case measure => omega
            case rel => exact ⟨q + 1, x ++ [_], _, by omega, rfl, by go_num, by rw [List.length_append, hxl]; rfl, HG.out, HD.out, by omega, HW.out⟩
        · have hqm : m = q := by omega
          subst hqm
          obtain ⟨g1, cp1, hv, hge, hrb⟩ := HW.out.form (by omega)
          rw [hxl] at hv
          subst hv
          clear hrb
          rcases hk with rfl | rfl | rfl | rfl
          · go_wp2_with (first
              | (at_builtin; (refine wpList_append_row _ rfl (.tmp 77) (.tmp 79) 23 rfl w.heap.size wo.heap.size i42 Tryd.underlying23 HI.out.1 HI.out.2.1 HI.out.2.2.1 HI.out.2.2.2 _ l A C rfl (HB.out.kept HG.out hG) g1 cp1 m x hxl (by omega) HW.out (HB.out.fresh rfl hge) hzw rfl (by omega) (by omega) ?_); intro v' w3 A' C' hbd hgr; have hbge := fun i e => (World.ownsRow.lt (HB.out.kept HG.out hG).own i e).1; have HD := Lib.hid (HD.out.grown hgr (fun i e => by have := hbge i e; omega)); have HGG := Lib.hid (grown_new (grown_trans HGW.out HG.out) hgr hbge); have HBD := Lib.hid hbd; clear hgr hbd hbge))
            go_roundg (n - (r + 1))
            case measure => omega
            case rel => exact ⟨r + 1, A', C', _, l ++ [x], by omega, rfl, by go_num, by rw [List.length_append, hl]; rfl, lens_snoc hl hlm hxl, HGG.out, HD.out, by omega, HBD.out⟩
          · go_wp2_with (first
              | (at_builtin; (refine wpList_append_row _ rfl (.tmp 77) (.tmp 79) 23 rfl w.heap.size wo.heap.size i42 Tryd.underlying23 HI.out.1 HI.out.2.1 HI.out.2.2.1 HI.out.2.2.2 _ l A C rfl (HB.out.kept HG.out hG) g1 cp1 m x hxl (by omega) HW.out (HB.out.fresh rfl hge) hzw rfl (by omega) (by omega) ?_); intro v' w3 A' C' hbd hgr; have hbge := fun i e => (World.ownsRow.lt (HB.out.kept HG.out hG).own i e).1; have HD := Lib.hid (HD.out.grown hgr (fun i e => by have := hbge i e; omega)); have HGG := Lib.hid (grown_new (grown_trans HGW.out HG.out) hgr hbge); have HBD := Lib.hid hbd; clear hgr hbd hbge))
            go_roundg (n - (r + 1))
            case measure => omega
            case rel => exact ⟨r + 1, A', C', _, l ++ [x], by omega, rfl, by go_num, by rw [List.length_append, hl]; rfl, lens_snoc hl hlm hxl, HGG.out, HD.out, by omega, HBD.out⟩
          · go_wp2_with (first
              | (at_builtin; (refine wpList_append_row _ rfl (.tmp 77) (.tmp 79) 23 rfl w.heap.size wo.heap.size i42 Tryd.underlying23 HI.out.1 HI.out.2.1 HI.out.2.2.1 HI.out.2.2.2 _ l A C rfl (HB.out.kept HG.out hG) g1 cp1 m x hxl (by omega) HW.out (HB.out.fresh rfl hge) hzw rfl (by omega) (by omega) ?_); intro v' w3 A' C' hbd hgr; have hbge := fun i e => (World.ownsRow.lt (HB.out.kept HG.out hG).own i e).1; have HD := Lib.hid (HD.out.grown hgr (fun i e => by have := hbge i e; omega)); have HGG := Lib.hid (grown_new (grown_trans HGW.out HG.out) hgr hbge); have HBD := Lib.hid hbd; clear hgr hbd hbge))
            go_roundg (n - (r + 1))
            case measure => omega
            case rel => exact ⟨r + 1, A', C', _, l ++ [x], by omega, rfl, by go_num, by rw [List.length_append, hl]; rfl, lens_snoc hl hlm hxl, HGG.out, HD.out, by omega, HBD.out⟩
          · by_cases hr0 : r = 0
            · have hr0' : decide ((0 : Int) < (r : Int)) = false := by simp; omega
              go_wp2_with (first
                | (at_builtin; (refine wpList_append_row _ rfl (.tmp 77) (.tmp 79) 23 rfl w.heap.size wo.heap.size i42 Tryd.underlying23 HI.out.1 HI.out.2.1 HI.out.2.2.1 HI.out.2.2.2 _ l A C rfl (HB.out.kept HG.out hG) g1 cp1 m x hxl (by omega) HW.out (HB.out.fresh rfl hge) hzw rfl (by omega) (by omega) ?_); intro v' w3 A' C' hbd hgr; have hbge := fun i e => (World.ownsRow.lt (HB.out.kept HG.out hG).own i e).1; have HD := Lib.hid (HD.out.grown hgr (fun i e => by have := hbge i e; omega)); have HGG := Lib.hid (grown_new (grown_trans HGW.out HG.out) hgr hbge); have HBD := Lib.hid hbd; clear hgr hbd hbge))
              go_roundg (n - (r + 1))
              case measure => omega
              case rel => exact ⟨r + 1, A', C', _, l ++ [x], by omega, rfl, by go_num, by rw [List.length_append, hl]; rfl, lens_snoc hl hlm hxl, HGG.out, HD.out, by omega, HBD.out⟩
            · have hr0' : decide ((0 : Int) < (r : Int)) = true := by simp; omega
              go_wp2_with fail
              refine (pick_any w0 _ G nb c _ a _ HD.out (by omega)).mono ?_
              rintro e w2 ⟨y, rfl, hy3, hg, hd⟩
              have HW := Lib.hid (HW.out.kept hg (by omega))
              have HG := Lib.hid (grown_trans HG.out hg)
              have HD := Lib.hid hd
              have hz2 := HG.out.size
              clear hd hg
              by_cases hy0 : y = 0
              · subst hy0
                obtain ⟨s, hs⟩ : ∃ s, r = s + 1 := ⟨r - 1, by omega⟩
                have hr1 : IntKind.i64.wrap ((r : Int) - 1) = (s : Int) := by rw [show (r : Int) - 1 = s by omega]; exact IntWalk.i64_in _ ⟨by omega, by omega⟩
                have hsr : s < r := by omega
                have HSS := Lib.hid hs
                clear hs
                obtain ⟨bb, cpp, cur, hv, hbb, hcur, hc⟩ := HB.out.top (by omega)
                rw [hl] at hv
                subst hv
                have ct := hc s (by omega)
                obtain ⟨g2, hA, hg2, hrb⟩ := HB.out.row (r := s) (by omega)
                rw [hlm s hsr, hA] at ct
                have t1 : wo.cell? ⟨bb, s, none⟩ = some (.slice (some ⟨g2, 0, none⟩) m (C s)) := by simp [World.cell?, hcur, ct]
                have lb : bb < wo.heap.size := (Array.getElem?_eq_some_iff.1 hcur).1
                have lg : g2 < wo.heap.size := hrb.lt
                have HT1 := Lib.hid t1
                have HRB := Lib.hid hrb
                have HA := Lib.hid hA
                have hls := hlm s hsr
                clear t1 hcur hc ct hrb hA
                go_wp2
                go_loopg [13] m (fun g k wi => ∃ q x p'', q ≤ m ∧ g = m - q ∧ k = .int .i64 (q : Nat) ∧ List.length x = m ∧ wo.grownBy wi (some G) ∧ RD w0 wi G a nb c 60 p'' ∧ p'' ≤ p' + 2 * m + 1 + q ∧ RW wo.heap.size wi (.slice (some ⟨g1, 0, none⟩) m cp1) x)
                case atStart => exact ⟨0, x, _, Nat.zero_le _, rfl, rfl, hxl, HG.out, HD.out, by omega, HW.out⟩
                case round =>
                  obtain ⟨q, x, p'', hq, rfl, rfl, hxl, hgi, hdi, hp'', hW⟩ := hrel
                  clear HD HG HW
                  have HD := Lib.hid hdi
                  have HG := Lib.hid hgi
                  have HW := Lib.hid hW
                  have hz1 := hgi.size
                  clear hdi hgi hW
                  by_cases hlq : q < m
                  · obtain ⟨z, hz⟩ : ∃ z, z = (l.getD s []).getD q 0 := ⟨_, rfl⟩
                    have q2 := HRB.out.cell (i := q) (by rw [hls]; exact hlq)
                    rw [← hz] at q2
                    have d1 := cell_grown HT1.out HG.out (show bb ≠ G by omega)
                    have d0 := cell_grown q2 HG.out (show g2 ≠ G by omega)
                    obtain ⟨hge2, hrw⟩ := HW.out.rowB (by omega)
                    have s1 := hrw.cell (i := q) (by omega)
                    have s2 := hrw.frozen q
                    clear q2 hz hrw
                    go_wp2
                    go_region_held3 (fun w' => w'.cell? ⟨bb, s, none⟩ = some (.slice (some ⟨g2, 0, none⟩) m (C s)) ∧ w'.cell? ⟨g2, q, none⟩ = some (.int .i64 z))
                      (first | exact ⟨d1, d0⟩ | exact ⟨q1, q0⟩ | exact ⟨cell_set_far q1 (by show bb ≠ g1; omega), cell_set_far q0 (by show g2 ≠ g1; omega)⟩)
                      (first
                        | (go_at_call 38; refine (pick_any w0 _ G nb c _ a _ (HD.out.later (World.Since.refl _ _).drew) (by omega)).mono ?_; rintro e w3 ⟨y3, rfl, _, hg, hd⟩; have hg := grown_undrew' hg; have HW := Lib.hid (HW.out.kept hg (by omega)); have HG := Lib.hid (grown_trans HG.out hg); have HD := Lib.hid hd; have q1 := cell_grown d1 hg (show bb ≠ G by omega); have q0 := cell_grown d0 hg (show g2 ≠ G by omega); have k1 := cell_grown s1 hg (show g1 ≠ G by omega); have k2 : w3.frozen? ⟨g1, q, none⟩ = false := (World.frozen?_of_block (hg.block g1 (World.block_lt_of_cell? _ _ s1) (fun e => by injection e with e; omega))).trans s2; clear hg hd))
                    clear d1 d0 q1 q0 k1 k2 s1 s2
                    go_wp2
                    go_roundg (m - (q + 1))
                    case measure => omega
                    case rel => exact ⟨q + 1, x.set q _, _, by omega, rfl, by go_num, by rw [List.length_set]; exact hxl, grown_set HG.out hge2 _, HD.out.grown (row := some g1) (grown_set_any _ _ _ _) (fun i e => by cases e; omega), by omega, RW.set' hxl HW.out hlq _⟩
                  · have hqm : m = q := by omega
                    subst hqm
                    go_wp2_with (first
                      | (at_builtin; (refine wpList_append_row _ rfl (.tmp 77) (.tmp 79) 23 rfl w.heap.size wo.heap.size i42 Tryd.underlying23 HI.out.1 HI.out.2.1 HI.out.2.2.1 HI.out.2.2.2 _ l A C rfl (HB.out.kept HG.out hG) g1 cp1 m x hxl (by omega) HW.out (HB.out.fresh rfl hge) hzw rfl (by omega) (by omega) ?_); intro v' w3 A' C' hbd hgr; have hbge := fun i e => (World.ownsRow.lt (HB.out.kept HG.out hG).own i e).1; have HD := Lib.hid (HD.out.grown hgr (fun i e => by have := hbge i e; omega)); have HGG := Lib.hid (grown_new (grown_trans HGW.out HG.out) hgr hbge); have HBD := Lib.hid hbd; clear hgr hbd hbge))
                    go_roundg (n - (r + 1))
                    case measure => omega
                    case rel => exact ⟨r + 1, A', C', _, l ++ [x], by omega, rfl, by go_num, by rw [List.length_append, hl]; rfl, lens_snoc hl hlm hxl, HGG.out, HD.out, by omega, HBD.out⟩
              · have hy0' : ((y : Int) == 0) = false := by simp; omega
                go_wp2_with (first
                  | (at_builtin; (refine wpList_append_row _ rfl (.tmp 77) (.tmp 79) 23 rfl w.heap.size wo.heap.size i42 Tryd.underlying23 HI.out.1 HI.out.2.1 HI.out.2.2.1 HI.out.2.2.2 _ l A C rfl (HB.out.kept HG.out hG) g1 cp1 m x hxl (by omega) HW.out (HB.out.fresh rfl hge) hzw rfl (by omega) (by omega) ?_); intro v' w3 A' C' hbd hgr; have hbge := fun i e => (World.ownsRow.lt (HB.out.kept HG.out hG).own i e).1; have HD := Lib.hid (HD.out.grown hgr (fun i e => by have := hbge i e; omega)); have HGG := Lib.hid (grown_new (grown_trans HGW.out HG.out) hgr hbge); have HBD := Lib.hid hbd; clear hgr hbd hbge))
                go_roundg (n - (r + 1))
                case measure => omega
                case rel => exact ⟨r + 1, A', C', _, l ++ [x], by omega, rfl, by go_num, by rw [List.length_append, hl]; rfl, lens_snoc hl hlm hxl, HGG.out, HD.out, by omega, HBD.out⟩
    · have : r = n := by omega
      subst this
      go_wp2
      go_ret
      exact ⟨_, l, A, C, p', rfl, hl, hlm, hgw, hd, by omega, hB⟩

end Go.Proofs.YtpimdgijjljejaaDoor
end

section
namespace Go.Proofs.YtpimdgijjljejaaDoor
open Go.RowKit Go.Deep

theorem BD.inT {B : Nat} {w : World} {v : Value} {l : List (List Int)} {A : Nat → Option Addr} {C : Nat → Nat} (h : BD B w v l A C) : ∃ a cap, v = .slice a l.length cap ∧ InT B w.heap.size w a l := by
  by_cases h0 : 0 < l.length
  · obtain ⟨b, cap, cur, e, hb, hg, hc⟩ := h.top h0
    refine ⟨_, cap, e, fun _ => ⟨b, 0, A, fun r => ((A r).getD default).block, fun _ => 0, C, rfl, ⟨hb, (Array.getElem?_eq_some_iff.1 hg).1⟩, fun r hr => ⟨?_, fun h1 => ?_⟩⟩⟩
    · rw [Nat.zero_add]; simp [World.cell?, hg, hc r hr]
    · obtain ⟨g, e, hB, hw⟩ := h.row hr
      have e' : ((A r).getD default).block = g := by rw [e]; rfl
      dsimp only
      rw [e']
      exact ⟨e, ⟨hB, hw.lt⟩, fun i hi => by rw [Nat.zero_add]; exact hw.cell hi⟩
  · rcases h.own.2 with ⟨hv, hn⟩ | ⟨g, cap, cur, e, _⟩
    · exact ⟨none, 0, by rw [hv, hn], fun h => absurd h h0⟩
    · exact ⟨_, cap, e, fun h => absurd h h0⟩

theorem BD.row_ne {B : Nat} {w : World} {l : List (List Int)} {A : Nat → Option Addr} {C : Nat → Nat} {b cap n : Nat} (h : BD B w (.slice (some ⟨b, 0, none⟩) n cap) l A C) {g : Nat} {x : List Int} (hw : RowB w g x) : g ≠ b := by
  rintro rfl
  obtain ⟨cs, hc, _⟩ := hw
  rcases h.own.2 with ⟨e, _⟩ | ⟨g', cap', cur, e, _, hgg, _⟩
  · cases e
  · injection e with e
    injection e with e
    injection e with e
    rw [← e, hc] at hgg
    injection hgg with hgg
    injection hgg with _ e2 _
    exact absurd e2 (by decide)

theorem BD.addr_ne {B : Nat} {w : World} {v : Value} {l : List (List Int)} {A : Nat → Option Addr} {C : Nat → Nat} (h : BD B w v l A C) {r j g g' : Nat} (hr : r < l.length) (hj : j < l.length) (hA : A r = some ⟨g, 0, none⟩) (hA' : A j = some ⟨g', 0, none⟩) (hne : j ≠ r) : g' ≠ g := by
  rintro rfl
  exact hne (h.apart j r hj hr (by rw [hA, hA']))

theorem BD.cellTop {B : Nat} {w : World} {l : List (List Int)} {A : Nat → Option Addr} {C : Nat → Nat} {b cap n : Nat} (h : BD B w (.slice (some ⟨b, 0, none⟩) n cap) l A C) {r : Nat} (hr : r < l.length) :
    w.cell? ⟨b, r, none⟩ = some (.slice (A r) (l.getD r []).length (C r)) ∧ w.frozen? ⟨b, r, none⟩ = false ∧ b < w.heap.size := by
  obtain ⟨b', cp', cur, hv, _, hcur, hc⟩ := h.top (by omega)
  injection hv with hv _ _
  injection hv with hv
  injection hv with hv
  subst hv
  exact ⟨by simp [World.cell?, hcur, hc r hr], by simp [World.frozen?, hcur], (Array.getElem?_eq_some_iff.1 hcur).1⟩

theorem BD.setRow {B : Nat} {w w5 : World} {l : List (List Int)} {A : Nat → Option Addr} {C : Nat → Nat} {b cap n : Nat} (h : BD B w (.slice (some ⟨b, 0, none⟩) n cap) l A C) {r g : Nat} (hr : r < l.length) (hA : A r = some ⟨g, 0, none⟩) (hg : w.grownBy w5 (some g)) {g2 cp k : Nat} {y : List Int}
    (hy : RW B w5 (.slice (some ⟨g2, 0, none⟩) k cp) y) (hk : y.length = k) (h0 : 0 < k) : InT B w5.heap.size (w5.setCell ⟨b, r, none⟩ (.slice (some ⟨g2, 0, none⟩) k cp)) (some ⟨b, 0, none⟩) (l.set r y) := by
  subst hk
  obtain ⟨b', cap', cur, e, hb, hcur, hc⟩ := h.top (by omega)
  injection e with e en _
  injection e with e
  injection e with e
  subst e
  obtain ⟨g', hA', hBg, hrb⟩ := h.row hr
  rw [hA] at hA'
  injection hA' with hA'
  injection hA' with hA'
  subst hA'
  have hgb := h.row_ne hrb
  have hbl : b < w.heap.size := (Array.getElem?_eq_some_iff.1 hcur).1
  have hcur5 : w5.heap[b]? = some (.cells cur 47 (0, 0)) := (hg.block b hbl (fun e => by injection e with e; omega)).trans hcur
  obtain ⟨hB2, hrb2⟩ := hy.rowB h0
  have hg2b : g2 ≠ b := by
    rintro rfl
    obtain ⟨cs, h1, _⟩ := hrb2
    rw [h1] at hcur5
    injection hcur5 with h2
    injection h2 with _ h2 _
    exact absurd h2 (by decide)
  have hbl5 : b < w5.heap.size := (Array.getElem?_eq_some_iff.1 hcur5).1
  intro _
  refine ⟨b, 0, fun j => if j = r then some ⟨g2, 0, none⟩ else A j, fun j => if j = r then g2 else ((A j).getD default).block, fun _ => 0, fun j => if j = r then cp else C j, rfl, ⟨hb, hbl5⟩, fun j hj => ?_⟩
  rw [List.length_set] at hj
  show (w5.setCell ⟨b, r, none⟩ _).cell? ⟨b, 0 + j, none⟩ = _ ∧ _
  rw [Nat.zero_add]
  by_cases ej : j = r
  · subst ej
    have e1 : (l.set j y).getD j [] = y := by simp [List.getD, hj]
    rw [e1]
    simp only [↓reduceIte]
    refine ⟨World.cell?_setCell_same' _ _ _ (by simp [World.cell?, hcur5, hc j hj]), fun _ => ⟨trivial, ⟨hB2, hrb2.lt⟩, fun i hi => ?_⟩⟩
    rw [Nat.zero_add]
    exact cell_set_far (hrb2.cell hi) hg2b
  · have e1 : (l.set r y).getD j [] = l.getD j [] := by simp [List.getD, List.getElem?_set_ne (Ne.symm ej)]
    rw [e1]
    simp only [if_neg ej]
    obtain ⟨gj, hAj, hBj, hrbj⟩ := h.row hj
    have hgj := h.addr_ne hr hj hA hAj ej
    have hrb5 : RowB w5 gj (l.getD j []) := hrbj.of_block (hg.block gj hrbj.lt (fun e => by injection e with e; omega))
    have hgjb := h.row_ne hrbj
    refine ⟨?_, fun _ => ?_⟩
    · rw [World.cell?_setCell_other _ _ _ _ (fun e => ej (by injection e with _ e; exact e.symm))]
      simp [World.cell?, hcur5, hc j hj]
    · have e' : ((A j).getD default).block = gj := by rw [hAj]; rfl
      rw [e']
      exact ⟨hAj, ⟨hBj, hrb5.lt⟩, fun i hi => by rw [Nat.zero_add]; exact cell_set_far (hrb5.cell hi) hgjb⟩

theorem BD.setNum {B : Nat} {w : World} {l : List (List Int)} {A : Nat → Option Addr} {C : Nat → Nat} {b cap n : Nat} (h : BD B w (.slice (some ⟨b, 0, none⟩) n cap) l A C) {r g k : Nat} (hr : r < l.length) (hA : A r = some ⟨g, 0, none⟩) (hk : k < (l.getD r []).length) (z : Int) :
    InT B w.heap.size (w.setCell ⟨g, k, none⟩ (.int .i64 z)) (some ⟨b, 0, none⟩) (l.set r ((l.getD r []).set k z)) := by
  obtain ⟨b', cap', cur, e, hb, hcur, hc⟩ := h.top (by omega)
  injection e with e en _
  injection e with e
  injection e with e
  subst e
  obtain ⟨g', hA', hBg, hrb⟩ := h.row hr
  rw [hA] at hA'
  injection hA' with hA'
  injection hA' with hA'
  subst hA'
  have hgb := h.row_ne hrb
  intro _
  refine ⟨b, 0, A, fun j => ((A j).getD default).block, fun _ => 0, C, rfl, ⟨hb, (Array.getElem?_eq_some_iff.1 hcur).1⟩, fun j hj => ?_⟩
  rw [List.length_set] at hj
  show (w.setCell ⟨g, k, none⟩ _).cell? ⟨b, 0 + j, none⟩ = _ ∧ _
  rw [Nat.zero_add]
  have hlen : ((l.set r ((l.getD r []).set k z)).getD j []).length = (l.getD j []).length := by
    by_cases ej : j = r
    · subst ej; simp [List.getD, hj]
    · simp [List.getD, List.getElem?_set_ne (Ne.symm ej)]
  rw [hlen]
  refine ⟨cell_set_far (by simp [World.cell?, hcur, hc j hj]) (Ne.symm hgb), fun _ => ?_⟩
  obtain ⟨gj, hAj, hBj, hrbj⟩ := h.row hj
  have e' : ((A j).getD default).block = gj := by rw [hAj]; rfl
  dsimp only
  rw [e']
  refine ⟨hAj, ⟨hBj, hrbj.lt⟩, fun i hi => ?_⟩
  rw [Nat.zero_add]
  by_cases ej : j = r
  · subst ej
    rw [hA] at hAj
    injection hAj with hAj
    injection hAj with hAj
    subst hAj
    have e1 : (l.set j ((l.getD j []).set k z)).getD j [] = (l.getD j []).set k z := by simp [List.getD, hj]
    rw [e1]
    by_cases ei : i = k
    · subst ei
      rw [World.cell?_setCell_same' _ _ _ (by rw [hrbj.cell hi]; rfl)]
      simp [List.getD] at hi ⊢
      simp [hi]
    · rw [World.cell?_setCell_other _ _ _ _ (fun e => ei (by injection e with _ e; exact e.symm)), hrbj.cell hi]
      simp [List.getD, List.getElem?_set_ne (Ne.symm ei)]
  · have hgj := h.addr_ne hr hj hA hAj ej
    have e1 : (l.set r ((l.getD r []).set k z)).getD j [] = l.getD j [] := by simp [List.getD, List.getElem?_set_ne (Ne.symm ej)]
    rw [e1]
    exact cell_set_far (hrbj.cell hi) hgj

theorem InT.kept {lo hi : Nat} {w w' : World} {a : Option Addr} {l : List (List Int)} {G : Nat} (h : InT lo hi w a l) (hg : w.grownBy w' (some G)) (hG : G < lo) : InT lo hi w' a l :=
  h.frame (lo' := G) (hi' := G + 1) ⟨hg.os, hg.tape, hg.output, hg.size, fun k hk ho => hg.block k hk (fun e => by injection e with e; omega)⟩ (.inr (by omega))

end Go.Proofs.YtpimdgijjljejaaDoor
end

section
namespace Go.Proofs.YtpimdgijjljejaaDoor
open Go.RowKit Go.Deep

structure AB (lo : Nat) (w : World) (b n : Nat) (G C : Nat → Nat) (f : Nat → Nat → Int) : Prop where
  top : ∀ r, r < n → w.cell? ⟨b, r, none⟩ = some (.slice (some ⟨G r, 0, none⟩) n (C r))
  ent : ∀ r k, r < n → k < n → w.cell? ⟨G r, k, none⟩ = some (.int .i64 (f r k)) ∧ w.frozen? ⟨G r, k, none⟩ = false
  low : lo ≤ b ∧ b < w.heap.size
  row : ∀ r, r < n → lo ≤ G r ∧ G r < w.heap.size ∧ G r ≠ b
  apart : ∀ r s, r < n → s < n → r ≠ s → G r ≠ G s

theorem AB.of {B : Nat} {w : World} {l : List (List Int)} {A : Nat → Option Addr} {C : Nat → Nat} {b cap n : Nat} (h : BD B w (.slice (some ⟨b, 0, none⟩) n cap) l A C) (hl : l.length = n) (hlm : ∀ j, j < n → (l.getD j []).length = n) (hb : B ≤ b) (h1 : 1 ≤ n) :
    AB B w b n (fun j => ((A j).getD default).block) C (at2 l) := by
  refine ⟨fun r hr => ?_, fun r k hr hk => ?_, ⟨hb, ?_⟩, fun r hr => ?_, fun r s hr hs hne => ?_⟩
  · obtain ⟨c1, _, _⟩ := h.cellTop (r := r) (by omega)
    obtain ⟨g, hA, _, _⟩ := h.row (r := r) (by omega)
    rw [c1, hlm r hr, hA]
    rfl
  · obtain ⟨g, hA, _, hrb⟩ := h.row (r := r) (by omega)
    show w.cell? ⟨((A r).getD default).block, k, none⟩ = _ ∧ w.frozen? ⟨((A r).getD default).block, k, none⟩ = _
    rw [hA]
    exact ⟨hrb.cell (by rw [hlm r hr]; exact hk), hrb.frozen k⟩
  · exact (h.cellTop (r := 0) (by omega)).2.2
  · obtain ⟨g, hA, hB, hrb⟩ := h.row (r := r) (by omega)
    show B ≤ ((A r).getD default).block ∧ ((A r).getD default).block < _ ∧ ((A r).getD default).block ≠ b
    rw [hA]
    exact ⟨hB, hrb.lt, h.row_ne hrb⟩
  · obtain ⟨g, hA, _, _⟩ := h.row (r := r) (by omega)
    obtain ⟨g2, hA2, _, _⟩ := h.row (r := s) (by omega)
    have := h.addr_ne (by omega) (by omega) hA hA2 (Ne.symm hne)
    show ((A r).getD default).block ≠ ((A s).getD default).block
    rw [hA, hA2]
    exact this.symm
theorem AB.set {lo : Nat} {w : World} {b n : Nat} {G C : Nat → Nat} {f : Nat → Nat → Int} (h : AB lo w b n G C f) {r k : Nat} (hr : r < n) (hk : k < n) (v : Int) :
    AB lo (w.setCell ⟨G r, k, none⟩ (.int .i64 v)) b n G C (fun i j => if i = r ∧ j = k then v else f i j) := by
  have hs : (w.setCell ⟨G r, k, none⟩ (.int .i64 v)).heap.size = w.heap.size := by simp
  refine ⟨fun s h1 => cell_set_far (h.top s h1) (h.row r hr).2.2.symm, fun s j h1 h2 => ⟨?_, by rw [World.frozen?_setCell]; exact (h.ent s j h1 h2).2⟩, by rw [hs]; exact h.low, fun s h1 => by rw [hs]; exact h.row s h1, h.apart⟩
  by_cases e : s = r
  · subst e
    by_cases e2 : j = k
    · subst e2
      rw [World.cell?_setCell_same w _ _ (h.ent s j h1 h2).1, if_pos ⟨rfl, rfl⟩]
    · rw [World.cell?_setCell_other _ _ _ _ (by intro h; simp only [Addr.mk.injEq] at h; omega), if_neg (by omega)]
      exact (h.ent s j h1 h2).1
  · rw [if_neg (by omega)]
    exact cell_set_far (h.ent s j h1 h2).1 (h.apart s r h1 hr e)
theorem AB.inT {lo : Nat} {w : World} {b n : Nat} {G C : Nat → Nat} {f : Nat → Nat → Int} (h : AB lo w b n G C f) : InT lo w.heap.size w (some ⟨b, 0, none⟩) (tabF n n f) := by
  intro _
  have hl : ∀ r, r < n → ((tabF n n f).getD r []).length = n := fun r hr => tabF_len _ _ _ _ hr
  refine ⟨b, 0, fun r => some ⟨G r, 0, none⟩, G, fun _ => 0, C, rfl, h.low, fun r hr => ?_⟩
  rw [tabF_length] at hr
  rw [hl r hr, Nat.zero_add]
  refine ⟨h.top r hr, fun _ => ⟨rfl, ⟨(h.row r hr).1, (h.row r hr).2.1⟩, fun i hi => ?_⟩⟩
  rw [Nat.zero_add, (h.ent r i hr hi).1]
  have := tabF_at n n f r i hr hi
  unfold at2 at this
  rw [this]
theorem AB.kept {lo G0 : Nat} {w W : World} {b n : Nat} {G C : Nat → Nat} {f : Nat → Nat → Int} (h : AB lo w b n G C f) (hg : w.grownBy W (some G0)) (h0 : G0 < lo) : AB lo W b n G C f := by
  have kp : ∀ g, lo ≤ g → g < w.heap.size → ∀ k, W.cell? ⟨g, k, none⟩ = w.cell? ⟨g, k, none⟩ ∧ W.frozen? ⟨g, k, none⟩ = w.frozen? ⟨g, k, none⟩ := fun g g1 g2 k => by
    have e := hg.block g g2 (fun e => by injection e; omega)
    constructor
    · simp only [World.cell?, e]
    · simp only [World.frozen?, e]
  have hz := hg.size
  refine ⟨fun r hr => ((kp b h.low.1 h.low.2 r).1).trans (h.top r hr), fun r k hr hk => ?_, ⟨h.low.1, by have := h.low.2; omega⟩, fun r hr => ?_, h.apart⟩
  · obtain ⟨r1, r2, _⟩ := h.row r hr
    obtain ⟨e1, e2⟩ := h.ent r k hr hk
    exact ⟨((kp _ r1 r2 k).1).trans e1, ((kp _ r1 r2 k).2).trans e2⟩
  · obtain ⟨r1, r2, r3⟩ := h.row r hr
    exact ⟨r1, by omega, r3⟩

end Go.Proofs.YtpimdgijjljejaaDoor
end

section
namespace Go.Proofs.YtpimdgijjljejaaDoor
open Go.RowKit Go.Deep

def Drawn0 (w w' : World) (R K : Nat) (a : Option Addr) (l : List (List Int)) : Prop :=
  1 ≤ l.length ∧ l.length ≤ R ∧ (∀ j, j < l.length → 1 ≤ (l.getD j []).length ∧ (l.getD j []).length ≤ K + 1) ∧ InT w.heap.size w'.heap.size w' a l

theorem lens_set {l : List (List Int)} {r : Nat} {y : List Int} {n m K : Nat} (hl : l.length = n) (h : ∀ j, j < n → (l.getD j []).length = m) (hm : 1 ≤ m ∧ m ≤ K) (hy : 1 ≤ y.length ∧ y.length ≤ K + 1) : ∀ j, j < (l.set r y).length → 1 ≤ ((l.set r y).getD j []).length ∧ ((l.set r y).getD j []).length ≤ K + 1 := by
  intro j hj
  rw [List.length_set] at hj
  by_cases e : j = r
  · subst e
    rw [show (l.set j y).getD j [] = y by simp [List.getD, hj]]
    exact hy
  · rw [show (l.set r y).getD j [] = l.getD j [] by simp [List.getD, List.getElem?_set_ne (Ne.symm e)], h j (by omega)]
    omega

end Go.Proofs.YtpimdgijjljejaaDoor
end

section
namespace Go.Proofs.YtpimdgijjljejaaDoor
open Go.RowKit Go.Deep

set_option maxHeartbeats 1000000 in
theorem l6Open_any (a : Option Addr) (nb cb : Nat) (w : World) (hc : nb ≤ cb) (h63 : cb ≤ 9223372036854775807) (hb : BytR w a nb) :
    Calls Tryd.prog 29 #[.slice a nb cb] w fun e w' => ∃ n' c', e = .returned (.pointer (some ⟨w.heap.size, 0, none⟩)) ∧ w.Since w.heap.size w' ∧ w'.heap.size = w.heap.size + 1 ∧ RD w w' w.heap.size a n' c' 60 0 := by
  by_cases hl : 2000 < nb
  · have hl' : decide ((2000 : Int) < (nb : Int)) = true := by simp; omega
    have h2 : (2000 : Int) ≤ (cb : Int) := by omega
    obtain ⟨b, o, rfl, hcell⟩ := hb (by omega)
    go_enter Tryd.func29, Tryd.ntmps29
    go_wp2
    go_ret
    exact ⟨_, _, rfl, (World.Since.refl _ _).alloc (Nat.le_refl _) _, by simp, ⟨heap_alloc_new _ _, Nat.le_refl _, (World.Since.refl _ _).alloc (Nat.le_refl _) _, fun _ => ⟨b, o, rfl, fun i hi => hcell i (by omega)⟩, by omega⟩⟩
  · have hl' : decide ((2000 : Int) < (nb : Int)) = false := by simp; omega
    go_enter Tryd.func29, Tryd.ntmps29
    go_wp2
    go_ret
    exact ⟨_, _, rfl, (World.Since.refl _ _).alloc (Nat.le_refl _) _, by simp, ⟨heap_alloc_new _ _, Nat.le_refl _, (World.Since.refl _ _).alloc (Nat.le_refl _) _, hb, by omega⟩⟩

def DrawnT (w w' : World) (R K : Nat) (a : Option Addr) (l : List (List Int)) : Prop :=
  1 ≤ l.length ∧ l.length ≤ R ∧ (∀ j, j < l.length → 1 ≤ (l.getD j []).length ∧ (l.getD j []).length ≤ K + 1) ∧ InT w.heap.size w'.heap.size w' a l

end Go.Proofs.YtpimdgijjljejaaDoor
end

section
namespace Go.Proofs.YtpimdgijjljejaaDoor
open Go.RowKit Go.Deep

theorem grown_drewA {w w' : World} {row : Option Nat} (h : w.grownBy w' row) : w.grownBy w'.drew row := ⟨h.os, h.tape, h.output, h.size, h.block⟩
theorem AB.drew {lo : Nat} {w : World} {b n : Nat} {G C : Nat → Nat} {f : Nat → Nat → Int} (h : AB lo w b n G C f) : AB lo w.drew b n G C f := ⟨h.top, h.ent, h.low, h.row, h.apart⟩
theorem AB.drawn {w w' : World} {b n R : Nat} {G C : Nat → Nat} {f : Nat → Nat → Int} {lo : Nat} (h : AB lo w' b n G C f) (h0 : w.heap.size ≤ lo) (h1 : 1 ≤ n) (hR : n ≤ R) : Drawn0 w w' R R (some ⟨b, 0, none⟩) (tabF n n f) :=
  ⟨by rw [tabF_length]; exact h1, by rw [tabF_length]; exact hR, fun j hj => by rw [tabF_length] at hj; rw [tabF_len _ _ _ _ hj]; omega, h.inT.mono h0 (Nat.le_refl _)⟩

theorem about_n (y R : Nat) (h4 : 4 ≤ R) (hR : R ≤ 6) (hy : y < 2) : ∃ r m n : Nat, (1 ≤ n ∧ n ≤ R) ∧ IntKind.i64.wrap ((R : Int) - 4) = (r : Int) ∧ IntKind.i64.wrap ((y : Int) * (r : Int)) = (m : Int) ∧ IntKind.i64.wrap (4 + (m : Int)) = (n : Int) := by
  have h1 : R = 4 ∨ R = 5 ∨ R = 6 := by omega
  have h2 : y = 0 ∨ y = 1 := by omega
  rcases h1 with rfl | rfl | rfl <;> rcases h2 with rfl | rfl
  · exact ⟨0, 0, 4, by decide, by decide, by decide, by decide⟩
  · exact ⟨0, 0, 4, by decide, by decide, by decide, by decide⟩
  · exact ⟨1, 0, 4, by decide, by decide, by decide, by decide⟩
  · exact ⟨1, 1, 5, by decide, by decide, by decide, by decide⟩
  · exact ⟨2, 0, 4, by decide, by decide, by decide, by decide⟩
  · exact ⟨2, 2, 6, by decide, by decide, by decide, by decide⟩

set_option maxRecDepth 100000 in
set_option maxHeartbeats 4000000 in
theorem l91About_any (w0 w : World) (G nb c p R : Nat) (a : Option Addr) (h : RD w0 w G a nb c 60 p) (hR4 : 4 ≤ R) (hR : R ≤ 6) (hp : p ≤ 40000) :
    Calls Tryd.prog 28 #[.pointer (some ⟨G, 0, none⟩), .int .i64 R] w fun e w' => ∃ a' cap l p', e = .returned (.slice a' l.length cap) ∧ w.grownBy w' (some G) ∧ RD w0 w' G a nb c 60 p' ∧ p' ≤ p + 1200 ∧ Drawn0 w w' R R a' l := by
  have hG := h.lt
  have HRD := Lib.hid h
  clear h
  have hmost : decide ((3 : Int) < (R : Int)) = true := by simp; omega
  go_enter Tryd.func28, Tryd.ntmps28
  go_wp2_with fail
  refine (pick_any w0 _ G nb c _ a _ HRD.out (by omega)).mono ?_
  rintro e w1 ⟨y1, rfl, hy1, hg1, hd1⟩
  obtain ⟨n1, hn, hnn⟩ : ∃ n : Nat, IntKind.i64.wrap (1 + (y1 : Int)) = n ∧ n = y1 + 1 := ⟨y1 + 1, (IntWalk.i64_in _ ⟨by omega, by omega⟩).trans (by omega), rfl⟩
  have hn1 : 1 ≤ n1 ∧ n1 ≤ R := by omega
  have HD1 := Lib.hid hd1
  have HG1 := Lib.hid hg1
  clear hd1 hg1 hnn hy1 HRD
  go_wp2_with fail
  refine (pick_any w0 _ G nb c _ a _ HD1.out (by omega)).mono ?_
  rintro e w2 ⟨y2, rfl, hy2, hg2, hd2⟩
  have HD2 := Lib.hid hd2
  have HG2 := Lib.hid (grown_trans HG1.out hg2)
  clear hd2 hg2 HD1 HG1
  by_cases h0 : y2 = 0
  · subst h0
    go_wp2_with fail
    refine (pick_any w0 _ G nb c _ a _ HD2.out (by omega)).mono ?_
    rintro e w3 ⟨y3, rfl, hy3, hg3, hd3⟩
    obtain ⟨r4, m, n, hn5, hwa, hwb, hwc⟩ := about_n y3 R hR4 hR (by omega)
    have HD3 := Lib.hid hd3
    have HG3 := Lib.hid (grown_trans HG2.out hg3)
    clear hd3 hg3 HD2 HG2 hn hy3
    go_wp2_with fail
    refine (l91Table_any w0 _ G nb c _ n n a HD3.out (by omega) (by omega) (by omega) (by omega)).mono ?_
    rintro e w4 ⟨v, l, A, C, p4, rfl, hl, hlm, hg4, hd4, hp4, hB⟩
    obtain ⟨b, cp, cur, hv, hbb, hcur, hc⟩ := hB.top (by omega)
    rw [hl] at hv
    subst hv
    have hAB := AB.of hB hl hlm hbb (by omega)
    obtain ⟨GB, hGB⟩ : ∃ GB : Nat → Nat, (fun j => ((A j).getD default).block) = GB := ⟨_, rfl⟩
    rw [hGB] at hAB
    have HAB := Lib.hid hAB
    have HD4 := Lib.hid hd4
    have HG4 := Lib.hid (grown_trans HG3.out hg4)
    have hzk := HG3.out.size
    clear hd4 hg4 hcur hc hB hGB hAB HD3 HG3 hl hlm hbb
    go_wp2
    go_loopg [7, 8] n (fun g i _ wr => ∃ r : Nat, r ≤ n ∧ g = n - r ∧ i = .int .i64 r ∧ ∃ f, AB w3.heap.size wr b n GB C f ∧ w.grownBy wr (some G) ∧ RD w0 wr G a nb c 60 p4)
    case atStart => exact ⟨0, Nat.zero_le _, rfl, rfl, _, HAB.out, HG4.out, HD4.out⟩
    case round =>
      obtain ⟨r, hr, rfl, rfl, f, hF, hGr, hDr⟩ := hrel
      clear HAB HG4 HD4
      by_cases hlt : r < n
      · have t1 := hF.top r hlt
        obtain ⟨t2, t3⟩ := hF.ent r r hlt hlt
        obtain ⟨r1, r2, r3⟩ := hF.row r hlt
        have HF := Lib.hid (hF.set hlt hlt 0)
        have HGS := Lib.hid (grown_set hGr (show w.heap.size ≤ GB r by omega) (k := r) (.int .i64 0))
        have HDS := Lib.hid (hDr.grown (grown_set_any wr (GB r) r (.int .i64 0)) (fun i e => by cases e; omega))
        clear hF hGr hDr
        go_wp2
        clear t1 t2 t3 r1 r2 r3
        go_loopg [8] r (fun g k wi => ∃ k0 : Nat, k0 ≤ r ∧ g = r - k0 ∧ k = .int .i64 k0 ∧ ∃ f, AB w3.heap.size wi b n GB C f ∧ w.grownBy wi (some G) ∧ RD w0 wi G a nb c 60 p4)
        case atStart => exact ⟨0, Nat.zero_le _, rfl, rfl, _, HF.out, HGS.out, HDS.out⟩
        case round =>
          obtain ⟨k0, hk, rfl, rfl, f2, hF, hGr, hDr⟩ := hrel
          clear HF HGS HDS
          by_cases hkr : k0 < r
          · have t1 := hF.top r hlt
            have t2 := hF.top k0 (by omega)
            obtain ⟨e1, _⟩ := hF.ent k0 r (by omega) hlt
            obtain ⟨_, e4⟩ := hF.ent r k0 hlt (by omega)
            obtain ⟨e3, _⟩ := hF.ent r k0 hlt (by omega)
            obtain ⟨r1, r2, r3⟩ := hF.row r hlt
            have hap := hF.apart k0 r (by omega) hlt (by omega)
            obtain ⟨y, hy⟩ : ∃ y, f2 k0 r = y := ⟨_, rfl⟩
            rw [hy] at e1
            obtain ⟨z, hz1⟩ : ∃ z, IntKind.i64.wrap (0 - y) = z := ⟨_, rfl⟩
            have hz2 : IntKind.i64.wrap (-y) = z := by rw [← hz1, Int.zero_sub]
            have HF := Lib.hid (hF.set hlt (show k0 < n by omega) z).drew
            have HGS := Lib.hid (grown_drewA (grown_set hGr (show w.heap.size ≤ GB r by omega) (k := k0) (.int .i64 z)))
            have HDS := Lib.hid (hDr.grown (grown_drewA (grown_set_any _ (GB r) k0 (.int .i64 z))) (fun i e => by cases e; omega))
            obtain ⟨g1, hg1⟩ : ∃ g, GB r = g := ⟨_, rfl⟩
            obtain ⟨g2, hg2⟩ : ∃ g, GB k0 = g := ⟨_, rfl⟩
            rw [hg1] at t1 e3 e4 r1 r2 r3 hap HF HGS HDS
            rw [hg2] at t2 e1 hap
            have hkn : k0 < n := by omega
            have m1 := cell_set_far (g := g1) (j := k0) (v := .int .i64 z) t1 (show b ≠ g1 from fun e => r3 e.symm)
            have m2 := cell_set_far (g := g1) (j := k0) (v := .int .i64 z) t2 (show b ≠ g1 from fun e => r3 e.symm)
            have m3 := cell_set_far (g := g1) (j := k0) (v := .int .i64 z) e1 (show g2 ≠ g1 from hap)
            clear hF hGr hDr hy hg1 hg2
            go_wp2
            go_region_held3 (fun w' => w'.cell? ⟨b, r, none⟩ = some (.slice (some ⟨g1, 0, none⟩) n (C r)) ∧ w'.cell? ⟨b, k0, none⟩ = some (.slice (some ⟨g2, 0, none⟩) n (C k0)) ∧ w'.cell? ⟨g2, r, none⟩ = some (.int .i64 y)) (go_keep) (fail)
            all_goals
              go_wp2
              go_roundg (r - (k0 + 1))
              case measure => omega
              case rel => exact ⟨k0 + 1, by omega, rfl, by go_num, _, HF.out, HGS.out, HDS.out⟩
          · have : k0 = r := by omega
            subst this
            have HF := Lib.hid hF
            have HGS := Lib.hid hGr
            have HDS := Lib.hid hDr
            clear hF hGr hDr
            go_wp2
            go_roundg (n - (k0 + 1))
            case measure => omega
            case rel => exact ⟨k0 + 1, by omega, rfl, by go_num, _, HF.out, HGS.out, HDS.out⟩
      · have : r = n := by omega
        subst this
        have HF := Lib.hid hF
        have HGr := Lib.hid hGr
        have HDr := Lib.hid hDr
        have hz4 := hGr.size
        clear hF hGr hDr
        go_wp2_with fail
        refine (pick_any w0 _ G nb c _ a _ HDr.out (by omega)).mono ?_
        rintro e w5 ⟨y5, rfl, hy5, hg5, hd5⟩
        have hF5 := HF.out.kept hg5 (by omega)
        have HG5 := Lib.hid (grown_trans HGr.out hg5)
        have HD5 := Lib.hid hd5
        clear hg5 hd5 HF HGr HDr
        by_cases h5 : y5 = 0
        · subst h5
          have t1 := hF5.top 0 (by omega)
          obtain ⟨t2, t3⟩ := hF5.ent 0 0 (by omega) (by omega)
          obtain ⟨r1, r2, r3⟩ := hF5.row 0 (by omega)
          have HF := Lib.hid (hF5.set (r := 0) (k := 0) (by omega) (by omega) 1)
          have HGS := Lib.hid (grown_set HG5.out (show w.heap.size ≤ GB 0 by omega) (k := 0) (.int .i64 1))
          have HDS := Lib.hid (HD5.out.grown (grown_set_any w5 (GB 0) 0 (.int .i64 1)) (fun i e => by cases e; omega))
          clear hF5
          go_wp2
          go_ret
          exact ⟨_, cp, _, _, by rw [tabF_length]; rfl, HGS.out, HDS.out, by omega, HF.out.drawn (by omega) (by omega) (by omega)⟩
        · have hz5 : ((y5 : Int) == 0) = false := by simp; omega
          have HF := Lib.hid hF5
          clear hF5
          go_wp2
          go_ret
          exact ⟨_, cp, _, _, by rw [tabF_length]; rfl, HG5.out, HD5.out, by omega, HF.out.drawn (by omega) (by omega) (by omega)⟩
  · have hz : ((y2 : Int) == 0) = false := by simp; omega
    go_wp2_with fail
    obtain ⟨n, rfl⟩ : ∃ n, n = n1 := ⟨_, rfl⟩
    have HD3 := HD2
    have HG3 := HG2
    clear HD2 HG2
    refine (l91Table_any w0 _ G nb c _ n n a HD3.out (by omega) (by omega) (by omega) (by omega)).mono ?_
    rintro e w4 ⟨v, l, A, C, p4, rfl, hl, hlm, hg4, hd4, hp4, hB⟩
    obtain ⟨b, cp, cur, hv, hbb, hcur, hc⟩ := hB.top (by omega)
    rw [hl] at hv
    subst hv
    have hAB := AB.of hB hl hlm hbb (by omega)
    obtain ⟨GB, hGB⟩ : ∃ GB : Nat → Nat, (fun j => ((A j).getD default).block) = GB := ⟨_, rfl⟩
    rw [hGB] at hAB
    have HAB := Lib.hid hAB
    have HD4 := Lib.hid hd4
    have HG4 := Lib.hid (grown_trans HG3.out hg4)
    have hzk := HG3.out.size
    clear hd4 hg4 hcur hc hB hGB hAB HD3 HG3 hl hlm hbb
    go_wp2
    go_loopg [7, 8] n (fun g i _ wr => ∃ r : Nat, r ≤ n ∧ g = n - r ∧ i = .int .i64 r ∧ ∃ f, AB w2.heap.size wr b n GB C f ∧ w.grownBy wr (some G) ∧ RD w0 wr G a nb c 60 p4)
    case atStart => exact ⟨0, Nat.zero_le _, rfl, rfl, _, HAB.out, HG4.out, HD4.out⟩
    case round =>
      obtain ⟨r, hr, rfl, rfl, f, hF, hGr, hDr⟩ := hrel
      clear HAB HG4 HD4
      by_cases hlt : r < n
      · have t1 := hF.top r hlt
        obtain ⟨t2, t3⟩ := hF.ent r r hlt hlt
        obtain ⟨r1, r2, r3⟩ := hF.row r hlt
        have HF := Lib.hid (hF.set hlt hlt 0)
        have HGS := Lib.hid (grown_set hGr (show w.heap.size ≤ GB r by omega) (k := r) (.int .i64 0))
        have HDS := Lib.hid (hDr.grown (grown_set_any wr (GB r) r (.int .i64 0)) (fun i e => by cases e; omega))
        clear hF hGr hDr
        go_wp2
        clear t1 t2 t3 r1 r2 r3
        go_loopg [8] r (fun g k wi => ∃ k0 : Nat, k0 ≤ r ∧ g = r - k0 ∧ k = .int .i64 k0 ∧ ∃ f, AB w2.heap.size wi b n GB C f ∧ w.grownBy wi (some G) ∧ RD w0 wi G a nb c 60 p4)
        case atStart => exact ⟨0, Nat.zero_le _, rfl, rfl, _, HF.out, HGS.out, HDS.out⟩
        case round =>
          obtain ⟨k0, hk, rfl, rfl, f2, hF, hGr, hDr⟩ := hrel
          clear HF HGS HDS
          by_cases hkr : k0 < r
          · have t1 := hF.top r hlt
            have t2 := hF.top k0 (by omega)
            obtain ⟨e1, _⟩ := hF.ent k0 r (by omega) hlt
            obtain ⟨_, e4⟩ := hF.ent r k0 hlt (by omega)
            obtain ⟨e3, _⟩ := hF.ent r k0 hlt (by omega)
            obtain ⟨r1, r2, r3⟩ := hF.row r hlt
            have hap := hF.apart k0 r (by omega) hlt (by omega)
            obtain ⟨y, hy⟩ : ∃ y, f2 k0 r = y := ⟨_, rfl⟩
            rw [hy] at e1
            obtain ⟨z, hz1⟩ : ∃ z, IntKind.i64.wrap (0 - y) = z := ⟨_, rfl⟩
            have hz2 : IntKind.i64.wrap (-y) = z := by rw [← hz1, Int.zero_sub]
            have HF := Lib.hid (hF.set hlt (show k0 < n by omega) z).drew
            have HGS := Lib.hid (grown_drewA (grown_set hGr (show w.heap.size ≤ GB r by omega) (k := k0) (.int .i64 z)))
            have HDS := Lib.hid (hDr.grown (grown_drewA (grown_set_any _ (GB r) k0 (.int .i64 z))) (fun i e => by cases e; omega))
            obtain ⟨g1, hg1⟩ : ∃ g, GB r = g := ⟨_, rfl⟩
            obtain ⟨g2, hg2⟩ : ∃ g, GB k0 = g := ⟨_, rfl⟩
            rw [hg1] at t1 e3 e4 r1 r2 r3 hap HF HGS HDS
            rw [hg2] at t2 e1 hap
            have hkn : k0 < n := by omega
            have m1 := cell_set_far (g := g1) (j := k0) (v := .int .i64 z) t1 (show b ≠ g1 from fun e => r3 e.symm)
            have m2 := cell_set_far (g := g1) (j := k0) (v := .int .i64 z) t2 (show b ≠ g1 from fun e => r3 e.symm)
            have m3 := cell_set_far (g := g1) (j := k0) (v := .int .i64 z) e1 (show g2 ≠ g1 from hap)
            clear hF hGr hDr hy hg1 hg2
            go_wp2
            go_region_held3 (fun w' => w'.cell? ⟨b, r, none⟩ = some (.slice (some ⟨g1, 0, none⟩) n (C r)) ∧ w'.cell? ⟨b, k0, none⟩ = some (.slice (some ⟨g2, 0, none⟩) n (C k0)) ∧ w'.cell? ⟨g2, r, none⟩ = some (.int .i64 y)) (go_keep) (fail)
            all_goals
              go_wp2
              go_roundg (r - (k0 + 1))
              case measure => omega
              case rel => exact ⟨k0 + 1, by omega, rfl, by go_num, _, HF.out, HGS.out, HDS.out⟩
          · have : k0 = r := by omega
            subst this
            have HF := Lib.hid hF
            have HGS := Lib.hid hGr
            have HDS := Lib.hid hDr
            clear hF hGr hDr
            go_wp2
            go_roundg (n - (k0 + 1))
            case measure => omega
            case rel => exact ⟨k0 + 1, by omega, rfl, by go_num, _, HF.out, HGS.out, HDS.out⟩
      · have : r = n := by omega
        subst this
        have HF := Lib.hid hF
        have HGr := Lib.hid hGr
        have HDr := Lib.hid hDr
        have hz4 := hGr.size
        clear hF hGr hDr
        go_wp2_with fail
        refine (pick_any w0 _ G nb c _ a _ HDr.out (by omega)).mono ?_
        rintro e w5 ⟨y5, rfl, hy5, hg5, hd5⟩
        have hF5 := HF.out.kept hg5 (by omega)
        have HG5 := Lib.hid (grown_trans HGr.out hg5)
        have HD5 := Lib.hid hd5
        clear hg5 hd5 HF HGr HDr
        by_cases h5 : y5 = 0
        · subst h5
          have t1 := hF5.top 0 (by omega)
          obtain ⟨t2, t3⟩ := hF5.ent 0 0 (by omega) (by omega)
          obtain ⟨r1, r2, r3⟩ := hF5.row 0 (by omega)
          have HF := Lib.hid (hF5.set (r := 0) (k := 0) (by omega) (by omega) 1)
          have HGS := Lib.hid (grown_set HG5.out (show w.heap.size ≤ GB 0 by omega) (k := 0) (.int .i64 1))
          have HDS := Lib.hid (HD5.out.grown (grown_set_any w5 (GB 0) 0 (.int .i64 1)) (fun i e => by cases e; omega))
          clear hF5
          go_wp2
          go_ret
          exact ⟨_, cp, _, _, by rw [tabF_length]; rfl, HGS.out, HDS.out, by omega, HF.out.drawn (by omega) (by omega) (by omega)⟩
        · have hz5 : ((y5 : Int) == 0) = false := by simp; omega
          have HF := Lib.hid hF5
          clear hF5
          go_wp2
          go_ret
          exact ⟨_, cp, _, _, by rw [tabF_length]; rfl, HG5.out, HD5.out, by omega, HF.out.drawn (by omega) (by omega) (by omega)⟩

end Go.Proofs.YtpimdgijjljejaaDoor
end

section
namespace Go.Proofs.YtpimdgijjljejaaDoor
open Go.RowKit Go.Deep

end Go.Proofs.YtpimdgijjljejaaDoor
end

section
namespace Go.Proofs.YtpimdgijjljejaaDoor
open Go.RowKit Go.Deep

set_option maxHeartbeats 1000000 in
theorem drawPairHalf_any (a : Option Addr) (nb cb : Nat) (w : World) (hc : nb ≤ cb) (h63 : cb ≤ 9223372036854775807) (hb : BytR w a nb) :
    Calls Tryd.prog 9 #[.slice a nb cb] w fun e w' => ∃ a' cap l, e = .returned (.slice a' l.length cap) ∧ w.Since w.heap.size w' ∧ DrawnT w w' 6 6 a' l := by
  have E := Lib.hid (l6Open_any a nb cb w hc h63 hb)
  clear hb
  go_enter Tryd.func9, Tryd.ntmps9
  go_wp2_with fail
  refine (E.out).mono ?_
  rintro e w1 ⟨n', c', rfl, hs, hz, hd⟩
  have HD := Lib.hid hd
  clear hd
  go_wp2_with fail
  refine (l91About_any w w1 w.heap.size n' c' 0 6 a HD.out (by omega) (by omega) (by omega)).mono ?_
  rintro e w2 ⟨a', cap', l, p', rfl, hg, hd2, hp, h1, h5, hl, hit⟩
  go_wp2
  go_ret
  exact ⟨a', cap', l, rfl, hs.trans (since_grown hg (Nat.le_refl _) hs.size), h1, h5, hl, hit.mono hs.size (Nat.le_refl _)⟩

set_option maxHeartbeats 1000000 in
theorem drawPairRows_any (a : Option Addr) (nb cb : Nat) (w : World) (hc : nb ≤ cb) (h63 : cb ≤ 9223372036854775807) (hb : BytR w a nb) :
    Calls Tryd.prog 13 #[.slice a nb cb] w fun e w' => ∃ a' cap l, e = .returned (.slice a' l.length cap) ∧ w.Since w.heap.size w' ∧ DrawnT w w' 6 6 a' l := by
  have E := Lib.hid (l6Open_any a nb cb w hc h63 hb)
  clear hb
  go_enter Tryd.func13, Tryd.ntmps13
  go_wp2_with fail
  refine (E.out).mono ?_
  rintro e w1 ⟨n', c', rfl, hs, hz, hd⟩
  have HD := Lib.hid hd
  clear hd
  go_wp2_with fail
  refine (l91About_any w w1 w.heap.size n' c' 0 6 a HD.out (by omega) (by omega) (by omega)).mono ?_
  rintro e w2 ⟨a', cap', l, p', rfl, hg, hd2, hp, h1, h5, hl, hit⟩
  go_wp2
  go_ret
  exact ⟨a', cap', l, rfl, hs.trans (since_grown hg (Nat.le_refl _) hs.size), h1, h5, hl, hit.mono hs.size (Nat.le_refl _)⟩

set_option maxHeartbeats 1000000 in
theorem drawPairCount_any (a : Option Addr) (nb cb : Nat) (w : World) (hc : nb ≤ cb) (h63 : cb ≤ 9223372036854775807) (hb : BytR w a nb) :
    Calls Tryd.prog 16 #[.slice a nb cb] w fun e w' => ∃ a' cap l, e = .returned (.slice a' l.length cap) ∧ w.Since w.heap.size w' ∧ DrawnT w w' 6 6 a' l := by
  have E := Lib.hid (l6Open_any a nb cb w hc h63 hb)
  clear hb
  go_enter Tryd.func16, Tryd.ntmps16
  go_wp2_with fail
  refine (E.out).mono ?_
  rintro e w1 ⟨n', c', rfl, hs, hz, hd⟩
  have HD := Lib.hid hd
  clear hd
  go_wp2_with fail
  refine (l91About_any w w1 w.heap.size n' c' 0 6 a HD.out (by omega) (by omega) (by omega)).mono ?_
  rintro e w2 ⟨a', cap', l, p', rfl, hg, hd2, hp, h1, h5, hl, hit⟩
  go_wp2
  go_ret
  exact ⟨a', cap', l, rfl, hs.trans (since_grown hg (Nat.le_refl _) hs.size), h1, h5, hl, hit.mono hs.size (Nat.le_refl _)⟩

end Go.Proofs.YtpimdgijjljejaaDoor
end

section
namespace Go.Proofs.YtpimdgijjljejaaDoor
open Go.RowKit Go.Deep

set_option maxHeartbeats 1000000 in
theorem sameInts_same (a b : Option Addr) (ca cb n : Nat) (l : List Int) (w : World) (hn : l.length = n) (h63 : n ≤ 9223372036854775807) (ha : RowR w a l) (hb : RowR w b l) :
    Calls Tryd.prog 50 #[.slice a n ca, .slice b n cb] w fun e w' => e = .returned (.bool true) ∧ Drawn w w' := by
  have H := Lib.hid hn; clear hn
  go_enter Tryd.func50, Tryd.ntmps50
  go_wp2
  go_loopg [5] n (fun g i wr => ∃ k : Nat, k ≤ n ∧ g = n - k ∧ i = .int .i64 k ∧ Drawn w wr)
  case atStart => exact ⟨0, Nat.zero_le _, rfl, rfl, Drawn.refl w⟩
  case round =>
    obtain ⟨k, hk, rfl, rfl, hD⟩ := hrel
    by_cases hlt : k < n
    · obtain ⟨b1, o1, rfl, hc1⟩ := ha (by rw [H.out]; omega)
      obtain ⟨b2, o2, rfl, hc2⟩ := hb (by rw [H.out]; omega)
      have c1 := hc1 k (by rw [H.out]; exact hlt)
      have c2 := hc2 k (by rw [H.out]; exact hlt)
      obtain ⟨x, hx⟩ : ∃ x, x = l.getD k 0 := ⟨_, rfl⟩
      rw [← hx] at c1 c2
      rw [← hD.cell] at c1 c2
      clear hx hc1 hc2 ha hb
      go_wp2
      go_quiet (fail)
      go_wp2
      go_roundg (n - (k + 1))
      case measure => omega
      case rel => exact ⟨k + 1, by omega, rfl, by go_num, hD.trans (Drawn.mk _ _)⟩
    · go_wp2
      go_ret
      exact ⟨rfl, hD⟩

set_option maxHeartbeats 1000000 in
theorem sameRows_same (a b : Option Addr) (ca cb n : Nat) (l : List (List Int)) (w : World) (hn : l.length = n) (h63 : n ≤ 9223372036854775807) (hl : ∀ r, r < l.length → (l.getD r []).length ≤ 9223372036854775807)
    (ha : MatR w a l) (hb : MatR w b l) :
    Calls Tryd.prog 22 #[.slice a n ca, .slice b n cb] w fun e w' => e = .returned (.bool true) ∧ Drawn w w' := by
  have H := Lib.hid hn; clear hn
  go_enter Tryd.func22, Tryd.ntmps22
  go_wp2
  go_loopg [5] n (fun g i wr => ∃ k : Nat, k ≤ n ∧ g = n - k ∧ i = .int .i64 k ∧ Drawn w wr)
  case atStart => exact ⟨0, Nat.zero_le _, rfl, rfl, Drawn.refl w⟩
  case round =>
    obtain ⟨k, hk, rfl, rfl, hD⟩ := hrel
    by_cases hlt : k < n
    · obtain ⟨b1, o1, A1, C1, rfl, hc1⟩ := ha (by rw [H.out]; omega)
      obtain ⟨b2, o2, A2, C2, rfl, hc2⟩ := hb (by rw [H.out]; omega)
      obtain ⟨c1, r1⟩ := hc1 k (by rw [H.out]; exact hlt)
      obtain ⟨c2, r2⟩ := hc2 k (by rw [H.out]; exact hlt)
      have hlk := hl k (by rw [H.out]; exact hlt)
      obtain ⟨x, hx⟩ : ∃ x, x = l.getD k [] := ⟨_, rfl⟩
      rw [← hx] at c1 c2 r1 r2 hlk
      obtain ⟨m, hm⟩ : ∃ m, x.length = m := ⟨_, rfl⟩
      rw [hm] at c1 c2 hlk
      have HM := Lib.hid hm
      clear hx hc1 hc2 ha hb hl hm
      have r1 := r1.drawn hD
      have r2 := r2.drawn hD
      rw [← hD.cell] at c1 c2
      have e1 := fun (p : Nat) => sameInts_same (A1 k) (A2 k) (C1 k) (C2 k) m x (wr.drewN p) HM.out hlk r1 r2
      have E1 := Lib.hid e1; clear e1 r1 r2
      go_wp2
      go_quiet ((go_at_call 50; exact Calls.quiet_of (E1.out _)))
      go_wp2
      go_roundg (n - (k + 1))
      case measure => omega
      case rel => exact ⟨k + 1, by omega, rfl, by go_num, hD.trans (Drawn.mk _ _)⟩
    · go_wp2
      go_ret
      exact ⟨rfl, hD⟩

end Go.Proofs.YtpimdgijjljejaaDoor
end

section
namespace Go.Proofs.YtpimdgijjljejaaDoor
open Go.RowKit Go.Deep

theorem szL_of {l : List (List Int)} {n k : Nat} (h1 : l.length ≤ n) (h2 : ∀ j, j < l.length → (l.getD j []).length ≤ k) (hnk : n * k + n ≤ 1048576) : szL l ≤ 1048576 := by
  have h3 := sumTo_le_mul l k h2 l.length (Nat.le_refl _)
  have h4 : l.length * k ≤ n * k := Nat.mul_le_mul_right _ h1
  have h5 : k * l.length = l.length * k := Nat.mul_comm _ _
  unfold szL
  omega
theorem rows_le {l : List (List Int)} (h : szL l ≤ 1048576) : ∀ r, r < l.length → (l.getD r []).length ≤ 9223372036854775807 := fun r hr => by
  have := row_le l hr
  unfold szL at h
  omega

theorem tab_self {l : List (List Int)} {n m : Nat} (hn : l.length = n) (hm : ∀ r, r < n → (l.getD r []).length = m) : tabF n m (at2 l) = l := by
  refine List.ext_getElem (by rw [tabF_length, hn]) fun r h1 h2 => ?_
  have hr : r < n := by rw [tabF_length] at h1; exact h1
  have e1 : (tabF n m (at2 l))[r] = (tabF n m (at2 l)).getD r [] := by simp [List.getD, h1]
  have e2 : l[r] = l.getD r [] := by simp [List.getD, h2]
  rw [e1, e2, tabF_get _ _ _ _ hr]
  refine List.ext_getElem (by rw [List.length_map, List.length_range, hm r hr]) fun k h3 h4 => ?_
  rw [List.getElem_map, List.getElem_range]
  unfold at2
  obtain ⟨x, hx⟩ : ∃ x, x = l.getD r [] := ⟨_, rfl⟩
  subst hx
  generalize l.getD r [] = x at *
  simp [List.getD, h4]

theorem turnL_turnL {l : List (List Int)} (hT : TabIn l) : turnL (turnL l) = l := by
  have h1 := hT.1
  have hw := hT.width
  have e0 : ((turnL l).getD 0 []).length = l.length := tabF_len _ _ _ _ hw.1
  have e1 : turnL (turnL l) = tabF l.length (l.getD 0 []).length fun k i => at2 (turnL l) i k := by
    show tabF ((turnL l).getD 0 []).length (turnL l).length _ = _
    rw [e0, turnL_length]
  rw [e1]
  have e2 : tabF l.length (l.getD 0 []).length (fun k i => at2 (turnL l) i k) = tabF l.length (l.getD 0 []).length (at2 l) := by
    unfold tabF
    refine List.map_congr_left fun r hr => List.map_congr_left fun k hk => ?_
    exact tabF_at _ _ _ _ _ (List.mem_range.1 hk) (List.mem_range.1 hr)
  rw [e2]
  exact tab_self rfl (fun r hr => hT.row hr)

end Go.Proofs.YtpimdgijjljejaaDoor
end

section
namespace Go.Proofs.YtpimdgijjljejaaDoor
open Go.RowKit Go.Deep

theorem and1S_fin : ∀ s : Fin 64, bits BinOp.and IntKind.i64 (s.val : Int) 1 = ((s.val % 2 : Nat) : Int) := by decide +kernel

end Go.Proofs.YtpimdgijjljejaaDoor
end

section
namespace Go.Proofs.YtpimdgijjljejaaDoor
open Go.RowKit Go.Deep

theorem orS_fin : ∀ s : Fin 64, ∀ k : Fin 6, bits BinOp.or IntKind.i64 (s.val : Int) (2 ^ k.val) = ((s.val ||| 2 ^ k.val : Nat) : Int) := by decide +kernel
theorem orS_lt : ∀ s : Fin 64, ∀ k : Fin 6, s.val ||| 2 ^ k.val ≤ 63 := by decide +kernel
theorem pow_in : ∀ k : Fin 6, IntKind.i64.wrap ((2 : Int) ^ k.val) = (2 : Int) ^ k.val := by decide +kernel
theorem popcS_le (s : Nat) : popcS s ≤ 6 := sel_length s 6 6

end Go.Proofs.YtpimdgijjljejaaDoor
end

section
namespace Go.Proofs.YtpimdgijjljejaaDoor
open Go.RowKit Go.Deep

theorem bit0_fin : ∀ s : Fin 64, ∀ i : Fin 6, (bits BinOp.and IntKind.i64 ((s.val : Int) / 2 ^ i.val) 1 == 0) = !s.val.testBit i.val := by decide +kernel
theorem bit0_any (s i : Nat) (hs : s ≤ 63) (hi : i ≤ 5) : (bits BinOp.and IntKind.i64 ((s : Int) / 2 ^ i) 1 == 0) = !s.testBit i := bit0_fin ⟨s, by omega⟩ ⟨i, by omega⟩
theorem pow_wrap (n : Nat) (h : n ≤ 6) : wrap64 (wrap64 (2 ^ n) - 1) = ((2 ^ n - 1 : Nat) : Int) := by
  have h : n = 0 ∨ n = 1 ∨ n = 2 ∨ n = 3 ∨ n = 4 ∨ n = 5 ∨ n = 6 := by omega
  rcases h with rfl | rfl | rfl | rfl | rfl | rfl | rfl <;> decide +kernel

set_option maxRecDepth 100000 in
set_option maxHeartbeats 4000000 in
theorem l1Part_any (a : Option Addr) (cap n s c : Nat) (l : List (List Int)) (w : World) (hn : l.length = n) (hT : TabIn l) (hs : s ≤ 63) (hc63 : c ≤ 63) (hm : MatR w a l) :
    Calls Tryd.prog 61 #[.slice a n cap, .int .i64 s, .int .i64 c] w fun e w' => ∃ a' cap', e = .returned (.slice a' (partL l s c).length cap') ∧ w.Since w.heap.size w' ∧ InT w.heap.size w'.heap.size w' a' (partL l s c) := by
  obtain ⟨i42, hi42⟩ := info42_parts
  obtain ⟨i3, hi3⟩ := info3_parts
  have HI := Lib.hid hi42
  have HJ := Lib.hid hi3
  have hst := bt_start w (fun _ => none) (fun _ => 0) #[] rfl
  have hw := hT.width
  have h6 := hT.2.1
  have h1 := hT.1
  rw [hn] at h6 h1
  obtain ⟨m, hmm⟩ : ∃ m, (l.getD 0 []).length = m := ⟨_, rfl⟩
  have hpl : partL l s c = partRows c l m n (sel s n n) := by unfold partL; rw [hmm, hn]
  rw [hmm] at hw
  rw [hpl]
  obtain ⟨b, o, A0, C0, rfl, hlen, hcell⟩ := hm.grid hn hT hmm
  have HC := Lib.hid hcell
  have HLEN := Lib.hid hlen
  clear hi42 hi3 hm hT hn hmm hpl hcell hlen
  go_enter Tryd.func61, Tryd.ntmps61
  go_wp2
  go_loopg [7, 8, 9, 10] n (fun g v i _ _ wr => ∃ r : Nat, ∃ A C, r ≤ n ∧ g = n - r ∧ i = .int .i64 r ∧ BT w wr v (partRows c l m n (sel s n r)) A C)
  case atStart => exact ⟨0, _, _, Nat.zero_le _, rfl, rfl, hst⟩
  case round =>
    obtain ⟨r, A, C, hr, rfl, rfl, hR⟩ := hrel
    clear hst
    by_cases hlt : r < n
    · have HR := Lib.hid hR
      have hsz := hR.since.size
      have hbit := bit0_any s r hs (by omega)
      clear hR
      cases hb : s.testBit r with
      | false =>
        rw [hb] at hbit
        have HB := Lib.hid hb
        clear hb
        go_wp2
        go_roundg (n - (r + 1))
        case measure => omega
        case rel => exact ⟨r + 1, A, C, by omega, rfl, by go_num, by rw [sel_no s n r HB.out]; exact HR.out⟩
      | true =>
        rw [hb] at hbit
        have HB := Lib.hid hb
        have HSN := Lib.hid (partRows_snoc c l m n (sel s n r) ⟨r, hlt⟩)
        have hlenr : (partRows c l m n (sel s n r)).length ≤ 6 := by
          have := sel_length s n r
          simp [partRows]; omega
        obtain ⟨L, hL⟩ : ∃ L, partRows c l m n (sel s n r) = L := ⟨_, rfl⟩
        rw [hL] at HSN hlenr HR
        obtain ⟨X, hX⟩ : ∃ X, l.getD r [] = X := ⟨_, rfl⟩
        have HX := Lib.hid hX
        have hrb := rb_start wr #[] rfl
        have HRB := Lib.hid hrb
        obtain ⟨wo, rfl⟩ : ∃ wo : World, wo = wr := ⟨_, rfl⟩
        clear hb hL hX hrb
        go_wp2
        go_loopg [9, 10] m (fun g v k wi => ∃ k' : Nat, k' ≤ m ∧ g = m - k' ∧ k = .int .i64 k' ∧ RB wo wi v (pickTo c X m k'))
        case atStart => exact ⟨0, Nat.zero_le _, rfl, rfl, HRB.out⟩
        case round =>
          obtain ⟨k, hk, rfl, rfl, hI⟩ := hrel
          clear HRB hbit
          have hS := HR.out.since.trans (since_mono hI.since hsz)
          have hc0 := HLEN.out r hlt
          rw [← hS.cell (a := ⟨b, o + r, none⟩) (World.block_lt_of_cell? _ _ hc0)] at hc0
          have hle := pickTo_length c X m k
          have hzi := hI.since.size
          by_cases hkm : k < m
          · have hbit := bit_any c k hc63 (by omega)
            obtain ⟨b', o', e1, e2, _⟩ := HC.out r k hlt hkm
            rw [← hS.cell (a := ⟨b, o + r, none⟩) (World.block_lt_of_cell? _ _ e1)] at e1
            rw [← hS.cell (a := ⟨b', o' + k, none⟩) (World.block_lt_of_cell? _ _ e2)] at e2
            have hat : at2 l r k = X.getD k 0 := by unfold at2; rw [HX.out]
            rw [hat] at e2
            obtain ⟨y, hy⟩ : ∃ y, X.getD k 0 = y := ⟨_, rfl⟩
            rw [hy] at e2
            have HY := Lib.hid hy
            have HII := Lib.hid hI
            clear hI hS hc0 hat hy
            cases hb : c.testBit k with
            | true =>
              rw [hb] at hbit
              have HBK := Lib.hid hb
              clear hb
              go_wp2_with (at_builtin; (refine wpList_append_own _ rfl _ _ 47 rfl wo.heap.size 3 i3 (.int .i64 0) 1 8 Tryd.underlying47 HJ.out.1 HJ.out.2.1 HJ.out.2.2.1 HJ.out.2.2.2 rfl (by decide) _ _ _ rfl (HII.out.own.alloc _) ⟨wr.heap.size, 0, none⟩ 1 1 [.int .i64 y] rfl rfl (cell_one_at _ _ _ rfl) (fun x hx => by simp at hx; subst hx; rfl) (by unfold maxLen; omega) (by omega) (by simp; omega) ?_); intro v' w1 hown' hgrow _)
              have hP := HII.out.push hown' hgrow
              rw [← HY.out, ← pickTo_yes c X m k hkm HBK.out] at hP
              have HP := Lib.hid hP
              clear hP hown' hgrow hle e1 e2 hbit
              go_roundg (m - (k + 1))
              case measure => omega
              case rel => exact ⟨k + 1, by omega, rfl, by go_num, HP.out⟩
            | false =>
              rw [hb] at hbit
              have HBK := Lib.hid hb
              clear hb
              go_wp2
              go_roundg (m - (k + 1))
              case measure => omega
              case rel => exact ⟨k + 1, by omega, rfl, by go_num, by rw [pickTo_no c X m k HBK.out]; exact HII.out⟩
          · have : k = m := by omega
            subst this
            obtain ⟨ra, rcp, hv, hrow⟩ := hI.slice
            obtain ⟨R, hRR⟩ : ∃ R, pickTo c X k k = R := ⟨_, rfl⟩
            rw [hRR] at hv hrow hle
            subst hv
            have HII := Lib.hid hI
            have HROW := Lib.hid hrow
            have HBT := Lib.hid (HR.out.later hI.since)
            have HRR := Lib.hid hRR
            clear hI hrow hS hRR
            go_wp2_with (at_builtin; (refine wpList_append_own _ rfl _ _ 23 rfl w.heap.size 47 i42 (.slice none 0 0) 1 24 Tryd.underlying23 HI.out.1 HI.out.2.1 HI.out.2.2.1 HI.out.2.2.2 rfl (by decide) _ _ _ rfl (HBT.out.own.alloc _) ⟨wr.heap.size, 0, none⟩ 1 1 [.slice ra R.length rcp] rfl rfl (cell_one_at _ _ _ rfl) (fun x hx => by simp at hx; subst hx; rfl) (by unfold maxLen; omega) (by omega) (by simp; omega) ?_); intro v' w1 hown' hgrow _)
            have hP := HBT.out.push (rv := .slice ra R.length rcp) (x := R) (a := ra) (cp := rcp) rfl (fun h => by obtain ⟨G, e, h2, h3⟩ := HROW.out h; exact ⟨G, e, by omega, h3⟩) (fun h => by obtain ⟨G, e, h2, _⟩ := HROW.out h; exact HR.out.fresh e h2) hown' hgrow
            have hsn := HSN.out
            rw [HX.out, HRR.out] at hsn
            rw [← hsn, ← sel_yes s n r hlt HB.out] at hP
            have HP := Lib.hid hP
            clear hP hown' hgrow hle hsn hc0
            go_roundg (n - (r + 1))
            case measure => omega
            case rel => exact ⟨r + 1, _, _, by omega, rfl, by go_num, HP.out⟩
    · have : r = n := by omega
      subst this
      obtain ⟨ra, rcp, hv, hin⟩ := hR.slice
      have HS := Lib.hid hR.since
      have HIN := Lib.hid hin
      subst hv
      clear hR hin
      go_wp2
      go_ret
      exact ⟨ra, rcp, rfl, HS.out, HIN.out⟩

end Go.Proofs.YtpimdgijjljejaaDoor
end

section
namespace Go.Proofs.YtpimdgijjljejaaDoor
open Go.RowKit Go.Deep

def SpecV (w : World) (ok : Bool) (x : Int) (e : Ending) (w' : World) : Prop := e = .returned (.tuple #[.int .i64 (if ok then x else 0), .bool ok]) ∧ Drawn w w'

def trF (l : List (List Int)) (i : Nat) : Int := at2 l i i

end Go.Proofs.YtpimdgijjljejaaDoor
end

section
namespace Go.Proofs.YtpimdgijjljejaaDoor
open Go.RowKit Go.Deep

theorem andNot_fin : ∀ n : Fin 7, ∀ k : Fin 6, k.val < n.val → bits BinOp.andNot IntKind.i64 ((2 ^ n.val - 1 : Nat) : Int) (2 ^ k.val) = ((2 ^ n.val - 1 - 2 ^ k.val : Nat) : Int) := by decide +kernel
theorem less_fin : ∀ n : Fin 7, 1 ≤ n.val → IntKind.i64.wrap (((2 ^ n.val - 1 : Nat) : Int) - 1) = ((2 ^ n.val - 2 : Nat) : Int) := by decide +kernel
theorem pow63 : ∀ n : Fin 7, 2 ^ n.val - 1 ≤ 63 := by decide +kernel

def SpecW (w : World) (ok : Bool) (x : Int) (e : Ending) (w' : World) : Prop := e = .returned (.tuple #[.int .i64 (if ok then x else 0), .bool ok]) ∧ w.Since w.heap.size w'

end Go.Proofs.YtpimdgijjljejaaDoor
end

section
namespace Go.Proofs.YtpimdgijjljejaaDoor
open Go.RowKit Go.Deep

theorem halfS_start (l : List (List Int)) (i s : Nat) (f : Nat → Int) : ∀ m, m ≤ i + 1 → sumN (halfT l i s f) m = 0
  | 0, _ => rfl
  | m + 1, h => by
    show sumN (halfT l i s f) m + halfT l i s f m = 0
    rw [halfS_start l i s f m (by omega), halfT_no f (by omega)]
    rfl
theorem popcS_oneH' : ∀ s : Fin 64, 0 < s.val → 1 ≤ popcS s.val := by decide +kernel
theorem btw_le (s i k : Nat) : btw s i k ≤ 6 := popcS_le _

set_option maxRecDepth 100000 in
set_option maxHeartbeats 4000000 in
theorem l5Half_any (a : Option Addr) (cap n : Nat) (l : List (List Int)) (hn : l.length = n) (hT : TabIn l) (hm : (l.getD 0 []).length = n) :
    ∀ d s : Nat, s < 2 ^ n → popcS s ≤ 2 * d → d ≤ 3 → ∀ W : World, MatR W a l → Calls Tryd.prog 32 #[.slice a n cap, .int .i64 s] W fun e w' => e = .returned (.int .i64 (halfF l n d s)) ∧ Drawn W w' := by
  have hE := entB_of hT hn hm
  have h6 := hE.1
  have h64 : 2 ^ n ≤ 2 ^ 6 := Nat.pow_le_pow_right (by omega) h6
  intro d
  induction d with
  | zero =>
    intro s hs hp _ W _
    have h0 : s = 0 := Nat.eq_zero_of_not_pos (fun h => absurd (popcS_oneH' ⟨s, by omega⟩ h) (by simp; omega))
    subst h0
    rw [halfF_none]
    go_enter Tryd.func32, Tryd.ntmps32
    go_wp2
    go_ret
    exact ⟨rfl, Drawn.refl _⟩
  | succ d ih =>
    intro s hs hp hd3 W hmat
    by_cases h0 : s = 0
    · subst h0
      rw [halfF_none]
      clear hmat ih
      go_enter Tryd.func32, Tryd.ntmps32
      go_wp2
      go_ret
      exact ⟨rfl, Drawn.refl _⟩
    · rw [halfF_some l n d h0]
      obtain ⟨i1, i2, i3⟩ := lowB_fin ⟨s, by omega⟩ h0
      have i4 := lowB_in ⟨n, by omega⟩ ⟨s, by omega⟩ hs h0
      simp only at i1 i2 i3 i4
      obtain ⟨i, hi⟩ : ∃ i, lowB s = i := ⟨_, rfl⟩
      rw [hi] at i1 i2 i3 i4 ⊢
      have hne : ((s : Int) == 0) = false := by simp; omega
      have hbF := fun u (hu : u < 2 ^ n) => halfF_bd hE d u hu
      have hp1 := p180_pos d
      have hp2 := p180_le (d + 1) (by omega)
      obtain ⟨b, o, A, C, rfl, hrow, hcell⟩ := hmat.grid hn hT hm
      have HIH := Lib.hid (fun (u : Nat) (hu : u < 2 ^ n) (hpu : popcS u ≤ 2 * d) (V : World) (hV : MatR V (some ⟨b, o, none⟩) l) => ih u hu hpu (by omega) V hV)
      have HSB := Lib.hid (fun k (hk : k ≤ n) => show -(180 * p180 d) ≤ sumN (halfT l i s (halfF l n d)) k ∧ sumN (halfT l i s (halfF l n d)) k ≤ 180 * p180 d from by
        have e : sumN (halfT l i s (halfF l n d)) k = sumN (halfT l i s (fun u => if u < 2 ^ n then halfF l n d u else 0)) k := by
          exact sumN_congrH k (fun k _ => (halfT_in hs).symm)
        rw [e]
        exact sumH_bd hE i4 hk (by omega) (fun u => by
          by_cases hu : u < 2 ^ n
          · rw [if_pos hu]; exact hbF u hu
          · rw [if_neg hu]; omega))
      obtain ⟨F, hF⟩ : ∃ F, F = halfF l n d := ⟨_, rfl⟩
      simp only [← hF] at hbF HSB HIH ⊢
      have HS0 := Lib.hid (halfS_start l i s F (i + 1) (Nat.le_refl _))
      clear hF
      have HMAT := Lib.hid hmat
      have HC := Lib.hid hcell
      have HBF := Lib.hid hbF
      have HI3 := Lib.hid (show ∀ j : Nat, j < i → s.testBit j = false from fun j hj => i3 ⟨j, by omega⟩ hj)
      have HBZ := Lib.hid (show btw s i (i + 1) = 0 from btw_zero ⟨s, by omega⟩ ⟨i, i2⟩)
      have HI1 := Lib.hid i1
      have HP := Lib.hid hp
      clear hmat hrow hcell ih hbF i3 hi h0 i1 hp
      go_enter Tryd.func32, Tryd.ntmps32
      go_wp2
      go_loopg [5] i (fun g v wr => ∃ j : Nat, j ≤ i ∧ g = i - j ∧ v = .int .i64 j ∧ W = wr)
      case atStart => exact ⟨0, Nat.zero_le _, rfl, rfl, rfl⟩
      case round =>
        obtain ⟨j, hj, rfl, rfl, rfl⟩ := hrel
        have hbj := bit0_any s j (by omega) (by omega)
        have hmj : min j 64 = j := by omega
        by_cases hlt : j < i
        · rw [HI3.out j hlt] at hbj
          go_wp2
          go_roundg (i - (j + 1))
          case measure => omega
          case rel => exact ⟨j + 1, by omega, rfl, by go_num, rfl⟩
        · have hji : j = i := by omega
          subst hji
          rw [HI1.out] at hbj
          have HST := Lib.hid (And.intro HBZ.out HS0.out)
          have hw1 : IntKind.i64.wrap ((j : Int) + 1) = ((j + 1 : Nat) : Int) := (IntWalk.i64_in _ ⟨by omega, by omega⟩).trans (by omega)
          go_wp2
          clear hbj
          go_loopg [6, 7, 8, 9] (n - (j + 1)) (fun g sv bv k _ wr => ∃ q : Nat, j < q ∧ q ≤ n ∧ g = n - q ∧ k = .int .i64 q ∧ sv = .int .i64 (sumN (halfT l j s F) q) ∧ bv = .int .i64 (btw s j q) ∧ Drawn W wr)
          case atStart => exact ⟨j + 1, by omega, by omega, rfl, rfl, by rw [HST.out.2], by rw [HST.out.1]; rfl, Drawn.refl _⟩
          case round =>
            obtain ⟨q, hq1, hq, rfl, rfl, rfl, rfl, hD⟩ := hrel
            clear HST
            by_cases hltq : q < n
            · have hbit := bit0_any s q (by omega) (by omega)
              have hmq : min q 64 = q := by omega
              have hbtw := btw_fin ⟨s, by omega⟩ ⟨j, by omega⟩ ⟨q, by omega⟩ hq1
              simp only at hbtw
              have hb6 := btw_le s j q
              obtain ⟨s0, hs0⟩ : ∃ x, x = sumN (halfT l j s F) q := ⟨_, rfl⟩
              rw [← hs0]
              have HS0' := Lib.hid hs0
              clear hs0
              cases hb : s.testBit q with
              | false =>
                have e : sumN (halfT l j s F) (q + 1) = s0 := by
                  show sumN (halfT l j s F) q + halfT l j s F q = s0
                  rw [halfT_no F (by rw [hb]; simp), HS0'.out, Int.add_zero]
                rw [hb] at hbit hbtw
                have HE := Lib.hid e
                have HBT := Lib.hid hbtw
                clear e hb hbtw
                go_wp2
                go_roundg (n - (q + 1))
                case measure => omega
                case rel => exact ⟨q + 1, by omega, by omega, rfl, by go_num, by rw [HE.out], by rw [HBT.out]; rfl, hD⟩
              | true =>
                obtain ⟨t1, t2, t3⟩ := two_off ⟨s, by omega⟩ ⟨j, by omega⟩ ⟨q, by omega⟩ hq1 HI1.out hb
                simp only at t1 t2 t3
                have hul : s - 2 ^ j - 2 ^ q < 2 ^ n := two_less hs
                obtain ⟨b', o', e1, e2, e3, e4⟩ := HC.out j q i4 hltq
                rw [← hD.cell] at e1 e2
                obtain ⟨y, hy⟩ : ∃ y, y = at2 l j q := ⟨_, rfl⟩
                rw [← hy] at e2 e3 e4
                have E1 := fun (p : Nat) => HIH.out (s - 2 ^ j - 2 ^ q) hul (by have := HP.out; omega) (wr.drewN p) (HMAT.out.drawn (hD.trans (Drawn.mk _ _)))
                have hfb := HBF.out _ hul
                have e : sumN (halfT l j s F) (q + 1) = s0 + sg (btw s j q) (y * F (s - 2 ^ j - 2 ^ q)) := by
                  show sumN (halfT l j s F) q + halfT l j s F q = _
                  rw [halfT_yes F hq1 hb, ← HS0'.out, ← hy]
                obtain ⟨u1, hu1⟩ : ∃ u, s - 2 ^ j = u := ⟨_, rfl⟩
                obtain ⟨u2, hu2⟩ : ∃ u, s - 2 ^ j - 2 ^ q = u := ⟨_, rfl⟩
                rw [hu2] at t2 hfb e
                simp only [hu2] at E1
                rw [hu1] at t1 t2
                obtain ⟨f2, hf2⟩ : ∃ z, F u2 = z := ⟨_, rfl⟩
                rw [hf2] at hfb e
                simp only [hf2] at E1
                replace E1 := Lib.hid E1
                obtain ⟨pc, hpc⟩ : ∃ p, btw s j q = p := ⟨_, rfl⟩
                rw [hpc] at e hbtw hb6 ⊢
                have hxb := mul_bdB e3 e4 hfb.1 hfb.2
                have hp3 : p180 (d + 1) = 180 * p180 d := rfl
                have hwx : IntKind.i64.wrap (y * f2) = y * f2 := IntWalk.i64_in _ ⟨by omega, by omega⟩
                have hwj := pow_in ⟨j, by omega⟩
                have hwq := pow_in ⟨q, by omega⟩
                simp only at hwj hwq
                have hmj2 : min j 64 = j := by omega
                have hsb := HSB.out (q + 1) (by omega)
                rw [e] at hsb
                rw [hb] at hbit hbtw
                have hwb : IntKind.i64.wrap ((pc : Int) + 1) = (pc : Int) + 1 := IntWalk.i64_in _ ⟨by omega, by omega⟩
                have HE := Lib.hid e
                have HBT := Lib.hid hbtw
                have HDD := Lib.hid hD
                clear e hb hbtw hu1 hu2 hf2 hpc hy t3 hD hul
                go_wp2
                go_quiet ((go_at_call 32; exact Calls.quiet_of (E1.out _)))
                by_cases hodd : pc % 2 = 1
                · have ho : ((pc : Int) % 2 == 1) = true := by simp; omega
                  have e0 : sg pc (y * f2) = -(y * f2) := by unfold sg; rw [if_pos hodd]
                  rw [e0] at hsb
                  have w1 : IntKind.i64.wrap (0 - y * f2) = -(y * f2) := (IntWalk.i64_in _ ⟨by omega, by omega⟩).trans (by omega)
                  have w2 : IntKind.i64.wrap (-(y * f2)) = -(y * f2) := IntWalk.i64_in _ ⟨by omega, by omega⟩
                  have w3 : IntKind.i64.wrap (s0 + -(y * f2)) = s0 + -(y * f2) := IntWalk.i64_in _ ⟨by omega, by omega⟩
                  go_wp2
                  go_roundg (n - (q + 1))
                  case measure => omega
                  case rel => exact ⟨q + 1, by omega, by omega, rfl, by go_num, by rw [HE.out, e0], by rw [HBT.out]; go_num, HDD.out.trans (Drawn.mk _ _)⟩
                · have ho : ((pc : Int) % 2 == 1) = false := by simp; omega
                  have e0 : sg pc (y * f2) = y * f2 := by unfold sg; rw [if_neg hodd]
                  rw [e0] at hsb
                  have w3 : IntKind.i64.wrap (s0 + y * f2) = s0 + y * f2 := IntWalk.i64_in _ ⟨by omega, by omega⟩
                  go_wp2
                  go_roundg (n - (q + 1))
                  case measure => omega
                  case rel => exact ⟨q + 1, by omega, by omega, rfl, by go_num, by rw [HE.out, e0], by rw [HBT.out]; go_num, HDD.out.trans (Drawn.mk _ _)⟩
            · have hqn : q = n := by omega
              subst hqn
              go_wp2
              go_ret
              exact ⟨rfl, hD⟩

end Go.Proofs.YtpimdgijjljejaaDoor
end

section
namespace Go.Proofs.YtpimdgijjljejaaDoor
open Go.RowKit Go.Deep

theorem cntS_start (l : List (List Int)) (i s : Nat) (f : Nat → Nat) : ∀ m, m ≤ i + 1 → sumM (cntT l i s f) m = 0
  | 0, _ => rfl
  | m + 1, h => by
    show sumM (cntT l i s f) m + cntT l i s f m = 0
    rw [cntS_start l i s f m (by omega), cntT_no f (by omega)]
theorem p6_le : ∀ d, d ≤ 4 → p6 d ≤ 1296 := by
  intro d hd
  have h : d = 0 ∨ d = 1 ∨ d = 2 ∨ d = 3 ∨ d = 4 := by omega
  rcases h with rfl | rfl | rfl | rfl | rfl <;> decide
theorem cntS_bd {l : List (List Int)} {i s n : Nat} {f : Nat → Nat} {B : Nat} (h : ∀ u, f u ≤ B) : sumM (cntT l i s f) n ≤ n * B :=
  sumM_le (fun k => by
    unfold cntT
    split
    · exact h _
    · omega) n

set_option maxRecDepth 100000 in
set_option maxHeartbeats 4000000 in
theorem l5Count_any (a : Option Addr) (cap n : Nat) (l : List (List Int)) (hn : l.length = n) (hT : TabIn l) (hm : (l.getD 0 []).length = n) :
    ∀ d s : Nat, s < 2 ^ n → popcS s ≤ 2 * d → d ≤ 3 → ∀ W : World, MatR W a l → Calls Tryd.prog 37 #[.slice a n cap, .int .i64 s] W fun e w' => e = .returned (.int .i64 (cntF l n d s : Nat)) ∧ Drawn W w' := by
  have hE := entB_of hT hn hm
  have h6 := hE.1
  have h64 : 2 ^ n ≤ 2 ^ 6 := Nat.pow_le_pow_right (by omega) h6
  intro d
  induction d with
  | zero =>
    intro s hs hp _ W _
    have h0 : s = 0 := Nat.eq_zero_of_not_pos (fun h => absurd (popcS_oneH' ⟨s, by omega⟩ h) (by simp; omega))
    subst h0
    rw [cntF_none]
    go_enter Tryd.func37, Tryd.ntmps37
    go_wp2
    go_ret
    exact ⟨rfl, Drawn.refl _⟩
  | succ d ih =>
    intro s hs hp hd3 W hmat
    by_cases h0 : s = 0
    · subst h0
      rw [cntF_none]
      clear hmat ih
      go_enter Tryd.func37, Tryd.ntmps37
      go_wp2
      go_ret
      exact ⟨rfl, Drawn.refl _⟩
    · rw [cntF_some l n d h0]
      obtain ⟨i1, i2, i3⟩ := lowB_fin ⟨s, by omega⟩ h0
      have i4 := lowB_in ⟨n, by omega⟩ ⟨s, by omega⟩ hs h0
      simp only at i1 i2 i3 i4
      obtain ⟨i, hi⟩ : ∃ i, lowB s = i := ⟨_, rfl⟩
      rw [hi] at i1 i2 i3 i4 ⊢
      have hne : ((s : Int) == 0) = false := by simp; omega
      have hbF := cntF_bd l h6 d
      have hp2 := p6_le d (by omega)
      obtain ⟨b, o, A, C, rfl, hrow, hcell⟩ := hmat.grid hn hT hm
      have HIH := Lib.hid (fun (u : Nat) (hu : u < 2 ^ n) (hpu : popcS u ≤ 2 * d) (V : World) (hV : MatR V (some ⟨b, o, none⟩) l) => ih u hu hpu (by omega) V hV)
      obtain ⟨F, hF⟩ : ∃ F, F = cntF l n d := ⟨_, rfl⟩
      simp only [← hF] at hbF HIH ⊢
      have HS0 := Lib.hid (cntS_start l i s F (i + 1) (Nat.le_refl _))
      have HSB := Lib.hid (fun k => show sumM (cntT l i s F) k ≤ k * 1296 from Nat.le_trans (cntS_bd hbF) (Nat.mul_le_mul_left _ hp2))
      clear hF
      have HMAT := Lib.hid hmat
      have HC := Lib.hid hcell
      have HI3 := Lib.hid (show ∀ j : Nat, j < i → s.testBit j = false from fun j hj => i3 ⟨j, by omega⟩ hj)
      have HI1 := Lib.hid i1
      have HP := Lib.hid hp
      clear hmat hrow hcell ih hbF i3 hi h0 i1 hp
      go_enter Tryd.func37, Tryd.ntmps37
      go_wp2
      go_loopg [5] i (fun g v wr => ∃ j : Nat, j ≤ i ∧ g = i - j ∧ v = .int .i64 j ∧ W = wr)
      case atStart => exact ⟨0, Nat.zero_le _, rfl, rfl, rfl⟩
      case round =>
        obtain ⟨j, hj, rfl, rfl, rfl⟩ := hrel
        have hbj := bit0_any s j (by omega) (by omega)
        have hmj : min j 64 = j := by omega
        by_cases hlt : j < i
        · rw [HI3.out j hlt] at hbj
          go_wp2
          go_roundg (i - (j + 1))
          case measure => omega
          case rel => exact ⟨j + 1, by omega, rfl, by go_num, rfl⟩
        · have hji : j = i := by omega
          subst hji
          rw [HI1.out] at hbj
          have hw1 : IntKind.i64.wrap ((j : Int) + 1) = ((j + 1 : Nat) : Int) := (IntWalk.i64_in _ ⟨by omega, by omega⟩).trans (by omega)
          go_wp2
          clear hbj
          go_loopg [6, 7] (n - (j + 1)) (fun g sv k wr => ∃ q : Nat, j < q ∧ q ≤ n ∧ g = n - q ∧ k = .int .i64 q ∧ sv = .int .i64 (sumM (cntT l j s F) q : Nat) ∧ Drawn W wr)
          case atStart => exact ⟨j + 1, by omega, by omega, rfl, rfl, by rw [HS0.out]; rfl, Drawn.refl _⟩
          case round =>
            obtain ⟨q, hq1, hq, rfl, rfl, rfl, hD⟩ := hrel
            clear HS0
            by_cases hltq : q < n
            · have hbit := bit_any s q (by omega) (by omega)
              have hmq : min q 64 = q := by omega
              obtain ⟨s0, hs0⟩ : ∃ x, x = sumM (cntT l j s F) q := ⟨_, rfl⟩
              have hsb0 := HSB.out q
              have hsb1 := HSB.out (q + 1)
              rw [← hs0] at hsb0 ⊢
              have HS0' := Lib.hid hs0
              clear hs0
              cases hb : s.testBit q with
              | false =>
                have e : sumM (cntT l j s F) (q + 1) = s0 := by
                  show sumM (cntT l j s F) q + cntT l j s F q = s0
                  rw [cntT_no F (by rw [hb]; simp), HS0'.out, Nat.add_zero]
                rw [hb] at hbit
                have HE := Lib.hid e
                clear e hb hsb1
                go_wp2
                go_roundg (n - (q + 1))
                case measure => omega
                case rel => exact ⟨q + 1, by omega, by omega, rfl, by go_num, by rw [HE.out], hD⟩
              | true =>
                obtain ⟨t1, t2, t3⟩ := two_off ⟨s, by omega⟩ ⟨j, by omega⟩ ⟨q, by omega⟩ hq1 HI1.out hb
                simp only at t1 t2 t3
                have hul : s - 2 ^ j - 2 ^ q < 2 ^ n := two_less hs
                obtain ⟨b', o', e1, e2, e3, e4⟩ := HC.out j q i4 hltq
                rw [← hD.cell] at e1 e2
                by_cases hy0 : at2 l j q = 0
                · rw [hy0] at e2
                  have e : sumM (cntT l j s F) (q + 1) = s0 := by
                    show sumM (cntT l j s F) q + cntT l j s F q = s0
                    rw [cntT_no F (by rw [hy0]; simp), HS0'.out, Nat.add_zero]
                  rw [hb] at hbit
                  have HE := Lib.hid e
                  have HDD := Lib.hid hD
                  clear e hb hsb1 t3 hul hy0 hD
                  go_wp2
                  go_roundg (n - (q + 1))
                  case measure => omega
                  case rel => exact ⟨q + 1, by omega, by omega, rfl, by go_num, by rw [HE.out], HDD.out⟩
                · have e : sumM (cntT l j s F) (q + 1) = s0 + F (s - 2 ^ j - 2 ^ q) := by
                    show sumM (cntT l j s F) q + cntT l j s F q = _
                    rw [cntT_yes F ⟨⟨hq1, hb⟩, hy0⟩, HS0'.out]
                  obtain ⟨y, hy⟩ : ∃ y, y = at2 l j q := ⟨_, rfl⟩
                  rw [← hy] at e2 e3 e4 hy0
                  have E1 := fun (p : Nat) => HIH.out (s - 2 ^ j - 2 ^ q) hul (by have := HP.out; omega) (wr.drewN p) (HMAT.out.drawn (hD.trans (Drawn.mk _ _)))
                  obtain ⟨u1, hu1⟩ : ∃ u, s - 2 ^ j = u := ⟨_, rfl⟩
                  obtain ⟨u2, hu2⟩ : ∃ u, s - 2 ^ j - 2 ^ q = u := ⟨_, rfl⟩
                  rw [hu2] at t2 e
                  simp only [hu2] at E1
                  rw [hu1] at t1 t2
                  obtain ⟨f2, hf2⟩ : ∃ z, F u2 = z := ⟨_, rfl⟩
                  rw [hf2] at e
                  simp only [hf2] at E1
                  replace E1 := Lib.hid E1
                  have hwj := pow_in ⟨j, by omega⟩
                  have hwq := pow_in ⟨q, by omega⟩
                  simp only at hwj hwq
                  have hmj2 : min j 64 = j := by omega
                  rw [e] at hsb1
                  rw [hb] at hbit
                  have hyb : (y == 0) = false := by simpa using hy0
                  have hyn : (y != 0) = true := by simpa using hy0
                  have hws : IntKind.i64.wrap ((s0 : Int) + (f2 : Int)) = (s0 : Int) + (f2 : Int) := IntWalk.i64_in _ ⟨by omega, by omega⟩
                  have HE := Lib.hid e
                  have HDD := Lib.hid hD
                  clear e hb hu1 hu2 hf2 hy t3 hD hul hsb1
                  go_wp2
                  go_quiet ((go_at_call 37; exact Calls.quiet_of (E1.out _)))
                  go_wp2
                  go_roundg (n - (q + 1))
                  case measure => omega
                  case rel => exact ⟨q + 1, by omega, by omega, rfl, by go_num, by rw [HE.out]; go_num, HDD.out.trans (Drawn.mk _ _)⟩
            · have hqn : q = n := by omega
              subst hqn
              go_wp2
              go_ret
              exact ⟨rfl, hD⟩

end Go.Proofs.YtpimdgijjljejaaDoor
end

section
namespace Go.Proofs.YtpimdgijjljejaaDoor
open Go.RowKit Go.Deep

def AboutP (l : List (List Int)) (n : Nat) : Prop := ∀ i, i < n → ∀ k, k < i + 1 → at2 l i k + at2 l k i = 0
instance (l : List (List Int)) (n : Nat) : Decidable (AboutP l n) := inferInstanceAs (Decidable (∀ i, i < n → ∀ k, k < i + 1 → _))
noncomputable def pairB (l : List (List Int)) : Bool := sqB l && decide (AboutP l l.length)
theorem pairB_of {l : List (List Int)} {n : Nat} (h : pairB l = true) (hn : l.length = n) : TabIn l ∧ (l.getD 0 []).length = n ∧ AboutP l n := by
  unfold pairB at h
  simp only [Bool.and_eq_true, decide_eq_true_eq] at h
  obtain ⟨h1, h2⟩ := sqB_of h.1
  rw [hn] at h h2
  exact ⟨h1, h2.symm, h.2⟩
theorem pairB_sq {l : List (List Int)} (h : pairB l = true) : sqB l = true := by
  unfold pairB at h
  simp only [Bool.and_eq_true] at h
  exact h.1

set_option maxRecDepth 100000 in
set_option maxHeartbeats 2000000 in
theorem specPairIn_any (a : Option Addr) (cap n : Nat) (l : List (List Int)) (w : World) (hn : l.length = n) (hsz : szL l ≤ 1048576) (hm : MatR w a l) :
    Calls Tryd.prog 31 #[.slice a n cap] w fun e w' => e = .returned (.bool (pairB l)) ∧ Drawn w w' := by
  have E := l2Square_any a cap n l w hn hsz hm
  cases hs : sqB l with
  | false =>
    have hok : pairB l = false := by unfold pairB; rw [hs]; rfl
    rw [hs] at E
    rw [hok]
    replace E := Lib.hid E
    clear hs hm hn hsz hok
    go_enter Tryd.func31, Tryd.ntmps31
    go_wp2_with fail
    refine (E.out).mono ?_
    rintro e w1 ⟨rfl, hd⟩
    go_wp2
    go_ret
    exact ⟨rfl, hd⟩
  | true =>
    have hok : pairB l = decide (AboutP l n) := by unfold pairB; rw [hs, hn]; rfl
    rw [hs] at E
    rw [hok]
    replace E := Lib.hid E
    obtain ⟨hT, hw⟩ := sqB_of hs
    have h6 := hT.2.1
    rw [hn] at h6 hw
    obtain ⟨b, o, A, C, rfl, hrow, hcell⟩ := hm.grid hn hT hw.symm
    have HROW := Lib.hid hrow
    have HC := Lib.hid hcell
    obtain ⟨r, hr⟩ : ∃ r, decide (AboutP l n) = r := ⟨_, rfl⟩
    have HYES := Lib.hid (fun (h : AboutP l n) => show r = true by rw [← hr]; exact decide_eq_true h)
    have HNO := Lib.hid (fun (h : ¬ AboutP l n) => show r = false by rw [← hr]; exact decide_eq_false h)
    rw [hr]
    clear hs hm hn hsz hok hT hw hrow hcell hr
    go_enter Tryd.func31, Tryd.ntmps31
    go_wp2_with fail
    refine (E.out).mono ?_
    rintro e w1 ⟨rfl, hd⟩
    have HD1 := Lib.hid hd
    clear hd
    go_wp2
    go_loopg [3, 4] n (fun g i _ wr => ∃ i0 : Nat, i0 ≤ n ∧ g = n - i0 ∧ i = .int .i64 i0 ∧ AboutP l i0 ∧ Drawn w wr)
    case atStart => exact ⟨0, Nat.zero_le _, rfl, rfl, fun i hi => absurd hi (Nat.not_lt_zero _), HD1.out⟩
    case round =>
      obtain ⟨i0, hi0, rfl, rfl, hA, hD⟩ := hrel
      have HA := Lib.hid hA
      clear hA
      by_cases hlt : i0 < n
      · have HDR := Lib.hid hD
        clear hD
        go_wp2
        go_loopg [4] (i0 + 1) (fun g k wr => ∃ k0 : Nat, k0 ≤ i0 + 1 ∧ g = i0 + 1 - k0 ∧ k = .int .i64 k0 ∧ (∀ k, k < k0 → at2 l i0 k + at2 l k i0 = 0) ∧ Drawn w wr)
        case atStart => exact ⟨0, Nat.zero_le _, rfl, rfl, fun k hk => absurd hk (Nat.not_lt_zero _), HDR.out⟩
        case round =>
          obtain ⟨k0, hk0, rfl, rfl, hK, hD⟩ := hrel
          clear HDR
          have HK := Lib.hid hK
          clear hK
          by_cases hltk : k0 < i0 + 1
          · obtain ⟨b1, o1, c1, c2, c3, c4⟩ := HC.out i0 k0 hlt (by omega)
            obtain ⟨b2, o2, d1, d2, d3, d4⟩ := HC.out k0 i0 (by omega) hlt
            have hle : decide ((k0 : Int) ≤ (i0 : Int)) = true := by simp; omega
            rw [← hD.cell] at c1 c2 d1 d2
            obtain ⟨x, hx⟩ : ∃ x, at2 l i0 k0 = x := ⟨_, rfl⟩
            obtain ⟨y, hy⟩ : ∃ y, at2 l k0 i0 = y := ⟨_, rfl⟩
            rw [hx] at c2 c3 c4
            rw [hy] at d2 d3 d4
            have hw1 : IntKind.i64.wrap (x + y) = x + y := IntWalk.i64_in _ ⟨by omega, by omega⟩
            have HDR := Lib.hid hD
            by_cases h0 : x + y = 0
            · have hz : (x + y != 0) = false := by simp [h0]
              have HK2 := Lib.hid (show ∀ k, k < k0 + 1 → at2 l i0 k + at2 l k i0 = 0 from fun k hk => by
                by_cases e : k = k0
                · subst e; rw [hx, hy]; exact h0
                · exact HK.out k (by omega))
              clear hD hx hy h0
              go_wp2
              go_quiet (fail)
              go_wp2
              go_roundg (i0 + 1 - (k0 + 1))
              case measure => omega
              case rel => exact ⟨k0 + 1, by omega, rfl, by go_num, HK2.out, HDR.out.trans (Drawn.mk _ _)⟩
            · have hz : (x + y != 0) = true := by simp [h0]
              have HN := Lib.hid (HNO.out (fun h => h0 (by have := h i0 hlt k0 hltk; rw [hx, hy] at this; exact this)))
              clear hD hx hy h0
              go_wp2
              go_quiet (fail)
              go_wp2
              go_ret
              exact ⟨by rw [HN.out] <;> rfl, HDR.out.trans (Drawn.mk _ _)⟩
          · have hki : k0 = i0 + 1 := by omega
            have hle : decide ((k0 : Int) ≤ (i0 : Int)) = false := by simp; omega
            have HA2 := Lib.hid (show AboutP l (i0 + 1) from fun i hi k hk => by
              by_cases e : i = i0
              · subst e; exact HK.out k (by omega)
              · exact HA.out i (by omega) k hk)
            have HDR := Lib.hid hD
            subst hki
            clear hD
            go_wp2
            go_roundg (n - (i0 + 1))
            case measure => omega
            case rel => exact ⟨i0 + 1, by omega, rfl, by go_num, HA2.out, HDR.out⟩
      · have hin : i0 = n := by omega
        subst hin
        have HY := Lib.hid (HYES.out HA.out)
        go_wp2
        go_ret
        exact ⟨by rw [HY.out] <;> rfl, hD⟩

theorem full_in : ∀ n : Fin 7, 2 ^ n.val - 1 < 2 ^ n.val ∧ popcS (2 ^ n.val - 1) ≤ 2 * 3 := by decide +kernel

set_option maxRecDepth 100000 in
set_option maxHeartbeats 1000000 in
theorem specPairHalf_any (a : Option Addr) (cap n : Nat) (l : List (List Int)) (w : World) (hn : l.length = n) (hsz : szL l ≤ 1048576) (hm : MatR w a l) :
    Calls Tryd.prog 11 #[.slice a n cap] w (SpecW w (pairB l) (halfF l n 3 (2 ^ n - 1))) := by
  have E := specPairIn_any a cap n l w hn hsz hm
  cases hs : pairB l with
  | false =>
    rw [hs] at E
    replace E := Lib.hid E
    clear hs hm hn hsz
    go_enter Tryd.func11, Tryd.ntmps11
    go_wp2_with fail
    refine (E.out).mono ?_
    rintro e w1 ⟨rfl, hd⟩
    have HD := Lib.hid (hd.since w.heap.size)
    clear hd
    go_wp2
    go_ret2
    exact ⟨rfl, HD.out⟩
  | true =>
    rw [hs] at E
    replace E := Lib.hid E
    obtain ⟨hT, hw, _⟩ := pairB_of hs hn
    have h6 := hT.2.1
    rw [hn] at h6
    have e1 := pow_wrap n h6
    obtain ⟨f1, f2⟩ := full_in ⟨n, by omega⟩
    simp only at f1 f2
    have E2 := fun (W : World) (hd : Drawn w W) => l5Half_any a cap n l hn hT hw 3 (2 ^ n - 1) f1 f2 (Nat.le_refl _) W (hm.drawn hd)
    obtain ⟨x, hx⟩ : ∃ x, (halfF l n 3 (2 ^ n - 1)) = x := ⟨_, rfl⟩
    obtain ⟨q, hq⟩ : ∃ q, 2 ^ n - 1 = q := ⟨_, rfl⟩
    simp only [hx] at E2
    simp only [hq] at E2
    rw [hx]
    rw [hq] at e1
    replace E2 := Lib.hid E2
    clear hs hm hn hsz hT hw hx hq f1 f2
    go_enter Tryd.func11, Tryd.ntmps11
    go_wp2_with fail
    refine (E.out).mono ?_
    rintro e w1 ⟨rfl, hd⟩
    have HD := Lib.hid hd
    clear hd
    go_wp2_with fail
    rw [e1]
    refine (E2.out w1 HD.out).mono ?_
    rintro e w2 ⟨rfl, hd2⟩
    have HS2 := Lib.hid ((HD.out.trans hd2).since w.heap.size)
    clear hd2
    go_wp2
    go_ret2
    exact ⟨rfl, HS2.out⟩

set_option maxRecDepth 100000 in
set_option maxHeartbeats 1000000 in
theorem specPairCount_any (a : Option Addr) (cap n : Nat) (l : List (List Int)) (w : World) (hn : l.length = n) (hsz : szL l ≤ 1048576) (hm : MatR w a l) :
    Calls Tryd.prog 18 #[.slice a n cap] w (SpecW w (pairB l) ((cntF l n 3 (2 ^ n - 1) : Nat) : Int)) := by
  have E := specPairIn_any a cap n l w hn hsz hm
  cases hs : pairB l with
  | false =>
    rw [hs] at E
    replace E := Lib.hid E
    clear hs hm hn hsz
    go_enter Tryd.func18, Tryd.ntmps18
    go_wp2_with fail
    refine (E.out).mono ?_
    rintro e w1 ⟨rfl, hd⟩
    have HD := Lib.hid (hd.since w.heap.size)
    clear hd
    go_wp2
    go_ret2
    exact ⟨rfl, HD.out⟩
  | true =>
    rw [hs] at E
    replace E := Lib.hid E
    obtain ⟨hT, hw, _⟩ := pairB_of hs hn
    have h6 := hT.2.1
    rw [hn] at h6
    have e1 := pow_wrap n h6
    obtain ⟨f1, f2⟩ := full_in ⟨n, by omega⟩
    simp only at f1 f2
    have E2 := fun (W : World) (hd : Drawn w W) => l5Count_any a cap n l hn hT hw 3 (2 ^ n - 1) f1 f2 (Nat.le_refl _) W (hm.drawn hd)
    obtain ⟨x, hx⟩ : ∃ x, ((cntF l n 3 (2 ^ n - 1) : Nat) : Int) = x := ⟨_, rfl⟩
    obtain ⟨q, hq⟩ : ∃ q, 2 ^ n - 1 = q := ⟨_, rfl⟩
    simp only [hx] at E2
    simp only [hq] at E2
    rw [hx]
    rw [hq] at e1
    replace E2 := Lib.hid E2
    clear hs hm hn hsz hT hw hx hq f1 f2
    go_enter Tryd.func18, Tryd.ntmps18
    go_wp2_with fail
    refine (E.out).mono ?_
    rintro e w1 ⟨rfl, hd⟩
    have HD := Lib.hid hd
    clear hd
    go_wp2_with fail
    rw [e1]
    refine (E2.out w1 HD.out).mono ?_
    rintro e w2 ⟨rfl, hd2⟩
    have HS2 := Lib.hid ((HD.out.trans hd2).since w.heap.size)
    clear hd2
    go_wp2
    go_ret2
    exact ⟨rfl, HS2.out⟩

end Go.Proofs.YtpimdgijjljejaaDoor
end

section
namespace Go.Proofs.YtpimdgijjljejaaDoor
open Go.RowKit Go.Deep Go.Shelf
attribute [local go_sem] Oper.semAt_some

theorem infoP : (Tryd.prog.info? 72).map (fun i => (i.size, i.bytes)) = some (2, 16) := by kernel_rfl
theorem infoP_parts : ∃ i, Tryd.prog.info? 72 = some i ∧ i.size = 2 ∧ i.bytes = 16 := by
  have h := infoP
  cases e : Tryd.prog.info? 72 with
  | none => rw [e] at h; cases h
  | some i =>
    rw [e] at h
    simp only [Option.map_some, Option.some.injEq, Prod.mk.injEq] at h
    exact ⟨i, rfl, h.1, h.2⟩

def pr2 (ps : List (Nat × Nat)) : List Value := ps.flatMap fun p => [.int .i64 (p.1 : Int), .int .i64 (p.2 : Int)]
theorem pr2_length : ∀ ps, (pr2 ps).length = ps.length * 2
  | [] => rfl
  | p :: ps => by
    have := pr2_length ps
    unfold pr2 at this ⊢
    rw [List.flatMap_cons, List.length_append, this, List.length_cons]
    simp only [List.length_cons, List.length_nil]
    omega
theorem pr2_snoc (ps : List (Nat × Nat)) (p : Nat × Nat) : pr2 (ps ++ [p]) = pr2 ps ++ [.int .i64 (p.1 : Int), .int .i64 (p.2 : Int)] := by simp [pr2]
theorem pr2_get : ∀ (ps : List (Nat × Nat)) (i : Nat), i < ps.length → (pr2 ps)[i * 2]? = some (.int .i64 ((ps.getD i (0, 0)).1 : Int)) ∧ (pr2 ps)[i * 2 + 1]? = some (.int .i64 ((ps.getD i (0, 0)).2 : Int))
  | [], i, h => by simp at h
  | p :: ps, 0, _ => ⟨rfl, rfl⟩
  | p :: ps, i + 1, h => by
    have := pr2_get ps i (by simp at h; omega)
    rw [show (i + 1) * 2 = i * 2 + 2 by omega]
    exact this
def PairsR (w : World) (g : Nat) (ps : List (Nat × Nat)) : Prop := ∀ i, i < ps.length → w.cell? ⟨g, i * 2, none⟩ = some (.int .i64 ((ps.getD i (0, 0)).1 : Int)) ∧ w.cell? ⟨g, i * 2 + 1, none⟩ = some (.int .i64 ((ps.getD i (0, 0)).2 : Int))
def PairsAt (w : World) (g cap : Nat) (ps : List (Nat × Nat)) : Prop := w.ownsRow 0 72 2 (.slice (some ⟨g, 0, none⟩) ps.length cap) ps.length (pr2 ps)
theorem PairsAt.init {w : World} {g cap : Nat} {ps : List (Nat × Nat)} {p : Nat × Nat} (h : PairsAt w g cap (ps ++ [p])) : PairsAt w g cap ps := by
  unfold PairsAt at h ⊢
  rw [show (ps ++ [p]).length = ps.length + 1 by simp, pr2_snoc] at h
  refine ⟨pr2_length ps, ?_⟩
  rcases h.2 with ⟨h', _⟩ | ⟨g', cap', cur, h', hb, hg, hle, hm, hs, ht⟩
  · simp at h'
  · simp only [Value.slice.injEq, Option.some.injEq, Addr.mk.injEq, and_true, true_and] at h'
    obtain ⟨rfl, rfl⟩ := h'
    refine .inr ⟨g, cap, cur, rfl, hb, hg, by omega, hm, hs, ?_⟩
    have e := congrArg (List.take (ps.length * 2)) ht
    rw [List.take_take, Nat.min_eq_left (by omega)] at e
    rw [e, List.take_append_of_le_length (by rw [pr2_length]; exact Nat.le_refl _), ← pr2_length ps, List.take_length]
theorem PairsAt.read {w : World} {g cap : Nat} {ps : List (Nat × Nat)} (h : PairsAt w g cap ps) : PairsR w g ps := fun i hi => by
  obtain ⟨e1, e2⟩ := pr2_get ps i hi
  exact ⟨(World.ownsRow.cellAt h (i * 2) (by omega)).trans e1, (World.ownsRow.cellAt h (i * 2 + 1) (by omega)).trans e2⟩
theorem PairsAt.keeps {own : Nat → Prop} {w w' : World} {g cap : Nat} {ps : List (Nat × Nat)} (h : PairsAt w g cap ps) (hk : Keeps own w w') (hg : ¬ own g) : PairsAt w' g cap ps := by
  refine ⟨h.1, ?_⟩
  rcases h.2 with h' | ⟨g', cap', cur, h', hb, hgg, rest⟩
  · exact .inl h'
  · simp only [Value.slice.injEq, Option.some.injEq, Addr.mk.injEq, and_true, true_and] at h'
    obtain ⟨rfl, rfl⟩ := h'
    exact .inr ⟨g, cap, cur, rfl, hb, hk.same _ _ hg hgg, rest⟩

abbrev PX := Nat × List (Nat × Nat)
def pxP (n : Nat) (x : PX) (W : World) : Prop := (2 * x.2.length = n ∧ ∀ p ∈ x.2, p.1 < p.2 ∧ p.2 < n) ∧ PairsR W x.1 x.2
def pxV (n : Nat) (x : PX) : Array Value := #[.slice (some ⟨x.1, 0, none⟩) x.2.length (n / 2)]

structure PB (By Bn Bg n l : Nat) (W : World) : Prop where
  yb : W.cell? ⟨By, 0, none⟩ = some (.func (.yield l) #[] #[])
  bn : W.cell? ⟨Bn, 0, none⟩ = some (.int .i64 n)
  bg : W.cell? ⟨Bg, 0, none⟩ = some (.func (.func 81) #[] #[.pointer (some ⟨By, 0, none⟩), .pointer (some ⟨Bn, 0, none⟩), .pointer (some ⟨Bg, 0, none⟩)])
  tz : TZ W
theorem PB.keeps {By Bn Bg n l : Nat} {W W' : World} {own : Nat → Prop} (h : PB By Bn Bg n l W) (hk : Keeps own W W') (h1 : ¬ own Bn) (h2 : ¬ own By) (h3 : ¬ own Bg) (h4 : ¬ own 1) : PB By Bn Bg n l W' :=
  ⟨hk.cell (a := ⟨By, 0, none⟩) h2 h.yb, hk.cell (a := ⟨Bn, 0, none⟩) h1 h.bn, hk.cell (a := ⟨Bg, 0, none⟩) h3 h.bg, fun i hi => hk.cell (a := ⟨1, 2 ^ i - 1, none⟩) h4 (h.tz i hi)⟩

theorem or2_fin : ∀ i k : Fin 6, i.val < k.val → bits BinOp.or IntKind.i64 (2 ^ i.val) (2 ^ k.val) = ((2 ^ i.val + 2 ^ k.val : Nat) : Int) := by decide +kernel
theorem off2_fin : ∀ s : Fin 64, ∀ i k : Fin 6, i.val < k.val → s.val.testBit i.val = true → s.val.testBit k.val = true → bits BinOp.andNot IntKind.i64 (s.val : Int) ((2 ^ i.val + 2 ^ k.val : Nat) : Int) = ((s.val - 2 ^ i.val - 2 ^ k.val : Nat) : Int) := by decide +kernel
theorem popcS_one : ∀ s : Fin 64, 0 < s.val → 1 ≤ popcS s.val := by decide +kernel

set_option maxRecDepth 100000 in
set_option maxHeartbeats 4000000 in
theorem goP_any (l By Bn Bg g n N B : Nat) (own : Nat → Prop) (J : List PX → World → Prop) (h6 : n ≤ 6) (hJ : FromB B J) (hBy : B ≤ By) (hBg : B ≤ Bg) (hB : B ≤ g) (hny : By ≠ g) (hng : Bg ≠ g) (hnn : Bn ≠ g) (h1B : 1 < B) (hown : ∀ k, own k → k < B ∧ k ≠ Bn ∧ k ≠ 1)
    (hY : ∀ m pre x W, J pre W → pxP n x W → pre.length < N → YieldAt Fence.wide m Tryd.prog l (pxV n x) W fun e W' => e = .returned (.bool true) ∧ J (pre ++ [x]) W' ∧ Keeps own W W') :
    ∀ (d s : Nat) (ps : List (Nat × Nat)) (pre : List PX) (W : World), s < 2 ^ n → popcS s ≤ 2 * d → popcS s + 2 * ps.length = n → (∀ p ∈ ps, p.1 < p.2 ∧ p.2 < n) → PB By Bn Bg n l W → PairsAt W g (n / 2) ps → J pre W → pre.length + (pqL n d s).length ≤ N →
      Calls Tryd.prog 81 #[.slice (some ⟨g, 0, none⟩) ps.length (n / 2), .int .i64 s, .pointer (some ⟨By, 0, none⟩), .pointer (some ⟨Bn, 0, none⟩), .pointer (some ⟨Bg, 0, none⟩)] W fun e W' =>
        e = .returned (.bool true) ∧ J (pre ++ (pqL n d s).map (fun q => (g, ps ++ q))) W' ∧ Keeps (fun k => own k ∨ k = g) W W' ∧ PairsAt W' g (n / 2) ps := by
  have h64 : 2 ^ n ≤ 2 ^ 6 := Nat.pow_le_pow_right (by omega) h6
  have hzero : ∀ (d : Nat) (ps : List (Nat × Nat)) (pre : List PX) (W : World), 2 * ps.length = n → (∀ p ∈ ps, p.1 < p.2 ∧ p.2 < n) → PB By Bn Bg n l W → PairsAt W g (n / 2) ps → J pre W → pre.length + (pqL n d 0).length ≤ N →
      Calls Tryd.prog 81 #[.slice (some ⟨g, 0, none⟩) ps.length (n / 2), .int .i64 0, .pointer (some ⟨By, 0, none⟩), .pointer (some ⟨Bn, 0, none⟩), .pointer (some ⟨Bg, 0, none⟩)] W fun e W' =>
        e = .returned (.bool true) ∧ J (pre ++ (pqL n d 0).map (fun q => (g, ps ++ q))) W' ∧ Keeps (fun k => own k ∨ k = g) W W' ∧ PairsAt W' g (n / 2) ps := by
    intro d ps pre W hl hp hob hps hj hN
    rw [pqL_none] at hN ⊢
    obtain ⟨fn, tmps, assign, body, hy, hR⟩ := hY 7 pre (g, ps) W hj ⟨⟨hl, hp⟩, hps.read⟩ (by simp at hN; omega)
    obtain ⟨hb1, _, _, _⟩ := hob
    dsimp only [pxV] at hy
    have HC := Lib.hid hps
    clear hps hp hN hj
    refine (callsIn_wide (n := 8)).1 ?_
    refine callsIn_of_wp Tryd.func81 rfl trivial ?_ rfl
    simp only [Tryd.ntmps81, List.size_toArray, List.length_cons, List.length_nil, Nat.reduceAdd, Nat.reduceSub, Array.replicate_succ, Array.replicate_zero, List.push_toArray, List.append_toArray, List.nil_append, List.cons_append]
    gi_wp2
    refine hR.mono ?_
    rintro e W3 ⟨rfl, hJ3, hk3⟩
    gi_wp2
    go_ret
    exact ⟨rfl, by simpa using hJ3, hk3.mono fun _ h => .inl h, HC.out.keeps hk3 (fun h => by have := (hown _ h).1; omega)⟩
  intro d
  induction d with
  | zero =>
    intro s ps pre W hs hp hpl hps hob hat hj hN
    have h0 : s = 0 := Nat.eq_zero_of_not_pos (fun h => absurd (popcS_one ⟨s, by omega⟩ h) (by simp; omega))
    subst h0
    exact hzero 0 ps pre W (by rw [show popcS 0 = 0 by decide] at hpl; omega) hps hob hat hj hN
  | succ d ih =>
    intro s ps pre W hs hp hpl hps hob hat hj hN
    by_cases h0 : s = 0
    · subst h0
      exact hzero (d + 1) ps pre W (by rw [show popcS 0 = 0 by decide] at hpl; omega) hps hob hat hj hN
    · clear hzero
      obtain ⟨ip, hip⟩ := infoP_parts
      have HJ := Lib.hid hip
      obtain ⟨l1, l2, l3⟩ := lowB_fin ⟨s, by omega⟩ h0
      clear l3
      have l4 := lowB_in ⟨n, by omega⟩ ⟨s, by omega⟩ hs h0
      simp only at l1 l2 l4
      rw [pqL_some n d h0] at hN ⊢
      have hT0 := pqT_start n d s (lowB s + 1) (Nat.le_refl _)
      have hTS := fun k => pqT_step n d s k
      have hTL := fun k (hk : k ≤ n) => pqT_le n d s k n hk
      obtain ⟨i, hi⟩ : ∃ i, lowB s = i := ⟨_, rfl⟩
      have ETZ := fun (V : World) (hT : TZ V) => trailing_any s (by omega) h0 V hT
      simp only [hi] at l1 l2 l4 hT0 hTS ETZ
      have hne : ((s : Int) == 0) = false := by simp; omega
      have HN := Lib.hid (fun (k : Nat) (hk : k < n) (hc : i < k ∧ s.testBit k = true) => show (pre ++ (pqT n d s k).map (fun q => (g, ps ++ q))).length + (pqL n d (s - 2 ^ i - 2 ^ k)).length ≤ N from by
        have h1 := hTS k
        rw [if_pos hc] at h1
        have h2 := hTL (k + 1) (by omega)
        rw [h1] at h2
        simp only [List.length_append, List.length_map] at h2 ⊢
        omega)
      have HIH := Lib.hid (fun (k : Nat) (hk : k < n) (hc : i < k ∧ s.testBit k = true) (V : World) (h1 : PairsAt V g (n / 2) (ps ++ [(i, k)])) (h2 : PB By Bn Bg n l V) (h3 : J (pre ++ (pqT n d s k).map (fun q => (g, ps ++ q))) V) => by
        obtain ⟨_, _, t3⟩ := two_off ⟨s, by omega⟩ ⟨i, l2⟩ ⟨k, by omega⟩ hc.1 l1 hc.2
        simp only at t3
        exact ih (s - 2 ^ i - 2 ^ k) (ps ++ [(i, k)]) (pre ++ (pqT n d s k).map (fun q => (g, ps ++ q))) V (two_less hs) (by omega) (by rw [List.length_append, List.length_singleton]; omega) (fun p hp => by
          rcases List.mem_append.1 hp with hp | hp
          · exact hps p hp
          · simp at hp; subst hp; exact ⟨hc.1, hk⟩) h2 h1 h3 (HN.out k hk hc))
      have hTS0 := fun (k : Nat) (hc : ¬(i < k ∧ s.testBit k = true)) => show pqT n d s (k + 1) = pqT n d s k from by rw [hTS, if_neg hc, List.append_nil]
      have HTS0 := Lib.hid hTS0
      have HTS1 := Lib.hid (fun (k : Nat) (hc : i < k ∧ s.testBit k = true) => show (pre ++ (pqT n d s (k + 1)).map (fun q => (g, ps ++ q))) = pre ++ (pqT n d s k).map (fun q => (g, ps ++ q)) ++ (pqL n d (s - 2 ^ i - 2 ^ k)).map (fun q => (g, ps ++ [(i, k)] ++ q)) from by
        rw [hTS, if_pos hc, List.map_append, List.map_map, ← List.append_assoc]
        congr 2
        funext q
        simp)
      have HO := Lib.hid (show ∀ (V V' : World), PB By Bn Bg n l V → Keeps (fun k => own k ∨ k = g) V V' → PB By Bn Bg n l V' from fun V V' h hk => h.keeps hk (fun h => h.elim (fun h => (hown _ h).2.1 rfl) hnn) (fun h => h.elim (fun h => by have := (hown _ h).1; omega) hny) (fun h => h.elim (fun h => by have := (hown _ h).1; omega) hng) (fun h => h.elim (fun h => (hown _ h).2.2 rfl) (fun h => by omega)))
      have HIN := Lib.hid (fun (k : Nat) (hk : k < n) (V : World) => inSet_any s k (by omega) (by omega) V)
      have HT0 := Lib.hid hT0
      have HFJ := Lib.hid hJ
      have HC := Lib.hid hat
      have HPJ := Lib.hid hj
      have HOB := Lib.hid hob
      have HOR := Lib.hid (show ∀ k : Nat, k < n → i < k → bits BinOp.or IntKind.i64 (2 ^ i) (2 ^ k) = ((2 ^ i + 2 ^ k : Nat) : Int) from fun k hk hik => or2_fin ⟨i, l2⟩ ⟨k, by omega⟩ hik)
      have HOF := Lib.hid (show ∀ k : Nat, k < n → i < k → s.testBit k = true → bits BinOp.andNot IntKind.i64 (s : Int) ((2 ^ i + 2 ^ k : Nat) : Int) = ((s - 2 ^ i - 2 ^ k : Nat) : Int) from fun k hk hik hb => off2_fin ⟨s, by omega⟩ ⟨i, l2⟩ ⟨k, by omega⟩ hik l1 hb)
      have hs64 : s < 64 := by omega
      have ET := Lib.hid (ETZ W hob.tz)
      have hws : IntKind.u64.wrap (s : Int) = (s : Int) := IntWalk.u64_in _ ⟨by omega, by omega⟩
      have hwi : IntKind.i64.wrap ((i : Int) + 1) = ((i + 1 : Nat) : Int) := (IntWalk.i64_in _ ⟨by omega, by omega⟩).trans (by omega)
      have hpi := pow_in ⟨i, l2⟩
      simp only at hpi
      have hmi : min i 64 = i := by omega
      obtain ⟨m, hmm⟩ : ∃ m, ps.length = m := ⟨_, rfl⟩
      have HM := Lib.hid hmm
      have HM2 := Lib.hid (fun (k : Nat) (hk : k < n) (hc : i < k ∧ s.testBit k = true) => show m + 1 ≤ n / 2 from by
        obtain ⟨_, _, t3⟩ := two_off ⟨s, by omega⟩ ⟨i, l2⟩ ⟨k, by omega⟩ hc.1 l1 hc.2
        simp only at t3
        omega)
      rw [hmm]
      clear ih hTS hTL hT0 ETZ hN hj hat hob hJ hY hown hip hpl hp hs hps hi hmm hTS0
      go_enter Tryd.func81, Tryd.ntmps81
      go_wp2_with (go_at_call 82; refine (ET.out).mono ?_; rintro e w' ⟨rfl, rfl⟩)
      go_loopg [9, 10] (n - (i + 1)) (fun q kv _ wr => ∃ k : Nat, i < k ∧ k ≤ n ∧ q = n - k ∧ kv = .int .i64 k ∧ J (pre ++ (pqT n d s k).map (fun q => (g, ps ++ q))) wr ∧ Keeps (fun k => own k ∨ k = g) W wr ∧ PairsAt wr g (n / 2) ps)
      case atStart => exact ⟨i + 1, by omega, by omega, rfl, rfl, by rw [HT0.out]; simpa using HPJ.out, Keeps.refl _ _, HC.out⟩
      case round =>
        obtain ⟨k, hik, hk, rfl, rfl, hj, hK, hAt⟩ := hrel
        have hob' := HO.out _ _ HOB.out hK
        have cn := hob'.bn
        by_cases hlt : k < n
        · have hor := HOR.out k hlt hik
          have hpk := pow_in ⟨k, by omega⟩
          simp only at hpk
          have hmk : min k 64 = k := by omega
          have hwk : IntKind.i64.wrap ((k : Int) + 1) = ((k + 1 : Nat) : Int) := (IntWalk.i64_in _ ⟨by omega, by omega⟩).trans (by omega)
          obtain ⟨u, hu⟩ : ∃ u, 2 ^ i + 2 ^ k = u := ⟨_, rfl⟩
          rw [hu] at hor
          have HUU := Lib.hid hu
          have HOB' := Lib.hid hob'
          have HPJ' := Lib.hid hj
          have HK := Lib.hid hK
          have HAt := Lib.hid hAt
          clear hob' hj hK hAt hu
          go_wp2
          go_quiet (fail)
          have hobV := HO.out _ _ HOB'.out (Keeps.grown (grown_drewC wr nq) (fun r e => by cases e))
          have hjV := HFJ.out _ _ _ none HPJ'.out (grown_drewC wr nq) (fun r e => by cases e)
          have hKV := HK.out.trans (Keeps.grown (grown_drewC wr nq) (fun r e => by cases e))
          have hAt : PairsAt (wr.drewN nq) g (n / 2) ps := HAt.out
          obtain ⟨V1, hV1⟩ : ∃ V1, wr.drewN nq = V1 := ⟨_, rfl⟩
          rw [hV1] at hobV hjV hKV hAt ⊢
          clear HOB' HPJ' HK HAt hV1 cn
          have HOB' := Lib.hid hobV
          have HPJ' := Lib.hid hjV
          have HK := Lib.hid hKV
          have HAt := Lib.hid hAt
          clear hobV hjV hKV
          have E1 := HIN.out k hlt
          cases hb : s.testBit k with
          | false =>
            simp only [hb] at E1
            have hst := HTS0.out k (by rw [hb]; simp)
            have HST := Lib.hid hst
            replace E1 := Lib.hid (fun (p : Nat) => E1 (V1.drewN p))
            clear hst hAt hb
            go_wp2
            go_quiet ((go_at_call 83; exact Calls.quiet_of_same ((E1.out _).mono fun _ _ h => ⟨h.1, h.2.symm⟩)))
            go_wp2
            go_roundg (n - (k + 1))
            case measure => omega
            case rel => exact ⟨k + 1, by omega, by omega, rfl, by go_num, by rw [HST.out]; exact HFJ.out _ _ _ none HPJ'.out (grown_drewC V1 nq) (fun r e => by cases e), HK.out.trans (Keeps.grown (grown_drewC V1 nq) (fun r e => by cases e)), HAt.out⟩
          | true =>
            have e1 := E1 V1.drew
            rw [hb] at e1
            have hof := HOF.out k hlt hik hb
            rw [HUU.out] at hof
            have hst := HTS1.out k ⟨hik, hb⟩
            have hm2 := HM2.out k hlt ⟨hik, hb⟩
            have EI := HIH.out k hlt ⟨hik, hb⟩
            rw [show (ps ++ [(i, k)]).length = m + 1 by rw [List.length_append, HM.out]; rfl] at EI
            obtain ⟨r, hr⟩ : ∃ r, s - 2 ^ i - 2 ^ k = r := ⟨_, rfl⟩
            rw [hr] at hof EI hst
            replace E1 := Lib.hid e1
            replace EI := Lib.hid EI
            rw [hof]
            have HST := Lib.hid hst
            have c3 : V1.drew.cell? ⟨Bg, 0, none⟩ = _ := HOB'.out.bg
            have hown : V1.drew.ownsRow 0 72 2 (.slice (some ⟨g, 0, none⟩) m (n / 2)) m (pr2 ps) := by rw [← HM.out]; exact hAt
            have HOWN := Lib.hid hown
            clear hst hAt hown e1 hr hb
            go_wp2
            go_region_held3 (fun w' => w'.cell? ⟨Bg, 0, none⟩ = some (.func (.func 81) #[] #[.pointer (some ⟨By, 0, none⟩), .pointer (some ⟨Bn, 0, none⟩), .pointer (some ⟨Bg, 0, none⟩)]))
              (first | exact c3 | exact cell_alloc_l _ c3 | exact c4 | exact c5)
              (first
                | (go_at_call 83; refine (E1.out).mono ?_; rintro e w' ⟨rfl, rfl⟩)
                | (refine step_append_fitsG _ (by rfl) (.tmp 38) (.tmp 42) 69 rfl 0 72 ip 2 Tryd.underlying69 HJ.out.1 HJ.out.2.1 g m (n / 2) (pr2 ps) rfl (HOWN.out.alloc _) ⟨V1.heap.size, 0, none⟩ 1 1 [.int .i64 i, .int .i64 k] rfl rfl (World.news_of_block (World.alloc_heap_new V1.drew _)) (fun x hx => by simp at hx; rcases hx with rfl | rfl <;> rfl) hm2 ?_; intro w1 hown' hgrow; have hg1 : V1.grownBy w1 (some g) := (World.grownBy_alloc V1 _ _).trans (undrew hgrow); have c4 : w1.cell? ⟨Bg, 0, none⟩ = _ := (hg1.cell_far ⟨Bg, 0, none⟩ (World.block_lt_of_cell? _ _ c3) (fun e => hng (by injection e))).trans c3; have HC1 := Lib.hid (show PairsAt w1 g (n / 2) (ps ++ [(i, k)]) by unfold PairsAt; rw [pr2_snoc, show (ps ++ [(i, k)]).length = m + 1 by rw [List.length_append, HM.out]; rfl]; exact hown'); have HG1 := Lib.hid hg1; clear hown' hgrow hg1)
                | (go_at_call 81; refine (EI.out w1 HC1.out (HO.out _ _ HOB'.out (Keeps.grown HG1.out (fun r e => by cases e; exact Or.inr rfl))) (HFJ.out _ _ _ _ HPJ'.out HG1.out (fun r e => by cases e; exact hB))).mono ?_; rintro e w2 ⟨rfl, hj2, hk2, hc2⟩; have c5 : w2.cell? ⟨Bg, 0, none⟩ = _ := (HO.out _ _ (HO.out _ _ HOB'.out (Keeps.grown HG1.out (fun r e => by cases e; exact Or.inr rfl))) hk2).bg; have HJ2 := Lib.hid hj2; have HK2 := Lib.hid ((Keeps.grown HG1.out (fun r e => by cases e; exact Or.inr rfl)).trans hk2); have HC2 := Lib.hid hc2.init; clear hj2 hk2 hc2))
            go_wp2
            go_roundg (n - (k + 1))
            case measure => omega
            case rel => exact ⟨k + 1, by omega, by omega, rfl, by go_num, by rw [HST.out]; exact HJ2.out, HK.out.trans HK2.out, HC2.out⟩
        · have hqn : n = k := by omega
          subst hqn
          go_wp2
          go_ret
          exact ⟨rfl, hj, hK, hAt⟩

end Go.Proofs.YtpimdgijjljejaaDoor
end

section
namespace Go.Proofs.YtpimdgijjljejaaDoor
open Go.RowKit Go.Deep Go.Shelf
attribute [local go_sem] Oper.semAt_some

theorem pairings_any (n : Int) (w : World) :
    Calls Tryd.prog 63 #[.int .i64 n] w fun e w' => e = .returned (.func (.func 80) #[] #[.pointer (some ⟨w.heap.size, 0, none⟩)]) ∧ w' = w.alloc (.cells #[.int .i64 n] 3) := by
  go_enter Tryd.func63, Tryd.ntmps63
  go_wp2
  go_ret
  exact ⟨rfl, rfl⟩

theorem infoP0 : ((Tryd.prog.info? 72).bind (·.zero)).isSome = true := by kernel_rfl
theorem infoP_zero {i : TypeInfo} (h : Tryd.prog.info? 72 = some i) : ∃ z, i.zero = some z := by
  have h0 := infoP0
  rw [h] at h0
  exact Option.isSome_iff_exists.1 h0

theorem full_pop : ∀ n : Fin 7, 2 ^ n.val - 1 < 2 ^ n.val ∧ popcS (2 ^ n.val - 1) = n.val ∧ n.val ≤ 6 := by decide +kernel

set_option maxRecDepth 100000 in
set_option maxHeartbeats 2000000 in
theorem pairings_stops (k Bn n : Nat) (h6 : n ≤ 6) (w : World) (hlt : Bn < w.heap.size) (h1lt : 1 < w.heap.size) (hb : w.cell? ⟨Bn, 0, none⟩ = some (.int .i64 n)) (hT : TZ w) :
    SeqC Fence.wide k Tryd.prog 80 #[.pointer (some ⟨Bn, 0, none⟩)] (pxV n) (pxP n) (fun b => b = Bn ∨ b = 1) (fun ys => ys.map (fun x => x.2) = pqL n 3 (2 ^ n - 1)) 16 w := by
  intro l J own W hW hown hJ hY hj
  refine callsIn_wide.2 ?_
  obtain ⟨ip, hip⟩ := infoP_parts
  obtain ⟨zp, hzp⟩ := infoP_zero hip.1
  have cn := (hW.cell (p := ⟨Bn, 0, none⟩) hlt).trans hb
  have hlW : Bn < W.heap.size := World.block_lt_of_cell? _ _ cn
  have h1W : 1 < W.heap.size := Nat.lt_of_lt_of_le h1lt hW.size
  have hTW : TZ W := fun i hi => (hW.cell (p := ⟨1, 2 ^ i - 1, none⟩) h1lt).trans (hT i hi)
  have hlen := pqL_len ⟨n, by omega⟩
  obtain ⟨f1, f2, f3⟩ := full_pop ⟨n, by omega⟩
  simp only at hlen f1 f2 f3
  have HG := Lib.hid (fun (V : World) (hob : PB W.heap.size Bn (W.heap.size + 1) n l V) (hc : PairsAt V (W.heap.size + 1 + 1) (n / 2) []) (hjv : J [] V) =>
    goP_any l W.heap.size Bn (W.heap.size + 1) (W.heap.size + 1 + 1) n 16 W.heap.size own J h6 hJ (by omega) (by omega) (by omega) (by omega) (by omega) (by omega) h1W (fun k hk => ⟨(hown k hk).1, fun e => (hown k hk).2 (.inl e), fun e => (hown k hk).2 (.inr e)⟩) (fun m pre x V' hp hx hl => yieldAt_any (hY pre x V' hp hx hl)) 3 (2 ^ n - 1) [] [] V f1 (by omega) (by simp; exact f2) (by simp) hob hc hjv (by simp; omega))
  have oy : (W.alloc (.cells #[.func (.yield l) #[] #[]] 85)).cell? ⟨W.heap.size, 0, none⟩ = _ := (cell_new_l W _ _).1
  have og := (cell_new_l (W.alloc (.cells #[.func (.yield l) #[] #[]] 85)) (.func (.func 81) #[] #[.pointer (some ⟨W.heap.size, 0, none⟩), .pointer (some ⟨Bn, 0, none⟩), .pointer (some ⟨W.heap.size + 1, 0, none⟩)]) 86).1
  obtain ⟨V, hV⟩ : ∃ V, V = (W.alloc (.cells #[.func (.yield l) #[] #[]] 85)).alloc (.cells #[.func (.func 81) #[] #[.pointer (some ⟨W.heap.size, 0, none⟩), .pointer (some ⟨Bn, 0, none⟩), .pointer (some ⟨W.heap.size + 1, 0, none⟩)]] 86) := ⟨_, rfl⟩
  have hz : V.drew.heap.size = W.heap.size + 1 + 1 := by show V.heap.size = _; rw [hV]; simp
  rw [World.size_alloc, ← hV] at og
  have hjV : J [] V.drew := by
    have h := hJ.alloc (.cells #[.func (.func 81) #[] #[.pointer (some ⟨W.heap.size, 0, none⟩), .pointer (some ⟨Bn, 0, none⟩), .pointer (some ⟨W.heap.size + 1, 0, none⟩)]] 86) (hJ.alloc (.cells #[.func (.yield l) #[] #[]] 85) hj)
    rw [← hV] at h
    exact hJ _ _ _ none h (grown_drewC V 1) (fun r e => by cases e)
  have hob : PB W.heap.size Bn (W.heap.size + 1) n l V.drew := ⟨by
      show V.cell? _ = _
      rw [hV]; exact cell_alloc_l _ oy, by
      show V.cell? _ = _
      rw [hV]; exact cell_alloc_l _ (cell_alloc_l _ cn), og, fun i hi => by
      show V.cell? _ = _
      rw [hV]; exact cell_alloc_l _ (cell_alloc_l _ (hTW i hi))⟩
  have c1 : V.drew.cell? ⟨W.heap.size + 1, 0, none⟩ = _ := hob.bg
  have c2 : V.drew.cell? ⟨Bn, 0, none⟩ = _ := hob.bn
  obtain ⟨w', hm1, hm2, hm3⟩ := run_make_own (P := Tryd.prog) V.drew 0 69 72 ip zp 2 Tryd.underlying69 hip.1 hzp hip.2.1 .i64 .i64 (n / 2) (by rw [hip.2.2]; omega) (by unfold maxLen; omega) (Nat.zero_le _)
  rw [hz] at hm1 hm2
  have d1 := (hm3.cell_far ⟨W.heap.size + 1, 0, none⟩ (by rw [hz]; show W.heap.size + 1 < _; omega) (by simp)).trans c1
  have d2 := (hm3.cell_far ⟨Bn, 0, none⟩ (by rw [hz]; show Bn < _; omega) (by simp)).trans c2
  have E := Lib.hid (HG.out w' (hob.keeps (own := fun _ => False) (Keeps.grown hm3 (fun r e => by cases e)) (fun h => h) (fun h => h) (fun h => h) (fun h => h)) hm2 (hJ _ _ _ none hjV hm3 (fun r e => by cases e)))
  have HKC := Lib.hid (fun (w2 : World) (h : Keeps (fun k => own k ∨ k = W.heap.size + 1 + 1) w' w2) => And.intro (h.cell (a := ⟨W.heap.size + 1, 0, none⟩) (fun h => h.elim (fun h => absurd (hown _ h).1 (show ¬ (W.heap.size + 1 < W.heap.size) by omega)) (fun h => absurd h (show ¬ (W.heap.size + 1 = W.heap.size + 1 + 1) by omega))) d1) (h.cell (a := ⟨Bn, 0, none⟩) (fun h => h.elim (fun h => (hown _ h).2 (.inl rfl)) (fun h => absurd h (show ¬ (Bn = W.heap.size + 1 + 1) by omega))) d2))
  have EF := Lib.hid (fun (X : World) => fullSet_any n h6 X)
  obtain ⟨cp, hcp⟩ : ∃ c, n / 2 = c := ⟨_, rfl⟩
  have hquo : (n : Int) / 2 = (cp : Int) := by omega
  have hwc : IntKind.i64.wrap (cp : Int) = (cp : Int) := IntWalk.i64_in _ ⟨by omega, by omega⟩
  rw [hcp] at hm1
  simp only [hcp] at E
  clear HG hob hm2 hm3 hjV hj hJ hY hown hlen hip oy og cn hb hTW f1 f2 f3 hzp hcp
  have HV := Lib.hid hV
  clear hV
  go_enter Tryd.func80, Tryd.ntmps80
  go_wp2
  rw [← HV.out]
  go_region_held3 (fun w'' => w''.cell? ⟨W.heap.size + 1, 0, none⟩ = some (.func (.func 81) #[] #[.pointer (some ⟨W.heap.size, 0, none⟩), .pointer (some ⟨Bn, 0, none⟩), .pointer (some ⟨W.heap.size + 1, 0, none⟩)]) ∧ w''.cell? ⟨Bn, 0, none⟩ = some (.int .i64 n))
    (first | exact ⟨e1, e2⟩ | exact ⟨d1, d2⟩ | exact ⟨c1, c2⟩)
    (first
      | (go_at_call 78; refine (EF.out _).mono ?_; rintro e w2 ⟨rfl, rfl⟩)
      | (go_at_call 81; refine (E.out).mono ?_; rintro e w2 ⟨rfl, hj2, hk2, _⟩; have HJ2 := Lib.hid hj2; obtain ⟨e1, e2⟩ := HKC.out _ hk2; clear hj2 hk2))
  all_goals
    go_end0
    exact ⟨⟨_, rfl⟩, _, map_snd _ _, by simpa using HJ2.out⟩

end Go.Proofs.YtpimdgijjljejaaDoor
end

section
namespace Go.Proofs.YtpimdgijjljejaaDoor
open Go.RowKit Go.Deep

theorem crN_snoc (p : Nat × Nat) : ∀ (qs : List (Nat × Nat)) (q : Nat × Nat), crN p (qs ++ [q]) = crN p qs + (if crB p q = true then 1 else 0)
  | [], q => by simp [crN]
  | x :: qs, q => by simp only [List.cons_append, crN, crN_snoc p qs q]; omega
theorem crN_le (p : Nat × Nat) : ∀ qs : List (Nat × Nat), crN p qs ≤ qs.length
  | [] => by simp [crN]
  | x :: qs => by have := crN_le p qs; simp only [crN, List.length_cons]; split <;> omega
def crA (ps : List (Nat × Nat)) : Nat → Nat
  | 0 => 0
  | k + 1 => crA ps k + crN (ps.getD k (0, 0)) (ps.drop (k + 1))
theorem crA_cons (p : Nat × Nat) (ps : List (Nat × Nat)) : ∀ k, crA (p :: ps) (k + 1) = crN p ps + crA ps k
  | 0 => by simp [crA]
  | k + 1 => by
    show crA (p :: ps) (k + 1) + crN (ps.getD k (0, 0)) (ps.drop (k + 1)) = _
    rw [crA_cons p ps k]
    show _ = crN p ps + (crA ps k + crN (ps.getD k (0, 0)) (ps.drop (k + 1)))
    omega
theorem crA_all : ∀ ps : List (Nat × Nat), crA ps ps.length = crs ps
  | [] => rfl
  | p :: ps => by rw [List.length_cons, crA_cons, crA_all ps]; rfl
theorem crA_le (ps : List (Nat × Nat)) : ∀ k, crA ps k ≤ k * ps.length
  | 0 => by simp [crA]
  | k + 1 => by
    have h1 := crA_le ps k
    have h2 := crN_le (ps.getD k (0, 0)) (ps.drop (k + 1))
    have h3 : (ps.drop (k + 1)).length ≤ ps.length := by simp
    unfold crA
    rw [Nat.add_mul]
    omega

structure Boxed2 (W : World) (P : Nat) (x y : Nat) : Prop where
  c0 : W.cell? ⟨P, 0, none⟩ = some (.int .i64 (x : Int))
  c1 : W.cell? ⟨P, 1, none⟩ = some (.int .i64 (y : Int))
  f0 : W.frozen? ⟨P, 0, none⟩ = false
  lt : P < W.heap.size
theorem Boxed2.new (W : World) (x y : Nat) : Boxed2 (W.alloc (.cells #[.int .i64 (x : Int), .int .i64 (y : Int)] 72)) W.heap.size x y := by
  have h := World.alloc_heap_new W (.cells #[.int .i64 (x : Int), .int .i64 (y : Int)] 72)
  exact ⟨by unfold World.cell?; rw [h]; rfl, by unfold World.cell?; rw [h]; rfl, by unfold World.frozen?; rw [h]; rfl, by simp⟩
theorem Boxed2.alloc {W : World} {P x y : Nat} (h : Boxed2 W P x y) (o : Obj) : Boxed2 (W.alloc o) P x y :=
  ⟨cell_alloc_l _ h.c0, cell_alloc_l _ h.c1, frozen_alloc_l _ h.c0 h.f0, by have := h.lt; simp; omega⟩

set_option maxRecDepth 100000 in
set_option maxHeartbeats 2000000 in
theorem crossings_any (g cap m : Nat) (ps : List (Nat × Nat)) (W : World) (hm : ps.length = m) (h3 : m ≤ 3) (hcap : m ≤ cap) (hc6 : cap ≤ 3) (hr : PairsR W g ps) :
    Calls Tryd.prog 64 #[.slice (some ⟨g, 0, none⟩) m cap] W fun e w' => e = .returned (.int .i64 (crs ps)) ∧ W.Since W.heap.size w' := by
  have HX := Lib.hid hm
  have HR := Lib.hid hr
  rw [← crA_all ps, hm]
  have HB := Lib.hid (fun k => crA_le ps k)
  clear hm hr
  go_enter Tryd.func64, Tryd.ntmps64
  go_wp2
  go_loopg [3, 4, 5, 7, 10] m (fun q s _ _ _ i wr => ∃ k : Nat, k ≤ m ∧ q = m - k ∧ i = .int .i64 k ∧ s = .int .i64 (crA ps k) ∧ W.Since W.heap.size wr)
  case atStart => exact ⟨0, Nat.zero_le _, rfl, rfl, rfl, World.Since.refl _ _⟩
  case round =>
    obtain ⟨k, hk, rfl, rfl, rfl, hS⟩ := hrel
    by_cases hlt : k < m
    · obtain ⟨r1, r2⟩ := HR.out k (by rw [HX.out]; exact hlt)
      have c1 := (hS.cell (a := ⟨g, k * 2, none⟩) (World.block_lt_of_cell? _ _ r1)).trans r1
      have c2 := (hS.cell (a := ⟨g, k * 2 + 1, none⟩) (World.block_lt_of_cell? _ _ r2)).trans r2
      obtain ⟨pa, hpa⟩ : ∃ x, (ps.getD k (0, 0)).1 = x := ⟨_, rfl⟩
      obtain ⟨pb, hpb⟩ : ∃ x, (ps.getD k (0, 0)).2 = x := ⟨_, rfl⟩
      rw [hpa] at c1
      rw [hpb] at c2
      have HPA := Lib.hid hpa
      have HPB := Lib.hid hpb
      clear r1 r2 hpa hpb
      have hak : crA ps (k + 1) = crA ps k + crN (pa, pb) (ps.drop (k + 1)) := by rw [← HPA.out, ← HPB.out]; rfl
      have HAK := Lib.hid hak
      have hal := HB.out k
      rw [HX.out] at hal
      have hal2 : k * m ≤ 3 * 3 := Nat.mul_le_mul (by omega) h3
      obtain ⟨A, hA⟩ : ∃ A, crA ps k = A := ⟨_, rfl⟩
      rw [hA] at hak hal ⊢
      have HA := Lib.hid hA
      have hwk : IntKind.i64.wrap ((k : Int) + 1) = (k : Int) + 1 := IntWalk.i64_in _ ⟨by omega, by omega⟩
      have HS := Lib.hid hS
      clear hak hA
      by_cases hcc : cap = k + 1
      · have hmk : m = k + 1 := by omega
        subst hmk
        subst hcc
        have he : crA ps (k + 1) = A := by
          rw [HAK.out, HA.out, List.drop_eq_nil_of_le (by rw [HX.out]; exact Nat.le_refl _)]; rfl
        have HE := Lib.hid he
        clear he hS
        go_wp2
        go_loopg [3, 7, 20] 0 (fun q s _ i wi => q = 0 ∧ i = .int .i64 0 ∧ s = .int .i64 A ∧ W.Since W.heap.size wi)
        case atStart => exact ⟨rfl, rfl, rfl, HS.out.alloc HS.out.size _⟩
        case round =>
          obtain ⟨rfl, rfl, rfl, hSi⟩ := hrel
          go_wp2
          go_roundg 0
          case measure => omega
          case rel => exact ⟨k + 1, by omega, by omega, by go_num, by rw [HE.out], hSi⟩
      · have hn1 := Boxed2.new wr pa pb
        obtain ⟨P, hP⟩ : ∃ P, wr.heap.size = P := ⟨_, rfl⟩
        rw [hP] at hn1
        have HN1 := Lib.hid hn1
        have HS1 := Lib.hid (HS.out.alloc HS.out.size (.cells #[.int .i64 pa, .int .i64 pb] 72))
        have hPl : W.heap.size ≤ P := by rw [← hP]; exact HS.out.size
        clear hn1 hS
        go_wp2
        clear hP c1 c2
        go_loopg [3, 7, 20] (m - (k + 1)) (fun q s _ i wi => ∃ j : Nat, j ≤ m - (k + 1) ∧ q = m - (k + 1) - j ∧ i = .int .i64 j ∧ s = .int .i64 ((A + crN (pa, pb) ((ps.drop (k + 1)).take j) : Nat) : Int) ∧ W.Since W.heap.size wi ∧ Boxed2 wi P pa pb)
        case atStart => exact ⟨0, Nat.zero_le _, rfl, rfl, by simp [crN], HS1.out, HN1.out⟩
        case round =>
          obtain ⟨j, hj, rfl, rfl, rfl, hSi, hBi⟩ := hrel
          by_cases hjl : j < m - (k + 1)
          · obtain ⟨r1, r2⟩ := HR.out (k + 1 + j) (by rw [HX.out]; omega)
            have d1 := (hSi.cell (a := ⟨g, (k + 1 + j) * 2, none⟩) (World.block_lt_of_cell? _ _ r1)).trans r1
            have d2 := (hSi.cell (a := ⟨g, (k + 1 + j) * 2 + 1, none⟩) (World.block_lt_of_cell? _ _ r2)).trans r2
            rw [show (k + 1 + j) * 2 = (k + 1) * 2 + j * 2 by omega] at d1 d2
            have ht : (ps.drop (k + 1)).take (j + 1) = (ps.drop (k + 1)).take j ++ [ps.getD (k + 1 + j) (0, 0)] := by
              rw [List.take_add_one]
              simp [List.getD, show k + 1 + j < ps.length by rw [HX.out]; omega]
            have hcn := crN_snoc (pa, pb) ((ps.drop (k + 1)).take j) (ps.getD (k + 1 + j) (0, 0))
            rw [← ht] at hcn
            have hcl := crN_le (pa, pb) ((ps.drop (k + 1)).take j)
            have hcl2 : ((ps.drop (k + 1)).take j).length ≤ j := by simp; omega
            obtain ⟨qp, hqp⟩ : ∃ x, ps.getD (k + 1 + j) (0, 0) = x := ⟨_, rfl⟩
            rw [hqp] at d1 d2 hcn
            obtain ⟨qa, qb⟩ := qp
            simp only at d1 d2
            have hcr : crB (pa, pb) (qa, qb) = (decide (qa < pb) && decide (pb < qb)) := rfl
            rw [hcr] at hcn
            obtain ⟨S, hSS⟩ : ∃ S, A + crN (pa, pb) ((ps.drop (k + 1)).take j) = S := ⟨_, rfl⟩
            rw [hSS]
            have hSb : S ≤ 20 := by omega
            have hwS : IntKind.i64.wrap ((S : Int) + 1) = ((S + 1 : Nat) : Int) := (IntWalk.i64_in _ ⟨by omega, by omega⟩).trans (by omega)
            have hwj : IntKind.i64.wrap ((j : Int) + 1) = ((j + 1 : Nat) : Int) := (IntWalk.i64_in _ ⟨by omega, by omega⟩).trans (by omega)
            obtain ⟨b1, b2, _, _⟩ := hBi.alloc (.cells #[.int .i64 qa, .int .i64 qb] 72)
            have hjl2 : (j : Int) < ((m - (k + 1) : Nat) : Int) := by omega
            have HF1 := Lib.hid (hSi.alloc hSi.size (.cells #[.int .i64 qa, .int .i64 qb] 72))
            have HF2 := Lib.hid (hBi.alloc (.cells #[.int .i64 qa, .int .i64 qb] 72))
            by_cases h1 : qa < pb
            · have h1' : (qa : Int) < (pb : Int) := by omega
              by_cases h2 : pb < qb
              · have h2' : (pb : Int) < (qb : Int) := by omega
                have hN : A + crN (pa, pb) ((ps.drop (k + 1)).take (j + 1)) = S + 1 := by rw [hcn, if_pos (by simp [h1, h2])]; omega
                have HN := Lib.hid hN
                clear hN hcn hSS hcl hcl2 ht r1 r2 hSi hBi hqp
                go_wp2
                go_roundg (m - (k + 1) - (j + 1))
                case measure => omega
                case rel => exact ⟨j + 1, by omega, rfl, by go_num, by rw [HN.out]; go_num, HF1.out, HF2.out⟩
              · have h2' : ¬ (pb : Int) < (qb : Int) := by omega
                have hN : A + crN (pa, pb) ((ps.drop (k + 1)).take (j + 1)) = S := by rw [hcn, if_neg (by simp [h2])]; omega
                have HN := Lib.hid hN
                clear hN hcn hSS hcl hcl2 ht r1 r2 hSi hBi hqp
                go_wp2
                go_roundg (m - (k + 1) - (j + 1))
                case measure => omega
                case rel => exact ⟨j + 1, by omega, rfl, by go_num, by rw [HN.out], HF1.out, HF2.out⟩
            · have h1' : ¬ (qa : Int) < (pb : Int) := by omega
              have hN : A + crN (pa, pb) ((ps.drop (k + 1)).take (j + 1)) = S := by rw [hcn, if_neg (by simp [h1])]; omega
              have HN := Lib.hid hN
              clear hN hcn hSS hcl hcl2 ht r1 r2 hSi hBi hqp
              go_wp2
              go_roundg (m - (k + 1) - (j + 1))
              case measure => omega
              case rel => exact ⟨j + 1, by omega, rfl, by go_num, by rw [HN.out], HF1.out, HF2.out⟩
          · have hje : j = m - (k + 1) := by omega
            have hjl2 : ¬ (j : Int) < ((m - (k + 1) : Nat) : Int) := by omega
            have he : A + crN (pa, pb) ((ps.drop (k + 1)).take j) = crA ps (k + 1) := by
              rw [HAK.out, HA.out, List.take_of_length_le (by rw [List.length_drop, HX.out]; omega)]
            rw [he]
            go_wp2
            go_roundg (m - (k + 1))
            case measure => omega
            case rel => exact ⟨k + 1, by omega, rfl, by go_num, rfl, hSi⟩
    · have : m = k := by omega
      subst this
      go_wp2
      go_ret
      exact ⟨rfl, hS⟩

end Go.Proofs.YtpimdgijjljejaaDoor
end

section
namespace Go.Proofs.YtpimdgijjljejaaDoor
open Go.RowKit Go.Deep

theorem sn_tmod (k : Nat) (h : k < 64) : (Int.tmod (k : Int) 2 == 0) = !decide (k % 2 = 1) := by
  have h2 : ∀ k : Fin 64, (Int.tmod (k.val : Int) 2 == 0) = !decide (k.val % 2 = 1) := by decide +kernel
  exact h2 ⟨k, h⟩

set_option maxHeartbeats 400000 in
theorem signOf_any (k : Nat) (h : k < 64) (w : World) :
    Calls Tryd.prog 59 #[.int .i64 k] w fun e w' => e = .returned (.int .i64 (sn k)) ∧ w = w' := by
  have e := sn_tmod k h
  by_cases ho : k % 2 = 1
  · have e2 : sn k = -1 := if_pos ho
    rw [e2]
    have e3 : (Int.tmod (k : Int) 2 == 0) = false := by rw [e]; simp [ho]
    clear e h
    go_enter Tryd.func59, Tryd.ntmps59
    go_wp2
    go_ret
    exact ⟨rfl, rfl⟩
  · have e2 : sn k = 1 := if_neg ho
    rw [e2]
    have e3 : (Int.tmod (k : Int) 2 == 0) = true := by rw [e]; simp [ho]
    clear e h
    go_enter Tryd.func59, Tryd.ntmps59
    go_wp2
    go_ret
    exact ⟨rfl, rfl⟩

set_option maxHeartbeats 1000000 in
theorem isSquare_any (a : Option Addr) (cap n : Nat) (l : List (List Int)) (w : World) (hn : l.length = n) (hsz : szL l ≤ 1048576) (hm : MatR w a l) :
    Calls Tryd.prog 56 #[.slice a n cap] w fun e w' => e = .returned (.bool (sqB l)) ∧ w.Since w.heap.size w' := by
  have E := fits_any a cap n l w hn hsz hm
  cases hT : tabIn l with
  | false =>
    have hs : sqB l = false := by unfold sqB; rw [hT]; rfl
    rw [hs]
    rw [hT] at E
    replace E := Lib.hid E
    clear hs hT hn hsz hm
    go_enter Tryd.func56, Tryd.ntmps56
    go_wp2_with fail
    refine (E.out).mono ?_
    rintro e w1 ⟨rfl, hd⟩
    have HD := Lib.hid hd
    clear hd
    go_wp2
    go_ret
    exact ⟨rfl, HD.out⟩
  | true =>
    have hTT := tabIn_of hT
    have h1 := hTT.1
    have h6 := hTT.2.1
    rw [hn] at h1 h6
    obtain ⟨m, hmm⟩ : ∃ m, (l.getD 0 []).length = m := ⟨_, rfl⟩
    have hs : sqB l = (n == m) := by unfold sqB; rw [hT, hn, hmm]; rfl
    rw [hs]
    rw [hT] at E
    replace E := Lib.hid E
    have EW := fun (W : World) (h : w.Since w.heap.size W) => width_any a cap n l W hn (by omega) (by omega) (hm.since h)
    rw [hmm] at EW
    replace EW := Lib.hid EW
    clear hs hT hTT hn hsz hm hmm
    go_enter Tryd.func56, Tryd.ntmps56
    go_wp2_with fail
    refine (E.out).mono ?_
    rintro e w1 ⟨rfl, hd⟩
    have HD := Lib.hid hd
    clear hd
    go_wp2_with fail
    refine (EW.out w1 HD.out).mono ?_
    rintro e w2 ⟨rfl, rfl⟩
    have hb : ((n : Int) == (m : Int)) = (n == m) := by
      by_cases e : n = m
      · subst e; simp
      · rw [beq_eq_false_iff_ne.2 e, beq_eq_false_iff_ne.2 (by omega)]
    go_wp2
    go_ret
    refine ⟨?_, HD.out⟩
    rw [← hb]
    rfl

set_option maxHeartbeats 2000000 in
theorem without_any (a : Option Addr) (cap n r k : Nat) (l : List (List Int)) (w : World) (hn : l.length = n) (hT : TabIn l) (hw : (l.getD 0 []).length = n) (hr : r < n) (hk : k < n) (hm : MatR w a l) :
    Calls Tryd.prog 92 #[.slice a n cap, .int .i64 r, .int .i64 k] w fun e w' => ∃ a' cap', e = .returned (.slice a' (partL l (2 ^ n - 1 - 2 ^ r) (2 ^ n - 1 - 2 ^ k)).length cap') ∧ w.Since w.heap.size w' ∧ OwnT w.heap.size w'.heap.size w' a' (partL l (2 ^ n - 1 - 2 ^ r) (2 ^ n - 1 - 2 ^ k)) := by
  have h6 := hT.2.1
  rw [hn] at h6
  have E1 := fun (W : World) => allRows_any a cap n W h6
  have E2 := fun (W : World) (h : w.Since w.heap.size W) => width_any a cap n l W hn (by omega) (by omega) (hm.since h)
  rw [hw] at E2
  have E3 := fun (W : World) => fullSet_any n h6 W
  have e1 := andNot_fin ⟨n, by omega⟩ ⟨r, by omega⟩ hr
  have e2 := andNot_fin ⟨n, by omega⟩ ⟨k, by omega⟩ hk
  have e3 := pow63 ⟨n, by omega⟩
  have w1 := pow_in ⟨r, by omega⟩
  have w2 := pow_in ⟨k, by omega⟩
  simp only at e1 e2 e3 w1 w2
  have hm1 : min r 64 = r := by omega
  have hm2 : min k 64 = k := by omega
  have E4 := fun (W : World) (h : w.Since w.heap.size W) => part_any a cap n (2 ^ n - 1 - 2 ^ r) (2 ^ n - 1 - 2 ^ k) l W hn hT (Nat.le_trans (Nat.sub_le _ _) e3) (Nat.le_trans (Nat.sub_le _ _) e3) (hm.since h)
  obtain ⟨s, hs⟩ : ∃ s, s = 2 ^ n - 1 - 2 ^ r := ⟨_, rfl⟩
  obtain ⟨c, hc⟩ : ∃ s, s = 2 ^ n - 1 - 2 ^ k := ⟨_, rfl⟩
  obtain ⟨Aa, hA⟩ : ∃ s, s = 2 ^ n - 1 := ⟨_, rfl⟩
  rw [← hs, ← hA] at e1
  rw [← hc, ← hA] at e2
  simp only [← hs, ← hc] at E4 ⊢
  simp only [← hA] at E1 E3
  have H1 := Lib.hid E1
  have H2 := Lib.hid E2
  have H3 := Lib.hid E3
  have H4 := Lib.hid E4
  clear E1 E2 E3 E4 hs hc hA hT hm hn hw e3
  go_enter Tryd.func92, Tryd.ntmps92
  go_wp2
  go_region_held3 (fun _ => True) (exact trivial)
    (first
      | (go_at_call 58; refine (H1.out _).mono ?_; rintro e w3 ⟨rfl, rfl⟩)
      | (go_at_call 41; refine (H2.out _ ?_).mono ?_; (exact (World.Since.refl _ _).drew); rintro e w3 ⟨rfl, rfl⟩)
      | (go_at_call 78; refine (H3.out _).mono ?_; rintro e w3 ⟨rfl, rfl⟩)
      | (go_at_call 60; refine (H4.out _ ?_).mono ?_; (exact (World.Since.refl _ _).drew); rintro e w3 ⟨a', cap', rfl, hs2, ho⟩))
  all_goals
    go_wp2
    go_ret
    exact ⟨a', cap', rfl, since_of_drew hs2, ho⟩

end Go.Proofs.YtpimdgijjljejaaDoor
end

section
namespace Go.Proofs.YtpimdgijjljejaaDoor
open Go.RowKit Go.Deep Go.Shelf
attribute [local go_sem] Oper.semAt_some

theorem entP_snoc (l : List (List Int)) : ∀ (qs : List (Nat × Nat)) (p : Nat × Nat), entP l (qs ++ [p]) = entP l qs * at2 l p.1 p.2
  | [], p => by simp [entP]
  | x :: qs, p => by
    show at2 l x.1 x.2 * entP l (qs ++ [p]) = at2 l x.1 x.2 * entP l qs * _
    rw [entP_snoc l qs p, Int.mul_assoc]
theorem entP_bd {l : List (List Int)} {n : Nat} (hE : EntB l n) : ∀ (qs : List (Nat × Nat)), (∀ p ∈ qs, p.1 < p.2 ∧ p.2 < n) → -(p180 qs.length) ≤ entP l qs ∧ entP l qs ≤ p180 qs.length
  | [], _ => by simp [entP, p180]
  | p :: qs, h => by
    have ih := entP_bd hE qs (fun x hx => h x (by simp [hx]))
    have hp := h p (by simp)
    have he := hE.2 p.1 p.2 (by omega) hp.2
    have hb := mul_bdB he.1 he.2 ih.1 ih.2
    have := p180_pos qs.length
    show _ ≤ at2 l p.1 p.2 * entP l qs ∧ at2 l p.1 p.2 * entP l qs ≤ _
    rw [List.length_cons]
    have e : p180 (qs.length + 1) = 180 * p180 qs.length := rfl
    omega
theorem sn_mul_bd {p : Nat} {x B : Int} (h : -B ≤ x ∧ x ≤ B) : -B ≤ sn p * x ∧ sn p * x ≤ B := by
  rw [← sg_sn]; exact sg_bd h

theorem sn_bd' (p : Nat) : -1 ≤ sn p ∧ sn p ≤ 1 := by unfold sn; split <;> omega
def OldS (n₀ : Nat) (w0 W : World) : Prop := ∀ k, k < n₀ → W.heap[k]? = w0.heap[k]?
theorem OldS.cell {n₀ : Nat} {w0 W : World} (h : OldS n₀ w0 W) {a : Addr} (ha : a.block < n₀) : W.cell? a = w0.cell? a := World.cell?_of_block (h _ ha)
theorem OldS.grown {n₀ : Nat} {w0 X Y : World} {row : Option Nat} (h : OldS n₀ w0 X) (hz : n₀ ≤ X.heap.size) (hg : X.grownBy Y row) (hr : ∀ r, row = some r → n₀ ≤ r) : OldS n₀ w0 Y :=
  fun k hk => (hg.block k (by omega) (fun e => by have := hr k e.symm; omega)).trans (h k hk)
theorem OldS.keeps {n₀ : Nat} {w0 X Y : World} {own : Nat → Prop} (h : OldS n₀ w0 X) (hz : n₀ ≤ X.heap.size) (hk : Keeps own X Y) (ho : ∀ k, own k → n₀ ≤ k) : OldS n₀ w0 Y := fun k hlt => by
  have hx : k < X.heap.size := by omega
  have e := hk.same k X.heap[k] (fun o => by have := ho k o; omega) (Array.getElem?_eq_getElem hx)
  rw [e, ← h k hlt]
  exact (Array.getElem?_eq_getElem hx).symm

theorem pairProducts_any (tv : Value) (a : Option Addr) (len cap : Nat) (w : World) (ht : tv = .slice a len cap) :
    Calls Tryd.prog 36 #[tv] w fun e w' => e = .returned (.func (.func 62) #[] #[.pointer (some ⟨w.heap.size, 0, none⟩)]) ∧ w' = w.alloc (.cells #[tv] 39) := by
  subst ht
  go_enter Tryd.func36, Tryd.ntmps36
  go_wp2
  go_ret
  exact ⟨rfl, rfl⟩

theorem pxP_put (n : Nat) (x : PX) (W : World) (l : Nat) (o o' : Obj) (h : pxP n x W) (hl : W.heap[l]? = some o) (ho : o.isCells = false) : pxP n x (W.putObj l o') := by
  refine ⟨h.1, fun i hi => ?_⟩
  obtain ⟨e1, e2⟩ := h.2 i hi
  exact ⟨cell_kept e1 (grownBy_putObj' W l o') (fun r e => by cases e; exact ⟨o, hl, ho⟩), cell_kept e2 (grownBy_putObj' W l o') (fun r e => by cases e; exact ⟨o, hl, ho⟩)⟩

theorem grownS {w w' : World} (h : w.Since w.heap.size w') : w.grownBy w' none := ⟨h.os, h.tape, h.output, h.size, fun k hk _ => h.block k hk⟩
theorem take_snocP (q : List (Nat × Nat)) {j : Nat} (h : j < q.length) : q.take (j + 1) = q.take j ++ [q.getD j (0, 0)] := by
  rw [List.take_succ_eq_append_getElem h]
  simp [List.getD, h]
theorem nzP_take (l : List (List Int)) (q : List (Nat × Nat)) {j : Nat} (h : j < q.length) (hn : nzP l (q.take j) = true) (hz : at2 l (q.getD j (0, 0)).1 (q.getD j (0, 0)).2 ≠ 0) : nzP l (q.take (j + 1)) = true := by
  rw [take_snocP q h]
  unfold nzP at hn ⊢
  rw [List.all_append, hn]
  simp only [List.all_cons, List.all_nil]
  rw [decide_eq_true hz]
  rfl
theorem nzP_zero (l : List (List Int)) (q : List (Nat × Nat)) {j : Nat} (h : j < q.length) (hz : at2 l (q.getD j (0, 0)).1 (q.getD j (0, 0)).2 = 0) : nzP l q = false := by
  cases e : nzP l q with
  | false => rfl
  | true =>
    unfold nzP at e
    have := List.all_eq_true.1 e (q.getD j (0, 0)) (by
      have : q.getD j (0, 0) = q[j] := by simp [List.getD, h]
      rw [this]; exact List.getElem_mem _)
    exact absurd hz (of_decide_eq_true this)
theorem p180_two : ∀ j : Fin 4, p180 j.val ≤ 5832000 := by decide

set_option maxRecDepth 100000 in
set_option maxHeartbeats 4000000 in
theorem prods_stops (k Bt n cap : Nat) (hk : 4 ≤ k) (a : Option Addr) (l : List (List Int)) (w0 w : World) (hn : l.length = n) (hT : TabIn l) (hw : (l.getD 0 []).length = n) (hm : MatR w0 a l) (h1 : 1 < w0.heap.size) (hTZ : TZ w0) (hold : OldS w0.heap.size w0 w) (_hz : w0.heap.size ≤ w.heap.size) (hBt : w0.heap.size ≤ Bt ∧ Bt < w.heap.size) (hb : w.cell? ⟨Bt, 0, none⟩ = some (.slice a n cap)) :
    SeqC Fence.wide k Tryd.prog 62 #[.pointer (some ⟨Bt, 0, none⟩)] (fun x : Int => #[.int .i64 x]) (fun x _ => -34012224000000 ≤ x ∧ x ≤ 34012224000000) (fun b => b < w0.heap.size ∨ b = Bt) (fun ys => ys = prL l (pqL n 3 (2 ^ n - 1))) 16 w := by
  intro lp J own W hW hown hJ hY hj
  have hE := entB_of hT hn hw
  have h6 := hE.1
  have c0 := (hW.cell (p := ⟨Bt, 0, none⟩) hBt.2).trans hb
  have hWz := hW.size
  have hOW : OldS w0.heap.size w0 W := fun k hk => (hW.block k (by omega)).trans (hold k hk)
  have hso : ∀ k, own k → w0.heap.size ≤ k := fun k hk => by
    have := (hown k hk).2
    by_cases e : k < w0.heap.size
    · exact absurd (.inl e) this
    · omega
  refine callsIn_of_wp_marks Tryd.func62 rfl trivial ?_ rfl
  simp only [Tryd.ntmps62, List.size_toArray, List.length_cons, List.length_nil, Nat.reduceAdd, Nat.reduceSub, Array.replicate_succ, Array.replicate_zero, List.push_toArray, List.append_toArray, List.nil_append, List.cons_append]
  gi_wp2
  refine wpIn_wide.2 (wp_scope_straight (wpIn_wide (n := k).1 ?_))
  refine wpIn_seq (wpIn_label ?_)
  show Code.wpIn _ _ _ _ (Exit.noGoto _) _ _
  obtain ⟨b, o, A, C, rfl, hlen, hcell⟩ := hm.grid hn hT hw
  have hbl : ∀ i, i < n → b < w0.heap.size := fun i hi => World.block_lt_of_cell? _ _ (hlen i hi)
  have c1 : (W.alloc (.cells #[.func (.yield lp) #[] #[]] 65)).cell? ⟨Bt, 0, none⟩ = _ := cell_alloc_l _ c0
  have y0 : (W.alloc (.cells #[.func (.yield lp) #[] #[]] 65)).cell? ⟨W.heap.size, 0, none⟩ = _ := (cell_new_l W _ _).1
  gi_wp2_with (refine ⟨trivial, fun _ => by omega, ?_⟩; gi_at_call 63; refine (callsIn_wide.2 (pairings_any _ _)).mono ?_; rintro e w' ⟨rfl, rfl⟩)
  have hbn := (cell_new_l (W.alloc (.cells #[.func (.yield lp) #[] #[]] 65)) (.int .i64 n) 3).1
  have c2 := cell_alloc_l (.cells #[.int .i64 (n : Int)] 3) c1
  have y2 := cell_alloc_l (.cells #[.int .i64 (n : Int)] 3) y0
  have hg2 := (World.grownBy_alloc W (.cells #[.func (.yield lp) #[] #[]] 65) none).trans (World.grownBy_alloc (W.alloc (.cells #[.func (.yield lp) #[] #[]] 65)) (.cells #[.int .i64 (n : Int)] 3) none)
  have hjV := hJ.alloc (.cells #[.int .i64 (n : Int)] 3) (hJ.alloc (.cells #[.func (.yield lp) #[] #[]] 65) hj)
  have zV : ((W.alloc (.cells #[.func (.yield lp) #[] #[]] 65)).alloc (.cells #[.int .i64 (n : Int)] 3)).heap.size = W.heap.size + 2 := by simp
  rw [World.size_alloc] at hbn
  obtain ⟨V, hV⟩ : ∃ V, (W.alloc (.cells #[.func (.yield lp) #[] #[]] 65)).alloc (.cells #[.int .i64 (n : Int)] 3) = V := ⟨_, rfl⟩
  rw [hV] at hbn c2 y2 hg2 hjV zV ⊢
  clear hV c1 y0
  have hOV := hOW.grown (by omega) hg2 (fun r e => by cases e)
  have hTV : TZ V := hTZ.kept (hOV 1 h1)
  refine rangeC (F := Fence.wide) (n := k) rfl (by omega) (gf := 80) (lb := #[.pointer (some ⟨W.heap.size + 1, 0, none⟩)]) rfl trivial (enters_of Tryd.func80 (by kernel_rfl) rfl)
    (pairings_stops (k - 1) (W.heap.size + 1) n h6 V (by omega) (by omega) hbn hTV) (fun _ => rfl) (pxP_put n) own (fun k hk => ⟨by have := (hown k hk).1; omega, fun h => by
      rcases h with h | h
      · have := (hown k hk).1; omega
      · have := hso k hk; omega⟩) (by rintro k (rfl | rfl) <;> omega)
    (fun (pre : List PX) X => (J (prL l (pre.map (fun x : PX => x.2))) X ∧ X.cell? ⟨Bt, 0, none⟩ = some (.slice (some ⟨b, o, none⟩) n cap) ∧ X.cell? ⟨W.heap.size, 0, none⟩ = some (.func (.yield lp) #[] #[])) ∧ OldS w0.heap.size w0 X ∧ V.heap.size ≤ X.heap.size)
    (fun pre X Y row hs hg hr => ⟨⟨hJ _ X Y row hs.1.1 hg (fun r e => by have := hr r e; omega), (hg.cell_far ⟨Bt, 0, none⟩ (by show Bt < _; have := hs.2.2; omega) (fun e => by have := hr Bt e.symm; omega)).trans hs.1.2.1, (hg.cell_far ⟨W.heap.size, 0, none⟩ (by show W.heap.size < _; have := hs.2.2; omega) (fun e => by have := hr W.heap.size e.symm; omega)).trans hs.1.2.2⟩, hs.2.1.grown (by have := hs.2.2; omega) hg (fun r e => by have := hr r e; omega), Nat.le_trans hs.2.2 hg.size⟩)
    ⟨⟨hjV, c2, y2⟩, hOV, Nat.le_refl _⟩
    (fun x => { tmps := #[.func (.yield lp) #[] #[], .pointer (some ⟨Bt, 0, none⟩), .pointer (some ⟨W.heap.size, 0, none⟩), .slice (some ⟨x.1, 0, none⟩) x.2.length (n / 2), undef, undef, undef, undef, .slice (some ⟨b, o, none⟩) n cap, .int .i64 n, .func (.func 80) #[] #[.pointer (some ⟨W.heap.size + 1, 0, none⟩)], .slice (some ⟨x.1, 0, none⟩) x.2.length (n / 2), undef, undef, undef, undef, undef, undef, undef, undef, undef, undef, undef, undef, undef, undef, undef, undef, undef, undef, undef, undef, undef, undef, undef, undef, undef, undef, undef, undef], defers := [] }) ?assign ?body ?done
  case assign =>
    intro lq x X K hK
    simp only [pxV]
    gi_wp2
    exact hK
  case body =>
    rintro lq pre x X hl ⟨⟨hjx, cb, yb⟩, hOX, hzX⟩ hpx hln
    obtain ⟨⟨q1, q2⟩, hpr⟩ := hpx
    obtain ⟨g, q⟩ := x
    simp only at q1 q2 hpr ⊢
    have hnL : ∀ k, own k → k < W.heap.size ∧ k ≠ Bt := fun k hk => ⟨(hown k hk).1, fun e => (hown k hk).2 (.inr e)⟩
    have HKEEP := Lib.hid (show ∀ (ys : List Int) (W' : World), J ys X → X.Since X.heap.size W' → Keeps own X W' ∧ (J ys W' ∧ W'.cell? ⟨Bt, 0, none⟩ = some (.slice (some ⟨b, o, none⟩) n cap) ∧ W'.cell? ⟨W.heap.size, 0, none⟩ = some (.func (.yield lp) #[] #[])) ∧ OldS w0.heap.size w0 W' ∧ V.heap.size ≤ W'.heap.size from fun ys W' hj hs => by
      have hg := grownS hs
      exact ⟨Keeps.grown hg (fun r e => by cases e), ⟨hJ _ X W' none hj hg (fun r e => by cases e), (hs.cell (World.block_lt_of_cell? _ _ cb)).trans cb, (hs.cell (World.block_lt_of_cell? _ _ yb)).trans yb⟩, hOX.grown (by omega) hg (fun r e => by cases e), by have := hs.size; omega⟩)
    have HTHEN := Lib.hid (show ∀ (ys : List Int) (A B : World), Keeps own X A ∧ (J (prL l (pre.map (fun x : PX => x.2))) A ∧ A.cell? ⟨Bt, 0, none⟩ = some (.slice (some ⟨b, o, none⟩) n cap) ∧ A.cell? ⟨W.heap.size, 0, none⟩ = some (.func (.yield lp) #[] #[])) ∧ OldS w0.heap.size w0 A ∧ V.heap.size ≤ A.heap.size → Keeps own A B → J ys B →
        Keeps own X B ∧ (J ys B ∧ B.cell? ⟨Bt, 0, none⟩ = some (.slice (some ⟨b, o, none⟩) n cap) ∧ B.cell? ⟨W.heap.size, 0, none⟩ = some (.func (.yield lp) #[] #[])) ∧ OldS w0.heap.size w0 B ∧ V.heap.size ≤ B.heap.size from fun ys A B h hk hj =>
      ⟨h.1.trans hk, ⟨hj, hk.cell (fun e => (hnL _ e).2 rfl) h.2.1.2.1, hk.cell (fun e => by have := (hnL _ e).1; simp only at this; omega) h.2.1.2.2⟩, h.2.2.1.keeps (by omega) hk hso, Nat.le_trans h.2.2.2 hk.size⟩)
    have hmp : (pre ++ [(g, q)]).map (fun x : PX => x.2) = pre.map (fun x : PX => x.2) ++ [q] := by rw [List.map_append]; rfl
    have HM0 := Lib.hid (show nzP l q = false → prL l ((pre ++ [(g, q)]).map (fun x : PX => x.2)) = prL l (pre.map (fun x : PX => x.2)) from fun h => by rw [hmp, prL_snoc, h]; simp)
    have HM1 := Lib.hid (show nzP l q = true → prL l ((pre ++ [(g, q)]).map (fun x : PX => x.2)) = prL l (pre.map (fun x : PX => x.2)) ++ [valP l q] from fun h => by rw [hmp, prL_snoc, if_pos h])
    have hplen : (prL l (pre.map (fun x : PX => x.2))).length < 16 := by
      have := List.length_filter_le (nzP l) (pre.map (fun x : PX => x.2))
      unfold prL
      rw [List.length_map]
      rw [List.length_map] at this
      omega
    have HYY := Lib.hid (fun (W1 : World) (h : J (prL l (pre.map (fun x : PX => x.2))) W1) (hx : -34012224000000 ≤ valP l q ∧ valP l q ≤ 34012224000000) => hY (prL l (pre.map (fun x : PX => x.2))) (valP l q) W1 h hx hplen)
    have HJX := Lib.hid hjx
    clear hmp hplen hY hJ hjx hown hso
    obtain ⟨m, hm⟩ : ∃ m, q.length = m := ⟨_, rfl⟩
    rw [hm] at q1 ⊢
    have hcl := crA_le q m
    rw [← hm, crA_all, hm] at hcl
    have hmm : m * m ≤ 3 * 3 := Nat.mul_le_mul (by omega) (by omega)
    have EC := Lib.hid (crossings_any g (n / 2) m q X hm (by omega) (by omega) (by omega) hpr)
    obtain ⟨c, hc⟩ : ∃ c, crs q = c := ⟨_, rfl⟩
    rw [hc] at EC hcl
    have ES := fun (Y : World) => signOf_any c (by omega) Y
    have hsb := sn_bd' c
    obtain ⟨s0, hs0⟩ : ∃ s, sn c = s := ⟨_, rfl⟩
    simp only [hs0] at ES hsb
    replace ES := Lib.hid ES
    have HQ := Lib.hid q2
    have HM := Lib.hid hm
    have HPR := Lib.hid hpr
    have HSC := Lib.hid (show sn (crs q) = s0 by rw [hc, hs0])
    clear q2 hpr hm hc hs0
    gi_wp2_with (first
      | (refine ⟨trivial, fun _ => by omega, ?_⟩; gi_at_call 64; refine (CallsIn.inRound lq (callsIn_wide.2 (EC.out))).mono ?_; rintro e w2 ⟨rfl, hs2⟩; have HS2 := Lib.hid hs2; clear hs2)
      | (refine ⟨trivial, fun _ => by omega, ?_⟩; gi_at_call 59; refine (CallsIn.inRound lq (callsIn_wide.2 (ES.out _))).mono ?_; rintro e w3 ⟨rfl, rfl⟩))
    gi_loopw [4, 6, 7, 17] (fun pr _ _ i wr => ∃ j : Nat, j ≤ m ∧ i = .int .i64 j ∧ pr = .int .i64 (s0 * entP l (q.take j)) ∧ nzP l (q.take j) = true ∧ X.Since X.heap.size wr) (fun _ _ _ i _ => m - (intOf i).toNat)
    case atStart => exact ⟨0, Nat.zero_le _, rfl, by simp [entP], by simp [nzP], HS2.out⟩
    case round =>
      obtain ⟨j, hj, rfl, rfl, hnz, hS⟩ := hrel
      by_cases hlt : j < m
      · have hjq : j < q.length := by rw [HM.out]; exact hlt
        obtain ⟨r1, r2⟩ := HPR.out j hjq
        have c1 := (hS.cell (a := ⟨g, j * 2, none⟩) (World.block_lt_of_cell? _ _ r1)).trans r1
        have c2 := (hS.cell (a := ⟨g, j * 2 + 1, none⟩) (World.block_lt_of_cell? _ _ r2)).trans r2
        have hmem := HQ.out (q.getD j (0, 0)) (by
          have : q.getD j (0, 0) = q[j] := by simp [List.getD, hjq]
          rw [this]; exact List.getElem_mem _)
        have htk : entP l (q.take (j + 1)) = entP l (q.take j) * at2 l (q.getD j (0, 0)).1 (q.getD j (0, 0)).2 := by rw [take_snocP q hjq, entP_snoc]
        have hn1 := nzP_take l q hjq hnz
        have hn0 := fun h => nzP_zero l q hjq h
        have heb := entP_bd hE (q.take j) (fun p hp => HQ.out p (List.mem_of_mem_take hp))
        have hlen2 : (q.take j).length = j := by rw [List.length_take]; omega
        have hp2 := p180_two ⟨j, by omega⟩
        simp only at hp2
        rw [hlen2] at heb
        have hsb2 := sn_mul_bd (p := crs q) heb
        rw [HSC.out] at hsb2
        obtain ⟨pa, hpa⟩ : ∃ x, (q.getD j (0, 0)).1 = x := ⟨_, rfl⟩
        obtain ⟨pb, hpb⟩ : ∃ x, (q.getD j (0, 0)).2 = x := ⟨_, rfl⟩
        rw [hpa] at c1
        rw [hpb] at c2
        simp only [hpa, hpb] at hmem htk hn1 hn0
        obtain ⟨b', o', e1, e2, e3⟩ := hcell pa pb (by omega) (by omega)
        have d0 := cell_alloc_l (.cells #[.int .i64 (pa : Int), .int .i64 (pb : Int)] 72) ((hS.cell (a := ⟨Bt, 0, none⟩) (World.block_lt_of_cell? _ _ cb)).trans cb)
        have d1 := cell_alloc_l (.cells #[.int .i64 (pa : Int), .int .i64 (pb : Int)] 72) ((hS.cell (a := ⟨b, o + pa, none⟩) (by have := World.block_lt_of_cell? _ _ e1; simp only at this ⊢; omega)).trans ((hOX.cell (World.block_lt_of_cell? _ _ e1)).trans e1))
        have d2 := cell_alloc_l (.cells #[.int .i64 (pa : Int), .int .i64 (pb : Int)] 72) ((hS.cell (a := ⟨b', o' + pb, none⟩) (by have := World.block_lt_of_cell? _ _ e2; simp only at this ⊢; omega)).trans ((hOX.cell (World.block_lt_of_cell? _ _ e2)).trans e2))
        have hB := Boxed2.new wr pa pb
        have f0 := hB.c0
        have f1 := hB.c1
        obtain ⟨E, hEE⟩ : ∃ E, at2 l pa pb = E := ⟨_, rfl⟩
        obtain ⟨T, hTT⟩ : ∃ T, s0 * entP l (q.take j) = T := ⟨_, rfl⟩
        rw [hEE] at d2 e3 htk hn1 hn0
        rw [hTT] at hsb2 ⊢
        have hb3 := mul_bdB (a := E) (b := T) (B := 5832000) e3.1 e3.2 (by omega) (by omega)
        rw [Int.mul_comm E T] at hb3
        have hwp : IntKind.i64.wrap (T * E) = T * E := IntWalk.i64_in _ ⟨by omega, by omega⟩
        have hwj : IntKind.i64.wrap ((j : Int) + 1) = (j : Int) + 1 := IntWalk.i64_in _ ⟨by omega, by omega⟩
        have HTE := Lib.hid (show T * E = s0 * entP l (q.take (j + 1)) from by rw [htk, ← hTT, Int.mul_assoc])
        have HN1 := Lib.hid hn1
        have HN0 := Lib.hid hn0
        have HS := Lib.hid hS
        clear hn1 hn0 htk hsb2 heb hb3 r1 r2 e1 hB hTT hEE hpa hpb hp2 hlen2 hjq hcl hmm hlen hcell hS
        have HSU := Lib.hid ((HS.out.alloc HS.out.size (.cells #[.int .i64 (pa : Int), .int .i64 (pb : Int)] 72)).drew)
        have hpn : pa < n := by omega
        have hpbn : pb < n := hmem.2
        have hmix : Tryd.prog.follows .mixedOrders = true := by kernel_rfl
        by_cases hz : E = 0
        · have HN2 := Lib.hid (HN0.out hz)
          clear HN0 HN1 HTE
          subst hz
          gi_wp2
          obtain ⟨U, hU⟩ : ∃ U, wr.alloc (.cells #[.int .i64 (pa : Int), .int .i64 (pb : Int)] 72) = U := ⟨_, rfl⟩
          rw [hU] at d0 d1 d2 f0 f1 HSU ⊢
          clear hU
          refine round_still_tail 9 hmix (by kernel_rfl) (by kernel_rfl) ?hno ?_
          case hno =>
            rintro ⟨a, w, h⟩
            exact h
          simp only [List.take_succ_cons, List.take_zero, List.drop_succ_cons, List.drop_zero]
          repeat still_step
          refine wpStill_nil ?_
          go_wp2
          gi_wp2
          show Keeps own X _ ∧ (J (prL l ((pre ++ [(g, q)]).map (fun x : PX => x.2))) _ ∧ _) ∧ _
          rw [HM0.out HN2.out]
          exact HKEEP.out _ _ HJX.out HSU.out
        · have HN2 := Lib.hid (HN1.out hz)
          clear HN0 HN1
          have hzb : (E == 0) = false := by simp [hz]
          gi_wp2
          obtain ⟨U, hU⟩ : ∃ U, wr.alloc (.cells #[.int .i64 (pa : Int), .int .i64 (pb : Int)] 72) = U := ⟨_, rfl⟩
          rw [hU] at d0 d1 d2 f0 f1 HSU ⊢
          clear hU
          refine round_still_tail 9 hmix (by kernel_rfl) (by kernel_rfl) ?hno ?_
          case hno =>
            rintro ⟨a, w, h⟩
            exact h
          simp only [List.take_succ_cons, List.take_zero, List.drop_succ_cons, List.drop_zero]
          repeat still_step
          refine wpStill_nil ?_
          go_wp2
          gi_wp2
          exact ⟨⟨j + 1, by omega, by go_num, by rw [HTE.out], HN2.out, HSU.out⟩, by simp only [intOf]; omega⟩
      · obtain rfl : j = m := by omega
        have hqq : q.take j = q := by rw [← HM.out]; exact List.take_length
        have hnq : nzP l q = true := by rw [← hqq]; exact hnz
        have heb := entP_bd hE q HQ.out
        rw [HM.out] at heb
        have hp3 := p180_two ⟨j, by omega⟩
        simp only at hp3
        have hvb := sn_mul_bd (p := crs q) heb
        have hveq : s0 * entP l (q.take j) = valP l q := by rw [hqq, ← HSC.out]; rfl
        have hvq : sn (crs q) * entP l q = valP l q := rfl
        rw [hvq] at hvb
        have HA := Lib.hid (HKEEP.out _ wr HJX.out hS)
        obtain ⟨fn, tmps, assign, body, hy, hR⟩ := yieldAt_any (m' := k - 1 - 1 - 1) (HYY.out wr HA.out.2.1.1 ⟨by omega, by omega⟩)
        have yc := HA.out.2.1.2.2
        rw [hveq]
        have HN1 := Lib.hid (HM1.out hnq)
        obtain ⟨v, hv⟩ : ∃ v, valP l q = v := ⟨_, rfl⟩
        rw [hv] at hy hR hvb ⊢
        have HV := Lib.hid hv
        clear hveq hvq hv hnq hqq heb hp3 hS hnz hcell hlen
        gi_wp2
        refine ⟨fun h => by omega, ?_⟩
        refine RoundIn.mono (F := Fence.wide.inRound lq) hR ?_
        rintro e W3 ⟨rfl, hJ3, hk3⟩
        gi_wp2
        show Keeps own X _ ∧ (J (prL l ((pre ++ [(g, q)]).map (fun x : PX => x.2))) _ ∧ _) ∧ _
        rw [HN1.out, HV.out]
        exact HTHEN.out _ wr W3 HA.out hk3 hJ3
  case done =>
    rintro D ys X hD hS ⟨⟨hjx, cb, yb⟩, hOX, hzX⟩ hK
    rw [hS] at hjx
    show LeavesInM _ _ _ _ _ _ _ _ _
    refine ⟨by simp, .inl ⟨_, _, rfl, run_takeDeferred hK, ?_⟩⟩
    have hjz := hJ.put (.deferred none) hjx (show W.heap.size ≤ D by omega)
    refine ⟨.tuple #[], ?_, ⟨_, rfl⟩, _, rfl, hjz⟩
    simp [results, Tryd.f62, go_sem]

end Go.Proofs.YtpimdgijjljejaaDoor
end

section
namespace Go.Proofs.YtpimdgijjljejaaDoor
open Go.RowKit Go.Deep Go.Shelf
attribute [local go_sem] Oper.semAt_some

structure SBI (w : World) (y : Int) (W : World) : Prop where
  bs : Boxed W w.heap.size 3 (.int .i64 y)
  sn : w.Since w.heap.size W
theorem SBI.kept {w W W' : World} {y : Int} {row : Option Nat} (h : SBI w y W) (hg : W.grownBy W' row) (hr : ∀ r, row = some r → w.heap.size + 1 ≤ r) : SBI w y W' :=
  ⟨h.bs.kept hg (fun e => by have := hr _ e.symm; omega), since_rowC h.sn hg (fun r e => by have := hr r e; omega)⟩
theorem SBI.set {w W : World} {y : Int} (h : SBI w y W) (z : Int) : SBI w z (W.setCell ⟨w.heap.size, 0, none⟩ (.int .i64 z)) :=
  ⟨h.bs.set _, since_rowC h.sn (grownBy_setCell' W _ _) (fun r e => by cases e; omega)⟩
theorem sbi_start (w : World) (y : Int) : SBI w y (w.alloc (.cells #[.int .i64 y] 3)) := ⟨Boxed.new w 3 (.int .i64 y), (World.Since.refl _ w).alloc (Nat.le_refl _) _⟩
theorem oldS_alloc2 (w : World) (o o' : Obj) : OldS w.heap.size w ((w.alloc o).alloc o') := fun k hk => by
  have h := (World.grownBy_alloc w o none).trans (World.grownBy_alloc (w.alloc o) o' none)
  exact h.block k hk (by simp)

set_option maxRecDepth 100000 in
set_option maxHeartbeats 2000000 in
theorem halfByPairings_any (a : Option Addr) (cap n : Nat) (l : List (List Int)) (w : World) (hn : l.length = n) (hT : TabIn l) (hw : (l.getD 0 []).length = n) (hm : MatR w a l) (h1 : 1 < w.heap.size) (hTZ : TZ w) :
    Calls Tryd.prog 30 #[.slice a n cap] w fun e w' => e = .returned (.int .i64 (halfF l n 3 (2 ^ n - 1))) ∧ w.Since w.heap.size w' := by
  have h6 := hT.2.1
  rw [hn] at h6
  refine (callsIn_wide (n := 9)).1 ?_
  refine callsIn_of_wp_marks Tryd.func30 rfl trivial ?_ rfl
  simp only [Tryd.ntmps30, List.size_toArray, List.length_cons, List.length_nil, Nat.reduceAdd, Nat.reduceSub, Array.replicate_succ, Array.replicate_zero, List.push_toArray, List.append_toArray, List.nil_append, List.cons_append]
  have HM := Lib.hid hm
  have HT := Lib.hid hT
  clear hm hT
  gi_wp2_with (refine ⟨trivial, ?_⟩; gi_at_call 36; refine (callsIn_wide.2 (pairProducts_any _ a n cap _ rfl)).mono ?_; rintro e w' ⟨rfl, rfl⟩)
  have hP := sbi_start w 0
  have hbt := (Boxed.new (w.alloc (.cells #[.int .i64 0] 3)) 39 (.slice a n cap)).cell
  have hP2 := hP.kept (World.grownBy_alloc (w.alloc (.cells #[.int .i64 0] 3)) (.cells #[.slice a n cap] 39) none) (fun r e => by cases e)
  have hO := oldS_alloc2 w (.cells #[.int .i64 0] 3) (.cells #[.slice a n cap] 39)
  have hz2 : ((w.alloc (.cells #[.int .i64 0] 3)).alloc (.cells #[.slice a n cap] 39)).heap.size = w.heap.size + 2 := by simp
  rw [World.size_alloc] at hbt
  obtain ⟨W0, hW0⟩ : ∃ W0, (w.alloc (.cells #[.int .i64 0] 3)).alloc (.cells #[.slice a n cap] 39) = W0 := ⟨_, rfl⟩
  rw [hW0] at hbt hP2 hO hz2 ⊢
  clear hW0 hP
  refine rangeC (F := Fence.wide) (n := 9) rfl (by omega) (gf := 62) (lb := #[.pointer (some ⟨w.heap.size + 1, 0, none⟩)]) rfl trivial (enters_of Tryd.func62 (by kernel_rfl) rfl)
    (prods_stops 8 (w.heap.size + 1) n cap (by omega) a l w W0 hn HT.out hw HM.out h1 hTZ hO (by omega) ⟨by omega, by omega⟩ hbt) (fun _ => rfl) (fun _ _ _ _ _ h _ _ => h) (fun k => k = w.heap.size) (by rintro k rfl; exact ⟨by omega, by omega⟩) (by rintro k (h | rfl) <;> omega)
    (fun (pre : List Int) W => SBI w (lsumI (fun x : Int => x) pre) W ∧ pre.length ≤ 16 ∧ ∀ x ∈ pre, -34012224000000 ≤ x ∧ x ≤ 34012224000000)
    (fun pre X Y row hs hg hr => ⟨hs.1.kept hg (fun r e => by have := hr r e; omega), hs.2⟩)
    ⟨hP2, by simp⟩
    (fun x => { tmps := #[.slice a n cap, undef, .int .i64 0, .pointer (some ⟨w.heap.size, 0, none⟩), .int .i64 x, .slice a n cap, .func (.func 62) #[] #[.pointer (some ⟨w.heap.size + 1, 0, none⟩)], .int .i64 x, undef, undef, undef, undef], defers := [] }) ?assign ?body ?done
  case assign =>
    intro lp x W K hK
    gi_wp2
    exact hK
  case body =>
    rintro lp pre x W hl ⟨hv, hpl, hpre⟩ hpx hlen
    have hyb := lsumI_bd (f := fun x : Int => x) (B := 34012224000000) (by omega) pre hpre
    have hsn := lsumI_snoc (fun x : Int => x) pre x
    have hmul : (pre.length : Int) * 34012224000000 ≤ 16 * 34012224000000 := Int.mul_le_mul (by omega) (by omega) (by omega) (by omega)
    obtain ⟨y, hy⟩ : ∃ y, lsumI (fun x : Int => x) pre = y := ⟨_, rfl⟩
    rw [hy] at hv hyb hsn
    have hws : IntKind.i64.wrap (y + x) = y + x := IntWalk.i64_in _ ⟨by omega, by omega⟩
    have cS : W.cell? ⟨w.heap.size, 0, none⟩ = _ := hv.bs.cell
    have fS : W.frozen? ⟨w.heap.size, 0, none⟩ = _ := hv.bs.frozen
    have HSN := Lib.hid hsn
    have HV := Lib.hid hv
    have HPRE := Lib.hid (show ∀ x' ∈ pre ++ [x], -34012224000000 ≤ x' ∧ x' ≤ 34012224000000 from fun x' hx' => by
      rcases List.mem_append.1 hx' with h | h
      · exact hpre x' h
      · simp at h; subst h; exact hpx)
    clear hyb hmul hsn hv hpre hy
    gi_wp2
    have hl2 : (pre ++ [x]).length ≤ 16 := by rw [List.length_append, List.length_singleton]; omega
    exact ⟨Keeps.grown (grownBy_setCell' W w.heap.size _) (fun r e => by cases e; rfl), by rw [HSN.out]; exact HV.out.set _, hl2, HPRE.out⟩
  case done =>
    rintro D ys W hD hS ⟨hv, _⟩ hK
    have hy : lsumI (fun x : Int => x) ys = halfF l n 3 (2 ^ n - 1) := by
      rw [hS, ← pq_half l h6 3 (2 ^ n - 1) (by have := Nat.two_pow_pos n; omega)]
      exact prL_sum l _
    rw [hy] at hv
    have cS := hv.bs.cell
    have hlt := hv.bs.lt
    have HS := Lib.hid (since_rowC hv.sn (grownBy_putObj' W D (.deferred none)) (fun r e => by cases e; omega))
    obtain ⟨y, hyy⟩ : ∃ y, halfF l n 3 (2 ^ n - 1) = y := ⟨_, rfl⟩
    rw [hyy] at cS
    have HYY := Lib.hid hyy
    clear hv hS hy hyy
    gi_wp2
    refine ⟨by simp, .inl ⟨_, _, rfl, run_takeDeferred hK, ?_⟩⟩
    refine ⟨.int .i64 y, ?_, by rw [HYY.out], HS.out⟩
    simp [results, Tryd.f30, go_sem]

end Go.Proofs.YtpimdgijjljejaaDoor
end

section
namespace Go.Proofs.YtpimdgijjljejaaDoor

noncomputable def sameOk (l u : List (List Int)) : Bool := tabIn l && (tabIn u && decide (l = u))

end Go.Proofs.YtpimdgijjljejaaDoor
end

section
namespace Go.Proofs.YtpimdgijjljejaaDoor
open Go.RowKit Go.Deep Go.Shelf

set_option maxHeartbeats 1000000 in
theorem slicesEqual_any (a b : Option Addr) (ca cb m : Nat) (x y : List Int) (w : World) (hx : x.length = m) (hy : y.length = m) (h63 : m ≤ 1048576) (ha : RowR w a x) (hb : RowR w b y) :
    Calls Tryd.prog 88 #[.slice a m ca, .slice b m cb] w fun e w' => e = .returned (.bool (decide (x = y))) ∧ Drawn w w' := by
  have hext : (∀ j, j < m → x.getD j 0 = y.getD j 0) → x = y := fun h => by
    refine List.ext_getElem (by omega) fun c g1 g2 => ?_
    have := h c (by omega)
    simpa [List.getD, g1, g2] using this
  have HX := Lib.hid hx
  have HY := Lib.hid hy
  have HEXT := Lib.hid hext
  clear hx hy hext
  go_enter Tryd.func88, Tryd.ntmps88
  go_wp2
  go_loopg [5, 13] m (fun g _ i wr => ∃ k : Nat, k ≤ m ∧ g = m - k ∧ i = .int .i64 k ∧ Drawn w wr ∧ ∀ j, j < k → x.getD j 0 = y.getD j 0)
  case atStart => exact ⟨0, Nat.zero_le _, rfl, rfl, Drawn.refl w, fun j hj => absurd hj (Nat.not_lt_zero _)⟩
  case round =>
    obtain ⟨k, hk, rfl, rfl, hD, hS⟩ := hrel
    have HS := Lib.hid hS
    clear hS
    by_cases hlt : k < m
    · obtain ⟨b1, o1, rfl, hc1⟩ := ha (by rw [HX.out]; omega)
      obtain ⟨b2, o2, rfl, hc2⟩ := hb (by rw [HY.out]; omega)
      have c1 := hc1 k (by rw [HX.out]; exact hlt)
      have c2 := hc2 k (by rw [HY.out]; exact hlt)
      obtain ⟨p, hp⟩ : ∃ p, x.getD k 0 = p := ⟨_, rfl⟩
      obtain ⟨q, hq⟩ : ∃ q, y.getD k 0 = q := ⟨_, rfl⟩
      rw [hp] at c1
      rw [hq] at c2
      rw [← hD.cell] at c1 c2
      have HP := Lib.hid hp
      have HQ := Lib.hid hq
      clear hp hq hc1 hc2 ha hb
      by_cases hpq : p = q
      · subst hpq
        go_wp2
        go_quiet (fail)
        go_wp2
        go_roundg (m - (k + 1))
        case measure => omega
        case rel => exact ⟨k + 1, by omega, rfl, by go_num, hD.trans (Drawn.mk _ _), fun j hj => by
          by_cases e : j = k
          · subst e; rw [HP.out, HQ.out]
          · exact HS.out j (by omega)⟩
      · have hne : (p != q) = true := by simp [hpq]
        go_wp2
        go_quiet (fail)
        go_wp2
        go_ret
        refine ⟨ret_bool (decide_eq_false fun e => ?_).symm, hD.trans (Drawn.mk _ _)⟩
        subst e
        exact hpq (by rw [← HP.out, ← HQ.out])
    · have : k = m := by omega
      subst this
      have HXY := Lib.hid (HEXT.out HS.out)
      go_wp2
      go_ret
      exact ⟨ret_bool (decide_eq_true HXY.out).symm, hD⟩

theorem rows_eq {l u : List (List Int)} {n : Nat} (hn : l.length = n) (hu : u.length = n) (h : ∀ r, r < n → l.getD r [] = u.getD r []) : l = u := by
  refine List.ext_getElem (by omega) fun c g1 g2 => ?_
  have := h c (by omega)
  simpa [List.getD, g1, g2] using this

attribute [local go_sem] Oper.semAt_some

set_option maxRecDepth 100000 in
set_option maxHeartbeats 2000000 in
theorem same_any (a a2 : Option Addr) (cap cap2 n n2 : Nat) (l u : List (List Int)) (w : World) (hn : l.length = n) (hu : u.length = n2) (hm : MatR w a l) (hmu : MatR w a2 u) (hT : TabIn l) (hTu : TabIn u) :
    Calls Tryd.prog 71 #[.slice a n cap, .slice a2 n2 cap2] w fun e w' => e = .returned (.bool (decide (l = u))) ∧ w.Since w.heap.size w' := by
  have h6 := hT.2.1
  have h1 := hT.1
  rw [hn] at h1 h6
  have hw := hT.width
  have E := Lib.hid (fun (W : World) (hs : Below w.heap.size w W) => alike_any a a2 cap cap2 n n2 l u W hn hu hT hTu (hm.since (below_since hs)) (hmu.since (below_since hs)))
  refine (callsIn_wide (n := 9)).1 ?_
  refine callsIn_of_wp_marks Tryd.func71 rfl trivial ?_ rfl
  simp only [Tryd.ntmps71, List.size_toArray, List.length_cons, List.length_nil, Nat.reduceAdd, Nat.reduceSub, Array.replicate_succ, Array.replicate_zero, List.push_toArray, List.append_toArray, List.nil_append, List.cons_append]
  have hB2 : Below w.heap.size w ((w.alloc (.cells #[.slice a2 n2 cap2] 39)).alloc (.cells #[.bool false] 4)) := ((Below.refl _ w).alloc (Nat.le_refl _) _).alloc (by simp) _
  have HB2 := Lib.hid hB2
  clear hB2
  cases hal : alikeB l u with
  | false =>
    rw [hal] at E
    have hno : l ≠ u := by
      rintro rfl
      unfold alikeB at hal
      simp at hal
    have HNO := Lib.hid hno
    clear hm hmu hT hTu hn hu hno hal
    gi_wp2_with (refine ⟨trivial, ?_⟩; gi_at_call 87; refine (callsIn_wide.2 (E.out _ HB2.out)).mono ?_; rintro e w' ⟨rfl, rfl⟩)
    refine ⟨.bool false, ?_, ret_bool (decide_eq_false HNO.out).symm, below_since HB2.out⟩
    simp [results, Tryd.f71, go_sem]
  | true =>
    rw [hal] at E
    unfold alikeB at hal
    rw [Bool.and_eq_true, beq_iff_eq, beq_iff_eq] at hal
    obtain rfl : n2 = n := by omega
    obtain ⟨m, hmm⟩ : ∃ m, (l.getD 0 []).length = m := ⟨_, rfl⟩
    have hrow : ∀ r, r < n2 → (l.getD r []).length = m := fun r hr => by rw [hT.row (by omega), hmm]
    have hrowu : ∀ r, r < n2 → (u.getD r []).length = m := fun r hr => by rw [hTu.row (by omega), ← hal.2, hmm]
    rw [hmm] at hw
    obtain ⟨b, o, A, C, ha, hc⟩ := hm (by omega)
    obtain ⟨d, q, A2, C2, ha2, hc2⟩ := hmu (by omega)
    have hbl : b < w.heap.size := World.block_lt_of_cell? _ _ (hc 0 (by omega)).1
    have hdl : d < w.heap.size := World.block_lt_of_cell? _ _ (hc2 0 (by omega)).1
    have hc1 : ∀ r, r < n2 → w.cell? ⟨b, o + r, none⟩ = some (.slice (A r) m (C r)) ∧ RowR w (A r) (l.getD r []) := fun r hr => by
      have := hc r (by omega); rw [hrow r hr] at this; exact this
    have hc3 : ∀ r, r < n2 → w.cell? ⟨d, q + r, none⟩ = some (.slice (A2 r) m (C2 r)) ∧ RowR w (A2 r) (u.getD r []) := fun r hr => by
      have := hc2 r (by omega); rw [hrowu r hr] at this; exact this
    subst ha
    subst ha2
    have HC := Lib.hid hc1
    have HC2 := Lib.hid hc3
    have HROW := Lib.hid hrow
    have HROWU := Lib.hid hrowu
    have HEQ := Lib.hid (rows_eq hn hu)
    have hpow : 2 ^ n2 - 1 ≤ 63 := by have : 2 ^ n2 ≤ 2 ^ 6 := Nat.pow_le_pow_right (by omega) h6; omega
    clear hm hmu hT hTu hn hu hal hmm hc hc2 hc1 hc3 hrow hrowu
    gi_wp2_with (first
      | (refine ⟨trivial, ?_⟩; gi_at_call 87; refine (callsIn_wide.2 (E.out _ HB2.out)).mono ?_; rintro e w' ⟨rfl, rfl⟩)
      | (refine ⟨trivial, ?_⟩; gi_at_call 58; refine (callsIn_wide.2 (allRows_any _ _ _ _ h6)).mono ?_; rintro e w' ⟨rfl, rfl⟩)
      | (refine ⟨trivial, ?_⟩; gi_at_call 68; refine (callsIn_wide.2 (rows_any _ _ _ _ _)).mono ?_; rintro e w' ⟨rfl, rfl⟩))
    obtain ⟨W0, hW0⟩ : ∃ W0, W0 = (((w.alloc (.cells #[.slice (some ⟨d, q, none⟩) n2 cap2] 39)).alloc (.cells #[.bool false] 4)).alloc (.cells #[.slice (some ⟨b, o, none⟩) n2 cap] 39)).alloc (.cells #[.int .i64 (2 ^ n2 - 1 : Nat)] 3) := ⟨_, rfl⟩
    rw [← hW0]
    have hsz0 : W0.heap.size = w.heap.size + 1 + 1 + 1 + 1 := by rw [hW0]; simp
    have hB0 : Below w.heap.size w W0 := by rw [hW0]; exact (HB2.out.alloc (by simp; omega) _).alloc (by simp; omega) _
    have c0 := cell_new_l w (.slice (some ⟨d, q, none⟩) n2 cap2) 39
    have c1 := cell_new_l (w.alloc (.cells #[.slice (some ⟨d, q, none⟩) n2 cap2] 39)) (.bool false) 4
    have c2 := cell_new_l ((w.alloc (.cells #[.slice (some ⟨d, q, none⟩) n2 cap2] 39)).alloc (.cells #[.bool false] 4)) (.slice (some ⟨b, o, none⟩) n2 cap) 39
    have c3 := cell_new_l (((w.alloc (.cells #[.slice (some ⟨d, q, none⟩) n2 cap2] 39)).alloc (.cells #[.bool false] 4)).alloc (.cells #[.slice (some ⟨b, o, none⟩) n2 cap] 39)) (.int .i64 (2 ^ n2 - 1 : Nat)) 3
    simp only [World.size_alloc] at c1 c2 c3
    have d0 : W0.cell? ⟨w.heap.size, 0, none⟩ = some (.slice (some ⟨d, q, none⟩) n2 cap2) := by rw [hW0]; exact cell_alloc_l _ (cell_alloc_l _ (cell_alloc_l _ c0.1))
    have d1 : W0.cell? ⟨w.heap.size + 1, 0, none⟩ = some (.bool false) := by rw [hW0]; exact cell_alloc_l _ (cell_alloc_l _ c1.1)
    have d1f : W0.frozen? ⟨w.heap.size + 1, 0, none⟩ = false := by rw [hW0]; exact frozen_alloc_l _ (cell_alloc_l _ c1.1) (frozen_alloc_l _ c1.1 c1.2)
    have d2 : W0.cell? ⟨w.heap.size + 1 + 1, 0, none⟩ = some (.slice (some ⟨b, o, none⟩) n2 cap) := by rw [hW0]; exact cell_alloc_l _ c2.1
    have d3 : W0.cell? ⟨w.heap.size + 1 + 1 + 1, 0, none⟩ = some (.int .i64 (2 ^ n2 - 1 : Nat)) := by rw [hW0]; exact c3.1
    clear c0 c1 c2 c3
    have hc0' : ∀ k, k < n2 → W0.cell? ⟨b, o + k, none⟩ = some (.slice (A k) m (C k)) := fun k hk => (hB0.cell (p := ⟨b, o + k, none⟩) hbl).trans (HC.out k hk).1
    have hstops := rows_stops 8 (by omega) (w.heap.size + 1 + 1) (w.heap.size + 1 + 1 + 1) b o n2 cap (2 ^ n2 - 1) W0.heap.size (by omega) hpow A (fun _ => m) C W0 (Nat.le_refl _) (by omega) (by omega) (by omega) d2 d3 hc0'
    clear hc0' d2 d3
    refine wpIn_rangeFunc_ownF (F := Fence.wide) (n := 9) rfl (by omega) (gf := 86) (lb := #[.pointer (some ⟨w.heap.size + 1 + 1, 0, none⟩), .pointer (some ⟨w.heap.size + 1 + 1 + 1, 0, none⟩)]) rfl trivial (enters_of Tryd.func86 (by kernel_rfl) rfl)
      hstops belowK_t (belowK_b (Nat.le_refl _)) (Below.refl _ _) (fun _ => rfl)
      (fun pre W => (W.cell? ⟨w.heap.size, 0, none⟩ = some (.slice (some ⟨d, q, none⟩) n2 cap2) ∧ W.cell? ⟨w.heap.size + 1, 0, none⟩ = some (.bool false) ∧ W.frozen? ⟨w.heap.size + 1, 0, none⟩ = false ∧ ∀ x ∈ pre, l.getD x.1 [] = u.getD x.1 []) ∧ Below w.heap.size w W)
      (fun c _ W => (c = .ret ∧ l ≠ u ∧ W.cell? ⟨w.heap.size + 1, 0, none⟩ = some (.bool false)) ∧ Below w.heap.size w W)
      (OwnFrom.and (Own.from (fun s A B row hs hg hr => ⟨cell_kept hs.1 hg hr, cell_kept hs.2.1 hg hr, (frozen_kept hs.2.1 hg hr).trans hs.2.2.1, hs.2.2.2⟩) _) (ownFrom_below (Nat.le_refl _) (by omega)))
      (fun c => OwnFrom.and (Own.from (fun s A B row hs hg hr => ⟨hs.1, hs.2.1, cell_kept hs.2.2 hg hr⟩) _) (ownFrom_below (Nat.le_refl _) (by omega)))
      ⟨⟨d0, d1, d1f, by simp⟩, hB0⟩
      (fun x => { tmps := #[.slice (some ⟨b, o, none⟩) n2 cap, .slice (some ⟨d, q, none⟩) n2 cap2, undef, .pointer (some ⟨w.heap.size, 0, none⟩), .pointer (some ⟨w.heap.size + 1, 0, none⟩), .int .i64 x.1, .slice (A x.1) m (C x.1), .slice (some ⟨b, o, none⟩) n2 cap, .slice (some ⟨d, q, none⟩) n2 cap2,
          .bool true, .bool false, .slice (some ⟨b, o, none⟩) n2 cap, .slice (some ⟨b, o, none⟩) n2 cap, .int .i64 (2 ^ n2 - 1 : Nat),
          .func (.func 86) #[] #[.pointer (some ⟨w.heap.size + 1 + 1, 0, none⟩), .pointer (some ⟨w.heap.size + 1 + 1 + 1, 0, none⟩)],
          .int .i64 x.1, .slice (A x.1) m (C x.1), undef, undef, undef, undef, undef, undef, undef], defers := [] }) ?assign ?body ?done ?stop
    case assign =>
      intro lp x W K hK
      gi_wp2
      exact hK
    case body =>
      rintro lp pre x W ⟨⟨g0, g1, g2, g3⟩, gB⟩ hlen
      obtain ⟨_, r1⟩ := HC.out x.1 x.2
      obtain ⟨e2, r2⟩ := HC2.out x.1 x.2
      rw [← gB.cell (p := ⟨d, q + x.1, none⟩) hdl] at e2
      have hx2 := x.2
      obtain ⟨X, hX⟩ : ∃ X, l.getD x.1 [] = X := ⟨_, rfl⟩
      obtain ⟨Y, hY⟩ : ∃ Y, u.getD x.1 [] = Y := ⟨_, rfl⟩
      have hXm := HROW.out x.1 x.2
      have hYm := HROWU.out x.1 x.2
      rw [hX] at r1 hXm
      rw [hY] at r2 hYm
      have E5 := slicesEqual_any (A x.1) (A2 x.1) (C x.1) (C2 x.1) m X Y W hXm hYm (by omega) (r1.since (below_since gB)) (r2.since (below_since gB))
      have HX := Lib.hid hX
      have HY := Lib.hid hY
      obtain ⟨bb, hbb⟩ : ∃ bb, decide (X = Y) = bb := ⟨_, rfl⟩
      rw [hbb] at E5
      have HBB := Lib.hid hbb
      replace E5 := Lib.hid E5
      clear hX hY hXm hYm r1 r2 hbb
      cases bb with
      | true =>
        gi_wp2_with (refine ⟨trivial, ?_⟩; gi_at_call 88; refine (CallsIn.inRound lp (callsIn_wide.2 E5.out)).mono ?_; rintro e w' ⟨rfl, qq, rfl⟩)
        have hxy : X = Y := of_decide_eq_true HBB.out
        refine ⟨⟨Nat.le_refl _, fun _ _ h _ => h⟩, ⟨rfl, rfl, rfl, Nat.le_refl _, fun _ _ => rfl⟩, ⟨g0, g1, g2, fun y hy => ?_⟩, ⟨gB.os, gB.tape, gB.output, gB.size, gB.block⟩⟩
        rcases List.mem_append.1 hy with hy | hy
        · exact g3 y hy
        · simp at hy
          subst hy
          rw [HX.out, HY.out]; exact hxy
      | false =>
        gi_wp2_with (refine ⟨trivial, ?_⟩; gi_at_call 88; refine (CallsIn.inRound lp (callsIn_wide.2 E5.out)).mono ?_; rintro e w' ⟨rfl, qq, rfl⟩)
        have hxy : X ≠ Y := of_decide_eq_false HBB.out
        have gB' : Below w.heap.size w (W.drewN qq) := ⟨gB.os, gB.tape, gB.output, gB.size, gB.block⟩
        have g1' : (W.drewN qq).cell? ⟨w.heap.size + 1, 0, none⟩ = some (.bool false) := g1
        have hk0 : KeepsOthers W (W.drewN qq) := ⟨Nat.le_refl _, fun _ _ h _ => h⟩
        exact ⟨hk0.trans (KeepsOthers.setCell _ _ _), ⟨rfl, fun e => hxy (by rw [← HX.out, ← HY.out, e]), World.cell?_setCell_same' _ _ _ (by rw [g1']; rfl)⟩, gB'.setCell (p := ⟨w.heap.size + 1, 0, none⟩) (by simp) _⟩
    case done =>
      rintro D ys W hD rfl ⟨⟨g0, g1, g2, g3⟩, gB⟩ hK
      have hlu : l = u := HEQ.out fun r hr => g3 ⟨r, hr⟩ (sel_mem (2 ^ n2 - 1) n2 hr (Nat.le_refl _) (by rw [Nat.testBit_two_pow_sub_one]; simpa using hr))
      have HLU := Lib.hid hlu
      clear hlu
      gi_wp2
      have hK' := (KeepsOthers.setCell W ⟨w.heap.size + 1, 0, none⟩ (.bool true)).same D _ hK rfl
      refine ⟨by simp, .inl ⟨_, _, rfl, run_takeDeferred hK', ?_⟩⟩
      have hc5 := cell_kept (World.cell?_setCell_same' W ⟨w.heap.size + 1, 0, none⟩ (.bool true) (by rw [g1]; rfl)) (grownBy_putObj' _ D (.deferred none)) (fun r e => by cases e; exact ⟨_, hK', rfl⟩)
      refine ⟨.bool true, ?_, ret_bool (decide_eq_true HLU.out).symm, below_since ((gB.setCell (p := ⟨w.heap.size + 1, 0, none⟩) (by simp) _).trans (belowK_b (w := w) (Nat.le_refl _) _ D _ _ (by omega) hK' rfl rfl))⟩
      simp [results, Tryd.f71, go_sem, hc5]
    case stop =>
      rintro D c pre W hD hpre ⟨⟨rfl, hnot, hcr⟩, gB⟩ hK
      have HNOT := Lib.hid hnot
      clear hnot
      gi_wp2
      refine ⟨by simp, .inl ⟨_, _, rfl, run_takeDeferred hK, ?_⟩⟩
      have hc5 := cell_kept hcr (grownBy_putObj' _ D (.deferred none)) (fun r e => by cases e; exact ⟨_, hK, rfl⟩)
      refine ⟨.bool false, ?_, ret_bool (decide_eq_false HNOT.out).symm, below_since (gB.trans (belowK_b (w := w) (Nat.le_refl _) W D _ _ (by omega) hK rfl rfl))⟩
      simp [results, Tryd.f71, go_sem, hc5]

end Go.Proofs.YtpimdgijjljejaaDoor
end

section
namespace Go.Proofs.YtpimdgijjljejaaDoor
open Go.RowKit Go.Deep

theorem same_ext {l u : List (List Int)} {n m : Nat} (hn : l.length = n) (hu : u.length = n) (hl : ∀ r, r < n → (l.getD r []).length = m) (hul : ∀ r, r < n → (u.getD r []).length = m) (h : ∀ r c, r < n → c < m → at2 l r c = at2 u r c) : l = u := by
  refine List.ext_getElem (by omega) fun r h1 h2 => ?_
  have e1 : l.getD r [] = l[r] := by simp [List.getD, h1]
  have e2 : u.getD r [] = u[r] := by simp [List.getD, h2]
  have l1 := hl r (by omega)
  have l2 := hul r (by omega)
  rw [e1] at l1
  rw [e2] at l2
  refine List.ext_getElem (by omega) fun c g1 g2 => ?_
  have := h r c (by omega) (by omega)
  unfold at2 at this
  rw [e1, e2] at this
  simpa [List.getD, g1, g2] using this

def SameTo (l u : List (List Int)) (m r c : Nat) : Prop := (∀ i j, i < r → j < m → at2 l i j = at2 u i j) ∧ ∀ j, j < c → at2 l r j = at2 u r j
theorem SameTo.next {l u : List (List Int)} {m r : Nat} (h : SameTo l u m r m) : SameTo l u m (r + 1) 0 :=
  ⟨fun i j hi hj => by
    by_cases e : i = r
    · subst e; exact h.2 j hj
    · exact h.1 i j (by omega) hj, fun j hj => absurd hj (Nat.not_lt_zero _)⟩
theorem SameTo.step {l u : List (List Int)} {m r c : Nat} (h : SameTo l u m r c) (e : at2 l r c = at2 u r c) : SameTo l u m r (c + 1) :=
  ⟨h.1, fun j hj => by
    by_cases e' : j = c
    · subst e'; exact e
    · exact h.2 j (by omega)⟩

end Go.Proofs.YtpimdgijjljejaaDoor
end

section
namespace Go.Proofs.YtpimdgijjljejaaDoor
open Go.RowKit Go.Deep

noncomputable def partOk (l : List (List Int)) (s c : Int) : Bool := tabIn l && (inB s 1 (2 ^ l.length - 1 : Nat) && inB c 1 (2 ^ (l.getD 0 []).length - 1 : Nat))
theorem partOk_tab {l : List (List Int)} {s c : Int} (h : partOk l s c = true) : TabIn (partL l s.toNat c.toNat) := by
  unfold partOk at h
  rw [Bool.and_eq_true, Bool.and_eq_true] at h
  have h2 := of_decide_eq_true h.2.1
  have h3 := of_decide_eq_true h.2.2
  have p1 := Nat.one_le_two_pow (n := l.length)
  have p2 := Nat.one_le_two_pow (n := (l.getD 0 []).length)
  exact partL_tab (tabIn_of h.1) (by omega) (by omega) (by omega) (by omega)

end Go.Proofs.YtpimdgijjljejaaDoor
end

section
namespace Go.Proofs.YtpimdgijjljejaaDoor
open Go.RowKit Go.Deep

noncomputable def swapOk (l : List (List Int)) (i k : Int) : Bool := tabIn l && (rowB i l.length && rowB k l.length)
theorem swapOk_tab {l : List (List Int)} {i k : Int} (h : swapOk l i k = true) : TabIn (swapL l i.toNat k.toNat) := by
  unfold swapOk at h
  rw [Bool.and_eq_true, Bool.and_eq_true] at h
  obtain ⟨i, rfl, hi⟩ := rowB_of h.2.1
  obtain ⟨k, rfl, hk⟩ := rowB_of h.2.2
  exact swapL_tab (tabIn_of h.1) hi hk
theorem szL_swapOk (l : List (List Int)) (i k : Int) (h : swapOk l i k = true) : szL (swapL l i.toNat k.toNat) ≤ 1048576 := szL_tab (swapOk_tab h)

end Go.Proofs.YtpimdgijjljejaaDoor
end

section
namespace Go.Proofs.YtpimdgijjljejaaDoor
open Go.RowKit Go.Deep

structure SW (w1 w' : World) (b n m : Nat) (A : Nat → Option Addr) (G C : Nat → Nat) (Z : Nat → Nat → Int) (hi : Nat) : Prop where
  since : w1.Since w1.heap.size w'
  size : hi ≤ w'.heap.size
  own : OwnD w1.heap.size hi w' b A G C n (fun _ => m) Z
  free : ∀ r, r < n → w'.frozen? ⟨b, r, none⟩ = false
  inb : w1.heap.size ≤ b ∧ b < hi

theorem SW.later {w1 w' w2 : World} {b n m : Nat} {A : Nat → Option Addr} {G C : Nat → Nat} {Z : Nat → Nat → Int} {hi : Nat} (h : SW w1 w' b n m A G C Z hi) (hs : w'.Since w'.heap.size w2) : SW w1 w2 b n m A G C Z hi :=
  ⟨h.since.trans (since_mono hs h.since.size), Nat.le_trans h.size hs.size, h.own.later hs, fun r hr => by rw [hs.frozen (a := ⟨b, r, none⟩) (World.block_lt_of_cell? _ _ (h.own.top r hr))]; exact h.free r hr, h.inb⟩

theorem SW.put {w1 w2 w3 : World} {b n m : Nat} {A : Nat → Option Addr} {G C : Nat → Nat} {Z : Nat → Nat → Int} {hi : Nat} (h : SW w1 w2 b n m A G C Z hi) (hs : w2.Since w2.heap.size w3) {g cp : Nat} {x : List Int} (hg : w2.heap.size ≤ g) (hx : RowB w3 g x) (hxl : x.length = m)
    (hm : 0 < m) {i : Nat} (hi' : i < n) : SW w1 (w3.setCell ⟨b, i, none⟩ (.slice (some ⟨g, 0, none⟩) m cp)) b n m (fun r => if r = i then some ⟨g, 0, none⟩ else A r) (fun r => if r = i then g else G r) (fun r => if r = i then cp else C r) (fun r c => if r = i then x.getD c 0 else Z r c) w3.heap.size := by
  have h3 := h.later hs
  have hgl := hx.lt
  have hsz := h.size
  have hb := h.inb
  have hss := h.since.size
  have hsz3 := hs.size
  have hgb : g ≠ b := by omega
  refine ⟨h3.since.setCell hb.1 _, by simp, ⟨fun r hr => ?_, fun r hr h0 => ?_, fun r hr h0 => ?_, fun r hr c hc => ?_, fun r hr c hc => ?_, fun r r' hr hr' h0 h0' e => ?_⟩, fun r hr => by rw [World.frozen?_setCell]; exact h3.free r hr, hb.1, by omega⟩
  · by_cases e : r = i
    · subst e
      rw [if_pos rfl, if_pos rfl]
      exact World.cell?_setCell_same' _ _ _ (by rw [h3.own.top r hr]; rfl)
    · rw [if_neg e, if_neg e, World.cell?_setCell_other _ _ _ _ (fun e' => e (by injection e' with _ e'; exact e'.symm))]
      exact h3.own.top r hr
  · by_cases e : r = i
    · rw [if_pos e, if_pos e]
    · rw [if_neg e, if_neg e]; exact h3.own.addr r hr h0
  · by_cases e : r = i
    · rw [if_pos e]; exact ⟨by omega, hgl, hgb⟩
    · rw [if_neg e]; have := h3.own.inside r hr h0; exact ⟨this.1, by omega, this.2.2⟩
  · by_cases e : r = i
    · rw [if_pos e, if_pos e, World.cell?_setCell_other _ _ _ _ (fun e' => hgb (by injection e' with e'; exact e'.symm))]
      exact hx.cell (by rw [hxl]; exact hc)
    · rw [if_neg e, if_neg e, World.cell?_setCell_other _ _ _ _ (fun e' => (h3.own.inside r hr (by omega)).2.2 (by injection e' with e'; exact e'.symm))]
      exact h3.own.cell r hr c hc
  · rw [World.frozen?_setCell]
    by_cases e : r = i
    · rw [if_pos e]; exact hx.frozen c
    · rw [if_neg e]; exact h3.own.free r hr c hc
  · by_cases e1 : r = i <;> by_cases e2 : r' = i
    · omega
    · rw [if_pos e1, if_neg e2] at e
      have := (h.own.inside r' hr' h0').2.1
      omega
    · rw [if_neg e1, if_pos e2] at e
      have := (h.own.inside r hr h0).2.1
      omega
    · rw [if_neg e1, if_neg e2] at e
      exact h3.own.apart r r' hr hr' h0 h0' e

theorem OwnT.sw {w w1 : World} {a : Option Addr} {l : List (List Int)} {n m : Nat} (h : OwnT w.heap.size w1.heap.size w1 a l) (hn : l.length = n) (h1 : 0 < n) (hm : ∀ r, r < n → (l.getD r []).length = m) (hs : w.Since w.heap.size w1) (hf : FreeTop w1 a n) :
    ∃ b A G C, a = some ⟨b, 0, none⟩ ∧ SW w w1 b n m A G C (fun r c => at2 l r c) w1.heap.size := by
  obtain ⟨b, A, G, C, e, hb, hW⟩ := h.wr hn h1 hm hs (fun _ _ => 0)
  exact ⟨b, A, G, C, e, hs, Nat.le_refl _, hW.own.congr fun r _ c _ => by unfold updF; rw [if_neg (by omega)], fun r hr => hf b r e hr, hb⟩

theorem SW.ownT {w1 w' : World} {b n m : Nat} {A : Nat → Option Addr} {G C : Nat → Nat} {Z : Nat → Nat → Int} {hi : Nat} {l : List (List Int)} (h : SW w1 w' b n m A G C Z hi) (hn : l.length = n) (hm : ∀ r, r < n → (l.getD r []).length = m) (hZ : ∀ r c, r < n → c < m → at2 l r c = Z r c) : OwnT w1.heap.size w'.heap.size w' (some ⟨b, 0, none⟩) l :=
  (h.own.ownT h.inb hn hm fun r hr c hc => hZ r c hr hc).mono (Nat.le_refl _) h.size

theorem own_row (W : World) : (W.alloc (.cells #[] 3)).ownsRow W.heap.size 3 1 (.slice (some ⟨W.heap.size, 0, none⟩) 0 0) 0 [] := World.ownsRow_made W #[] 0 (Nat.le_refl _) (Nat.zero_le _) rfl
theorem row_cells {w W : World} {b' o' m : Nat} {x : List Int} (hx : x.length = m) (hs : w.Since w.heap.size W) (hce : ∀ j, j < m → w.cell? ⟨b', o' + j, none⟩ = some (.int .i64 (x.getD j 0))) (o : Obj) : ∀ (j : Nat) (u : Value), (x.map (Value.int .i64))[j]? = some u → (W.alloc o).cell? ((⟨b', o', none⟩ : Addr).add j) = some u := fun j u hj => by
  rw [Go.WideShapes.add_plain]
  obtain ⟨hjl, he⟩ := List.getElem?_eq_some_iff.1 hj
  have hjx : j < m := by rw [← hx]; simpa using hjl
  have h2 := hce j hjx
  refine cell_alloc_l _ ?_
  rw [hs.cell (a := ⟨b', o' + j, none⟩) (World.block_lt_of_cell? _ _ h2), h2, ← he]
  simp [List.getD, show j < x.length by omega]

end Go.Proofs.YtpimdgijjljejaaDoor
end

section
namespace Go.Proofs.YtpimdgijjljejaaDoor
open Go.RowKit Go.Deep

theorem swap_back {l : List (List Int)} {i k : Int} (h : swapOk l i k = true) : swapOk (swapL l i.toNat k.toNat) i k = true ∧ swapL (swapL l i.toNat k.toNat) i.toNat k.toNat = l := by
  have hT := swapOk_tab h
  unfold swapOk at h ⊢
  rw [Bool.and_eq_true, Bool.and_eq_true] at h
  refine ⟨by rw [tabIn_true hT, swapL_length, h.2.1, h.2.2]; rfl, ?_⟩
  obtain ⟨i, rfl, hi⟩ := rowB_of h.2.1
  obtain ⟨k, rfl, hk⟩ := rowB_of h.2.2
  rw [Int.toNat_natCast, Int.toNat_natCast]
  have e : swapL (swapL l i k) i k = (List.range l.length).map fun r => l.getD r [] := by
    show (List.range (swapL l i k).length).map (fun r => (swapL l i k).getD (sw i k r) []) = _
    rw [swapL_length]
    refine List.map_congr_left fun r hr => ?_
    rw [swapL_get l i k (sw_lt hi hk (List.mem_range.1 hr)), sw_sw]
  rw [e, range_getD]

theorem tabF_congr {n m : Nat} {f g : Nat → Nat → Int} (h : ∀ i k, i < n → k < m → f i k = g i k) : tabF n m f = tabF n m g := by
  unfold tabF
  exact List.map_congr_left fun r hr => List.map_congr_left fun k hk => h r k (List.mem_range.1 hr) (List.mem_range.1 hk)

theorem add_back {l : List (List Int)} {fr tq f : Int} (h : addOk l fr tq f = true) : addOk (addL l fr.toNat tq.toNat f) fr tq (-f) = true ∧ addL (addL l fr.toNat tq.toNat f) fr.toNat tq.toNat (-f) = l := by
  unfold addOk at h ⊢
  simp only [Bool.and_eq_true, Bool.not_eq_true'] at h
  obtain ⟨h1, h2, h3, h4, h5, h6⟩ := h
  have hT := tabIn_of h1
  obtain ⟨fr, rfl, hfr⟩ := rowB_of h2
  obtain ⟨tq, rfl, hto⟩ := rowB_of h3
  rw [Int.toNat_natCast, Int.toNat_natCast] at *
  have hne : fr ≠ tq := by rintro rfl; simp at h4
  have hw := hT.width
  have h0 := hT.1
  have e0 : ((addL l fr tq f).getD 0 []).length = (l.getD 0 []).length := tabF_len _ _ _ _ (by omega)
  have e : addL (addL l fr tq f) fr tq (-f) = l := by
    show tabF (addL l fr tq f).length ((addL l fr tq f).getD 0 []).length (addF (addL l fr tq f) fr tq (-f)) = l
    rw [addL_length, e0]
    refine Eq.trans (tabF_congr fun i k hi hk => ?_) (tab_self rfl (fun r hr => hT.row hr))
    have a1 : at2 (addL l fr tq f) i k = addF l fr tq f i k := tabF_at _ _ _ _ _ hi hk
    have a2 : at2 (addL l fr tq f) fr k = addF l fr tq f fr k := tabF_at _ _ _ _ _ hfr hk
    show (if i = tq then at2 (addL l fr tq f) i k + (-f) * at2 (addL l fr tq f) fr k else at2 (addL l fr tq f) i k) = at2 l i k
    rw [a1, a2]
    unfold addF
    by_cases hi : i = tq
    · rw [if_pos hi, if_pos hi, if_neg hne, Int.neg_mul]; omega
    · rw [if_neg hi, if_neg hi]
  refine ⟨?_, e⟩
  have h5' := of_decide_eq_true h5
  rw [h6, addL_length, h2, h3, h4, e, h1]
  have : inB (-f) (-30) 30 = true := by unfold inB at *; simp at *; omega
  rw [this]; rfl
theorem addOk_num {l : List (List Int)} {fr tq f : Int} (h : addOk l fr tq f = true) : -30 ≤ f ∧ f ≤ 30 := by
  unfold addOk at h
  simp only [Bool.and_eq_true] at h
  exact of_decide_eq_true h.2.2.2.2.1

end Go.Proofs.YtpimdgijjljejaaDoor
end

section
namespace Go.Proofs.YtpimdgijjljejaaDoor
open Go.RowKit Go.Deep

theorem tabF_tab {n m : Nat} {f : Nat → Nat → Int} (hn : 1 ≤ n ∧ n ≤ 6) (hm : 1 ≤ m ∧ m ≤ 6) (h : ∀ i k, i < n → k < m → -30 ≤ f i k ∧ f i k ≤ 30) : TabIn (tabF n m f) := by
  refine ⟨by rw [tabF_length]; exact hn.1, by rw [tabF_length]; exact hn.2, fun r hr => ?_⟩
  rw [tabF_length] at hr
  refine ⟨by rw [tabF_len _ _ _ _ hr, tabF_len _ _ _ _ (by omega)], by rw [tabF_len _ _ _ _ hr]; exact hm.1, by rw [tabF_len _ _ _ _ hr]; exact hm.2, fun k hk => ?_⟩
  rw [tabF_len _ _ _ _ hr] at hk
  rw [tabF_at _ _ _ _ _ hr hk]
  exact h r k hr hk
theorem tab_bd {n m : Nat} {f : Nat → Nat → Int} (hn : 1 ≤ n) (h : TabIn (tabF n m f)) : ∀ i k, i < n → k < m → -30 ≤ f i k ∧ f i k ≤ 30 := by
  intro i k hi hk
  have h1 := h.at (i := i) (k := k) (by rw [tabF_length]; exact hi) (by rw [tabF_len _ _ _ _ (by omega)]; exact hk)
  have h2 : at2 (tabF n m f) i k = f i k := tabF_at _ _ _ _ _ hi hk
  rw [h2] at h1
  exact h1
theorem TabIn.sides {l : List (List Int)} (h : TabIn l) : (1 ≤ l.length ∧ l.length ≤ 6) ∧ (1 ≤ (l.getD 0 []).length ∧ (l.getD 0 []).length ≤ 6) := ⟨⟨h.1, h.2.1⟩, h.width⟩
theorem timesL_at {l : List (List Int)} {z : Int} {i k : Nat} (hi : i < l.length) (hk : k < (l.getD 0 []).length) : at2 (timesL l z) i k = at2 l i k * z := tabF_at _ _ _ _ _ hi hk
theorem timesL_width {l : List (List Int)} (z : Int) (h : 1 ≤ l.length) : ((timesL l z).getD 0 []).length = (l.getD 0 []).length := tabF_len _ _ _ _ (by omega)

theorem less_bd {x z : Int} (hz : 1 ≤ z) (h1 : -30 ≤ x * z) (h2 : x * z ≤ 30) : -30 ≤ x * (z - 1) ∧ x * (z - 1) ≤ 30 := by
  rw [Int.mul_sub, Int.mul_one]
  by_cases hx : 0 ≤ x
  · have := Int.mul_le_mul_of_nonneg_left hz hx
    rw [Int.mul_one] at this
    omega
  · have := Int.mul_le_mul_of_nonneg_left hz (show 0 ≤ -x by omega)
    rw [Int.mul_one, Int.neg_mul] at this
    omega

theorem timesOk_of {l : List (List Int)} {z : Int} (h : timesOk l z = true) : TabIn l ∧ (-30 ≤ z ∧ z ≤ 30) ∧ TabIn (timesL l z) := by
  unfold timesOk at h
  simp only [Bool.and_eq_true] at h
  exact ⟨tabIn_of h.1, of_decide_eq_true h.2.1, tabIn_of h.2.2⟩

theorem times_less {l : List (List Int)} {z : Int} (h : timesOk l z = true) (hz : 1 ≤ z) : timesOk l (z - 1) = true ∧ sumOk (timesL l (z - 1)) l = true ∧ sumL (timesL l (z - 1)) l = timesL l z := by
  obtain ⟨hT, hzb, hM⟩ := timesOk_of h
  have hs := hT.sides
  have hb := tab_bd hs.1.1 hM
  have hL : TabIn (timesL l (z - 1)) := tabF_tab hs.1 hs.2 fun i k hi hk => less_bd hz (hb i k hi hk).1 (hb i k hi hk).2
  have hin : inB (z - 1) (-30) 30 = true := by unfold inB; simp; omega
  have e : sumL (timesL l (z - 1)) l = timesL l z := by
    show tabF (timesL l (z - 1)).length ((timesL l (z - 1)).getD 0 []).length (fun i k => at2 (timesL l (z - 1)) i k + at2 l i k) = tabF l.length (l.getD 0 []).length fun i k => at2 l i k * z
    rw [timesL_length, timesL_width _ hs.1.1]
    refine tabF_congr fun i k hi hk => ?_
    rw [timesL_at hi hk, Int.mul_sub, Int.mul_one]
    omega
  refine ⟨?_, ?_, e⟩
  · unfold timesOk
    rw [tabIn_true hT, hin, tabIn_true hL]; rfl
  · unfold sumOk alikeB
    rw [e, tabIn_true hT, tabIn_true hL, tabIn_true hM, timesL_length, timesL_width _ hs.1.1]
    simp

end Go.Proofs.YtpimdgijjljejaaDoor
end

section
namespace Go.Proofs.YtpimdgijjljejaaDoor
open Go.RowKit Go.Deep

theorem turnL_at {l : List (List Int)} {i k : Nat} (hi : i < l.length) (hk : k < (l.getD 0 []).length) : at2 (turnL l) k i = at2 l i k := tabF_at _ _ _ _ _ hk hi
theorem turnL_width {l : List (List Int)} (h : TabIn l) : ((turnL l).getD 0 []).length = l.length := tabF_len _ _ _ _ (by have := h.width; omega)
theorem turnL_tab {l : List (List Int)} (h : TabIn l) : TabIn (turnL l) := tabIn_of (tabIn_turn h)

theorem sumOk_of {l u : List (List Int)} (h : sumOk l u = true) : TabIn l ∧ TabIn u ∧ l.length = u.length ∧ (l.getD 0 []).length = (u.getD 0 []).length ∧ TabIn (sumL l u) := by
  unfold sumOk alikeB at h
  simp only [Bool.and_eq_true, beq_iff_eq] at h
  exact ⟨tabIn_of h.1, tabIn_of h.2.1, h.2.2.1.1, h.2.2.1.2, tabIn_of h.2.2.2⟩
theorem sumOk_mk {l u : List (List Int)} (h1 : TabIn l) (h2 : TabIn u) (h3 : l.length = u.length) (h4 : (l.getD 0 []).length = (u.getD 0 []).length) (h5 : TabIn (sumL l u)) : sumOk l u = true := by
  unfold sumOk alikeB
  rw [tabIn_true h1, tabIn_true h2, tabIn_true h5, h3, h4]
  simp

theorem sum_comm {l u : List (List Int)} (h : sumOk l u = true) : sumOk u l = true ∧ sumL u l = sumL l u := by
  obtain ⟨h1, h2, h3, h4, h5⟩ := sumOk_of h
  have e : sumL u l = sumL l u := by
    unfold sumL
    rw [← h3, ← h4]
    exact tabF_congr fun i k _ _ => Int.add_comm _ _
  exact ⟨sumOk_mk h2 h1 h3.symm h4.symm (by rw [e]; exact h5), e⟩

theorem sumL_at {l u : List (List Int)} {i k : Nat} (hi : i < l.length) (hk : k < (l.getD 0 []).length) : at2 (sumL l u) i k = at2 l i k + at2 u i k := tabF_at _ _ _ _ _ hi hk
theorem sumL_width {l : List (List Int)} (u : List (List Int)) (h : 1 ≤ l.length) : ((sumL l u).getD 0 []).length = (l.getD 0 []).length := tabF_len _ _ _ _ (by omega)

theorem sum_turn {l u : List (List Int)} (h : sumOk l u = true) : sumOk (turnL l) (turnL u) = true ∧ sumL (turnL l) (turnL u) = turnL (sumL l u) := by
  obtain ⟨h1, h2, h3, h4, h5⟩ := sumOk_of h
  have e : sumL (turnL l) (turnL u) = turnL (sumL l u) := by
    show tabF (turnL l).length ((turnL l).getD 0 []).length (fun i k => at2 (turnL l) i k + at2 (turnL u) i k) = tabF ((sumL l u).getD 0 []).length (sumL l u).length fun k i => at2 (sumL l u) i k
    rw [turnL_length, turnL_width h1, sumL_width u h1.1, sumL_length]
    refine tabF_congr fun k i hk hi => ?_
    rw [turnL_at hi hk, turnL_at (l := u) (by omega) (by omega), sumL_at hi hk]
  exact ⟨sumOk_mk (turnL_tab h1) (turnL_tab h2) (by rw [turnL_length, turnL_length, h4]) (by rw [turnL_width h1, turnL_width h2, h3]) (by rw [e]; exact turnL_tab h5), e⟩

end Go.Proofs.YtpimdgijjljejaaDoor
end

section
namespace Go.Proofs.YtpimdgijjljejaaDoor
open Go.RowKit Go.Deep

theorem neg_tab {l : List (List Int)} (hT : TabIn l) : TabIn (timesL l (-1)) := by
  refine tabIn_tabF hT.1 hT.2.1 hT.width.1 hT.width.2 (fun i k hi hk => ?_)
  have := hT.at hi hk
  omega
theorem about_same {l : List (List Int)} {n : Nat} (hT : TabIn l) (hn : l.length = n) (hw : (l.getD 0 []).length = n) : (decide (l = timesL (turnL l) (-1))) = decide (AboutP l n) := by
  have hat : ∀ i k, i < n → k < n → at2 (timesL (turnL l) (-1)) i k = -at2 l k i := fun i k hi hk => by
    rw [timesL_at (by rw [turnL_length]; omega) (by rw [turnL_width hT]; omega), turnL_at (by omega) (by omega)]
    omega
  by_cases h : AboutP l n
  · rw [decide_eq_true h]
    refine decide_eq_true ?_
    have hTt := tabIn_of (tabIn_turn hT)
    have hlt : (turnL l).length = n := (turnL_length l).trans hw
    have hN := neg_tab hTt
    have hlN : (timesL (turnL l) (-1)).length = n := (timesL_length _ _).trans hlt
    have hwN : ((timesL (turnL l) (-1)).getD 0 []).length = n := by rw [timesL_width _ (by have := hT.1; omega), turnL_width hT]; exact hn
    refine same_ext (n := n) (m := n) hn hlN (fun r hr => by rw [hT.row (by omega), hw]) (fun r hr => by rw [hN.row (by omega), hwN]) fun i k hi hk => ?_
    rw [hat i k hi hk]
    by_cases e : k ≤ i
    · have := h i hi k (by omega); omega
    · have := h k hk i (by omega); omega
  · rw [decide_eq_false h]
    refine decide_eq_false fun e => h fun i hi k hk => ?_
    have this : at2 l i k = at2 (timesL (turnL l) (-1)) i k := congrArg (fun m => at2 m i k) e
    rw [hat i k hi (by omega)] at this
    omega

set_option maxRecDepth 100000 in
set_option maxHeartbeats 1000000 in
theorem turnedAbout_any (a : Option Addr) (cap n : Nat) (l : List (List Int)) (w : World) (hn : l.length = n) (hsz : szL l ≤ 1048576) (hm : MatR w a l) :
    Calls Tryd.prog 51 #[.slice a n cap] w fun e w' => e = .returned (.bool (pairB l)) ∧ w.Since w.heap.size w' := by
  have E := isSquare_any a cap n l w hn hsz hm
  cases hs : sqB l with
  | false =>
    have hok : pairB l = false := by unfold pairB; rw [hs]; rfl
    rw [hs] at E
    rw [hok]
    replace E := Lib.hid E
    clear hs hm hn hsz hok
    go_enter Tryd.func51, Tryd.ntmps51
    go_wp2_with (first
      | (go_at_call 56; refine (E.out).mono ?_; rintro e w1 ⟨rfl, hd⟩; have HD := Lib.hid hd; clear hd))
    go_ret
    exact ⟨rfl, HD.out⟩
  | true =>
    obtain ⟨hT, hw⟩ := sqB_of hs
    rw [hn] at hw
    have hok : pairB l = decide (l = timesL (turnL l) (-1)) := by rw [about_same hT hn hw.symm]; unfold pairB; rw [hs, hn]; rfl
    rw [hs] at E
    rw [hok]
    have hTt := tabIn_of (tabIn_turn hT)
    have hlt : (turnL l).length = n := (turnL_length l).trans hw.symm
    have ET := fun (W : World) (hd : w.Since w.heap.size W) => turned_any a cap n l W hn hT (hm.since hd)
    simp only [← hw] at ET
    have EM := fun (b : Option Addr) (W : World) (hd : MatR W b (turnL l)) => times_any b n n (turnL l) (-1) W hlt hTt hd (by omega) (by omega)
    have ES := fun (b : Option Addr) (W : World) (hd : w.Since w.heap.size W) (hb : MatR W b (timesL (turnL l) (-1))) => same_any a b cap n n n l (timesL (turnL l) (-1)) W hn ((timesL_length _ _).trans hlt) (hm.since hd) hb hT (neg_tab hTt)
    obtain ⟨r, hr⟩ : ∃ r, decide (l = timesL (turnL l) (-1)) = r := ⟨_, rfl⟩
    simp only [hr] at ES
    rw [hr]
    replace E := Lib.hid E
    replace ET := Lib.hid ET
    replace EM := Lib.hid EM
    replace ES := Lib.hid ES
    clear hs hm hn hsz hok hT hw hTt hlt hr
    go_enter Tryd.func51, Tryd.ntmps51
    go_wp2_with (first
      | (go_at_call 56; refine (E.out).mono ?_; rintro e w1 ⟨rfl, hd⟩; have HD := Lib.hid hd; clear hd)
      | (go_at_call 43; refine (ET.out w1 HD.out).mono ?_; rintro e w2 ⟨rfl, hs2, ho2⟩; have HS2 := Lib.hid (HD.out.trans (since_mono hs2 HD.out.size)); have HO2 := Lib.hid ho2.matR; clear hs2 ho2)
      | (go_at_call 72; refine (EM.out _ w2 HO2.out).mono ?_; rintro e w3 ⟨rfl, hs3, ho3⟩; have HS3 := Lib.hid (HS2.out.trans (since_mono hs3 HS2.out.size)); have HO3 := Lib.hid ho3.matR; clear hs3 ho3)
      | (go_at_call 71; refine (ES.out _ w3 HS3.out HO3.out).mono ?_; rintro e w4 ⟨rfl, hs4⟩; have HS4 := Lib.hid (HS3.out.trans (since_mono hs4 HS3.out.size)); clear hs4))
    go_ret
    exact ⟨rfl, HS4.out⟩

theorem implPairIn_any (a : Option Addr) (cap n : Nat) (l : List (List Int)) (w : World) (hn : l.length = n) (hsz : szL l ≤ 1048576) (hm : MatR w a l) :
    Calls Tryd.prog 24 #[.slice a n cap] w fun e w' => e = .returned (.bool (pairB l)) ∧ w.Since w.heap.size w' := by
  have E := Lib.hid (turnedAbout_any a cap n l w hn hsz hm)
  clear hm hn hsz
  go_enter Tryd.func24, Tryd.ntmps24
  go_wp2_with fail
  refine (E.out).mono ?_
  rintro e w1 ⟨rfl, hd⟩
  have HD := Lib.hid hd
  clear hd
  go_wp2
  go_ret
  exact ⟨rfl, HD.out⟩

end Go.Proofs.YtpimdgijjljejaaDoor
end

section
namespace Go.Proofs.YtpimdgijjljejaaDoor
open Go.RowKit Go.Deep

theorem TZ.since {w W : World} (h : TZ w) (h1 : 1 < w.heap.size) (hs : w.Since w.heap.size W) : TZ W := h.kept (hs.block 1 h1)

set_option maxHeartbeats 1000000 in
theorem implPairHalf_any (a : Option Addr) (cap n : Nat) (l : List (List Int)) (w : World) (hn : l.length = n) (hsz : szL l ≤ 1048576) (hm : MatR w a l) (h1 : 1 < w.heap.size) (hTZ : TZ w) :
    Calls Tryd.prog 10 #[.slice a n cap] w (SpecW w (pairB l) (halfF l n 3 (2 ^ n - 1))) := by
  have E := implPairIn_any a cap n l w hn hsz hm
  cases hs : pairB l with
  | false =>
    rw [hs] at E
    replace E := Lib.hid E
    clear hs hm hn hsz hTZ
    go_enter Tryd.func10, Tryd.ntmps10
    go_wp2_with fail
    refine (E.out).mono ?_
    rintro e w1 ⟨rfl, hd⟩
    have HD := Lib.hid hd
    clear hd
    go_wp2
    go_ret2
    exact ⟨rfl, HD.out⟩
  | true =>
    rw [hs] at E
    replace E := Lib.hid E
    obtain ⟨hT, hw, hab⟩ := pairB_of hs hn
    have E2 := Lib.hid (fun (W : World) (hd : w.Since w.heap.size W) => halfByPairings_any a cap n l W hn hT hw (hm.since hd) (Nat.lt_of_lt_of_le h1 hd.size) (hTZ.since h1 hd))
    clear hs hm hn hsz hT hw hab hTZ h1
    go_enter Tryd.func10, Tryd.ntmps10
    go_wp2_with fail
    refine (E.out).mono ?_
    rintro e w1 ⟨rfl, hd⟩
    have HD := Lib.hid hd
    clear hd
    go_wp2_with fail
    refine (E2.out w1 HD.out).mono ?_
    rintro e w2 ⟨rfl, hs2⟩
    have HS2 := Lib.hid (HD.out.trans (since_mono hs2 HD.out.size))
    clear hs2
    go_wp2
    go_ret2
    exact ⟨rfl, HS2.out⟩

end Go.Proofs.YtpimdgijjljejaaDoor
end

section
namespace Go.Proofs.YtpimdgijjljejaaDoor
open Go.RowKit Go.Deep

theorem aboutP_skew {l : List (List Int)} {n : Nat} (h : AboutP l n) : Skew n (at2 l) := fun i j hi hj => by
  by_cases e : j ≤ i
  · have := h i hi j (by omega); omega
  · have := h j hj i (by omega); omega

end Go.Proofs.YtpimdgijjljejaaDoor
end

section
namespace Go.Proofs.YtpimdgijjljejaaDoor
open Go.RowKit Go.Deep

theorem since_of_map {W w' : World} {o : Obj} (hg : (W.alloc o).grownBy w' (some W.heap.size)) : W.Since W.heap.size w' := by
  have h0 := (World.Since.refl W.heap.size W).alloc (Nat.le_refl _) o
  have h1 := hg.size
  simp only [World.size_alloc] at h1
  exact ⟨hg.os.trans h0.os, hg.tape.trans h0.tape, hg.output.trans h0.output, by omega, fun k hk => (hg.block k (by simp; omega) (by intro e; injection e with e; omega)).trans (h0.block k hk)⟩

set_option maxHeartbeats 800000 in
theorem square_0 (a : Option Addr) (cap n : Nat) (l : List (List Int)) (x : Int) (w : World) (hn : l.length = n) (hsz : szL l ≤ 1048576) (hm : MatR w a l) (ht : sqB l = true → ∀ W', MatR W' a l → Calls Tryd.prog 74 #[.slice a n cap] W' (fun e w' => e = .returned (.int .i64 x) ∧ W'.Since W'.heap.size w')) :
    Calls Tryd.prog 33 #[.slice a n cap, .int .i64 0] w (SpecW w (sqB l) x) := by
  have E := isSquare_any a cap n l w hn hsz hm
  cases hs : sqB l with
  | false =>
    rw [hs] at E
    replace E := Lib.hid E
    clear hs hm hn hsz ht
    go_enter Tryd.func33, Tryd.ntmps33
    go_wp2_with fail
    refine (E.out).mono ?_
    rintro e w1 ⟨rfl, hd⟩
    have HD := Lib.hid hd
    clear hd
    go_wp2
    go_ret2
    exact ⟨rfl, HD.out⟩
  | true =>
    rw [hs] at E
    replace E := Lib.hid E
    have E2 := Lib.hid (fun (W : World) (hd : w.Since w.heap.size W) => roads_0 W.heap.size a n cap x (W.alloc (.map #[] 0)) (roads_made W) (fun W' hg => ht hs W' (hm.since (hd.trans (since_mono (since_of_map hg) hd.size)))))
    clear hs hm hn hsz ht
    have hmm := @run_makeMap Tryd.prog
    go_enter Tryd.func33, Tryd.ntmps33
    go_wp2_with fail
    refine (E.out).mono ?_
    rintro e w1 ⟨rfl, hd⟩
    have HD := Lib.hid hd
    clear hd
    go_wp2_with fail
    refine (E2.out w1 HD.out).mono ?_
    rintro e w2 ⟨rfl, hg, hr⟩
    have HS2 := Lib.hid (HD.out.trans (since_mono (since_of_map hg) HD.out.size))
    clear hg hr
    go_wp2
    go_ret2
    exact ⟨rfl, HS2.out⟩

set_option maxHeartbeats 400000 in
theorem implValueOrders_of (a : Option Addr) (cap n : Nat) (l : List (List Int)) (x : Int) (w : World) (hn : l.length = n) (hsz : szL l ≤ 1048576) (hm : MatR w a l) (ht : sqB l = true → ∀ W', MatR W' a l → Calls Tryd.prog 74 #[.slice a n cap] W' (fun e w' => e = .returned (.int .i64 x) ∧ W'.Since W'.heap.size w')) :
    Calls Tryd.prog 23 #[.slice a n cap] w (SpecW w (sqB l) x) := by
  have E := square_0 a cap n l x w hn hsz hm ht
  unfold SpecW at E ⊢
  generalize (if (sqB l) = true then x else 0) = y at E ⊢
  generalize (sqB l) = b at E ⊢
  replace E := Lib.hid E
  clear hn hsz hm ht
  go_enter Tryd.func23, Tryd.ntmps23
  go_wp2_with fail
  refine (E.out).mono ?_
  rintro e w1 ⟨rfl, hd⟩
  go_wp2
  go_ret2
  exact ⟨rfl, hd⟩

set_option maxHeartbeats 800000 in
theorem square_1 (a : Option Addr) (cap n : Nat) (l : List (List Int)) (x : Int) (w : World) (hn : l.length = n) (hsz : szL l ≤ 1048576) (hm : MatR w a l) (ht : sqB l = true → ∀ W', MatR W' a l → Calls Tryd.prog 75 #[.slice a n cap] W' (fun e w' => e = .returned (.int .i64 x) ∧ W'.Since W'.heap.size w')) :
    Calls Tryd.prog 33 #[.slice a n cap, .int .i64 1] w (SpecW w (sqB l) x) := by
  have E := isSquare_any a cap n l w hn hsz hm
  cases hs : sqB l with
  | false =>
    rw [hs] at E
    replace E := Lib.hid E
    clear hs hm hn hsz ht
    go_enter Tryd.func33, Tryd.ntmps33
    go_wp2_with fail
    refine (E.out).mono ?_
    rintro e w1 ⟨rfl, hd⟩
    have HD := Lib.hid hd
    clear hd
    go_wp2
    go_ret2
    exact ⟨rfl, HD.out⟩
  | true =>
    rw [hs] at E
    replace E := Lib.hid E
    have E2 := Lib.hid (fun (W : World) (hd : w.Since w.heap.size W) => roads_1 W.heap.size a n cap x (W.alloc (.map #[] 0)) (roads_made W) (fun W' hg => ht hs W' (hm.since (hd.trans (since_mono (since_of_map hg) hd.size)))))
    clear hs hm hn hsz ht
    have hmm := @run_makeMap Tryd.prog
    go_enter Tryd.func33, Tryd.ntmps33
    go_wp2_with fail
    refine (E.out).mono ?_
    rintro e w1 ⟨rfl, hd⟩
    have HD := Lib.hid hd
    clear hd
    go_wp2_with fail
    refine (E2.out w1 HD.out).mono ?_
    rintro e w2 ⟨rfl, hg, hr⟩
    have HS2 := Lib.hid (HD.out.trans (since_mono (since_of_map hg) HD.out.size))
    clear hg hr
    go_wp2
    go_ret2
    exact ⟨rfl, HS2.out⟩

set_option maxHeartbeats 800000 in
theorem square_2 (a : Option Addr) (cap n : Nat) (l : List (List Int)) (x : Int) (w : World) (hn : l.length = n) (hsz : szL l ≤ 1048576) (hm : MatR w a l) (ht : sqB l = true → ∀ W', MatR W' a l → Calls Tryd.prog 76 #[.slice a n cap] W' (fun e w' => e = .returned (.int .i64 x) ∧ W'.Since W'.heap.size w')) :
    Calls Tryd.prog 33 #[.slice a n cap, .int .i64 2] w (SpecW w (sqB l) x) := by
  have E := isSquare_any a cap n l w hn hsz hm
  cases hs : sqB l with
  | false =>
    rw [hs] at E
    replace E := Lib.hid E
    clear hs hm hn hsz ht
    go_enter Tryd.func33, Tryd.ntmps33
    go_wp2_with fail
    refine (E.out).mono ?_
    rintro e w1 ⟨rfl, hd⟩
    have HD := Lib.hid hd
    clear hd
    go_wp2
    go_ret2
    exact ⟨rfl, HD.out⟩
  | true =>
    rw [hs] at E
    replace E := Lib.hid E
    have E2 := Lib.hid (fun (W : World) (hd : w.Since w.heap.size W) => roads_2 W.heap.size a n cap x (W.alloc (.map #[] 0)) (roads_made W) (fun W' hg => ht hs W' (hm.since (hd.trans (since_mono (since_of_map hg) hd.size)))))
    clear hs hm hn hsz ht
    have hmm := @run_makeMap Tryd.prog
    go_enter Tryd.func33, Tryd.ntmps33
    go_wp2_with fail
    refine (E.out).mono ?_
    rintro e w1 ⟨rfl, hd⟩
    have HD := Lib.hid hd
    clear hd
    go_wp2_with fail
    refine (E2.out w1 HD.out).mono ?_
    rintro e w2 ⟨rfl, hg, hr⟩
    have HS2 := Lib.hid (HD.out.trans (since_mono (since_of_map hg) HD.out.size))
    clear hg hr
    go_wp2
    go_ret2
    exact ⟨rfl, HS2.out⟩

set_option maxHeartbeats 400000 in
theorem implValuePivots_of (a : Option Addr) (cap n : Nat) (l : List (List Int)) (x : Int) (w : World) (hn : l.length = n) (hsz : szL l ≤ 1048576) (hm : MatR w a l) (ht : sqB l = true → ∀ W', MatR W' a l → Calls Tryd.prog 76 #[.slice a n cap] W' (fun e w' => e = .returned (.int .i64 x) ∧ W'.Since W'.heap.size w')) :
    Calls Tryd.prog 12 #[.slice a n cap] w (SpecW w (sqB l) x) := by
  have E := square_2 a cap n l x w hn hsz hm ht
  unfold SpecW at E ⊢
  generalize (if (sqB l) = true then x else 0) = y at E ⊢
  generalize (sqB l) = b at E ⊢
  replace E := Lib.hid E
  clear hn hsz hm ht
  go_enter Tryd.func12, Tryd.ntmps12
  go_wp2_with fail
  refine (E.out).mono ?_
  rintro e w1 ⟨rfl, hd⟩
  go_wp2
  go_ret2
  exact ⟨rfl, hd⟩

set_option maxHeartbeats 800000 in
theorem square_3 (a : Option Addr) (cap n : Nat) (l : List (List Int)) (x : Int) (ok : Bool) (w : World) (hn : l.length = n) (hsz : szL l ≤ 1048576) (hm : MatR w a l) (ht : sqB l = true → ∀ W', MatR W' a l → Calls Tryd.prog 77 #[.slice a n cap] W' (fun e w' => e = .returned (.tuple #[.int .i64 (if ok then x else 0), .bool ok]) ∧ W'.Since W'.heap.size w')) :
    Calls Tryd.prog 33 #[.slice a n cap, .int .i64 3] w (SpecW w (sqB l && ok) x) := by
  have E := isSquare_any a cap n l w hn hsz hm
  cases hs : sqB l with
  | false =>
    rw [hs] at E
    replace E := Lib.hid E
    clear hs hm hn hsz ht
    go_enter Tryd.func33, Tryd.ntmps33
    go_wp2_with fail
    refine (E.out).mono ?_
    rintro e w1 ⟨rfl, hd⟩
    have HD := Lib.hid hd
    clear hd
    go_wp2
    go_ret2
    exact ⟨rfl, HD.out⟩
  | true =>
    rw [hs] at E
    replace E := Lib.hid E
    have E2 := Lib.hid (fun (W : World) (hd : w.Since w.heap.size W) => roads_3 W.heap.size a n cap (if ok then x else 0) ok (W.alloc (.map #[] 0)) (roads_made W) (fun W' hg => ht hs W' (hm.since (hd.trans (since_mono (since_of_map hg) hd.size)))))
    clear hs hm hn hsz ht
    generalize hy : (if ok = true then x else 0) = y at E2
    have hmm := @run_makeMap Tryd.prog
    go_enter Tryd.func33, Tryd.ntmps33
    go_wp2_with fail
    refine (E.out).mono ?_
    rintro e w1 ⟨rfl, hd⟩
    have HD := Lib.hid hd
    clear hd
    go_wp2_with fail
    refine (E2.out w1 HD.out).mono ?_
    rintro e w2 ⟨rfl, hg, hr⟩
    have HS2 := Lib.hid (HD.out.trans (since_mono (since_of_map hg) HD.out.size))
    clear hg hr
    go_wp2
    go_ret2
    exact ⟨by rw [← hy]; cases ok <;> rfl, HS2.out⟩

end Go.Proofs.YtpimdgijjljejaaDoor
end

section
namespace Go.Proofs.YtpimdgijjljejaaDoor
open Go.RowKit Go.Deep

theorem implValuePivots_any (a : Option Addr) (cap n : Nat) (l : List (List Int)) (w : World) (hn : l.length = n) (hsz : szL l ≤ 1048576) (hm : MatR w a l) :
    Calls Tryd.prog 12 #[.slice a n cap] w (SpecW w (sqB l) (ordF l n n 0)) :=
  implValuePivots_of a cap n l (ordF l n n 0) w hn hsz hm fun hs W' hm' => by
    obtain ⟨hT, hw⟩ := sqB_of hs
    have h6 := hT.2.1
    rw [ordF_all l (by omega)]
    exact byPivots_any n l a cap W' ⟨hn, fun _ => ⟨hT, by rw [← hw, hn]⟩⟩ (by omega) hm'

end Go.Proofs.YtpimdgijjljejaaDoor
end

section
namespace Go.Proofs.YtpimdgijjljejaaDoor
open Go.RowKit Go.Deep

set_option maxRecDepth 100000 in
set_option maxHeartbeats 4000000 in
theorem fnHalf (a : Option Addr) (cap n : Nat) (w : World) (hc : n ≤ cap) (h63 : cap ≤ 9223372036854775807) (hb : BytR w a n) (h1w : 1 < w.heap.size) (hTZ : TZ w) :
    Calls Tryd.prog 3 #[.slice a n cap] w fun e w' => e = .returned (.bool true) ∧ w.Since w.heap.size w' := by
  by_cases hlen : 1048576 < n
  · have hl' : decide ((1048576 : Int) < (n : Int)) = true := by simp; omega
    clear hb hTZ
    go_enter Tryd.func3, Tryd.ntmps3
    go_wp2
    go_ret
    exact ⟨rfl, World.Since.refl _ _⟩
  · have hl' : decide ((1048576 : Int) < (n : Int)) = false := by simp; omega
    have ED := Lib.hid (drawPairHalf_any a n cap w hc h63 hb)
    have HZ := Lib.hid (fun (W : World) (h : w.Since w.heap.size W) => show 1 < W.heap.size ∧ TZ W from ⟨Nat.lt_of_lt_of_le h1w h.size, hTZ.since h1w h⟩)
    clear hb hTZ
    go_enter Tryd.func3, Tryd.ntmps3
    go_wp2_with fail
    refine (ED.out).mono ?_
    rintro e w1 ⟨a1, c1, l, rfl, hs1, h1, h5, hlens, hit⟩
    have hsz : szL l ≤ 1048576 := szL_of h5 (fun j hj => (hlens j hj).2) (by decide)
    obtain ⟨nn, hn⟩ : ∃ nn, l.length = nn := ⟨_, rfl⟩
    rw [hn]
    have HN := Lib.hid hn
    have HSZ := Lib.hid hsz
    have HM := Lib.hid (fun (W : World) (h : w1.Since w1.heap.size W) => hit.matR.since h)
    have HS1 := Lib.hid hs1
    have HZ1 := Lib.hid (fun (W : World) (h : w1.Since w1.heap.size W) => HZ.out W (hs1.trans (since_mono h hs1.size)))
    obtain ⟨hz1, hz2⟩ := HZ1.out w1 (World.Since.refl _ _)
    obtain ⟨ok, hok⟩ : ∃ ok, pairB l = ok := ⟨_, rfl⟩
    obtain ⟨v, hv⟩ : ∃ v : Int, (if ok = true then halfF l nn 3 (2 ^ nn - 1) else 0) = v := ⟨_, rfl⟩
    have E1 := implPairHalf_any a1 c1 nn l w1 hn hsz hit.matR hz1 hz2
    have E2 := fun (W : World) (h : w1.Since w1.heap.size W) => specPairHalf_any a1 c1 nn l W hn hsz (hit.matR.since h)
    unfold SpecW at E1
    unfold SpecW at E2
    rw [hok, hv] at E1
    simp only [hok, hv] at E2
    replace E1 := Lib.hid E1
    replace E2 := Lib.hid E2
    have HOK := Lib.hid hok
    have HV := Lib.hid hv
    clear hn hsz hit hs1 h1 h5 hlens hok hv hz1 hz2
    go_wp2_with fail
    refine (E1.out).mono ?_
    rintro e w2 ⟨rfl, hs2⟩
    have HS2 := Lib.hid hs2
    clear hs2
    go_wp2_with fail
    refine (E2.out w2 HS2.out).mono ?_
    rintro e w3 ⟨rfl, hd3⟩
    have HS3 := Lib.hid (HS2.out.trans (since_mono (hd3) HS2.out.size))
    clear hd3
    cases ok with
    | false =>
      go_wp2
      go_ret
      exact ⟨rfl, HS1.out.trans (since_mono HS3.out HS1.out.size)⟩
    | true =>
      have hv := HV.out
      rw [if_pos rfl] at hv
      obtain ⟨hT, hw, hab⟩ := pairB_of HOK.out HN.out
      have h1 := hT.1
      have h6 := hT.2.1
      rw [HN.out] at h1 h6
      obtain ⟨hq1, hq2⟩ := half_sq l h1 h6 (aboutP_skew hab)
      have hE := entB_of hT HN.out hw
      have hbd := halfF_bd hE 3 (2 ^ nn - 1) (by have := Nat.two_pow_pos nn; omega)
      have E5 := fun (W : World) (h : w1.Since w1.heap.size W) => implValuePivots_any a1 c1 nn l W HN.out HSZ.out (HM.out W h)
      unfold SpecW at E5
      simp only [pairB_sq HOK.out, if_true] at E5
      have hdt : ordF l nn nn 0 = halfF l nn 3 (2 ^ nn - 1) * halfF l nn 3 (2 ^ nn - 1) := (ordF_all l h6).trans hq1
      simp only [hdt, hv] at E5
      rw [hv] at hq2 hbd
      have hp3 : p180 3 = 5832000 := by decide
      rw [hp3] at hbd
      have hm1 : v * v ≤ 5832000 * 5832000 := by
        rcases Int.le_total 0 v with h | h
        · exact Int.mul_le_mul hbd.2 hbd.2 h (by omega)
        · rw [← Int.neg_mul_neg]; exact Int.mul_le_mul (by omega) (by omega) (by omega) (by omega)
      have hm0 : 0 ≤ v * v := by
        rcases Int.le_total 0 v with h | h
        · exact Int.mul_nonneg h h
        · rw [← Int.neg_mul_neg]; exact Int.mul_nonneg (by omega) (by omega)
      have hwv : IntKind.i64.wrap (v * v) = v * v := IntWalk.i64_in _ ⟨by omega, by omega⟩
      replace E5 := Lib.hid E5
      have HQ2 := Lib.hid hq2
      clear hT hw hv h1 h6 hab hq1 hq2 hE hbd hdt hm1 hm0 hp3
      go_wp2_with fail
      refine (E5.out w3 HS3.out).mono ?_
      rintro e w5 ⟨rfl, hs5⟩
      have HS5 := Lib.hid (HS3.out.trans (since_mono hs5 HS3.out.size))
      clear hs5
      by_cases hp : nn % 2 = 1
      · have hv0 := HQ2.out hp
        have htm : (Int.tmod ((nn : Nat) : Int) 2 == 0) = false := by
          have : Int.tmod ((nn : Nat) : Int) 2 = ((nn % 2 : Nat) : Int) := rfl
          rw [this, hp]; rfl
        clear hwv
        subst hv0
        go_wp2
        go_ret
        exact ⟨rfl, HS1.out.trans (since_mono HS5.out HS1.out.size)⟩
      · have htm : (Int.tmod ((nn : Nat) : Int) 2 == 0) = true := by
          have : Int.tmod ((nn : Nat) : Int) 2 = ((nn % 2 : Nat) : Int) := rfl
          rw [this, show nn % 2 = 0 by omega]; rfl
        go_wp2
        go_ret
        exact ⟨rfl, HS1.out.trans (since_mono HS5.out HS1.out.size)⟩

end Go.Proofs.YtpimdgijjljejaaDoor
end

section
namespace Go.Proofs.YtpimdgijjljejaaDoor
open Go.ChangeShapes Go.WideShapes Go.ChangeAt Go.RowKit Go.Deep

theorem below_since' {B : Nat} {w w' : World} (h : Below B w w') : w.Since B w' := ⟨h.os, h.tape, h.output, h.size, h.block⟩
theorem since_below' {B : Nat} {w w' : World} (h : w.Since B w') : Below B w w' := ⟨h.os, h.tape, h.output, h.size, h.block⟩

section
variable {H : Type} {enc : TypeId × Value → H} {P : Program}
theorem post_of_below {f : Func} {s : ChangeSpec} {apart fresh handsOn again : Bool} {W W' : World} {args : Array Value} {v : Value} {ds gs : List (DataW H)} {before pa pv : List MemPlace}
    (hW : DataW.Whole enc P f.params.toList s.vars apart W args.toList ds gs before)
    (hres : ∀ (b : Nat) (sp : Nat → Bool) (hd : Bool), DataW.TrodAll enc P W' b sp hd f.resultTypes.toList (v.resultList f.resultTypes.size) (s.fn H (ds ++ gs)).results [])
    (hargs : ∀ sp : Nat → Bool, (∀ p ∈ before, sp p.block = true) → DataW.TrodAll enc P W' 0 sp true f.params.toList args.toList (s.fn H (ds ++ gs)).args pa)
    (hvars : ∀ sp : Nat → Bool, (∀ p ∈ before, sp p.block = true) → DataW.TrodVars enc P W' sp s.vars (s.fn H (ds ++ gs)).vars pv)
    (hps : before = pa ++ pv) (hb : Below W.heap.size W W') (hag : again = false) :
    s.post enc P f apart fresh handsOn again W args v W' := by
  have hlt : ∀ p ∈ before, p.block < W.heap.size := fun p hp => hW.lt p hp
  have hold : ∀ p ∈ before, (fun b => decide (b < W.heap.size)) p.block = true := fun p hp => by simpa using hlt p hp
  refine ⟨ds, gs, before, [], pa, pv, hW, hres _ _ _, hargs _ hold, hvars _ hold, World.keptBut_mono (fun p hp => ⟨hp, ?_⟩) (hb.frame (· ∈ before)), fun h => ?_⟩
  · rw [hps, List.mem_append] at hp
    exact Or.inr hp
  · rw [hag] at h; cases h

theorem open_mat {W : World} {t e q : TypeId} {a : Option Addr} {n cap : Nat} {d : DataW H} {p : List MemPlace} (ht : P.underlying t = some (.slice e)) (he : P.underlying e = some (.slice q)) (hq : P.underlying q = some (.int .i64))
    (ce : P.cellsOf e = 1) (cq : P.cellsOf q = 1) (h : DataW.Trod enc P W 0 (fun _ => true) true t (.slice a n cap) d p) :
    ∃ l : List (List Int), l.length = n ∧ MatR W a l ∧ n ≤ 9223372036854775807 ∧ ∀ r, r < l.length → (l.getD r []).length ≤ 9223372036854775807 := by
  obtain ⟨fuel, hf⟩ := h
  rcases open_int_rows ht he hq ce cq hf with ⟨hcs, _⟩ | ⟨a', len', cap', A, L, C, Z, hcs, _, hl, hm, _, hrows⟩
  · simp [Value.cells] at hcs
    obtain ⟨rfl, rfl, rfl⟩ := hcs
    exact ⟨[], rfl, (fun h => by simp at h), by omega, fun r hr => by simp at hr⟩
  · simp [Value.cells] at hcs
    obtain ⟨rfl, rfl, rfl⟩ := hcs
    have hmx : maxLen = 9223372036854775807 := rfl
    have hlen : ∀ r, r < n → ((Z r).take (L r)).length = L r := fun r hr => by
      obtain ⟨_, h1, _, h2, _⟩ := hrows r (by omega)
      rw [List.length_take]; omega
    have hget : ∀ r, r < n → ((List.range n).map fun r => (Z r).take (L r)).getD r [] = (Z r).take (L r) := fun r hr => by simp [List.getD, hr]
    refine ⟨(List.range n).map fun r => (Z r).take (L r), by simp, fun h => ?_, by omega, fun r hr => ?_⟩
    · obtain ⟨b, o, spot⟩ := a'
      simp at h
      have hspot : spot = none := by simpa [Addr.add] using World.cell?_spot (hrows 0 (by omega)).1
      subst hspot
      refine ⟨b, o, A, C, rfl, fun r hr => ?_⟩
      simp at hr
      rw [hget r hr, hlen r hr]
      obtain ⟨g1, g2, g3, g4, g5, g6, g7⟩ := hrows r (by omega)
      refine ⟨by rw [← add_plain]; exact g1, fun h0 => ?_⟩
      rw [hlen r hr] at h0
      cases hA : A r with
      | none => have := g6 hA; omega
      | some a'' =>
        obtain ⟨_, hcell⟩ := g7 a'' hA
        obtain ⟨b', o', sp⟩ := a''
        have hs : sp = none := by simpa [Addr.add] using World.cell?_spot (hcell 0 (by omega))
        subst hs
        refine ⟨b', o', rfl, fun i hi => ?_⟩
        rw [hlen r hr] at hi
        rw [← add_plain, hcell i (by omega)]
        congr 2
        simp [List.getD, hi]
    · simp at hr
      rw [hget r hr, hlen r hr]
      obtain ⟨_, h1, h2, _⟩ := hrows r (by omega)
      omega
end

theorem Tryd.own : ownKnob Tryd.prog.godebug = none := by kernel_rfl
theorem Tryd.laidOut : laidOutB Tryd.prog = true := by kernel_rfl
theorem Tryd.cellsR : Tryd.prog.cellsOf 47 = 1 := by kernel_rfl
theorem Tryd.cellsI : Tryd.prog.cellsOf 3 = 1 := by kernel_rfl

end Go.Proofs.YtpimdgijjljejaaDoor
end

section
namespace Go.Proofs.YtpimdgijjljejaaDoor
open Go.ChangeShapes Go.WideShapes Go.ChangeAt Go.RowKit Go.Deep

theorem wf_u8_of {n : Int} (h : (Lit.int .u8 n).wf = true) : 0 ≤ n ∧ n ≤ 255 := by
  have h2 : (0 : Int) ≤ n ∧ n ≤ 255 := by simpa [Lit.wf, IntKind.min, IntKind.max, IntKind.signed, IntKind.bits] using h
  exact h2

theorem open_bytes {H : Type} {enc : TypeId × Value → H} {P : Program} {W : World} {t e : TypeId} {a : Option Addr} {n cap : Nat} {d : DataW H} {p : List MemPlace} (ht : P.underlying t = some (.slice e)) (he : P.underlying e = some (.int .u8)) (ce : P.cellsOf e = 1)
    (h : DataW.Trod enc P W 0 (fun _ => true) true t (.slice a n cap) d p) : BytR W a n ∧ n ≤ cap ∧ cap ≤ 9223372036854775807 := by
  obtain ⟨fuel, hf⟩ := h
  rcases open_ints ht he ce hf with ⟨hcs, _⟩ | ⟨a', len, cap', zs, hcs, _, hl, hm, hlen, _, hcell, hwf⟩
  · simp [Value.cells] at hcs
    obtain ⟨rfl, rfl, rfl⟩ := hcs
    exact ⟨fun h => absurd h (by omega), by omega, by omega⟩
  · simp [Value.cells] at hcs
    obtain ⟨rfl, rfl, rfl⟩ := hcs
    have hmx : maxLen = 9223372036854775807 := rfl
    have hzl : zs.length = cap := by simpa using hlen
    refine ⟨fun h0 => ?_, by omega, by omega⟩
    obtain ⟨b, o, spot⟩ := a'
    have hspot : spot = none := by simpa [Addr.add] using World.cell?_spot (hcell 0 (by omega))
    subst hspot
    refine ⟨b, o, rfl, fun i hi => ?_⟩
    have hi' : i < zs.length := by omega
    have hw := wf_u8_of (hwf (zs.getD i 0) (by simp [List.getD, hi']))
    obtain ⟨z, hz⟩ := Int.eq_ofNat_of_zero_le hw.1
    refine ⟨z, by omega, ?_⟩
    rw [← add_plain, hcell i hi', hz]

theorem Tryd.cellsB : Tryd.prog.cellsOf 5 = 1 := by kernel_rfl

end Go.Proofs.YtpimdgijjljejaaDoor
end

section
namespace Go.Proofs.YtpimdgijjljejaaDoor
open Go.ChangeShapes Go.WideShapes Go.ChangeAt Go.WideMaps Go.WideElems Go.RowKit

def laidT : List (String × DataW Unit) := [("math/bits.deBruijn32tab", Rows.laid_math_bits_deBruijn32tab), ("math/bits.deBruijn64tab", Rows.laid_math_bits_deBruijn64tab)]

theorem gT32 : Tryd.prog.globalNamed "math/bits.deBruijn32tab" = some 0 := by kernel_rfl
theorem gT64 : Tryd.prog.globalNamed "math/bits.deBruijn64tab" = some 1 := by kernel_rfl
theorem tT64 : (Tryd.prog.globals[1]?).map (·.type) = some 101 := by kernel_rfl
theorem uT64 : Tryd.prog.underlying 101 = some (.array 64 5) := by kernel_rfl
theorem uT8 : Tryd.prog.underlying 5 = some (.int .u8) := by kernel_rfl
theorem cT8 : Tryd.prog.cellsOf 5 = 1 := by kernel_rfl

theorem tab_cell {H : Type} {enc : TypeId × Value → H} {P : Program} {w : World} {sp : Nat → Bool} {m n : Nat} {e : TypeId} {cs : List Value} {xs : List (DataW H × List MemPlace)} {L : List (DataW H)} (he : P.underlying e = some (.int .u8)) (hc : P.cellsOf e = 1)
    (hel : ∀ (i : Nat), i < n → DataW.trod enc P w 0 sp false m e ((cs.drop (i * P.cellsOf e)).take (P.cellsOf e)) = xs[i]?) (hx : xs.map (·.1) = L) (i : Nat) (hi : i < n) (v : Int) (hL : L[i]? = some (.lit (.int .u8 v))) : cs[i]? = some (.int .u8 v) := by
  have h1 : (xs.map (·.1))[i]? = some (.lit (.int .u8 v)) := by rw [hx]; exact hL
  rw [List.getElem?_map, Option.map_eq_some_iff] at h1
  obtain ⟨y, hy, hy1⟩ := h1
  have h := hel i hi
  rw [hy, hc, Nat.mul_one] at h
  obtain ⟨k, e1, e2, _⟩ := DataW.trod_int he h
  rw [e2] at hy1
  have hk : k = v := by simpa using hy1
  subst hk
  have := congrArg (fun q : List Value => q[0]?) e1
  simpa using this

theorem door_met (os : Os) (args : Array Value) : laidMetH Tryd.prog laidT ((World.doorLaid Tryd.prog 400 os).forCall (fun _ _ => 0) ⟨#[], args, []⟩).memory :=
  laidMetH_of_parts3 (fuel := 8) (laidMet_of_run' 8 (by kernel_rfl) (by kernel_rfl)) (by kernel_rfl) (by kernel_rfl)

theorem tz_of_laid {W : World} (h : laidMetH Tryd.prog laidT W) : TZ W ∧ 1 < W.heap.size := by
  rw [MakeChecks.laidMetH_plain _ _ _ (by kernel_rfl)] at h
  obtain ⟨ps, ⟨g0, t0, cs0, f0, p0, q0, hg0, ht0, hv0, hd0, ⟨g1, t1, cs1, f1, p1, q1, hg1, ht1, hv1, hd1, _, _⟩, _⟩, _, _⟩ := h
  obtain rfl := Option.some.inj (gT64.symm.trans hg1)
  obtain rfl := Option.some.inj (tT64.symm.trans ht1)
  obtain ⟨xs, m1, rfl, hx1, hlen, hn3, hel⟩ := DataW.trod_array uT64 hd1
  have hx : xs.map (·.1) = _ := (DataW.agg.inj (Prod.mk.inj hx1).1).symm
  have hz : TZ W := fun i hi => by
    have key : ∀ (j : Nat), j < 64 → ∀ v : Int, _ → W.cell? ⟨1, j, none⟩ = some (.int .u8 v) := fun j hj v hL => by
      have h1 := tab_cell uT8 cT8 hel hx j hj v hL
      have h2 := World.var?_cell hg1 hv1 j
      rw [h2]
      simpa using h1
    match i, hi with
    | 0, _ => exact key 0 (by decide) 0 rfl
    | 1, _ => exact key 1 (by decide) 1 rfl
    | 2, _ => exact key 3 (by decide) 2 rfl
    | 3, _ => exact key 7 (by decide) 3 rfl
    | 4, _ => exact key 15 (by decide) 4 rfl
    | 5, _ => exact key 31 (by decide) 5 rfl
  exact ⟨hz, World.block_lt_of_cell? _ _ (hz 0 (by decide))⟩

end Go.Proofs.YtpimdgijjljejaaDoor
end

section
namespace Go.Proofs.YtpimdgijjljejaaDoor
open Go.ChangeShapes Go.WideShapes Go.ChangeAt Go.RowKit Go.Deep

set_option maxRecDepth 100000 in
theorem lifted_FnHalf (os : Os) (started : os.Started) (H : Type) (enc : TypeId × Value → H) :
    ReturnsInHanded {} Tryd.checked os 3 .any (fun w args => (Rows.fnHalfSpec.pre enc Tryd.prog Tryd.f3 [] false w args ∧ laidMetH Tryd.prog laidT w) ∧ sizedMet enc Tryd.prog Tryd.f3 (OpenSpec.ofChange Rows.fnHalfSpec) false w args)
      (Rows.fnHalfSpec.post enc Tryd.prog Tryd.f3 false true false false) := by
  refine returnsInHanded_of_change_and (C := Tryd.checked) (X := fun w _ => laidMetH Tryd.prog laidT w) (fun _ _ _ hh h => h.of_heap hh) Tryd.own started (by kernel_rfl) Tryd.func3
    (ChangeSpec.witness_shaped (enc := enc) (C := Tryd.checked) (os := os) (X := fun w _ => laidMetH Tryd.prog laidT w) false (World.doorLaid Tryd.prog 400 os) #[.slice none 0 0] 8 rfl (World.shaped_of_RefB (by kernel_rfl) (by kernel_rfl)) (by kernel_rfl) (by kernel_rfl) (by kernel_rfl) (door_met os _)) ?_
  intro W base args ds gs before hval0 hW _ _ hL _
  obtain ⟨hTZ, h1W⟩ := tz_of_laid hL
  have hval : ∀ (j : Nat) t v, Tryd.f3.params[j]? = some t → args[j]? = some v → Value.okWide Tryd.prog W .any base t v := hval0
  have hW' := hW
  obtain ⟨p, q, hA0, hV, rfl, hfz, hnd⟩ := hW
  have hA : DataW.TrodAll enc Tryd.prog W 0 (fun _ => true) true Tryd.f3.params.toList args.toList ds p := hA0
  rw [Tryd.params3] at hA hval
  obtain ⟨v0, d0, rfl, rfl, h0⟩ := trodAll_one hA
  obtain ⟨p0, hp0⟩ : ∃ p0, p0 = p := ⟨_, rfl⟩
  subst hp0
  obtain ⟨rfl, rfl⟩ := trodVars_none hV
  obtain ⟨a0, n0, cap0, rfl⟩ := okWide_slice Tryd.underlying22 (hval 0 22 v0 rfl rfl)
  obtain ⟨hb0, hc0, h630⟩ := open_bytes Tryd.underlying22 Tryd.underlying5 Tryd.cellsB h0
  clear hA0 hval0
  simp only [List.append_nil] at hW'
  have hlt0 : ∀ x ∈ p0, x.block < W.heap.size := fun x hx => hW'.lt x (by simp [hx])
  refine (fnHalf a0 cap0 n0 W hc0 h630 hb0 h1W hTZ).mono fun e W' ⟨he, hs⟩ => ?_
  subst he
  have hb := since_below' hs
  have ht0 : ∀ sp : Nat → Bool, (∀ x ∈ p0, sp x.block = true) → DataW.Trod enc Tryd.prog W' 0 sp true 22 (.slice a0 n0 cap0) d0 p0 := fun sp hsp =>
    WideElems.Trod_stays Tryd.laidOut (by kernel_rfl) (of_decide_eq_true (by kernel_rfl)) h0 (fun x hx => hb.same (hlt0 x hx)) hsp
  have hargs : ∀ sp : Nat → Bool, (∀ x ∈ (p0), sp x.block = true) → DataW.TrodAll enc Tryd.prog W' 0 sp true [22] [.slice a0 n0 cap0] [d0] (p0) := fun sp hsp => by
    have := trodAll_mk1 (enc := enc) (P := Tryd.prog) (w := W') (base := 0) (spare := sp) (held := true) (ht0 sp (fun x hx => hsp x (by simp [hx])))
    simpa using this
  exact ⟨_, rfl, post_of_below (pa := p0) (pv := []) hW' (fun _ _ _ => trodAll_mk1 (shut_bool Tryd.underlying4 true)) (fun sp hsp => hargs sp (fun x hx => hsp x (by simpa using hx))) (fun _ _ => rfl) (by simp) hb rfl⟩

theorem FnHalf_holds : Rows.FnHalfSaid :=
  OpenClaim.holds_of_wide 3 Tryd.f3 rfl rfl rfl rfl rfl rfl rfl ⟨rfl, rfl, rfl, rfl, rfl⟩ rfl rfl rfl rfl rfl (by kernel_rfl) Tryd.func3 (by kernel_rfl)
    (of_decide_eq_true (by kernel_rfl)) (by unfold Func.isWrapper; first | (rw [if_pos (by decide +kernel)]; kernel_rfl) | (rw [if_neg (by decide +kernel)]; exact ⟨rfl, rfl⟩))
    (fun os started H enc _ => lifted_FnHalf os started H enc)

theorem FnHalfCard_holds : Rows.FnHalfCardSaid :=
  Claim7.holds_tied_plain_at .later [] [.data, .data] true _ false
    FnHalf_holds (fun _ h => by cases h) (by kernel_rfl) (fun _ h => by cases h) fnHalf_row_tie rfl ⟨rfl, rfl⟩ (by kernel_rfl) rfl
    (fun f fn hf hfn => by
      obtain rfl : f = 3 := Option.some.inj ((show Tryd.prog.funcNamed "loop.example/tableminors/laws.FnHalf" = some 3 by kernel_rfl).symm.trans hf) |>.symm
      obtain rfl : fn = Tryd.f3 := (Option.some.inj (Tryd.func3.symm.trans hfn)).symm
      exact ⟨by kernel_rfl, fun j t ht => by
        rw [Tryd.params3] at ht
        have hm : t ∈ [22] := by simpa using Array.mem_of_getElem? ht
        have hall : ([22].all fun u => !Tryd.prog.wantsStandIn u) = true := by kernel_rfl
        exact (show Tryd.prog.wantsStandIn t = false by simpa using List.all_eq_true.1 hall t hm)⟩)
    (by kernel_rfl)

end Go.Proofs.YtpimdgijjljejaaDoor
end
