import Derived.Test.YtpimdgijjljejaaTurnSpec
import Derived.Deep.QuietTactic
import Derived.Deep.AppendLies
import Derived.Deep.RegionHeld3
import Derived.Test.YtpimdgijjljejaaHarn2
import Derived.Test.YtpimdgijjljejaaPartImpl
import Derived.Test.YtpimdgijjljejaaSwapped
import Derived.Test.YtpimdgijjljejaaAddImpl
import Derived.Test.YtpimdgijjljejaaOrdDet
import Derived.Test.YtpimdgijjljejaaL2Square
import Derived.Test.YtpimdgijjljejaaBar
import Derived.Test.YtpimdgijjljejaaSets
import Derived.RangeFuncNested
import Derived.RangeFuncLeaves
import Derived.OwnWalkIn
import Derived.Test.YtpimdgijjljejaaRoads
import Derived.Test.YtpimdgijjljejaaSig
import Derived.Test.YtpimdgijjljejaaBehind
import Derived.Test.YtpimdgijjljejaaRowsF
import Derived.Test.YtpimdgijjljejaaMembers
import Derived.Test.YtpimdgijjljejaaMinorV
import Derived.WalkHide
import Derived.Test.YtpimdgijjljejaaRankV
import Derived.Test.YtpimdgijjljejaaLSum
import Derived.Test.YtpimdgijjljejaaGrid
import Derived.Test.YtpimdgijjljejaaSumSpec
import Derived.Test.YtpimdgijjljejaaOrdF
import Derived.Test.YtpimdgijjljejaaHalfP
import Derived.Test.YtpimdgijjljejaaHalfF
import Derived.Test.YtpimdgijjljejaaOrders
import Derived.Test.YtpimdgijjljejaaRowsV
import Derived.Test.YtpimdgijjljejaaAddSpec
import Derived.Test.YtpimdgijjljejaaTimesSpec
import Derived.Test.YtpimdgijjljejaaTimesImpl
import Derived.Test.YtpimdgijjljejaaTurnImpl
import Derived.Test.YtpimdgijjljejaaRows
import Derived.Test.YtpimdgijjljejaaData
import Derived.ProofKit
import Derived.Deep.Matrix

section
namespace Go.Proofs.Ytpimdgijjljejaa
open Go.RowKit Go.Deep

theorem World.grownBy_refl (w : World) (row : Option Nat) : w.grownBy w row := ⟨rfl, rfl, rfl, Nat.le_refl _, fun _ _ _ => rfl⟩
theorem grown_trans {a b c : World} {row : Option Nat} (h : a.grownBy b row) (k : b.grownBy c row) : a.grownBy c row :=
  ⟨k.os.trans h.os, k.tape.trans h.tape, k.output.trans h.output, Nat.le_trans h.size k.size, fun i hi hn => (k.block i (Nat.lt_of_lt_of_le hi h.size) hn).trans (h.block i hi hn)⟩
theorem grown_since {a b : World} (row : Option Nat) (h : a.Since a.heap.size b) : a.grownBy b row := ⟨h.os, h.tape, h.output, h.size, fun i hi _ => h.block i hi⟩
theorem grown_of {a b : World} {row row' : Option Nat} (h : a.grownBy b row) (hr : ∀ k, row = some k → a.heap.size ≤ k ∨ some k = row') : a.grownBy b row' :=
  ⟨h.os, h.tape, h.output, h.size, fun i hi hn => h.block i hi (fun e => by
    rcases hr i e.symm with h1 | h1
    · omega
    · exact hn h1)⟩
theorem since_grown {a b : World} {G B : Nat} (h : a.grownBy b (some G)) (hG : B ≤ G) (hB : B ≤ a.heap.size) : a.Since B b :=
  ⟨h.os, h.tape, h.output, h.size, fun i hi => h.block i (by omega) (fun e => by injection e with e; omega)⟩

def BytR (w : World) (a : Option Addr) (n : Nat) : Prop :=
  0 < n → ∃ b o, a = some ⟨b, o, none⟩ ∧ ∀ i, i < n → ∃ z : Nat, z ≤ 255 ∧ w.cell? ⟨b, o + i, none⟩ = some (.int .u8 z)
theorem BytR.since {w w' : World} {a : Option Addr} {n : Nat} (h : BytR w a n) (hs : w.Since w.heap.size w') : BytR w' a n := by
  intro h0
  obtain ⟨b, o, e, hc⟩ := h h0
  refine ⟨b, o, e, fun i hi => ?_⟩
  obtain ⟨z, h1, h2⟩ := hc i hi
  exact ⟨z, h1, (hs.cell (a := ⟨b, o + i, none⟩) (World.block_lt_of_cell? _ _ h2)).trans h2⟩

structure RD (w0 w : World) (G : Nat) (a : Option Addr) (n c : Nat) (tr : TypeId) (p : Nat) : Prop where
  blk : w.heap[G]? = some (.cells #[.slice a n c, .int .i64 p] tr (0, 0))
  base : w0.heap.size ≤ G
  since : w0.Since w0.heap.size w
  bytes : BytR w0 a n
  small : n ≤ 2000
theorem RD.lt {w0 w : World} {G : Nat} {a : Option Addr} {n c : Nat} {tr : TypeId} {p : Nat} (h : RD w0 w G a n c tr p) : G < w.heap.size := (Array.getElem?_eq_some_iff.1 h.blk).1
theorem RD.cell0 {w0 w : World} {G : Nat} {a : Option Addr} {n c : Nat} {tr : TypeId} {p : Nat} (h : RD w0 w G a n c tr p) : w.cell? ⟨G, 0, none⟩ = some (.slice a n c) := by simp [World.cell?, h.blk]
theorem RD.cell1 {w0 w : World} {G : Nat} {a : Option Addr} {n c : Nat} {tr : TypeId} {p : Nat} (h : RD w0 w G a n c tr p) : w.cell? ⟨G, 1, none⟩ = some (.int .i64 p) := by simp [World.cell?, h.blk]
theorem RD.free1 {w0 w : World} {G : Nat} {a : Option Addr} {n c : Nat} {tr : TypeId} {p : Nat} (h : RD w0 w G a n c tr p) : w.frozen? ⟨G, 1, none⟩ = false := by simp [World.frozen?, h.blk]
theorem RD.set {w0 w : World} {G : Nat} {a : Option Addr} {n c : Nat} {tr : TypeId} {p : Nat} (h : RD w0 w G a n c tr p) (q : Nat) : RD w0 (w.setCell ⟨G, 1, none⟩ (.int .i64 q)) G a n c tr q :=
  ⟨by simp [World.setCell, Array.getElem?_modify, h.blk], h.base, h.since.setCell h.base _, h.bytes, h.small⟩
theorem RD.later {w0 w w' : World} {G : Nat} {a : Option Addr} {n c : Nat} {tr : TypeId} {p : Nat} (h : RD w0 w G a n c tr p) (hs : w.Since w.heap.size w') : RD w0 w' G a n c tr p :=
  ⟨(hs.block G h.lt).trans h.blk, h.base, h.since.trans (since_mono hs h.since.size), h.bytes, h.small⟩
theorem RD.grown {w0 w w' : World} {G : Nat} {a : Option Addr} {n c : Nat} {tr : TypeId} {p : Nat} {row : Option Nat} (h : RD w0 w G a n c tr p) (hg : w.grownBy w' row) (hr : ∀ k, row = some k → G < k) : RD w0 w' G a n c tr p :=
  ⟨(hg.block G h.lt (fun e => by have := hr G e.symm; omega)).trans h.blk, h.base, h.since.grown hg h.since.size (fun k e => by have := hr k e; have := h.base; omega), h.bytes, h.small⟩

def RW (B : Nat) (w : World) (v : Value) (x : List Int) : Prop := w.ownsRow B 3 1 v x.length (x.map (Value.int .i64))
theorem RW.kept {B : Nat} {w w' : World} {v : Value} {x : List Int} {G : Nat} (h : RW B w v x) (hg : w.grownBy w' (some G)) (hG : G < B) : RW B w' v x :=
  World.ownsRow.kept h hg (by
    cases hv : v.ownBlock with
    | none => exact .inl rfl
    | some k => exact .inr (fun e => by injection e with e; have := (World.ownsRow.lt h k hv).1; omega))
theorem RW.base {B B' : Nat} {w : World} {v : Value} {x : List Int} (h : RW B w v x) (hB : B' ≤ B) : RW B' w v x := by
  refine ⟨h.1, ?_⟩
  rcases h.2 with h1 | ⟨g, cap, cur, e, hb, hr⟩
  · exact .inl h1
  · exact .inr ⟨g, cap, cur, e, by omega, hr⟩
theorem RW.form {B : Nat} {w : World} {v : Value} {x : List Int} (h : RW B w v x) (h0 : 0 < x.length) : ∃ g cap, v = .slice (some ⟨g, 0, none⟩) x.length cap ∧ B ≤ g ∧ RowB w g x := RowB.of_owns h h0
theorem RW.set {B : Nat} {w : World} {g cap k : Nat} {x : List Int} (h : RW B w (.slice (some ⟨g, 0, none⟩) x.length cap) x) (_hk : k < x.length) (y : Int) : RW B (w.setCell ⟨g, k, none⟩ (.int .i64 y)) (.slice (some ⟨g, 0, none⟩) x.length cap) (x.set k y) := by
  rcases h.2 with ⟨e, _⟩ | ⟨g', cap', cur, e, hb, hg, hn, hm, hs, ht⟩
  · cases e
  · injection e with e1 e2 e3
    injection e1 with e1
    injection e1 with e1
    subst e1; subst e3
    refine ⟨by simp, .inr ⟨g, cap, cur.setIfInBounds k (.int .i64 y), by rw [List.length_set], hb, ?_, by rw [List.length_set]; exact hn, hm, by simpa using hs, ?_⟩⟩
    · simp [World.setCell, Array.getElem?_modify, hg]
    · rw [List.length_set, Nat.mul_one]
      rw [Nat.mul_one] at ht
      rw [List.map_set, ← ht]
      simp [List.take_set]

structure BD (B : Nat) (w : World) (v : Value) (l : List (List Int)) (A : Nat → Option Addr) (C : Nat → Nat) : Prop where
  own : w.ownsRow B 43 1 v l.length ((List.range l.length).map fun r => .slice (A r) (l.getD r []).length (C r))
  rows : ∀ r, r < l.length → 0 < (l.getD r []).length ∧ RW B w (.slice (A r) (l.getD r []).length (C r)) (l.getD r [])
  apart : ∀ r r', r < l.length → r' < l.length → A r = A r' → r = r'
theorem BD.start (w : World) (A : Nat → Option Addr) (C : Nat → Nat) {B : Nat} (hB : B ≤ w.heap.size) : BD B (w.alloc (.cells #[] 43)) (.slice (some ⟨w.heap.size, 0, none⟩) 0 0) [] A C :=
  ⟨World.ownsRow_made w #[] 0 hB (Nat.zero_le _) rfl, fun r hr => by simp at hr, fun r _ hr => by simp at hr⟩
theorem BD.kept {B : Nat} {w w' : World} {v : Value} {l : List (List Int)} {A : Nat → Option Addr} {C : Nat → Nat} {G : Nat} (h : BD B w v l A C) (hg : w.grownBy w' (some G)) (hG : G < B) : BD B w' v l A C :=
  ⟨World.ownsRow.kept h.own hg (by
      cases hv : v.ownBlock with
      | none => exact .inl rfl
      | some k => exact .inr (fun e => by injection e with e; have := (h.own.lt k hv).1; omega)),
    fun r hr => ⟨(h.rows r hr).1, (h.rows r hr).2.kept hg hG⟩, h.apart⟩
theorem BD.later {B : Nat} {w w' : World} {v : Value} {l : List (List Int)} {A : Nat → Option Addr} {C : Nat → Nat} (h : BD B w v l A C) (hs : w.Since w.heap.size w') : BD B w' v l A C := by
  have hg : w.grownBy w' none := grown_since none hs
  refine ⟨World.ownsRow.kept h.own hg ?_, fun r hr => ⟨(h.rows r hr).1, World.ownsRow.kept (h.rows r hr).2 hg ?_⟩, h.apart⟩
  · cases hv : v.ownBlock <;> simp
  · cases hv : (Value.slice (A r) (l.getD r []).length (C r)).ownBlock <;> simp
theorem BD.row {B : Nat} {w : World} {v : Value} {l : List (List Int)} {A : Nat → Option Addr} {C : Nat → Nat} (h : BD B w v l A C) {r : Nat} (hr : r < l.length) : ∃ g, A r = some ⟨g, 0, none⟩ ∧ B ≤ g ∧ RowB w g (l.getD r []) := by
  obtain ⟨g, cap, e, hb, hw⟩ := (h.rows r hr).2.form (h.rows r hr).1
  injection e with e _ _
  exact ⟨g, e, hb, hw⟩
theorem BD.top {B : Nat} {w : World} {v : Value} {l : List (List Int)} {A : Nat → Option Addr} {C : Nat → Nat} (h : BD B w v l A C) (h0 : 0 < l.length) : ∃ b cap cur, v = .slice (some ⟨b, 0, none⟩) l.length cap ∧ B ≤ b ∧ w.heap[b]? = some (.cells cur 43 (0, 0)) ∧ ∀ r, r < l.length → cur[r]? = some (.slice (A r) (l.getD r []).length (C r)) := by
  rcases h.own.2 with ⟨_, hn⟩ | ⟨g, cap, cur, e, hb, hg, hn, _, hs, ht⟩
  · omega
  · refine ⟨g, cap, cur, e, hb, hg, fun r hr => ?_⟩
    have h1 : (cur.toList.take (l.length * 1))[r]? = some (.slice (A r) (l.getD r []).length (C r)) := by rw [ht]; simp [hr]
    rw [List.getElem?_take] at h1
    have h2 : r < l.length ∧ cur[r]? = some (.slice (A r) (l.getD r []).length (C r)) := by simpa using h1
    exact h2.2
theorem BD.push {B : Nat} {w w1 : World} {v v' : Value} {l : List (List Int)} {A : Nat → Option Addr} {C : Nat → Nat} {x : List Int} {a : Option Addr} {cp : Nat} (h : BD B w v l A C) (h0 : 0 < x.length) (hx : RW B w (.slice a x.length cp) x)
    (hfresh : ∀ r, r < l.length → A r ≠ a)
    (hown : w1.ownsRow B 43 1 v' (l.length + 1) (((List.range l.length).map fun r => .slice (A r) (l.getD r []).length (C r)) ++ [.slice a x.length cp])) (hg : (w.alloc (.cells #[.slice a x.length cp] 43)).grownBy w1 v.ownBlock) :
    BD B w1 v' (l ++ [x]) (fun r => if r = l.length then a else A r) (fun r => if r = l.length then cp else C r) := by
  have hkeep : ∀ (u : Value) (y : List Int), 0 < y.length → RW B w u y → RW B w1 u y := by
    intro u y hy hu
    refine World.ownsRow.kept (World.ownsRow.alloc hu _) hg ?_
    obtain ⟨g, cap, e, _, cs, hc, _⟩ := hu.form hy
    subst e
    refine .inr fun e => ?_
    rcases h.own.2 with ⟨rfl, _⟩ | ⟨g', cap', cur, rfl, _, hgg, _⟩
    · cases e
    · injection e with e
      have e : g = g' := e
      rw [← e, hc] at hgg
      injection hgg with hgg
      injection hgg with _ e2 _
      exact absurd e2 (by decide)
  have e4 : ∀ q, q < l.length → (l ++ [x]).getD q [] = l.getD q [] := fun q hq => by simp [List.getD, List.getElem?_append_left hq]
  have e5 : (l ++ [x]).getD l.length [] = x := by simp [List.getD]
  have e6 : (l ++ [x]).length = l.length + 1 := by simp
  refine ⟨?_, fun r hr => ?_, fun r r' hr hr' e => ?_⟩
  · rw [e6, List.range_succ, List.map_append]
    have e2 : (List.range l.length).map (fun r => Value.slice (if r = l.length then a else A r) ((l ++ [x]).getD r []).length (if r = l.length then cp else C r)) = (List.range l.length).map fun r => .slice (A r) (l.getD r []).length (C r) := by
      refine List.map_congr_left fun r hr => ?_
      have hr' := List.mem_range.1 hr
      rw [if_neg (by omega), if_neg (by omega), e4 r hr']
    rw [e2]
    simpa [e5] using hown
  · by_cases e : r = l.length
    · subst e
      rw [e5, if_pos rfl, if_pos rfl]
      exact ⟨h0, hkeep _ _ h0 hx⟩
    · rw [e6] at hr
      rw [e4 r (by omega), if_neg e, if_neg e]
      exact ⟨(h.rows r (by omega)).1, hkeep _ _ (h.rows r (by omega)).1 (h.rows r (by omega)).2⟩
  · rw [e6] at hr hr'
    by_cases e1 : r = l.length <;> by_cases e2 : r' = l.length
    · omega
    · rw [if_pos e1, if_neg e2] at e
      exact absurd e.symm (hfresh r' (by omega))
    · rw [if_neg e1, if_pos e2] at e
      exact absurd e (hfresh r (by omega))
    · rw [if_neg e1, if_neg e2] at e
      exact h.apart r r' (by omega) (by omega) e
theorem BD.fresh {B : Nat} {w : World} {v : Value} {l : List (List Int)} {A : Nat → Option Addr} {C : Nat → Nat} (h : BD B w v l A C) {a : Option Addr} {g : Nat} (ha : a = some ⟨g, 0, none⟩) (hg : w.heap.size ≤ g) : ∀ r, r < l.length → A r ≠ a := by
  intro r hr e
  obtain ⟨g', e', _, hw⟩ := h.row hr
  have := hw.lt
  rw [e', ha] at e
  injection e with e; injection e with e
  omega
theorem BD.matR {B : Nat} {w : World} {v : Value} {l : List (List Int)} {A : Nat → Option Addr} {C : Nat → Nat} (h : BD B w v l A C) : ∃ a cap, v = .slice a l.length cap ∧ MatR w a l := by
  by_cases h0 : 0 < l.length
  · obtain ⟨b, cap, cur, e, _, hg, hc⟩ := h.top h0
    refine ⟨_, cap, e, fun _ => ⟨b, 0, A, C, rfl, fun r hr => ⟨?_, fun h1 => ?_⟩⟩⟩
    · rw [Nat.zero_add]; simp [World.cell?, hg, hc r hr]
    · obtain ⟨g, e, _, hw⟩ := h.row hr
      exact ⟨g, 0, e, fun i hi => by rw [Nat.zero_add]; exact hw.cell hi⟩
  · rcases h.own.2 with ⟨hv, hn⟩ | ⟨g, cap, cur, e, _⟩
    · exact ⟨none, 0, by rw [hv, hn], fun h => absurd h h0⟩
    · exact ⟨_, cap, e, fun h => absurd h h0⟩

end Go.Proofs.Ytpimdgijjljejaa
end

section
namespace Go.Proofs.Ytpimdgijjljejaa
open Go.RowKit Go.Deep

theorem grown_drewN {a b : World} {row : Option Nat} (h : a.grownBy b row) (q : Nat) : a.grownBy (b.drewN q) row := ⟨h.os, h.tape, h.output, h.size, h.block⟩
theorem xor_i64_nat (a b : Nat) (ha : a < 2 ^ 62) (hb : b < 2 ^ 62) : bits .xor .i64 (a : Int) (b : Int) = ((a ^^^ b : Nat) : Int) := by
  have hx : a ^^^ b < 2 ^ 62 := Nat.xor_lt_two_pow ha hb
  have h1 : (BitVec.ofInt 64 (a : Int)).toNat = a := by
    rw [BitVec.ofInt_natCast, BitVec.toNat_ofNat]; exact Nat.mod_eq_of_lt (by omega)
  have h2 : (BitVec.ofInt 64 (b : Int)).toNat = b := by
    rw [BitVec.ofInt_natCast, BitVec.toNat_ofNat]; exact Nat.mod_eq_of_lt (by omega)
  show IntKind.i64.wrap ((BitVec.ofInt 64 (a : Int) ^^^ BitVec.ofInt 64 (b : Int)).toNat : Int) = _
  rw [BitVec.toNat_xor, h1, h2]
  exact IntWalk.i64_in _ ⟨by omega, by omega⟩

set_option maxRecDepth 100000 in
set_option maxHeartbeats 2000000 in
theorem pick_any (w0 w : World) (G n c p : Nat) (a : Option Addr) (m : Int) (h : RD w0 w G a n c 57 p) (hp : p ≤ 100000) :
    Calls Try.prog 28 #[.pointer (some ⟨G, 0, none⟩), .int .i64 m] w fun e w' => ∃ x : Nat, e = .returned (.int .i64 x) ∧ ((x : Int) < m ∨ x = 0) ∧ w.grownBy w' (some G) ∧ RD w0 w' G a n c 57 (p + 1) := by
  have e0 := h.cell0
  have e1 := h.cell1
  have e2 := h.free1
  have hs := h.set (p + 1)
  have hwp : IntKind.i64.wrap ((p : Int) + 1) = (p : Int) + 1 := IntWalk.i64_in _ ⟨by omega, by omega⟩
  have hc : ((p + 1 : Nat) : Int) = (p : Int) + 1 := by omega
  have hgr : w.grownBy (w.setCell ⟨G, 1, none⟩ (.int .i64 (p + 1 : Nat))) (some G) := ⟨rfl, rfl, rfl, by simp, fun k _ hk => Below.heap_setCell _ _ _ _ (fun e => hk (by rw [e]))⟩
  rw [hc] at hs hgr
  have s0 := hs.cell0
  have s1 := hs.cell1
  rw [hc] at s1
  have hsm := hs.small
  have hbb := hs.bytes.since hs.since
  have HS := Lib.hid hs
  have HG := Lib.hid hgr
  have HB := Lib.hid hbb
  clear hs hgr h hbb hc
  by_cases hm : m < 1
  · go_enter Try.func28, Try.ntmps28
    go_wp2
    go_wp2
    go_ret
    exact ⟨0, rfl, .inr rfl, HG.out, HS.out⟩
  · obtain ⟨M, rfl⟩ := Int.eq_ofNat_of_zero_le (show 0 ≤ m by omega)
    have hM1 : 1 ≤ M := by omega
    have hd : decide ((M : Int) < 1) = false := by simp; omega
    by_cases hn : n = 0
    · subst hn
      go_enter Try.func28, Try.ntmps28
      go_wp2
      go_wp2
      go_ret
      exact ⟨0, rfl, .inr rfl, HG.out, HS.out⟩
    · have hn1 : 1 ≤ n := by omega
      have hnb : ((n : Int) == 0) = false := by simp; omega
      obtain ⟨b, o, rfl, hb⟩ := HB.out (by omega)
      have hwm : IntKind.i64.wrap ((p : Int) + 1 - 1) = (p : Int) := by rw [show (p : Int) + 1 - 1 = p by omega]; exact IntWalk.i64_in _ ⟨by omega, by omega⟩
      by_cases hlt : p < n
      · obtain ⟨z, hz, hzc⟩ := hb p hlt
        have hl : decide ((p : Int) < n) = true := by simp; omega
        clear hb
        go_enter Try.func28, Try.ntmps28
        go_wp2
        go_ret
        exact ⟨z % M, rfl, .inl (by have := Nat.mod_lt z hM1; omega), HG.out, HS.out⟩
      · have hl : decide ((p : Int) < n) = false := by simp; omega
        obtain ⟨q1, hq1, hql1⟩ : ∃ q : Nat, (p : Int) % (n : Int) = q ∧ q < n := ⟨p % n, (Int.natCast_emod p n).symm, Nat.mod_lt _ (by omega)⟩
        obtain ⟨q2, hq2, hql2⟩ : ∃ q : Nat, ((p : Int) * 7 + 3) % (n : Int) = q ∧ q < n := ⟨(p * 7 + 3) % n, by rw [Int.natCast_emod]; simp, Nat.mod_lt _ (by omega)⟩
        obtain ⟨dd, hdd, hdl⟩ : ∃ q : Nat, (p : Int) / (n : Int) = q ∧ q ≤ p := ⟨p / n, (Int.natCast_ediv p n).symm, Nat.div_le_self _ _⟩
        obtain ⟨z1, hz1, hzc1⟩ := hb q1 hql1
        obtain ⟨z2, hz2, hzc2⟩ := hb q2 hql2
        clear hb
        have w1 : IntKind.i64.wrap ((p : Int) * 7) = (p : Int) * 7 := IntWalk.i64_in _ ⟨by omega, by omega⟩
        have w2 : IntKind.i64.wrap ((p : Int) * 7 + 3) = (p : Int) * 7 + 3 := IntWalk.i64_in _ ⟨by omega, by omega⟩
        have w3 : IntKind.i64.wrap ((z1 : Int) * 131) = (z1 : Int) * 131 := IntWalk.i64_in _ ⟨by omega, by omega⟩
        have w4 : IntKind.i64.wrap ((z2 : Int) * 1117) = (z2 : Int) * 1117 := IntWalk.i64_in _ ⟨by omega, by omega⟩
        have w5 : IntKind.i64.wrap ((z1 : Int) * 131 + (z2 : Int) * 1117) = (z1 : Int) * 131 + (z2 : Int) * 1117 := IntWalk.i64_in _ ⟨by omega, by omega⟩
        have w6 : IntKind.i64.wrap ((p : Int) * 29) = (p : Int) * 29 := IntWalk.i64_in _ ⟨by omega, by omega⟩
        have w7 : IntKind.i64.wrap ((z1 : Int) * 131 + (z2 : Int) * 1117 + (p : Int) * 29) = (z1 : Int) * 131 + (z2 : Int) * 1117 + (p : Int) * 29 := IntWalk.i64_in _ ⟨by omega, by omega⟩
        have w8 : IntKind.i64.wrap ((dd : Int) * 53) = (dd : Int) * 53 := IntWalk.i64_in _ ⟨by omega, by omega⟩
        have w9 : IntKind.i64.wrap ((z1 : Int) * 131 + (z2 : Int) * 1117 + (p : Int) * 29 + (dd : Int) * 53) = (z1 : Int) * 131 + (z2 : Int) * 1117 + (p : Int) * 29 + (dd : Int) * 53 := IntWalk.i64_in _ ⟨by omega, by omega⟩
        go_enter Try.func28, Try.ntmps28
        go_wp2
        go_quiet (fail)
        obtain ⟨X, hX⟩ : ∃ X : Nat, (z1 : Int) * 131 + (z2 : Int) * 1117 + (p : Int) * 29 + (dd : Int) * 53 = X := ⟨z1 * 131 + z2 * 1117 + p * 29 + dd * 53, by omega⟩
        have hx : bits .xor .i64 (X : Int) ((X : Int) / 64) = ((X ^^^ X / 64 : Nat) : Int) := by
          rw [show ((X : Int) / 64) = ((X / 64 : Nat) : Int) by omega]
          exact xor_i64_nat _ _ (by omega) (by omega)
        obtain ⟨y, hy⟩ : ∃ y : Nat, bits .xor .i64 (X : Int) ((X : Int) / 64) = y := ⟨_, hx⟩
        clear hx
        go_wp2
        go_ret
        exact ⟨y % M, rfl, .inl (by have := Nat.mod_lt y hM1; omega), grown_drewN HG.out nq, HS.out.later (since_drewN (World.Since.refl _ _) nq)⟩

end Go.Proofs.Ytpimdgijjljejaa
end

section
namespace Go.Proofs.Ytpimdgijjljejaa
open Go.RowKit Go.Deep

theorem grown_new {a b c : World} {G : Nat} {row : Option Nat} (h : a.grownBy b (some G)) (k : b.grownBy c row) (hr : ∀ i, row = some i → a.heap.size ≤ i) : a.grownBy c (some G) :=
  ⟨k.os.trans h.os, k.tape.trans h.tape, k.output.trans h.output, Nat.le_trans h.size k.size, fun i hi hn => (k.block i (Nat.lt_of_lt_of_le hi h.size) (fun e => by have := hr i e.symm; omega)).trans (h.block i hi hn)⟩
theorem grown_alloc {a b : World} {G : Nat} (h : a.grownBy b (some G)) (o : Obj) : a.grownBy (b.alloc o) (some G) := grown_new h (World.grownBy_alloc b o none) (fun i e => by cases e)
theorem grown_set {a b : World} {G : Nat} (h : a.grownBy b (some G)) {g k : Nat} (hg : a.heap.size ≤ g) (v : Value) : a.grownBy (b.setCell ⟨g, k, none⟩ v) (some G) :=
  grown_new h (row := some g) ⟨rfl, rfl, rfl, by simp, fun i _ hi => Below.heap_setCell _ _ _ _ (fun e => hi (by rw [e]))⟩ (fun i e => by cases e; exact hg)
theorem cell_grown {a b : World} {G : Nat} {p : Addr} {v : Value} (h : a.cell? p = some v) (hg : a.grownBy b (some G)) (hp : p.block ≠ G) : b.cell? p = some v := hg.cell h (fun e => hp (by injection e))
theorem cell_set_far {w : World} {g j : Nat} {v : Value} {p : Addr} {u : Value} (h : w.cell? p = some u) (hne : p.block ≠ g) : (w.setCell ⟨g, j, none⟩ v).cell? p = some u := by
  rw [World.cell?_setCell_other _ _ _ _ (fun e => hne (by rw [← e]))]; exact h

theorem wpList_append_int {P : Program} (w : World) {ops : Array Oper} {rest : List Oper} {o : Oper} {a : Act} {Q : Exit → Act → World → Prop} (hgd : o.guard = none) (s x : Operand) (t : TypeId)
    (ho : o.op = .call { callee := .builtin .append, args := #[s, x], argTypes := #[t, t] }) (B : Nat) (i : TypeInfo) (ht : P.underlying t = some (.slice 3)) (hi : P.info? 3 = some i) (hz : i.zero = some (.int .i64 0)) (hsz : i.size = 1) (hby : i.bytes = 8)
    (v : Value) (xs : List Int) (hs : a.eval s = v) (h : RW B w v xs) (y : Int) (hx : a.eval x = .slice (some ⟨w.heap.size, 0, none⟩) 1 1) (hlen : xs.length ≤ 1000) (hB : B ≤ w.heap.size)
    (hK : ∀ v' w', RW B w' v' (xs ++ [y]) → w.grownBy w' v.ownBlock → wpList P ops Q rest (a.put o.dst v') w') : wpList P ops Q (o :: rest) a (w.alloc (.cells #[.int .i64 y] 3)) := by
  refine wpList_append_own _ hgd s x t ho B 3 i (.int .i64 0) 1 8 ht hi hz hsz hby rfl (by decide) v xs.length (xs.map (Value.int .i64)) hs (World.ownsRow.alloc h _) ⟨w.heap.size, 0, none⟩ 1 1 [.int .i64 y] hx rfl (cell_one_at _ _ _ rfl) (fun u hu => by simp at hu; subst hu; rfl) (by unfold maxLen; omega) (by omega) (by simp; omega) ?_
  intro v' w' hown hg _
  refine hK v' w' ?_ ⟨hg.os, hg.tape, hg.output, by have := hg.size; simp at this; omega, fun j hj hn => (hg.block j (by simp; omega) hn).trans (Below.heap_alloc _ _ _ hj)⟩
  unfold RW
  rw [List.length_append, List.map_append]
  exact hown

theorem wpList_append_row {P : Program} (w : World) {ops : Array Oper} {rest : List Oper} {o : Oper} {a : Act} {Q : Exit → Act → World → Prop} (hgd : o.guard = none) (s x : Operand) (t : TypeId)
    (ho : o.op = .call { callee := .builtin .append, args := #[s, x], argTypes := #[t, t] }) (B B' : Nat) (i : TypeInfo) (ht : P.underlying t = some (.slice 43)) (hi : P.info? 43 = some i) (hz : i.zero = some (.slice none 0 0)) (hsz : i.size = 1) (hby : i.bytes = 24)
    (v : Value) (l : List (List Int)) (A : Nat → Option Addr) (C : Nat → Nat) (hs : a.eval s = v) (h : BD B w v l A C) (g cp m : Nat) (y : List Int) (hy : y.length = m) (h0 : 0 < m) (hr : RW B' w (.slice (some ⟨g, 0, none⟩) m cp) y) (hfresh : ∀ r, r < l.length → A r ≠ some ⟨g, 0, none⟩)
    (hBB : B ≤ B') (hx : a.eval x = .slice (some ⟨w.heap.size, 0, none⟩) 1 1) (hlen : l.length ≤ 1000) (hB : B ≤ w.heap.size)
    (hK : ∀ v' w' A' C', BD B w' v' (l ++ [y]) A' C' → w.grownBy w' v.ownBlock → wpList P ops Q rest (a.put o.dst v') w') : wpList P ops Q (o :: rest) a (w.alloc (.cells #[.slice (some ⟨g, 0, none⟩) m cp] 43)) := by
  subst hy
  refine wpList_append_own _ hgd s x t ho B 43 i (.slice none 0 0) 1 24 ht hi hz hsz hby rfl (by decide) v l.length _ hs (h.own.alloc _) ⟨w.heap.size, 0, none⟩ 1 1 [.slice (some ⟨g, 0, none⟩) y.length cp] hx rfl (cell_one_at _ _ _ rfl) (fun u hu => by simp at hu; subst hu; rfl) (by unfold maxLen; omega) (by omega) (by simp; omega) ?_
  intro v' w' hown hg _
  refine hK v' w' _ _ (h.push h0 (hr.base hBB) hfresh hown hg) ⟨hg.os, hg.tape, hg.output, by have := hg.size; simp at this; omega, fun j hj hn => (hg.block j (by simp; omega) hn).trans (Below.heap_alloc _ _ _ hj)⟩

end Go.Proofs.Ytpimdgijjljejaa
end

section
namespace Go.Proofs.Ytpimdgijjljejaa
open Go.RowKit Go.Deep

theorem RW.set' {B : Nat} {w : World} {g cap k m : Nat} {x : List Int} (hm : x.length = m) (h : RW B w (.slice (some ⟨g, 0, none⟩) m cap) x) (hk : k < m) (y : Int) : RW B (w.setCell ⟨g, k, none⟩ (.int .i64 y)) (.slice (some ⟨g, 0, none⟩) m cap) (x.set k y) := by
  subst hm; exact h.set hk y
theorem RW.rowB {B : Nat} {w : World} {g k cap : Nat} {x : List Int} (h : RW B w (.slice (some ⟨g, 0, none⟩) k cap) x) (h0 : 0 < x.length) : B ≤ g ∧ RowB w g x := by
  obtain ⟨g', cap', e, h1, h2⟩ := h.form h0
  injection e with e
  injection e with e
  injection e with e
  subst e
  exact ⟨h1, h2⟩
theorem grown_set_any (w : World) (g k : Nat) (v : Value) : w.grownBy (w.setCell ⟨g, k, none⟩ v) (some g) := ⟨rfl, rfl, rfl, by simp, fun i _ hi => Below.heap_setCell _ _ _ _ (fun e => hi (by rw [e]))⟩
theorem grown_undrew' {W w' : World} {row : Option Nat} (h : W.drew.grownBy w' row) : W.grownBy w' row := ⟨h.os, h.tape, h.output, h.size, h.block⟩
theorem lens_snoc {l : List (List Int)} {x : List Int} {r m : Nat} (hl : l.length = r) (h : ∀ j, j < r → (l.getD j []).length = m) (hx : x.length = m) : ∀ j, j < r + 1 → ((l ++ [x]).getD j []).length = m := by
  intro j hj
  by_cases e : j = r
  · subst e; subst hl; simpa [List.getD] using hx
  · rw [show (l ++ [x]).getD j [] = l.getD j [] by simp [List.getD, List.getElem?_append_left (show j < l.length by omega)]]
    exact h j (by omega)

set_option maxRecDepth 100000 in
set_option maxHeartbeats 8000000 in
theorem l91Table_any (w0 w : World) (G nb c p n m : Nat) (a : Option Addr) (h : RD w0 w G a nb c 57 p) (hn : n ≤ 10) (hm1 : 1 ≤ m) (hm : m ≤ 10) (hp : p ≤ 50000) :
    Calls Try.prog 55 #[.pointer (some ⟨G, 0, none⟩), .int .i64 n, .int .i64 m] w fun e w' => ∃ v l A C p', e = .returned v ∧ l.length = n ∧ (∀ j, j < n → (l.getD j []).length = m) ∧ w.grownBy w' (some G) ∧ RD w0 w' G a nb c 57 p' ∧ p' ≤ p + 500 ∧ BD w.heap.size w' v l A C := by
  obtain ⟨i42, hi42⟩ := info42_parts
  obtain ⟨i3, hi3⟩ := info3_parts
  have HI := Lib.hid hi42
  have HJ := Lib.hid hi3
  have hG := h.lt
  have HRD := Lib.hid h
  clear h hi42 hi3
  go_enter Try.func55, Try.ntmps55
  go_wp2_with fail
  refine (pick_any w0 _ G nb c _ a _ (HRD.out.grown (World.grownBy_alloc w _ none) (fun k e => by cases e)) (by omega)).mono ?_
  rintro e w1 ⟨κ, rfl, hκ, hg, hd⟩
  have hk : κ = 0 ∨ κ = 1 ∨ κ = 2 ∨ κ = 3 := by omega
  have HST := Lib.hid ((BD.start w (fun _ => none) (fun _ => 0) (Nat.le_refl _)).kept hg hG)
  have HG1 := Lib.hid (grown_trans (World.grownBy_alloc w _ _) hg)
  have HD1 := Lib.hid hd
  clear hg hd hκ HRD
  go_wp2
  go_loopg [7, 9, 10, 11, 12, 13] n (fun g v i _ _ _ _ wr => ∃ r A C p' l, r ≤ n ∧ g = n - r ∧ i = .int .i64 (r : Nat) ∧ List.length l = r ∧ (∀ j, j < r → (List.getD l j []).length = m) ∧ w.grownBy wr (some G) ∧ RD w0 wr G a nb c 57 p' ∧ p' ≤ p + 1 + 40 * r ∧ BD w.heap.size wr v l A C)
  case atStart => exact ⟨0, _, _, _, [], Nat.zero_le _, rfl, rfl, rfl, fun j hj => by omega, HG1.out, HD1.out, by omega, HST.out⟩
  case round =>
    obtain ⟨r, A, C, p', l, hr, rfl, rfl, hl, hlm, hgw, hd, hp', hB⟩ := hrel
    clear HST HG1 HD1
    by_cases hlt : r < n
    · have HB := Lib.hid hB
      have HGW := Lib.hid hgw
      have HD := Lib.hid hd
      have hzw := hgw.size
      obtain ⟨wo, hwo⟩ : ∃ wo : World, wo = wr := ⟨_, rfl⟩
      clear hB hgw hd
      go_wp2
      subst hwo
      go_loopg [10, 11, 12] m (fun g v k _ wi => ∃ q x p'', q ≤ m ∧ g = m - q ∧ k = .int .i64 (q : Nat) ∧ List.length x = q ∧ wo.grownBy wi (some G) ∧ RD w0 wi G a nb c 57 p'' ∧ p'' ≤ p' + 2 * q ∧ RW wo.heap.size wi v x)
      case atStart => exact ⟨0, [], p', Nat.zero_le _, rfl, rfl, rfl, World.grownBy_alloc _ _ _, HD.out.grown (World.grownBy_alloc _ _ none) (fun k e => by cases e), by omega, World.ownsRow_made wo #[] 0 (Nat.le_refl _) (Nat.zero_le _) rfl⟩
      case round =>
        obtain ⟨q, x, p'', hq, rfl, rfl, hxl, hgi, hdi, hp'', hW⟩ := hrel
        clear HD
        have HD := Lib.hid hdi
        have HG := Lib.hid hgi
        have HW := Lib.hid hW
        have hz1 := hgi.size
        clear hdi hgi hW
        by_cases hlq : q < m
        · rcases hk with rfl | rfl | rfl | rfl
          all_goals
            go_wp2_with (first
              | (go_at_call 28; refine (pick_any w0 _ G nb c _ a _ HD.out (by omega)).mono ?_; rintro e w2 ⟨y, rfl, _, hg, hd⟩; have HW := Lib.hid (HW.out.kept hg (by omega)); have HG := Lib.hid (grown_trans HG.out hg); have HD := Lib.hid hd; have hz2 := HG.out.size; clear hd hg)
              | (at_builtin; (refine wpList_append_int _ rfl (.tmp 42) (.tmp 44) 43 rfl wo.heap.size i3 Try.underlying43 HJ.out.1 HJ.out.2.1 HJ.out.2.2.1 HJ.out.2.2.2 _ x rfl HW.out _ rfl (by omega) (by omega) ?_); intro v' w3 hrw hgr; have hge := fun i e => (World.ownsRow.lt HW.out i e).1; have HD := Lib.hid (HD.out.grown hgr (fun i e => by have := hge i e; omega)); have HG := Lib.hid (grown_new HG.out hgr hge); have HW := Lib.hid hrw; clear hgr hrw hge))
            go_roundg (m - (q + 1))
            case measure => omega
            case rel => exact ⟨q + 1, x ++ [_], _, by omega, rfl, by go_num, by rw [List.length_append, hxl]; rfl, HG.out, HD.out, by omega, HW.out⟩
        · have hqm : m = q := by omega
          subst hqm
          obtain ⟨g1, cp1, hv, hge, hrb⟩ := HW.out.form (by omega)
          rw [hxl] at hv
          subst hv
          clear hrb
          rcases hk with rfl | rfl | rfl | rfl
          · go_wp2_with (first
              | (at_builtin; (refine wpList_append_row _ rfl (.tmp 77) (.tmp 79) 23 rfl w.heap.size wo.heap.size i42 Try.underlying23 HI.out.1 HI.out.2.1 HI.out.2.2.1 HI.out.2.2.2 _ l A C rfl (HB.out.kept HG.out hG) g1 cp1 m x hxl (by omega) HW.out (HB.out.fresh rfl hge) hzw rfl (by omega) (by omega) ?_); intro v' w3 A' C' hbd hgr; have hbge := fun i e => (World.ownsRow.lt (HB.out.kept HG.out hG).own i e).1; have HD := Lib.hid (HD.out.grown hgr (fun i e => by have := hbge i e; omega)); have HGG := Lib.hid (grown_new (grown_trans HGW.out HG.out) hgr hbge); have HBD := Lib.hid hbd; clear hgr hbd hbge))
            go_roundg (n - (r + 1))
            case measure => omega
            case rel => exact ⟨r + 1, A', C', _, l ++ [x], by omega, rfl, by go_num, by rw [List.length_append, hl]; rfl, lens_snoc hl hlm hxl, HGG.out, HD.out, by omega, HBD.out⟩
          · go_wp2_with (first
              | (at_builtin; (refine wpList_append_row _ rfl (.tmp 77) (.tmp 79) 23 rfl w.heap.size wo.heap.size i42 Try.underlying23 HI.out.1 HI.out.2.1 HI.out.2.2.1 HI.out.2.2.2 _ l A C rfl (HB.out.kept HG.out hG) g1 cp1 m x hxl (by omega) HW.out (HB.out.fresh rfl hge) hzw rfl (by omega) (by omega) ?_); intro v' w3 A' C' hbd hgr; have hbge := fun i e => (World.ownsRow.lt (HB.out.kept HG.out hG).own i e).1; have HD := Lib.hid (HD.out.grown hgr (fun i e => by have := hbge i e; omega)); have HGG := Lib.hid (grown_new (grown_trans HGW.out HG.out) hgr hbge); have HBD := Lib.hid hbd; clear hgr hbd hbge))
            go_roundg (n - (r + 1))
            case measure => omega
            case rel => exact ⟨r + 1, A', C', _, l ++ [x], by omega, rfl, by go_num, by rw [List.length_append, hl]; rfl, lens_snoc hl hlm hxl, HGG.out, HD.out, by omega, HBD.out⟩
          · go_wp2_with (first
              | (at_builtin; (refine wpList_append_row _ rfl (.tmp 77) (.tmp 79) 23 rfl w.heap.size wo.heap.size i42 Try.underlying23 HI.out.1 HI.out.2.1 HI.out.2.2.1 HI.out.2.2.2 _ l A C rfl (HB.out.kept HG.out hG) g1 cp1 m x hxl (by omega) HW.out (HB.out.fresh rfl hge) hzw rfl (by omega) (by omega) ?_); intro v' w3 A' C' hbd hgr; have hbge := fun i e => (World.ownsRow.lt (HB.out.kept HG.out hG).own i e).1; have HD := Lib.hid (HD.out.grown hgr (fun i e => by have := hbge i e; omega)); have HGG := Lib.hid (grown_new (grown_trans HGW.out HG.out) hgr hbge); have HBD := Lib.hid hbd; clear hgr hbd hbge))
            go_roundg (n - (r + 1))
            case measure => omega
            case rel => exact ⟨r + 1, A', C', _, l ++ [x], by omega, rfl, by go_num, by rw [List.length_append, hl]; rfl, lens_snoc hl hlm hxl, HGG.out, HD.out, by omega, HBD.out⟩
          · by_cases hr0 : r = 0
            · have hr0' : decide ((0 : Int) < (r : Int)) = false := by simp; omega
              go_wp2_with (first
                | (at_builtin; (refine wpList_append_row _ rfl (.tmp 77) (.tmp 79) 23 rfl w.heap.size wo.heap.size i42 Try.underlying23 HI.out.1 HI.out.2.1 HI.out.2.2.1 HI.out.2.2.2 _ l A C rfl (HB.out.kept HG.out hG) g1 cp1 m x hxl (by omega) HW.out (HB.out.fresh rfl hge) hzw rfl (by omega) (by omega) ?_); intro v' w3 A' C' hbd hgr; have hbge := fun i e => (World.ownsRow.lt (HB.out.kept HG.out hG).own i e).1; have HD := Lib.hid (HD.out.grown hgr (fun i e => by have := hbge i e; omega)); have HGG := Lib.hid (grown_new (grown_trans HGW.out HG.out) hgr hbge); have HBD := Lib.hid hbd; clear hgr hbd hbge))
              go_roundg (n - (r + 1))
              case measure => omega
              case rel => exact ⟨r + 1, A', C', _, l ++ [x], by omega, rfl, by go_num, by rw [List.length_append, hl]; rfl, lens_snoc hl hlm hxl, HGG.out, HD.out, by omega, HBD.out⟩
            · have hr0' : decide ((0 : Int) < (r : Int)) = true := by simp; omega
              go_wp2_with fail
              refine (pick_any w0 _ G nb c _ a _ HD.out (by omega)).mono ?_
              rintro e w2 ⟨y, rfl, hy3, hg, hd⟩
              have HW := Lib.hid (HW.out.kept hg (by omega))
              have HG := Lib.hid (grown_trans HG.out hg)
              have HD := Lib.hid hd
              have hz2 := HG.out.size
              clear hd hg
              by_cases hy0 : y = 0
              · subst hy0
                obtain ⟨s, hs⟩ : ∃ s, r = s + 1 := ⟨r - 1, by omega⟩
                have hr1 : IntKind.i64.wrap ((r : Int) - 1) = (s : Int) := by rw [show (r : Int) - 1 = s by omega]; exact IntWalk.i64_in _ ⟨by omega, by omega⟩
                have hsr : s < r := by omega
                have HSS := Lib.hid hs
                clear hs
                obtain ⟨bb, cpp, cur, hv, hbb, hcur, hc⟩ := HB.out.top (by omega)
                rw [hl] at hv
                subst hv
                have ct := hc s (by omega)
                obtain ⟨g2, hA, hg2, hrb⟩ := HB.out.row (r := s) (by omega)
                rw [hlm s hsr, hA] at ct
                have t1 : wo.cell? ⟨bb, s, none⟩ = some (.slice (some ⟨g2, 0, none⟩) m (C s)) := by simp [World.cell?, hcur, ct]
                have lb : bb < wo.heap.size := (Array.getElem?_eq_some_iff.1 hcur).1
                have lg : g2 < wo.heap.size := hrb.lt
                have HT1 := Lib.hid t1
                have HRB := Lib.hid hrb
                have HA := Lib.hid hA
                have hls := hlm s hsr
                clear t1 hcur hc ct hrb hA
                go_wp2
                go_loopg [13] m (fun g k wi => ∃ q x p'', q ≤ m ∧ g = m - q ∧ k = .int .i64 (q : Nat) ∧ List.length x = m ∧ wo.grownBy wi (some G) ∧ RD w0 wi G a nb c 57 p'' ∧ p'' ≤ p' + 2 * m + 1 + q ∧ RW wo.heap.size wi (.slice (some ⟨g1, 0, none⟩) m cp1) x)
                case atStart => exact ⟨0, x, _, Nat.zero_le _, rfl, rfl, hxl, HG.out, HD.out, by omega, HW.out⟩
                case round =>
                  obtain ⟨q, x, p'', hq, rfl, rfl, hxl, hgi, hdi, hp'', hW⟩ := hrel
                  clear HD HG HW
                  have HD := Lib.hid hdi
                  have HG := Lib.hid hgi
                  have HW := Lib.hid hW
                  have hz1 := hgi.size
                  clear hdi hgi hW
                  by_cases hlq : q < m
                  · obtain ⟨z, hz⟩ : ∃ z, z = (l.getD s []).getD q 0 := ⟨_, rfl⟩
                    have q2 := HRB.out.cell (i := q) (by rw [hls]; exact hlq)
                    rw [← hz] at q2
                    have d1 := cell_grown HT1.out HG.out (show bb ≠ G by omega)
                    have d0 := cell_grown q2 HG.out (show g2 ≠ G by omega)
                    obtain ⟨hge2, hrw⟩ := HW.out.rowB (by omega)
                    have s1 := hrw.cell (i := q) (by omega)
                    have s2 := hrw.frozen q
                    clear q2 hz hrw
                    go_wp2
                    go_region_held3 (fun w' => w'.cell? ⟨bb, s, none⟩ = some (.slice (some ⟨g2, 0, none⟩) m (C s)) ∧ w'.cell? ⟨g2, q, none⟩ = some (.int .i64 z))
                      (first | exact ⟨d1, d0⟩ | exact ⟨q1, q0⟩ | exact ⟨cell_set_far q1 (by show bb ≠ g1; omega), cell_set_far q0 (by show g2 ≠ g1; omega)⟩)
                      (first
                        | (go_at_call 28; refine (pick_any w0 _ G nb c _ a _ (HD.out.later (World.Since.refl _ _).drew) (by omega)).mono ?_; rintro e w3 ⟨y3, rfl, _, hg, hd⟩; have hg := grown_undrew' hg; have HW := Lib.hid (HW.out.kept hg (by omega)); have HG := Lib.hid (grown_trans HG.out hg); have HD := Lib.hid hd; have q1 := cell_grown d1 hg (show bb ≠ G by omega); have q0 := cell_grown d0 hg (show g2 ≠ G by omega); have k1 := cell_grown s1 hg (show g1 ≠ G by omega); have k2 : w3.frozen? ⟨g1, q, none⟩ = false := (World.frozen?_of_block (hg.block g1 (World.block_lt_of_cell? _ _ s1) (fun e => by injection e with e; omega))).trans s2; clear hg hd))
                    clear d1 d0 q1 q0 k1 k2 s1 s2
                    go_wp2
                    go_roundg (m - (q + 1))
                    case measure => omega
                    case rel => exact ⟨q + 1, x.set q _, _, by omega, rfl, by go_num, by rw [List.length_set]; exact hxl, grown_set HG.out hge2 _, HD.out.grown (row := some g1) (grown_set_any _ _ _ _) (fun i e => by cases e; omega), by omega, RW.set' hxl HW.out hlq _⟩
                  · have hqm : m = q := by omega
                    subst hqm
                    go_wp2_with (first
                      | (at_builtin; (refine wpList_append_row _ rfl (.tmp 77) (.tmp 79) 23 rfl w.heap.size wo.heap.size i42 Try.underlying23 HI.out.1 HI.out.2.1 HI.out.2.2.1 HI.out.2.2.2 _ l A C rfl (HB.out.kept HG.out hG) g1 cp1 m x hxl (by omega) HW.out (HB.out.fresh rfl hge) hzw rfl (by omega) (by omega) ?_); intro v' w3 A' C' hbd hgr; have hbge := fun i e => (World.ownsRow.lt (HB.out.kept HG.out hG).own i e).1; have HD := Lib.hid (HD.out.grown hgr (fun i e => by have := hbge i e; omega)); have HGG := Lib.hid (grown_new (grown_trans HGW.out HG.out) hgr hbge); have HBD := Lib.hid hbd; clear hgr hbd hbge))
                    go_roundg (n - (r + 1))
                    case measure => omega
                    case rel => exact ⟨r + 1, A', C', _, l ++ [x], by omega, rfl, by go_num, by rw [List.length_append, hl]; rfl, lens_snoc hl hlm hxl, HGG.out, HD.out, by omega, HBD.out⟩
              · have hy0' : ((y : Int) == 0) = false := by simp; omega
                go_wp2_with (first
                  | (at_builtin; (refine wpList_append_row _ rfl (.tmp 77) (.tmp 79) 23 rfl w.heap.size wo.heap.size i42 Try.underlying23 HI.out.1 HI.out.2.1 HI.out.2.2.1 HI.out.2.2.2 _ l A C rfl (HB.out.kept HG.out hG) g1 cp1 m x hxl (by omega) HW.out (HB.out.fresh rfl hge) hzw rfl (by omega) (by omega) ?_); intro v' w3 A' C' hbd hgr; have hbge := fun i e => (World.ownsRow.lt (HB.out.kept HG.out hG).own i e).1; have HD := Lib.hid (HD.out.grown hgr (fun i e => by have := hbge i e; omega)); have HGG := Lib.hid (grown_new (grown_trans HGW.out HG.out) hgr hbge); have HBD := Lib.hid hbd; clear hgr hbd hbge))
                go_roundg (n - (r + 1))
                case measure => omega
                case rel => exact ⟨r + 1, A', C', _, l ++ [x], by omega, rfl, by go_num, by rw [List.length_append, hl]; rfl, lens_snoc hl hlm hxl, HGG.out, HD.out, by omega, HBD.out⟩
    · have : r = n := by omega
      subst this
      go_wp2
      go_ret
      exact ⟨_, l, A, C, p', rfl, hl, hlm, hgw, hd, by omega, hB⟩

end Go.Proofs.Ytpimdgijjljejaa
end

section
namespace Go.Proofs.Ytpimdgijjljejaa
open Go.RowKit Go.Deep

theorem BD.inT {B : Nat} {w : World} {v : Value} {l : List (List Int)} {A : Nat → Option Addr} {C : Nat → Nat} (h : BD B w v l A C) : ∃ a cap, v = .slice a l.length cap ∧ InT B w.heap.size w a l := by
  by_cases h0 : 0 < l.length
  · obtain ⟨b, cap, cur, e, hb, hg, hc⟩ := h.top h0
    refine ⟨_, cap, e, fun _ => ⟨b, 0, A, fun r => ((A r).getD default).block, fun _ => 0, C, rfl, ⟨hb, (Array.getElem?_eq_some_iff.1 hg).1⟩, fun r hr => ⟨?_, fun h1 => ?_⟩⟩⟩
    · rw [Nat.zero_add]; simp [World.cell?, hg, hc r hr]
    · obtain ⟨g, e, hB, hw⟩ := h.row hr
      have e' : ((A r).getD default).block = g := by rw [e]; rfl
      dsimp only
      rw [e']
      exact ⟨e, ⟨hB, hw.lt⟩, fun i hi => by rw [Nat.zero_add]; exact hw.cell hi⟩
  · rcases h.own.2 with ⟨hv, hn⟩ | ⟨g, cap, cur, e, _⟩
    · exact ⟨none, 0, by rw [hv, hn], fun h => absurd h h0⟩
    · exact ⟨_, cap, e, fun h => absurd h h0⟩

theorem BD.row_ne {B : Nat} {w : World} {l : List (List Int)} {A : Nat → Option Addr} {C : Nat → Nat} {b cap n : Nat} (h : BD B w (.slice (some ⟨b, 0, none⟩) n cap) l A C) {g : Nat} {x : List Int} (hw : RowB w g x) : g ≠ b := by
  rintro rfl
  obtain ⟨cs, hc, _⟩ := hw
  rcases h.own.2 with ⟨e, _⟩ | ⟨g', cap', cur, e, _, hgg, _⟩
  · cases e
  · injection e with e
    injection e with e
    injection e with e
    rw [← e, hc] at hgg
    injection hgg with hgg
    injection hgg with _ e2 _
    exact absurd e2 (by decide)

theorem BD.addr_ne {B : Nat} {w : World} {v : Value} {l : List (List Int)} {A : Nat → Option Addr} {C : Nat → Nat} (h : BD B w v l A C) {r j g g' : Nat} (hr : r < l.length) (hj : j < l.length) (hA : A r = some ⟨g, 0, none⟩) (hA' : A j = some ⟨g', 0, none⟩) (hne : j ≠ r) : g' ≠ g := by
  rintro rfl
  exact hne (h.apart j r hj hr (by rw [hA, hA']))

theorem BD.cellTop {B : Nat} {w : World} {l : List (List Int)} {A : Nat → Option Addr} {C : Nat → Nat} {b cap n : Nat} (h : BD B w (.slice (some ⟨b, 0, none⟩) n cap) l A C) {r : Nat} (hr : r < l.length) :
    w.cell? ⟨b, r, none⟩ = some (.slice (A r) (l.getD r []).length (C r)) ∧ w.frozen? ⟨b, r, none⟩ = false ∧ b < w.heap.size := by
  obtain ⟨b', cp', cur, hv, _, hcur, hc⟩ := h.top (by omega)
  injection hv with hv _ _
  injection hv with hv
  injection hv with hv
  subst hv
  exact ⟨by simp [World.cell?, hcur, hc r hr], by simp [World.frozen?, hcur], (Array.getElem?_eq_some_iff.1 hcur).1⟩

theorem BD.setRow {B : Nat} {w w5 : World} {l : List (List Int)} {A : Nat → Option Addr} {C : Nat → Nat} {b cap n : Nat} (h : BD B w (.slice (some ⟨b, 0, none⟩) n cap) l A C) {r g : Nat} (hr : r < l.length) (hA : A r = some ⟨g, 0, none⟩) (hg : w.grownBy w5 (some g)) {g2 cp k : Nat} {y : List Int}
    (hy : RW B w5 (.slice (some ⟨g2, 0, none⟩) k cp) y) (hk : y.length = k) (h0 : 0 < k) : InT B w5.heap.size (w5.setCell ⟨b, r, none⟩ (.slice (some ⟨g2, 0, none⟩) k cp)) (some ⟨b, 0, none⟩) (l.set r y) := by
  subst hk
  obtain ⟨b', cap', cur, e, hb, hcur, hc⟩ := h.top (by omega)
  injection e with e en _
  injection e with e
  injection e with e
  subst e
  obtain ⟨g', hA', hBg, hrb⟩ := h.row hr
  rw [hA] at hA'
  injection hA' with hA'
  injection hA' with hA'
  subst hA'
  have hgb := h.row_ne hrb
  have hbl : b < w.heap.size := (Array.getElem?_eq_some_iff.1 hcur).1
  have hcur5 : w5.heap[b]? = some (.cells cur 43 (0, 0)) := (hg.block b hbl (fun e => by injection e with e; omega)).trans hcur
  obtain ⟨hB2, hrb2⟩ := hy.rowB h0
  have hg2b : g2 ≠ b := by
    rintro rfl
    obtain ⟨cs, h1, _⟩ := hrb2
    rw [h1] at hcur5
    injection hcur5 with h2
    injection h2 with _ h2 _
    exact absurd h2 (by decide)
  have hbl5 : b < w5.heap.size := (Array.getElem?_eq_some_iff.1 hcur5).1
  intro _
  refine ⟨b, 0, fun j => if j = r then some ⟨g2, 0, none⟩ else A j, fun j => if j = r then g2 else ((A j).getD default).block, fun _ => 0, fun j => if j = r then cp else C j, rfl, ⟨hb, hbl5⟩, fun j hj => ?_⟩
  rw [List.length_set] at hj
  show (w5.setCell ⟨b, r, none⟩ _).cell? ⟨b, 0 + j, none⟩ = _ ∧ _
  rw [Nat.zero_add]
  by_cases ej : j = r
  · subst ej
    have e1 : (l.set j y).getD j [] = y := by simp [List.getD, hj]
    rw [e1]
    simp only [↓reduceIte]
    refine ⟨World.cell?_setCell_same' _ _ _ (by simp [World.cell?, hcur5, hc j hj]), fun _ => ⟨trivial, ⟨hB2, hrb2.lt⟩, fun i hi => ?_⟩⟩
    rw [Nat.zero_add]
    exact cell_set_far (hrb2.cell hi) hg2b
  · have e1 : (l.set r y).getD j [] = l.getD j [] := by simp [List.getD, List.getElem?_set_ne (Ne.symm ej)]
    rw [e1]
    simp only [if_neg ej]
    obtain ⟨gj, hAj, hBj, hrbj⟩ := h.row hj
    have hgj := h.addr_ne hr hj hA hAj ej
    have hrb5 : RowB w5 gj (l.getD j []) := hrbj.of_block (hg.block gj hrbj.lt (fun e => by injection e with e; omega))
    have hgjb := h.row_ne hrbj
    refine ⟨?_, fun _ => ?_⟩
    · rw [World.cell?_setCell_other _ _ _ _ (fun e => ej (by injection e with _ e; exact e.symm))]
      simp [World.cell?, hcur5, hc j hj]
    · have e' : ((A j).getD default).block = gj := by rw [hAj]; rfl
      rw [e']
      exact ⟨hAj, ⟨hBj, hrb5.lt⟩, fun i hi => by rw [Nat.zero_add]; exact cell_set_far (hrb5.cell hi) hgjb⟩

theorem BD.setNum {B : Nat} {w : World} {l : List (List Int)} {A : Nat → Option Addr} {C : Nat → Nat} {b cap n : Nat} (h : BD B w (.slice (some ⟨b, 0, none⟩) n cap) l A C) {r g k : Nat} (hr : r < l.length) (hA : A r = some ⟨g, 0, none⟩) (hk : k < (l.getD r []).length) (z : Int) :
    InT B w.heap.size (w.setCell ⟨g, k, none⟩ (.int .i64 z)) (some ⟨b, 0, none⟩) (l.set r ((l.getD r []).set k z)) := by
  obtain ⟨b', cap', cur, e, hb, hcur, hc⟩ := h.top (by omega)
  injection e with e en _
  injection e with e
  injection e with e
  subst e
  obtain ⟨g', hA', hBg, hrb⟩ := h.row hr
  rw [hA] at hA'
  injection hA' with hA'
  injection hA' with hA'
  subst hA'
  have hgb := h.row_ne hrb
  intro _
  refine ⟨b, 0, A, fun j => ((A j).getD default).block, fun _ => 0, C, rfl, ⟨hb, (Array.getElem?_eq_some_iff.1 hcur).1⟩, fun j hj => ?_⟩
  rw [List.length_set] at hj
  show (w.setCell ⟨g, k, none⟩ _).cell? ⟨b, 0 + j, none⟩ = _ ∧ _
  rw [Nat.zero_add]
  have hlen : ((l.set r ((l.getD r []).set k z)).getD j []).length = (l.getD j []).length := by
    by_cases ej : j = r
    · subst ej; simp [List.getD, hj]
    · simp [List.getD, List.getElem?_set_ne (Ne.symm ej)]
  rw [hlen]
  refine ⟨cell_set_far (by simp [World.cell?, hcur, hc j hj]) (Ne.symm hgb), fun _ => ?_⟩
  obtain ⟨gj, hAj, hBj, hrbj⟩ := h.row hj
  have e' : ((A j).getD default).block = gj := by rw [hAj]; rfl
  dsimp only
  rw [e']
  refine ⟨hAj, ⟨hBj, hrbj.lt⟩, fun i hi => ?_⟩
  rw [Nat.zero_add]
  by_cases ej : j = r
  · subst ej
    rw [hA] at hAj
    injection hAj with hAj
    injection hAj with hAj
    subst hAj
    have e1 : (l.set j ((l.getD j []).set k z)).getD j [] = (l.getD j []).set k z := by simp [List.getD, hj]
    rw [e1]
    by_cases ei : i = k
    · subst ei
      rw [World.cell?_setCell_same' _ _ _ (by rw [hrbj.cell hi]; rfl)]
      simp [List.getD] at hi ⊢
      simp [hi]
    · rw [World.cell?_setCell_other _ _ _ _ (fun e => ei (by injection e with _ e; exact e.symm)), hrbj.cell hi]
      simp [List.getD, List.getElem?_set_ne (Ne.symm ei)]
  · have hgj := h.addr_ne hr hj hA hAj ej
    have e1 : (l.set r ((l.getD r []).set k z)).getD j [] = l.getD j [] := by simp [List.getD, List.getElem?_set_ne (Ne.symm ej)]
    rw [e1]
    exact cell_set_far (hrbj.cell hi) hgj

theorem InT.kept {lo hi : Nat} {w w' : World} {a : Option Addr} {l : List (List Int)} {G : Nat} (h : InT lo hi w a l) (hg : w.grownBy w' (some G)) (hG : G < lo) : InT lo hi w' a l :=
  h.frame (lo' := G) (hi' := G + 1) ⟨hg.os, hg.tape, hg.output, hg.size, fun k hk ho => hg.block k hk (fun e => by injection e with e; omega)⟩ (.inr (by omega))

end Go.Proofs.Ytpimdgijjljejaa
end

section
namespace Go.Proofs.Ytpimdgijjljejaa
open Go.RowKit Go.Deep

structure AB (lo : Nat) (w : World) (b n : Nat) (G C : Nat → Nat) (f : Nat → Nat → Int) : Prop where
  top : ∀ r, r < n → w.cell? ⟨b, r, none⟩ = some (.slice (some ⟨G r, 0, none⟩) n (C r))
  ent : ∀ r k, r < n → k < n → w.cell? ⟨G r, k, none⟩ = some (.int .i64 (f r k)) ∧ w.frozen? ⟨G r, k, none⟩ = false
  low : lo ≤ b ∧ b < w.heap.size
  row : ∀ r, r < n → lo ≤ G r ∧ G r < w.heap.size ∧ G r ≠ b
  apart : ∀ r s, r < n → s < n → r ≠ s → G r ≠ G s

theorem AB.of {B : Nat} {w : World} {l : List (List Int)} {A : Nat → Option Addr} {C : Nat → Nat} {b cap n : Nat} (h : BD B w (.slice (some ⟨b, 0, none⟩) n cap) l A C) (hl : l.length = n) (hlm : ∀ j, j < n → (l.getD j []).length = n) (hb : B ≤ b) (h1 : 1 ≤ n) :
    AB B w b n (fun j => ((A j).getD default).block) C (at2 l) := by
  refine ⟨fun r hr => ?_, fun r k hr hk => ?_, ⟨hb, ?_⟩, fun r hr => ?_, fun r s hr hs hne => ?_⟩
  · obtain ⟨c1, _, _⟩ := h.cellTop (r := r) (by omega)
    obtain ⟨g, hA, _, _⟩ := h.row (r := r) (by omega)
    rw [c1, hlm r hr, hA]
    rfl
  · obtain ⟨g, hA, _, hrb⟩ := h.row (r := r) (by omega)
    show w.cell? ⟨((A r).getD default).block, k, none⟩ = _ ∧ w.frozen? ⟨((A r).getD default).block, k, none⟩ = _
    rw [hA]
    exact ⟨hrb.cell (by rw [hlm r hr]; exact hk), hrb.frozen k⟩
  · exact (h.cellTop (r := 0) (by omega)).2.2
  · obtain ⟨g, hA, hB, hrb⟩ := h.row (r := r) (by omega)
    show B ≤ ((A r).getD default).block ∧ ((A r).getD default).block < _ ∧ ((A r).getD default).block ≠ b
    rw [hA]
    exact ⟨hB, hrb.lt, h.row_ne hrb⟩
  · obtain ⟨g, hA, _, _⟩ := h.row (r := r) (by omega)
    obtain ⟨g2, hA2, _, _⟩ := h.row (r := s) (by omega)
    have := h.addr_ne (by omega) (by omega) hA hA2 (Ne.symm hne)
    show ((A r).getD default).block ≠ ((A s).getD default).block
    rw [hA, hA2]
    exact this.symm
theorem AB.set {lo : Nat} {w : World} {b n : Nat} {G C : Nat → Nat} {f : Nat → Nat → Int} (h : AB lo w b n G C f) {r k : Nat} (hr : r < n) (hk : k < n) (v : Int) :
    AB lo (w.setCell ⟨G r, k, none⟩ (.int .i64 v)) b n G C (fun i j => if i = r ∧ j = k then v else f i j) := by
  have hs : (w.setCell ⟨G r, k, none⟩ (.int .i64 v)).heap.size = w.heap.size := by simp
  refine ⟨fun s h1 => cell_set_far (h.top s h1) (h.row r hr).2.2.symm, fun s j h1 h2 => ⟨?_, by rw [World.frozen?_setCell]; exact (h.ent s j h1 h2).2⟩, by rw [hs]; exact h.low, fun s h1 => by rw [hs]; exact h.row s h1, h.apart⟩
  by_cases e : s = r
  · subst e
    by_cases e2 : j = k
    · subst e2
      rw [World.cell?_setCell_same w _ _ (h.ent s j h1 h2).1, if_pos ⟨rfl, rfl⟩]
    · rw [World.cell?_setCell_other _ _ _ _ (by intro h; simp only [Addr.mk.injEq] at h; omega), if_neg (by omega)]
      exact (h.ent s j h1 h2).1
  · rw [if_neg (by omega)]
    exact cell_set_far (h.ent s j h1 h2).1 (h.apart s r h1 hr e)
theorem AB.inT {lo : Nat} {w : World} {b n : Nat} {G C : Nat → Nat} {f : Nat → Nat → Int} (h : AB lo w b n G C f) : InT lo w.heap.size w (some ⟨b, 0, none⟩) (tabF n n f) := by
  intro _
  have hl : ∀ r, r < n → ((tabF n n f).getD r []).length = n := fun r hr => tabF_len _ _ _ _ hr
  refine ⟨b, 0, fun r => some ⟨G r, 0, none⟩, G, fun _ => 0, C, rfl, h.low, fun r hr => ?_⟩
  rw [tabF_length] at hr
  rw [hl r hr, Nat.zero_add]
  refine ⟨h.top r hr, fun _ => ⟨rfl, ⟨(h.row r hr).1, (h.row r hr).2.1⟩, fun i hi => ?_⟩⟩
  rw [Nat.zero_add, (h.ent r i hr hi).1]
  have := tabF_at n n f r i hr hi
  unfold at2 at this
  rw [this]
theorem AB.kept {lo G0 : Nat} {w W : World} {b n : Nat} {G C : Nat → Nat} {f : Nat → Nat → Int} (h : AB lo w b n G C f) (hg : w.grownBy W (some G0)) (h0 : G0 < lo) : AB lo W b n G C f := by
  have kp : ∀ g, lo ≤ g → g < w.heap.size → ∀ k, W.cell? ⟨g, k, none⟩ = w.cell? ⟨g, k, none⟩ ∧ W.frozen? ⟨g, k, none⟩ = w.frozen? ⟨g, k, none⟩ := fun g g1 g2 k => by
    have e := hg.block g g2 (fun e => by injection e; omega)
    constructor
    · simp only [World.cell?, e]
    · simp only [World.frozen?, e]
  have hz := hg.size
  refine ⟨fun r hr => ((kp b h.low.1 h.low.2 r).1).trans (h.top r hr), fun r k hr hk => ?_, ⟨h.low.1, by have := h.low.2; omega⟩, fun r hr => ?_, h.apart⟩
  · obtain ⟨r1, r2, _⟩ := h.row r hr
    obtain ⟨e1, e2⟩ := h.ent r k hr hk
    exact ⟨((kp _ r1 r2 k).1).trans e1, ((kp _ r1 r2 k).2).trans e2⟩
  · obtain ⟨r1, r2, r3⟩ := h.row r hr
    exact ⟨r1, by omega, r3⟩

end Go.Proofs.Ytpimdgijjljejaa
end

section
namespace Go.Proofs.Ytpimdgijjljejaa
open Go.RowKit Go.Deep

def Drawn0 (w w' : World) (R K : Nat) (a : Option Addr) (l : List (List Int)) : Prop :=
  1 ≤ l.length ∧ l.length ≤ R ∧ (∀ j, j < l.length → 1 ≤ (l.getD j []).length ∧ (l.getD j []).length ≤ K + 1) ∧ InT w.heap.size w'.heap.size w' a l

theorem lens_set {l : List (List Int)} {r : Nat} {y : List Int} {n m K : Nat} (hl : l.length = n) (h : ∀ j, j < n → (l.getD j []).length = m) (hm : 1 ≤ m ∧ m ≤ K) (hy : 1 ≤ y.length ∧ y.length ≤ K + 1) : ∀ j, j < (l.set r y).length → 1 ≤ ((l.set r y).getD j []).length ∧ ((l.set r y).getD j []).length ≤ K + 1 := by
  intro j hj
  rw [List.length_set] at hj
  by_cases e : j = r
  · subst e
    rw [show (l.set j y).getD j [] = y by simp [List.getD, hj]]
    exact hy
  · rw [show (l.set r y).getD j [] = l.getD j [] by simp [List.getD, List.getElem?_set_ne (Ne.symm e)], h j (by omega)]
    omega

end Go.Proofs.Ytpimdgijjljejaa
end

section
namespace Go.Proofs.Ytpimdgijjljejaa
open Go.RowKit Go.Deep

set_option maxHeartbeats 1000000 in
theorem l6Open_any (a : Option Addr) (nb cb : Nat) (w : World) (hc : nb ≤ cb) (h63 : cb ≤ 9223372036854775807) (hb : BytR w a nb) :
    Calls Try.prog 27 #[.slice a nb cb] w fun e w' => ∃ n' c', e = .returned (.pointer (some ⟨w.heap.size, 0, none⟩)) ∧ w.Since w.heap.size w' ∧ w'.heap.size = w.heap.size + 1 ∧ RD w w' w.heap.size a n' c' 57 0 := by
  by_cases hl : 2000 < nb
  · have hl' : decide ((2000 : Int) < (nb : Int)) = true := by simp; omega
    have h2 : (2000 : Int) ≤ (cb : Int) := by omega
    obtain ⟨b, o, rfl, hcell⟩ := hb (by omega)
    go_enter Try.func27, Try.ntmps27
    go_wp2
    go_ret
    exact ⟨_, _, rfl, (World.Since.refl _ _).alloc (Nat.le_refl _) _, by simp, ⟨heap_alloc_new _ _, Nat.le_refl _, (World.Since.refl _ _).alloc (Nat.le_refl _) _, fun _ => ⟨b, o, rfl, fun i hi => hcell i (by omega)⟩, by omega⟩⟩
  · have hl' : decide ((2000 : Int) < (nb : Int)) = false := by simp; omega
    go_enter Try.func27, Try.ntmps27
    go_wp2
    go_ret
    exact ⟨_, _, rfl, (World.Since.refl _ _).alloc (Nat.le_refl _) _, by simp, ⟨heap_alloc_new _ _, Nat.le_refl _, (World.Since.refl _ _).alloc (Nat.le_refl _) _, hb, by omega⟩⟩

def DrawnT (w w' : World) (R K : Nat) (a : Option Addr) (l : List (List Int)) : Prop :=
  1 ≤ l.length ∧ l.length ≤ R ∧ (∀ j, j < l.length → 1 ≤ (l.getD j []).length ∧ (l.getD j []).length ≤ K + 1) ∧ InT w.heap.size w'.heap.size w' a l

end Go.Proofs.Ytpimdgijjljejaa
end

section
namespace Go.Proofs.Ytpimdgijjljejaa
open Go.RowKit Go.Deep

theorem grown_drewA {w w' : World} {row : Option Nat} (h : w.grownBy w' row) : w.grownBy w'.drew row := ⟨h.os, h.tape, h.output, h.size, h.block⟩
theorem AB.drew {lo : Nat} {w : World} {b n : Nat} {G C : Nat → Nat} {f : Nat → Nat → Int} (h : AB lo w b n G C f) : AB lo w.drew b n G C f := ⟨h.top, h.ent, h.low, h.row, h.apart⟩
theorem AB.drawn {w w' : World} {b n R : Nat} {G C : Nat → Nat} {f : Nat → Nat → Int} {lo : Nat} (h : AB lo w' b n G C f) (h0 : w.heap.size ≤ lo) (h1 : 1 ≤ n) (hR : n ≤ R) : Drawn0 w w' R R (some ⟨b, 0, none⟩) (tabF n n f) :=
  ⟨by rw [tabF_length]; exact h1, by rw [tabF_length]; exact hR, fun j hj => by rw [tabF_length] at hj; rw [tabF_len _ _ _ _ hj]; omega, h.inT.mono h0 (Nat.le_refl _)⟩

theorem about_n (y R : Nat) (h4 : 4 ≤ R) (hR : R ≤ 6) (hy : y < 2) : ∃ r m n : Nat, (1 ≤ n ∧ n ≤ R) ∧ IntKind.i64.wrap ((R : Int) - 4) = (r : Int) ∧ IntKind.i64.wrap ((y : Int) * (r : Int)) = (m : Int) ∧ IntKind.i64.wrap (4 + (m : Int)) = (n : Int) := by
  have h1 : R = 4 ∨ R = 5 ∨ R = 6 := by omega
  have h2 : y = 0 ∨ y = 1 := by omega
  rcases h1 with rfl | rfl | rfl <;> rcases h2 with rfl | rfl
  · exact ⟨0, 0, 4, by decide, by decide, by decide, by decide⟩
  · exact ⟨0, 0, 4, by decide, by decide, by decide, by decide⟩
  · exact ⟨1, 0, 4, by decide, by decide, by decide, by decide⟩
  · exact ⟨1, 1, 5, by decide, by decide, by decide, by decide⟩
  · exact ⟨2, 0, 4, by decide, by decide, by decide, by decide⟩
  · exact ⟨2, 2, 6, by decide, by decide, by decide, by decide⟩

set_option maxRecDepth 100000 in
set_option maxHeartbeats 4000000 in
theorem l91About_any (w0 w : World) (G nb c p R : Nat) (a : Option Addr) (h : RD w0 w G a nb c 57 p) (hR4 : 4 ≤ R) (hR : R ≤ 6) (hp : p ≤ 40000) :
    Calls Try.prog 30 #[.pointer (some ⟨G, 0, none⟩), .int .i64 R] w fun e w' => ∃ a' cap l p', e = .returned (.slice a' l.length cap) ∧ w.grownBy w' (some G) ∧ RD w0 w' G a nb c 57 p' ∧ p' ≤ p + 1200 ∧ Drawn0 w w' R R a' l := by
  have hG := h.lt
  have HRD := Lib.hid h
  clear h
  have hmost : decide ((3 : Int) < (R : Int)) = true := by simp; omega
  go_enter Try.func30, Try.ntmps30
  go_wp2_with fail
  refine (pick_any w0 _ G nb c _ a _ HRD.out (by omega)).mono ?_
  rintro e w1 ⟨y1, rfl, hy1, hg1, hd1⟩
  obtain ⟨n1, hn, hnn⟩ : ∃ n : Nat, IntKind.i64.wrap (1 + (y1 : Int)) = n ∧ n = y1 + 1 := ⟨y1 + 1, (IntWalk.i64_in _ ⟨by omega, by omega⟩).trans (by omega), rfl⟩
  have hn1 : 1 ≤ n1 ∧ n1 ≤ R := by omega
  have HD1 := Lib.hid hd1
  have HG1 := Lib.hid hg1
  clear hd1 hg1 hnn hy1 HRD
  go_wp2_with fail
  refine (pick_any w0 _ G nb c _ a _ HD1.out (by omega)).mono ?_
  rintro e w2 ⟨y2, rfl, hy2, hg2, hd2⟩
  have HD2 := Lib.hid hd2
  have HG2 := Lib.hid (grown_trans HG1.out hg2)
  clear hd2 hg2 HD1 HG1
  by_cases h0 : y2 = 0
  · subst h0
    go_wp2_with fail
    refine (pick_any w0 _ G nb c _ a _ HD2.out (by omega)).mono ?_
    rintro e w3 ⟨y3, rfl, hy3, hg3, hd3⟩
    obtain ⟨r4, m, n, hn5, hwa, hwb, hwc⟩ := about_n y3 R hR4 hR (by omega)
    have HD3 := Lib.hid hd3
    have HG3 := Lib.hid (grown_trans HG2.out hg3)
    clear hd3 hg3 HD2 HG2 hn hy3
    go_wp2_with fail
    refine (l91Table_any w0 _ G nb c _ n n a HD3.out (by omega) (by omega) (by omega) (by omega)).mono ?_
    rintro e w4 ⟨v, l, A, C, p4, rfl, hl, hlm, hg4, hd4, hp4, hB⟩
    obtain ⟨b, cp, cur, hv, hbb, hcur, hc⟩ := hB.top (by omega)
    rw [hl] at hv
    subst hv
    have hAB := AB.of hB hl hlm hbb (by omega)
    obtain ⟨GB, hGB⟩ : ∃ GB : Nat → Nat, (fun j => ((A j).getD default).block) = GB := ⟨_, rfl⟩
    rw [hGB] at hAB
    have HAB := Lib.hid hAB
    have HD4 := Lib.hid hd4
    have HG4 := Lib.hid (grown_trans HG3.out hg4)
    have hzk := HG3.out.size
    clear hd4 hg4 hcur hc hB hGB hAB HD3 HG3 hl hlm hbb
    go_wp2
    go_loopg [7, 8] n (fun g i _ wr => ∃ r : Nat, r ≤ n ∧ g = n - r ∧ i = .int .i64 r ∧ ∃ f, AB w3.heap.size wr b n GB C f ∧ w.grownBy wr (some G) ∧ RD w0 wr G a nb c 57 p4)
    case atStart => exact ⟨0, Nat.zero_le _, rfl, rfl, _, HAB.out, HG4.out, HD4.out⟩
    case round =>
      obtain ⟨r, hr, rfl, rfl, f, hF, hGr, hDr⟩ := hrel
      clear HAB HG4 HD4
      by_cases hlt : r < n
      · have t1 := hF.top r hlt
        obtain ⟨t2, t3⟩ := hF.ent r r hlt hlt
        obtain ⟨r1, r2, r3⟩ := hF.row r hlt
        have HF := Lib.hid (hF.set hlt hlt 0)
        have HGS := Lib.hid (grown_set hGr (show w.heap.size ≤ GB r by omega) (k := r) (.int .i64 0))
        have HDS := Lib.hid (hDr.grown (grown_set_any wr (GB r) r (.int .i64 0)) (fun i e => by cases e; omega))
        clear hF hGr hDr
        go_wp2
        clear t1 t2 t3 r1 r2 r3
        go_loopg [8] r (fun g k wi => ∃ k0 : Nat, k0 ≤ r ∧ g = r - k0 ∧ k = .int .i64 k0 ∧ ∃ f, AB w3.heap.size wi b n GB C f ∧ w.grownBy wi (some G) ∧ RD w0 wi G a nb c 57 p4)
        case atStart => exact ⟨0, Nat.zero_le _, rfl, rfl, _, HF.out, HGS.out, HDS.out⟩
        case round =>
          obtain ⟨k0, hk, rfl, rfl, f2, hF, hGr, hDr⟩ := hrel
          clear HF HGS HDS
          by_cases hkr : k0 < r
          · have t1 := hF.top r hlt
            have t2 := hF.top k0 (by omega)
            obtain ⟨e1, _⟩ := hF.ent k0 r (by omega) hlt
            obtain ⟨_, e4⟩ := hF.ent r k0 hlt (by omega)
            obtain ⟨e3, _⟩ := hF.ent r k0 hlt (by omega)
            obtain ⟨r1, r2, r3⟩ := hF.row r hlt
            have hap := hF.apart k0 r (by omega) hlt (by omega)
            obtain ⟨y, hy⟩ : ∃ y, f2 k0 r = y := ⟨_, rfl⟩
            rw [hy] at e1
            obtain ⟨z, hz1⟩ : ∃ z, IntKind.i64.wrap (0 - y) = z := ⟨_, rfl⟩
            have hz2 : IntKind.i64.wrap (-y) = z := by rw [← hz1, Int.zero_sub]
            have HF := Lib.hid (hF.set hlt (show k0 < n by omega) z).drew
            have HGS := Lib.hid (grown_drewA (grown_set hGr (show w.heap.size ≤ GB r by omega) (k := k0) (.int .i64 z)))
            have HDS := Lib.hid (hDr.grown (grown_drewA (grown_set_any _ (GB r) k0 (.int .i64 z))) (fun i e => by cases e; omega))
            obtain ⟨g1, hg1⟩ : ∃ g, GB r = g := ⟨_, rfl⟩
            obtain ⟨g2, hg2⟩ : ∃ g, GB k0 = g := ⟨_, rfl⟩
            rw [hg1] at t1 e3 e4 r1 r2 r3 hap HF HGS HDS
            rw [hg2] at t2 e1 hap
            have hkn : k0 < n := by omega
            have m1 := cell_set_far (g := g1) (j := k0) (v := .int .i64 z) t1 (show b ≠ g1 from fun e => r3 e.symm)
            have m2 := cell_set_far (g := g1) (j := k0) (v := .int .i64 z) t2 (show b ≠ g1 from fun e => r3 e.symm)
            have m3 := cell_set_far (g := g1) (j := k0) (v := .int .i64 z) e1 (show g2 ≠ g1 from hap)
            clear hF hGr hDr hy hg1 hg2
            go_wp2
            go_region_held3 (fun w' => w'.cell? ⟨b, r, none⟩ = some (.slice (some ⟨g1, 0, none⟩) n (C r)) ∧ w'.cell? ⟨b, k0, none⟩ = some (.slice (some ⟨g2, 0, none⟩) n (C k0)) ∧ w'.cell? ⟨g2, r, none⟩ = some (.int .i64 y)) (go_keep) (fail)
            all_goals
              go_wp2
              go_roundg (r - (k0 + 1))
              case measure => omega
              case rel => exact ⟨k0 + 1, by omega, rfl, by go_num, _, HF.out, HGS.out, HDS.out⟩
          · have : k0 = r := by omega
            subst this
            have HF := Lib.hid hF
            have HGS := Lib.hid hGr
            have HDS := Lib.hid hDr
            clear hF hGr hDr
            go_wp2
            go_roundg (n - (k0 + 1))
            case measure => omega
            case rel => exact ⟨k0 + 1, by omega, rfl, by go_num, _, HF.out, HGS.out, HDS.out⟩
      · have : r = n := by omega
        subst this
        have HF := Lib.hid hF
        have HGr := Lib.hid hGr
        have HDr := Lib.hid hDr
        have hz4 := hGr.size
        clear hF hGr hDr
        go_wp2_with fail
        refine (pick_any w0 _ G nb c _ a _ HDr.out (by omega)).mono ?_
        rintro e w5 ⟨y5, rfl, hy5, hg5, hd5⟩
        have hF5 := HF.out.kept hg5 (by omega)
        have HG5 := Lib.hid (grown_trans HGr.out hg5)
        have HD5 := Lib.hid hd5
        clear hg5 hd5 HF HGr HDr
        by_cases h5 : y5 = 0
        · subst h5
          have t1 := hF5.top 0 (by omega)
          obtain ⟨t2, t3⟩ := hF5.ent 0 0 (by omega) (by omega)
          obtain ⟨r1, r2, r3⟩ := hF5.row 0 (by omega)
          have HF := Lib.hid (hF5.set (r := 0) (k := 0) (by omega) (by omega) 1)
          have HGS := Lib.hid (grown_set HG5.out (show w.heap.size ≤ GB 0 by omega) (k := 0) (.int .i64 1))
          have HDS := Lib.hid (HD5.out.grown (grown_set_any w5 (GB 0) 0 (.int .i64 1)) (fun i e => by cases e; omega))
          clear hF5
          go_wp2
          go_ret
          exact ⟨_, cp, _, _, by rw [tabF_length]; rfl, HGS.out, HDS.out, by omega, HF.out.drawn (by omega) (by omega) (by omega)⟩
        · have hz5 : ((y5 : Int) == 0) = false := by simp; omega
          have HF := Lib.hid hF5
          clear hF5
          go_wp2
          go_ret
          exact ⟨_, cp, _, _, by rw [tabF_length]; rfl, HG5.out, HD5.out, by omega, HF.out.drawn (by omega) (by omega) (by omega)⟩
  · have hz : ((y2 : Int) == 0) = false := by simp; omega
    go_wp2_with fail
    obtain ⟨n, rfl⟩ : ∃ n, n = n1 := ⟨_, rfl⟩
    have HD3 := HD2
    have HG3 := HG2
    clear HD2 HG2
    refine (l91Table_any w0 _ G nb c _ n n a HD3.out (by omega) (by omega) (by omega) (by omega)).mono ?_
    rintro e w4 ⟨v, l, A, C, p4, rfl, hl, hlm, hg4, hd4, hp4, hB⟩
    obtain ⟨b, cp, cur, hv, hbb, hcur, hc⟩ := hB.top (by omega)
    rw [hl] at hv
    subst hv
    have hAB := AB.of hB hl hlm hbb (by omega)
    obtain ⟨GB, hGB⟩ : ∃ GB : Nat → Nat, (fun j => ((A j).getD default).block) = GB := ⟨_, rfl⟩
    rw [hGB] at hAB
    have HAB := Lib.hid hAB
    have HD4 := Lib.hid hd4
    have HG4 := Lib.hid (grown_trans HG3.out hg4)
    have hzk := HG3.out.size
    clear hd4 hg4 hcur hc hB hGB hAB HD3 HG3 hl hlm hbb
    go_wp2
    go_loopg [7, 8] n (fun g i _ wr => ∃ r : Nat, r ≤ n ∧ g = n - r ∧ i = .int .i64 r ∧ ∃ f, AB w2.heap.size wr b n GB C f ∧ w.grownBy wr (some G) ∧ RD w0 wr G a nb c 57 p4)
    case atStart => exact ⟨0, Nat.zero_le _, rfl, rfl, _, HAB.out, HG4.out, HD4.out⟩
    case round =>
      obtain ⟨r, hr, rfl, rfl, f, hF, hGr, hDr⟩ := hrel
      clear HAB HG4 HD4
      by_cases hlt : r < n
      · have t1 := hF.top r hlt
        obtain ⟨t2, t3⟩ := hF.ent r r hlt hlt
        obtain ⟨r1, r2, r3⟩ := hF.row r hlt
        have HF := Lib.hid (hF.set hlt hlt 0)
        have HGS := Lib.hid (grown_set hGr (show w.heap.size ≤ GB r by omega) (k := r) (.int .i64 0))
        have HDS := Lib.hid (hDr.grown (grown_set_any wr (GB r) r (.int .i64 0)) (fun i e => by cases e; omega))
        clear hF hGr hDr
        go_wp2
        clear t1 t2 t3 r1 r2 r3
        go_loopg [8] r (fun g k wi => ∃ k0 : Nat, k0 ≤ r ∧ g = r - k0 ∧ k = .int .i64 k0 ∧ ∃ f, AB w2.heap.size wi b n GB C f ∧ w.grownBy wi (some G) ∧ RD w0 wi G a nb c 57 p4)
        case atStart => exact ⟨0, Nat.zero_le _, rfl, rfl, _, HF.out, HGS.out, HDS.out⟩
        case round =>
          obtain ⟨k0, hk, rfl, rfl, f2, hF, hGr, hDr⟩ := hrel
          clear HF HGS HDS
          by_cases hkr : k0 < r
          · have t1 := hF.top r hlt
            have t2 := hF.top k0 (by omega)
            obtain ⟨e1, _⟩ := hF.ent k0 r (by omega) hlt
            obtain ⟨_, e4⟩ := hF.ent r k0 hlt (by omega)
            obtain ⟨e3, _⟩ := hF.ent r k0 hlt (by omega)
            obtain ⟨r1, r2, r3⟩ := hF.row r hlt
            have hap := hF.apart k0 r (by omega) hlt (by omega)
            obtain ⟨y, hy⟩ : ∃ y, f2 k0 r = y := ⟨_, rfl⟩
            rw [hy] at e1
            obtain ⟨z, hz1⟩ : ∃ z, IntKind.i64.wrap (0 - y) = z := ⟨_, rfl⟩
            have hz2 : IntKind.i64.wrap (-y) = z := by rw [← hz1, Int.zero_sub]
            have HF := Lib.hid (hF.set hlt (show k0 < n by omega) z).drew
            have HGS := Lib.hid (grown_drewA (grown_set hGr (show w.heap.size ≤ GB r by omega) (k := k0) (.int .i64 z)))
            have HDS := Lib.hid (hDr.grown (grown_drewA (grown_set_any _ (GB r) k0 (.int .i64 z))) (fun i e => by cases e; omega))
            obtain ⟨g1, hg1⟩ : ∃ g, GB r = g := ⟨_, rfl⟩
            obtain ⟨g2, hg2⟩ : ∃ g, GB k0 = g := ⟨_, rfl⟩
            rw [hg1] at t1 e3 e4 r1 r2 r3 hap HF HGS HDS
            rw [hg2] at t2 e1 hap
            have hkn : k0 < n := by omega
            have m1 := cell_set_far (g := g1) (j := k0) (v := .int .i64 z) t1 (show b ≠ g1 from fun e => r3 e.symm)
            have m2 := cell_set_far (g := g1) (j := k0) (v := .int .i64 z) t2 (show b ≠ g1 from fun e => r3 e.symm)
            have m3 := cell_set_far (g := g1) (j := k0) (v := .int .i64 z) e1 (show g2 ≠ g1 from hap)
            clear hF hGr hDr hy hg1 hg2
            go_wp2
            go_region_held3 (fun w' => w'.cell? ⟨b, r, none⟩ = some (.slice (some ⟨g1, 0, none⟩) n (C r)) ∧ w'.cell? ⟨b, k0, none⟩ = some (.slice (some ⟨g2, 0, none⟩) n (C k0)) ∧ w'.cell? ⟨g2, r, none⟩ = some (.int .i64 y)) (go_keep) (fail)
            all_goals
              go_wp2
              go_roundg (r - (k0 + 1))
              case measure => omega
              case rel => exact ⟨k0 + 1, by omega, rfl, by go_num, _, HF.out, HGS.out, HDS.out⟩
          · have : k0 = r := by omega
            subst this
            have HF := Lib.hid hF
            have HGS := Lib.hid hGr
            have HDS := Lib.hid hDr
            clear hF hGr hDr
            go_wp2
            go_roundg (n - (k0 + 1))
            case measure => omega
            case rel => exact ⟨k0 + 1, by omega, rfl, by go_num, _, HF.out, HGS.out, HDS.out⟩
      · have : r = n := by omega
        subst this
        have HF := Lib.hid hF
        have HGr := Lib.hid hGr
        have HDr := Lib.hid hDr
        have hz4 := hGr.size
        clear hF hGr hDr
        go_wp2_with fail
        refine (pick_any w0 _ G nb c _ a _ HDr.out (by omega)).mono ?_
        rintro e w5 ⟨y5, rfl, hy5, hg5, hd5⟩
        have hF5 := HF.out.kept hg5 (by omega)
        have HG5 := Lib.hid (grown_trans HGr.out hg5)
        have HD5 := Lib.hid hd5
        clear hg5 hd5 HF HGr HDr
        by_cases h5 : y5 = 0
        · subst h5
          have t1 := hF5.top 0 (by omega)
          obtain ⟨t2, t3⟩ := hF5.ent 0 0 (by omega) (by omega)
          obtain ⟨r1, r2, r3⟩ := hF5.row 0 (by omega)
          have HF := Lib.hid (hF5.set (r := 0) (k := 0) (by omega) (by omega) 1)
          have HGS := Lib.hid (grown_set HG5.out (show w.heap.size ≤ GB 0 by omega) (k := 0) (.int .i64 1))
          have HDS := Lib.hid (HD5.out.grown (grown_set_any w5 (GB 0) 0 (.int .i64 1)) (fun i e => by cases e; omega))
          clear hF5
          go_wp2
          go_ret
          exact ⟨_, cp, _, _, by rw [tabF_length]; rfl, HGS.out, HDS.out, by omega, HF.out.drawn (by omega) (by omega) (by omega)⟩
        · have hz5 : ((y5 : Int) == 0) = false := by simp; omega
          have HF := Lib.hid hF5
          clear hF5
          go_wp2
          go_ret
          exact ⟨_, cp, _, _, by rw [tabF_length]; rfl, HG5.out, HD5.out, by omega, HF.out.drawn (by omega) (by omega) (by omega)⟩

end Go.Proofs.Ytpimdgijjljejaa
end

section
namespace Go.Proofs.Ytpimdgijjljejaa
open Go.RowKit Go.Deep

set_option maxRecDepth 100000 in
set_option maxHeartbeats 4000000 in
theorem l91Square_any (w0 w : World) (G nb c p R : Nat) (a : Option Addr) (h : RD w0 w G a nb c 57 p) (hR1 : 1 ≤ R) (hR : R ≤ 8) (hp : p ≤ 40000) :
    Calls Try.prog 29 #[.pointer (some ⟨G, 0, none⟩), .int .i64 R] w fun e w' => ∃ a' cap l p', e = .returned (.slice a' l.length cap) ∧ w.grownBy w' (some G) ∧ RD w0 w' G a nb c 57 p' ∧ p' ≤ p + 1200 ∧ Drawn0 w w' R R a' l := by
  have hG := h.lt
  have HRD := Lib.hid h
  clear h
  go_enter Try.func29, Try.ntmps29
  go_wp2_with fail
  refine (pick_any w0 _ G nb c _ a _ HRD.out (by omega)).mono ?_
  rintro e w1 ⟨y1, rfl, hy1, hg1, hd1⟩
  obtain ⟨n, hn, hnn⟩ : ∃ n : Nat, IntKind.i64.wrap (1 + (y1 : Int)) = n ∧ n = y1 + 1 := ⟨y1 + 1, (IntWalk.i64_in _ ⟨by omega, by omega⟩).trans (by omega), rfl⟩
  have hn1 : 1 ≤ n ∧ n ≤ R := by omega
  have HD2 := Lib.hid hd1
  have HG2 := Lib.hid hg1
  clear hd1 hg1 hnn hy1 HRD
  go_wp2_with fail
  refine (l91Table_any w0 _ G nb c _ n n a HD2.out (by omega) (by omega) (by omega) (by omega)).mono ?_
  rintro e w3 ⟨v, l, A, C, p3, rfl, hl, hlm, hg3, hd3, hp3, hB⟩
  obtain ⟨b, cp, cur, hv, hbb, hcur, hc⟩ := hB.top (by omega)
  rw [hl] at hv
  subst hv
  have hG2 := HG2.out.size
  have HD3 := Lib.hid hd3
  have HG3 := Lib.hid (grown_trans HG2.out hg3)
  have HB := Lib.hid hB
  clear hd3 hg3 hcur hc hB HD2
  go_wp2_with fail
  refine (pick_any w0 _ G nb c _ a _ HD3.out (by omega)).mono ?_
  rintro e w4 ⟨y4, rfl, hy4, hg4, hd4⟩
  have HG4 := Lib.hid (grown_trans HG3.out hg4)
  have HB4 := Lib.hid (HB.out.kept hg4 (by omega))
  have HD4 := Lib.hid hd4
  have hz4 := HG4.out.size
  clear hd4 hg4 HB HG3 HD3 hy4
  obtain ⟨g0, hA0, hg0, hrb0⟩ := HB4.out.row (r := 0) (by omega)
  by_cases hy0 : y4 = 0
  · subst hy0
    obtain ⟨t1, _, _⟩ := HB4.out.cellTop (r := 0) (by omega)
    rw [hlm 0 (by omega), hA0] at t1
    have t2 := hrb0.cell (i := 0) (by rw [hlm 0 (by omega)]; omega)
    have t3 := hrb0.frozen 0
    have hIT := HB4.out.setNum (r := 0) (k := 0) (by omega) hA0 (by rw [hlm 0 (by omega)]; omega) 31
    have hll : (l.set 0 ((l.getD 0 []).set 0 31)).length = n := by rw [List.length_set]; exact hl
    have hlens := lens_set (K := R) (r := 0) (y := (l.getD 0 []).set 0 31) hl hlm (by omega) (by rw [List.length_set, hlm 0 (by omega)]; omega)
    have HIT := Lib.hid hIT
    have HLL := Lib.hid hll
    have HLENS := Lib.hid hlens
    have HGS := Lib.hid (grown_set HG4.out (show w.heap.size ≤ g0 by omega) (k := 0) (.int .i64 31))
    have HDS := Lib.hid (HD4.out.grown (grown_set_any w4 g0 0 (.int .i64 31)) (fun i e => by cases e; omega))
    have p1 : 0 < n := by omega
    clear hrb0 hIT hll hlens hA0 hlm hl
    go_wp2
    go_ret
    exact ⟨_, _, l.set 0 ((l.getD 0 []).set 0 31), _, by rw [HLL.out]; rfl, HGS.out, HDS.out, by omega, by rw [HLL.out]; omega, by rw [HLL.out]; omega, HLENS.out, HIT.out.mono hG2 (by simp)⟩
  · clear hrb0 hA0 hg0
    by_cases hy1 : y4 = 1
    · subst hy1
      clear hlm hl HB4
      have hnp : IntKind.i64.wrap ((n : Int) + 1) = ((n + 1 : Nat) : Int) := (IntWalk.i64_in _ ⟨by omega, by omega⟩).trans (by omega)
      have E5 := l91Table_any w0 w4 G nb c _ n (n + 1) a HD4.out (by omega) (by omega) (by omega) (by omega)
      rw [show ((n + 1 : Nat) : Int) = (n : Int) + 1 by omega] at E5
      replace E5 := Lib.hid E5
      go_wp2_with fail
      refine (E5.out).mono ?_
      rintro e w5 ⟨v, l5, A5, C5, p5, rfl, hl, hlm, hg5, hd5, hp5, hB⟩
      obtain ⟨a', cap', hv, hIT⟩ := hB.inT
      rw [hl] at hv
      subst hv
      have HL := Lib.hid hl
      have HLM := Lib.hid hlm
      have HIT := Lib.hid hIT
      have HG5 := Lib.hid (grown_trans HG4.out hg5)
      have HD5 := Lib.hid hd5
      have hG4 := HG4.out.size
      clear hl hlm hIT hB hg5 hd5
      go_wp2
      go_ret
      exact ⟨_, _, l5, _, by rw [HL.out]; rfl, HG5.out, HD5.out, by omega, by rw [HL.out]; omega, by rw [HL.out]; omega, fun j hj => by rw [HLM.out j (by rw [← HL.out]; exact hj)]; omega, HIT.out.mono hG4 (Nat.le_refl _)⟩
    · have h1 : ((y4 : Int) == 0) = false := by simp; omega
      have h2 : ((y4 : Int) == 1) = false := by simp; omega
      obtain ⟨a', cap', hv, hIT⟩ := HB4.out.inT
      rw [hl] at hv
      injection hv with hv _ _
      subst hv
      have HL := Lib.hid hl
      have HLM := Lib.hid hlm
      have HIT := Lib.hid hIT
      clear hl hlm hIT
      go_wp2
      go_ret
      exact ⟨_, _, l, _, by rw [HL.out]; rfl, HG4.out, HD4.out, by omega, by rw [HL.out]; omega, by rw [HL.out]; omega, fun j hj => by rw [HLM.out j (by rw [← HL.out]; exact hj)]; omega, HIT.out.mono hG2 (Nat.le_refl _)⟩

end Go.Proofs.Ytpimdgijjljejaa
end

section
namespace Go.Proofs.Ytpimdgijjljejaa
open Go.RowKit Go.Deep

set_option maxHeartbeats 1000000 in
theorem drawPairIn_any (a : Option Addr) (nb cb : Nat) (w : World) (hc : nb ≤ cb) (h63 : cb ≤ 9223372036854775807) (hb : BytR w a nb) :
    Calls Try.prog 9 #[.slice a nb cb] w fun e w' => ∃ a' cap l, e = .returned (.slice a' l.length cap) ∧ w.Since w.heap.size w' ∧ DrawnT w w' 6 6 a' l := by
  have E := Lib.hid (l6Open_any a nb cb w hc h63 hb)
  clear hb
  go_enter Try.func9, Try.ntmps9
  go_wp2_with fail
  refine (E.out).mono ?_
  rintro e w1 ⟨n', c', rfl, hs, hz, hd⟩
  have HD := Lib.hid hd
  clear hd
  go_wp2_with fail
  refine (pick_any w w1 w.heap.size n' c' _ a _ HD.out (by omega)).mono ?_
  rintro e w2 ⟨y, rfl, hy, hg1, hd1⟩
  have HD1 := Lib.hid hd1
  have hs2 := hs.trans (since_grown hg1 (Nat.le_refl _) hs.size)
  clear hd1
  by_cases h0 : y = 0
  · subst h0
    go_wp2_with fail
    refine (l91Square_any w w2 w.heap.size n' c' _ 4 a HD1.out (by omega) (by omega) (by omega)).mono ?_
    rintro e w3 ⟨a', cap', l, p', rfl, hg, hd2, hp, h1, h5, hl, hit⟩
    go_wp2
    go_ret
    exact ⟨a', cap', l, rfl, hs2.trans (since_grown hg (Nat.le_refl _) hs2.size), h1, by omega, fun j hj => ⟨(hl j hj).1, by have := (hl j hj).2; omega⟩, hit.mono hs2.size (Nat.le_refl _)⟩
  · have hz0 : ((y : Int) == 0) = false := by simp; omega
    go_wp2_with fail
    refine (l91About_any w w2 w.heap.size n' c' _ 6 a HD1.out (by omega) (by omega) (by omega)).mono ?_
    rintro e w3 ⟨a', cap', l, p', rfl, hg, hd2, hp, h1, h5, hl, hit⟩
    go_wp2
    go_ret
    exact ⟨a', cap', l, rfl, hs2.trans (since_grown hg (Nat.le_refl _) hs2.size), h1, h5, hl, hit.mono hs2.size (Nat.le_refl _)⟩

end Go.Proofs.Ytpimdgijjljejaa
end

section
namespace Go.Proofs.Ytpimdgijjljejaa
open Go.RowKit Go.Deep

end Go.Proofs.Ytpimdgijjljejaa
end

section
namespace Go.Proofs.Ytpimdgijjljejaa
open Go.RowKit Go.Deep

theorem szL_of {l : List (List Int)} {n k : Nat} (h1 : l.length ≤ n) (h2 : ∀ j, j < l.length → (l.getD j []).length ≤ k) (hnk : n * k + n ≤ 1048576) : szL l ≤ 1048576 := by
  have h3 := sumTo_le_mul l k h2 l.length (Nat.le_refl _)
  have h4 : l.length * k ≤ n * k := Nat.mul_le_mul_right _ h1
  have h5 : k * l.length = l.length * k := Nat.mul_comm _ _
  unfold szL
  omega
theorem rows_le {l : List (List Int)} (h : szL l ≤ 1048576) : ∀ r, r < l.length → (l.getD r []).length ≤ 9223372036854775807 := fun r hr => by
  have := row_le l hr
  unfold szL at h
  omega

theorem tab_self {l : List (List Int)} {n m : Nat} (hn : l.length = n) (hm : ∀ r, r < n → (l.getD r []).length = m) : tabF n m (at2 l) = l := by
  refine List.ext_getElem (by rw [tabF_length, hn]) fun r h1 h2 => ?_
  have hr : r < n := by rw [tabF_length] at h1; exact h1
  have e1 : (tabF n m (at2 l))[r] = (tabF n m (at2 l)).getD r [] := by simp [List.getD, h1]
  have e2 : l[r] = l.getD r [] := by simp [List.getD, h2]
  rw [e1, e2, tabF_get _ _ _ _ hr]
  refine List.ext_getElem (by rw [List.length_map, List.length_range, hm r hr]) fun k h3 h4 => ?_
  rw [List.getElem_map, List.getElem_range]
  unfold at2
  obtain ⟨x, hx⟩ : ∃ x, x = l.getD r [] := ⟨_, rfl⟩
  subst hx
  generalize l.getD r [] = x at *
  simp [List.getD, h4]

theorem turnL_turnL {l : List (List Int)} (hT : TabIn l) : turnL (turnL l) = l := by
  have h1 := hT.1
  have hw := hT.width
  have e0 : ((turnL l).getD 0 []).length = l.length := tabF_len _ _ _ _ hw.1
  have e1 : turnL (turnL l) = tabF l.length (l.getD 0 []).length fun k i => at2 (turnL l) i k := by
    show tabF ((turnL l).getD 0 []).length (turnL l).length _ = _
    rw [e0, turnL_length]
  rw [e1]
  have e2 : tabF l.length (l.getD 0 []).length (fun k i => at2 (turnL l) i k) = tabF l.length (l.getD 0 []).length (at2 l) := by
    unfold tabF
    refine List.map_congr_left fun r hr => List.map_congr_left fun k hk => ?_
    exact tabF_at _ _ _ _ _ (List.mem_range.1 hk) (List.mem_range.1 hr)
  rw [e2]
  exact tab_self rfl (fun r hr => hT.row hr)

end Go.Proofs.Ytpimdgijjljejaa
end

section
namespace Go.Proofs.Ytpimdgijjljejaa
open Go.RowKit Go.Deep

set_option maxRecDepth 100000 in
set_option maxHeartbeats 4000000 in
theorem across_any (a : Option Addr) (cap n : Nat) (l : List (List Int)) (w : World) (hn : l.length = n) (hT : TabIn l) (hm : MatR w a l) :
    Calls Try.prog 13 #[.slice a n cap] w fun e w' => ∃ a' cap', e = .returned (.slice a' (l.getD 0 []).length cap') ∧ w.Since w.heap.size w' ∧ InT w.heap.size w'.heap.size w' a' (turnL l) := by
  obtain ⟨i42, hi42⟩ := info42_parts
  obtain ⟨i3, hi3⟩ := info3_parts
  have HI := Lib.hid hi42
  have HJ := Lib.hid hi3
  clear hi42 hi3
  have hst := bt_start w (fun _ => none) (fun _ => 0) #[] rfl
  have hw := hT.width
  have h6 := hT.2.1
  have h1 := hT.1
  rw [hn] at h6 h1
  obtain ⟨b, o, A0, C0, rfl, hc⟩ := hm (by omega)
  obtain ⟨m, hmm⟩ : ∃ m, (l.getD 0 []).length = m := ⟨_, rfl⟩
  have hcell : ∀ r, r < n → w.cell? ⟨b, o + r, none⟩ = some (.slice (A0 r) m (C0 r)) := fun r hr => by rw [(hc r (by omega)).1, hT.row (by omega), hmm]
  have hent : ∀ i k, i < n → k < m → ∃ b' o', A0 i = some ⟨b', o', none⟩ ∧ w.cell? ⟨b', o' + k, none⟩ = some (.int .i64 (at2 l i k)) := fun i k hi hk => by
    have hrl : (l.getD i []).length = m := by rw [hT.row (by omega), hmm]
    obtain ⟨b', o', e, h3⟩ := (hc i (by omega)).2 (by omega)
    exact ⟨b', o', e, h3 k (by omega)⟩
  have htl : turnL l = turnTo l m := by rw [← hmm]; exact (turnTo_all l).symm
  rw [hmm] at hw ⊢
  rw [htl]
  have HC := Lib.hid hcell
  have HE := Lib.hid hent
  have HN := Lib.hid hn
  clear hc hm hT hcell hent hn hmm htl
  go_enter Try.func13, Try.ntmps13
  go_wp2
  go_loopg [3, 4, 5, 6] m (fun g v k _ _ wr => ∃ r : Nat, ∃ A C, r ≤ m ∧ g = m - r ∧ k = .int .i64 r ∧ BT w wr v (turnTo l r) A C)
  case atStart => exact ⟨0, _, _, Nat.zero_le _, rfl, rfl, hst⟩
  case round =>
    obtain ⟨r, A, C, hr, rfl, rfl, hR⟩ := hrel
    clear hst
    have hc0 : wr.cell? ⟨b, o, none⟩ = some (.slice (A0 0) m (C0 0)) := by
      have h0 := HC.out 0 (by omega)
      rw [Nat.add_zero] at h0
      rw [hR.since.cell (a := ⟨b, o, none⟩) (World.block_lt_of_cell? _ _ h0), h0]
    by_cases hlt : r < m
    · have HR := Lib.hid hR
      have hrb := rb_start wr #[] rfl
      have HRB := Lib.hid hrb
      have hsz := hR.since.size
      have hlen := turnTo_length l r
      obtain ⟨wo, rfl⟩ : ∃ wo : World, wo = wr := ⟨_, rfl⟩
      clear hR hrb
      go_wp2
      go_loopg [5, 6] n (fun g v i wi => ∃ j : Nat, j ≤ n ∧ g = n - j ∧ i = .int .i64 j ∧ RB wo wi v (turnRow l r j))
      case atStart => exact ⟨0, Nat.zero_le _, rfl, rfl, HRB.out⟩
      case round =>
        obtain ⟨j, hj, rfl, rfl, hI⟩ := hrel
        clear HRB hc0
        by_cases hjn : j < n
        · obtain ⟨b', o', hA, hce⟩ := HE.out j r hjn hlt
          have hcj := HC.out j hjn
          rw [hA] at hcj
          have hS := HR.out.since.trans (since_mono hI.since hsz)
          rw [← hS.cell (a := ⟨b, o + j, none⟩) (World.block_lt_of_cell? _ _ hcj)] at hcj
          rw [← hS.cell (a := ⟨b', o' + r, none⟩) (World.block_lt_of_cell? _ _ hce)] at hce
          obtain ⟨y, hy⟩ : ∃ y, y = at2 l j r := ⟨_, rfl⟩
          rw [← hy] at hce
          have HY := Lib.hid hy
          have HII := Lib.hid hI
          have hle := turnRow_length l r j
          have hzi := hI.since.size
          clear hy hI hA hS
          go_wp2_with (at_builtin; (refine wpList_append_own _ rfl _ _ 43 rfl wo.heap.size 3 i3 (.int .i64 0) 1 8 Try.underlying43 HJ.out.1 HJ.out.2.1 HJ.out.2.2.1 HJ.out.2.2.2 rfl (by decide) _ _ _ rfl (HII.out.own.alloc _) ⟨wr.heap.size, 0, none⟩ 1 1 [.int .i64 y] rfl rfl (cell_one_at _ _ _ rfl) (fun x hx => by simp at hx; subst hx; rfl) (by unfold maxLen; omega) (by omega) (by simp; omega) ?_); intro v' w1 hown' hgrow _)
          have hP := HII.out.push hown' hgrow
          rw [HY.out, ← turnRow_succ] at hP
          have HP := Lib.hid hP
          clear hP hown' hgrow hle hcj hce
          go_roundg (n - (j + 1))
          case measure => omega
          case rel => exact ⟨j + 1, by omega, rfl, by go_num, HP.out⟩
        · have hjj : j = n := by omega
          subst hjj
          obtain ⟨ra, rcp, hv, hrow⟩ := hI.slice
          rw [turnRow_length] at hv
          subst hv
          have HII := Lib.hid hI
          have hle := turnRow_length l r j
          have hzi := hI.since.size
          have HROW := Lib.hid hrow
          clear hI hrow
          have hBT := HR.out.later HII.out.since
          have HBT := Lib.hid hBT
          clear hBT
          go_wp2_with (at_builtin; (refine wpList_append_own _ rfl _ _ 23 rfl w.heap.size 43 i42 (.slice none 0 0) 1 24 Try.underlying23 HI.out.1 HI.out.2.1 HI.out.2.2.1 HI.out.2.2.2 rfl (by decide) _ _ _ rfl (HBT.out.own.alloc _) ⟨wr.heap.size, 0, none⟩ 1 1 [.slice ra j rcp] rfl rfl (cell_one_at _ _ _ rfl) (fun x hx => by simp at hx; subst hx; rfl) (by unfold maxLen; omega) (by omega) (by simp; omega) ?_); intro v' w1 hown' hgrow _)
          have hP := HBT.out.push (rv := .slice ra j rcp) (x := turnRow l r j) (a := ra) (cp := rcp) (by rw [turnRow_length]) (fun h => by obtain ⟨G, e, h2, h3⟩ := HROW.out h; exact ⟨G, e, by omega, h3⟩) (fun h => by obtain ⟨G, e, h2, _⟩ := HROW.out h; exact HR.out.fresh e h2) hown' hgrow
          have hjl : l.length = j := HN.out
          have hts := turnTo_succ l r
          rw [hjl] at hts
          rw [← hts] at hP
          have HP := Lib.hid hP
          clear hP hown' hgrow hle hts hjl hlen
          go_roundg (m - (r + 1))
          case measure => omega
          case rel => exact ⟨r + 1, _, _, by omega, rfl, by go_num, HP.out⟩
    · have : r = m := by omega
      subst this
      obtain ⟨ra, rcp, hv, hin⟩ := hR.slice
      rw [turnTo_length] at hv
      subst hv
      have HS := Lib.hid hR.since
      clear hR
      go_wp2
      go_ret
      exact ⟨ra, rcp, rfl, HS.out, hin⟩

end Go.Proofs.Ytpimdgijjljejaa
end

section
namespace Go.Proofs.Ytpimdgijjljejaa
open Go.RowKit Go.Deep

noncomputable def partOk (l : List (List Int)) (s c : Int) : Bool := tabIn l && (inB s 1 (2 ^ l.length - 1 : Nat) && inB c 1 (2 ^ (l.getD 0 []).length - 1 : Nat))
theorem partOk_tab {l : List (List Int)} {s c : Int} (h : partOk l s c = true) : TabIn (partL l s.toNat c.toNat) := by
  unfold partOk at h
  rw [Bool.and_eq_true, Bool.and_eq_true] at h
  have h2 := of_decide_eq_true h.2.1
  have h3 := of_decide_eq_true h.2.2
  have p1 := Nat.one_le_two_pow (n := l.length)
  have p2 := Nat.one_le_two_pow (n := (l.getD 0 []).length)
  exact partL_tab (tabIn_of h.1) (by omega) (by omega) (by omega) (by omega)

end Go.Proofs.Ytpimdgijjljejaa
end

section
namespace Go.Proofs.Ytpimdgijjljejaa
open Go.RowKit Go.Deep

noncomputable def swapOk (l : List (List Int)) (i k : Int) : Bool := tabIn l && (rowB i l.length && rowB k l.length)
theorem swapOk_tab {l : List (List Int)} {i k : Int} (h : swapOk l i k = true) : TabIn (swapL l i.toNat k.toNat) := by
  unfold swapOk at h
  rw [Bool.and_eq_true, Bool.and_eq_true] at h
  obtain ⟨i, rfl, hi⟩ := rowB_of h.2.1
  obtain ⟨k, rfl, hk⟩ := rowB_of h.2.2
  exact swapL_tab (tabIn_of h.1) hi hk
theorem szL_swapOk (l : List (List Int)) (i k : Int) (h : swapOk l i k = true) : szL (swapL l i.toNat k.toNat) ≤ 1048576 := szL_tab (swapOk_tab h)

end Go.Proofs.Ytpimdgijjljejaa
end

section
namespace Go.Proofs.Ytpimdgijjljejaa
open Go.RowKit Go.Deep

theorem ordF_b {l : List (List Int)} {n : Nat} (h : sqB l = true) (hn : l.length = n) : -1000000000000 ≤ ordF l n n 0 ∧ ordF l n n 0 ≤ 1000000000000 := by
  obtain ⟨hT, hw⟩ := sqB_of h
  have h6 := hT.2.1
  rw [ordF_all l (by omega)]
  have hb := dt_bd n (at2 l) (by omega) (fun i j hi hj => hT.at (by omega) (by omega))
  have hB : bdN n ≤ 1000000000000 := by
    have : n ≤ 6 := by omega
    match n, this with
    | 0, _ => decide
    | 1, _ => decide
    | 2, _ => decide
    | 3, _ => decide
    | 4, _ => decide
    | 5, _ => decide
    | 6, _ => decide
  omega
theorem value_turn {l : List (List Int)} {n : Nat} (h : sqB l = true) (hn : l.length = n) : TabIn l ∧ (l.getD 0 []).length = n ∧ sqB (turnL l) = true ∧ (turnL l).length = n ∧ szL (turnL l) ≤ 1048576 ∧ ordF (turnL l) n n 0 = ordF l n n 0 := by
  obtain ⟨hT, hw⟩ := sqB_of h
  have hT2 := tabIn_turn hT
  have h1 := hT.1
  have h6 := hT.2.1
  have e0 : ((turnL l).getD 0 []).length = l.length := tabF_len _ _ _ _ (by omega)
  refine ⟨hT, by omega, ?_, by rw [turnL_length]; omega, szL_turn hT, ?_⟩
  · unfold sqB; rw [hT2, e0, turnL_length, ← hw]; simp
  · rw [ordF_all _ (by omega), ordF_all _ (by omega), ← dt_turn]
    exact dt_congr n fun i j hi hj => tabF_at _ _ _ j i (by omega) (by omega)
theorem value_one (l : List (List Int)) : ordF l 1 1 0 = at2 l 0 0 := by
  rw [ordF_all _ (by omega), dt_succ]
  show sumN _ 1 = _
  simp [sumN, dt, sn]
theorem value_swap {l : List (List Int)} {n : Nat} (h : sqB l = true) (hn : l.length = n) (h2 : 2 ≤ n) : swapOk l 0 1 = true ∧ sqB (swapL l 0 1) = true ∧ (swapL l 0 1).length = n ∧ szL (swapL l 0 1) ≤ 1048576 ∧ ordF (swapL l 0 1) n n 0 = -ordF l n n 0 := by
  obtain ⟨hT, hw⟩ := sqB_of h
  have hT2 := swapL_tab (i := 0) (k := 1) hT (by omega) (by omega)
  have h1 := hT.1
  have h6 := hT.2.1
  have e0 : ((swapL l 0 1).getD 0 []).length = (l.getD 0 []).length := by
    rw [swapL_get _ _ _ (by omega)]
    exact hT.row (by simp [sw]; omega)
  have hr : ∀ i : Nat, i < l.length → rowB (i : Int) l.length = true := fun i hi => decide_eq_true (by omega)
  refine ⟨?_, ?_, by rw [swapL_length]; exact hn, szL_tab hT2, ?_⟩
  · unfold swapOk; rw [tabIn_true hT, show rowB (0 : Int) l.length = true from hr 0 (by omega), show rowB (1 : Int) l.length = true from hr 1 (by omega)]; rfl
  · unfold sqB; rw [tabIn_true hT2, e0, swapL_length, ← hw]; simp
  · rw [ordF_all _ (by omega), ordF_all _ (by omega), ← dt_exR (p := 0) (q := 1) (at2 l) (by omega) (by omega) (by omega)]
    exact dt_congr n fun i j hi hj => by
      unfold at2
      rw [swapL_get _ _ _ (by omega)]
      have : sw 0 1 i = ex 0 1 i := by unfold sw ex; repeat (first | split | omega)
      rw [this]

end Go.Proofs.Ytpimdgijjljejaa
end

section
namespace Go.Proofs.Ytpimdgijjljejaa
open Go.RowKit Go.Deep Go.Shelf

def Kp2 (Bn Bk : Nat) (X Y : World) : Prop := Y.cell? ⟨Bn, 0, none⟩ = X.cell? ⟨Bn, 0, none⟩ ∧ Y.cell? ⟨Bk, 0, none⟩ = X.cell? ⟨Bk, 0, none⟩
theorem Kp2.refl (Bn Bk : Nat) (X : World) : Kp2 Bn Bk X X := ⟨rfl, rfl⟩
theorem Kp2.trans {Bn Bk : Nat} {A B C : World} (h : Kp2 Bn Bk A B) (k : Kp2 Bn Bk B C) : Kp2 Bn Bk A C := ⟨k.1.trans h.1, k.2.trans h.2⟩
theorem cell_grown_ne {X Y : World} {row : Option Nat} (h : X.grownBy Y row) {b : Nat} (hb : b < X.heap.size) (hne : row ≠ some b) : Y.cell? ⟨b, 0, none⟩ = X.cell? ⟨b, 0, none⟩ := by
  have e : Y.heap[b]? = X.heap[b]? := h.block b hb (fun e => hne e.symm)
  simp only [World.cell?, e]
theorem Kp2.grown {Bn Bk : Nat} {X Y : World} {row : Option Nat} (h : X.grownBy Y row) (h1 : Bn < X.heap.size) (h2 : Bk < X.heap.size) (h3 : row ≠ some Bn) (h4 : row ≠ some Bk) : Kp2 Bn Bk X Y := ⟨cell_grown_ne h h1 h3, cell_grown_ne h h2 h4⟩
theorem kp2_b {Bn Bk : Nat} {w : World} (h1 : Bn < w.heap.size) (h2 : Bk < w.heap.size) (W : World) (l : Nat) (o o' : Obj) (hl : w.heap.size ≤ l) (h : W.heap[l]? = some o) (_ : o.isCells = false) (_ : o.isWalk = false) : Kp2 Bn Bk W (W.putObj l o') := by
  have := (Array.getElem?_eq_some_iff.1 h).1
  exact Kp2.grown (grownBy_putObj' W l o') (by omega) (by omega) (fun e => by cases e; omega) (fun e => by cases e; omega)

set_option maxHeartbeats 1000000 in
theorem sets_in (n : Nat) (N k : Int) (w : World) :
    CallsIn Fence.wide n Try.prog 74 #[.int .i64 N, .int .i64 k] w fun e w' => e = .returned (.func (.func 81) #[] #[.pointer (some ⟨w.heap.size, 0, none⟩), .pointer (some ⟨w.heap.size + 1, 0, none⟩)]) ∧ w' = (w.alloc (.cells #[.int .i64 N] 3)).alloc (.cells #[.int .i64 k] 3) := by
  refine callsIn_of_wp Try.func74 rfl trivial ?_ rfl
  simp only [Try.ntmps74, List.size_toArray, List.length_cons, List.length_nil, Nat.reduceAdd, Nat.reduceSub, Array.replicate_succ, Array.replicate_zero, List.push_toArray, List.append_toArray, List.nil_append, List.cons_append]
  gi_wp2
  go_ret
  exact ⟨rfl, rfl⟩

abbrev SetK (k M : Nat) := { x : Nat // x < M ∧ popcS x = k }
theorem sets_stops (n : Nat) (hn : 2 ≤ n) (Bn Bk N k M : Nat) (hN : N ≤ 6) (hM : 2 ^ N = M) (w : World) (h1 : Bn < w.heap.size) (h2 : Bk < w.heap.size)
    (hBn : w.cell? ⟨Bn, 0, none⟩ = some (.int .i64 N)) (hBk : w.cell? ⟨Bk, 0, none⟩ = some (.int .i64 k)) :
    SeqStopsK Fence.wide n Try.prog 81 #[.pointer (some ⟨Bn, 0, none⟩), .pointer (some ⟨Bk, 0, none⟩)] (fun x : SetK k M => #[Value.int .i64 (x.1 : Int)]) (Kp2 Bn Bk) (fun ys => ys.map (·.1) = setsTo k M) (fun _ => True) M w := fun l J Jx W hW hJ _ hY h0 => by
  refine CallsIn.mono (sets1_in n hn l Bn Bk N k M hN hM (Kp2 Bn Bk) (fun _ _ h => h) (fun pre W => ∃ ys : List (SetK k M), ys.map (·.1) = pre ∧ J ys W) (fun _ W => ∃ ys, Jx ys W) (fun s V hV => ?_) (fun pre x V hV hp hx hk => ?_) W
    ((hW.cell (p := ⟨Bn, 0, none⟩) h1).trans hBn) ((hW.cell (p := ⟨Bk, 0, none⟩) h2).trans hBk) ⟨[], rfl, h0⟩) ?_
  · obtain ⟨ys, e, hj⟩ := hV
    exact ⟨ys, e, hJ ys V V.drew none hj ⟨rfl, rfl, rfl, Nat.le_refl _, fun _ _ _ => rfl⟩ (fun r e => by cases e)⟩
  · obtain ⟨ys, e, hj⟩ := hV
    have hl : ys.length < M := by
      have := congrArg List.length e
      rw [List.length_map, hp] at this
      have := setsTo_len k x
      omega
    obtain ⟨fn, tmps, assign, body, hy, hR⟩ := hY ys ⟨x, hx, hk⟩ V hj hl
    refine ⟨fn, tmps, assign, body, hy, hR.mono ?_⟩
    rintro e W' (⟨r1, r2, r3⟩ | ⟨r1, r2⟩)
    · exact .inl ⟨r1, ⟨ys ++ [⟨x, hx, hk⟩], by rw [List.map_append, ‹ys.map _ = pre›]; rfl, r2⟩, r3⟩
    · exact .inr ⟨r1, _, r2⟩
  · rintro e W' ⟨r1, (⟨zs, rfl, ys, e2, hj⟩ | ⟨pre, _, ys, hj⟩)⟩
    · exact ⟨r1, .inl ⟨ys, e2, hj⟩⟩
    · exact ⟨r1, .inr ⟨ys, trivial, hj⟩⟩

end Go.Proofs.Ytpimdgijjljejaa
end

section
namespace Go.Proofs.Ytpimdgijjljejaa
open Go.RowKit Go.Deep

theorem since_of_map {W w' : World} {o : Obj} (hg : (W.alloc o).grownBy w' (some W.heap.size)) : W.Since W.heap.size w' := by
  have h0 := (World.Since.refl W.heap.size W).alloc (Nat.le_refl _) o
  have h1 := hg.size
  simp only [World.size_alloc] at h1
  exact ⟨hg.os.trans h0.os, hg.tape.trans h0.tape, hg.output.trans h0.output, by omega, fun k hk => (hg.block k (by simp; omega) (by intro e; injection e with e; omega)).trans (h0.block k hk)⟩

set_option maxHeartbeats 400000 in
theorem anyValue_of (rb : Nat) (a : Option Addr) (n cap : Nat) (x : Int) (W : World) (hr : RoadsAt W rb) (ht : ∀ W', W.grownBy W' (some rb) → Calls Try.prog 88 #[.slice a n cap] W' (fun e w' => e = .returned (.int .i64 x) ∧ W'.Since W'.heap.size w')) :
    Calls Try.prog 75 #[.map (some rb), .slice a n cap] W (fun e w' => e = .returned (.int .i64 x) ∧ W.grownBy w' (some rb) ∧ RoadsAt w' rb) := by
  have E := Lib.hid (roads_2 rb a n cap x W hr ht)
  clear hr ht
  go_enter Try.func75, Try.ntmps75
  go_wp2_with fail
  refine (E.out).mono ?_
  rintro e w' ⟨rfl, hg, hr⟩
  go_wp2
  go_ret
  exact ⟨rfl, hg, hr⟩

end Go.Proofs.Ytpimdgijjljejaa
end

section
namespace Go.Proofs.Ytpimdgijjljejaa
open Go.RowKit Go.Deep

theorem Bar.congr {N : Nat} {A : Nat → Nat → Int} {k : Nat} {t u : Nat → Nat → Int} {q s : Int} {F : Nat → Nat → Int} (h : Bar N A k t q s F) (hu : ∀ i j, i < N - k → j < N - k → u i j = t i j) : Bar N A k u q s F :=
  ⟨h.val, h.sgn, h.src, h.ne, fun d R C hR hC => by rw [dt_congr (d + 1) (g := fun i j => t (R i) (C j)) (fun i j hi hj => hu _ _ (hR i hi) (hC j hj)), h.main d R C hR hC], h.last⟩
theorem sw_ex (i r : Nat) : sw 0 i r = ex 0 i r := by unfold sw ex; repeat (first | split | omega)
theorem swapL_rec {L : List (List Int)} {m i : Nat} (hL : L.length = m) (hR : Rec L) (hw : (L.getD 0 []).length = m) (hi : i < m) : Rec (swapL L 0 i) ∧ ((swapL L 0 i).getD 0 []).length = m ∧ ∀ r, r < m → (swapL L 0 i).getD r [] = L.getD (ex 0 i r) [] := by
  have hlow := hR.low
  have hhigh := hR.high
  have hg : ∀ r, r < m → (swapL L 0 i).getD r [] = L.getD (ex 0 i r) [] := fun r hr => by rw [swapL_get L 0 i (by omega), sw_ex]
  have hlen : ∀ r, r < m → ((swapL L 0 i).getD r []).length = m := fun r hr => by rw [hg r hr, hR.row (by rw [hL]; exact ex_bd (by omega) hi hr), hw]
  have h0 := hlen 0 (by omega)
  refine ⟨⟨by rw [swapL_length]; exact hlow, by rw [swapL_length]; exact hhigh, by rw [h0]; omega, fun {r} hr => ?_⟩, h0, hg⟩
  rw [swapL_length, hL] at hr
  rw [hlen r hr, h0]
theorem tabF_rec {m : Nat} (h1 : 1 ≤ m) (h6 : m ≤ 6) (X : Nat → Nat → Int) : Rec (tabF m m X) ∧ ((tabF m m X).getD 0 []).length = m := by
  refine ⟨⟨by rw [tabF_length]; exact h1, by rw [tabF_length]; exact h6, by rw [tabF_len _ _ _ _ (by omega)]; omega, fun {r} hr => ?_⟩, tabF_len _ _ _ _ (by omega)⟩
  rw [tabF_length] at hr
  rw [tabF_len _ _ _ _ hr, tabF_len _ _ _ _ (by omega)]
theorem OwnT.top0 {lo hi : Nat} {w : World} {a : Option Addr} {l : List (List Int)} {m : Nat} (h : OwnT lo hi w a l) (hl : l.length = m) (h1 : 1 ≤ m) (hw : (l.getD 0 []).length = m) : ∃ b g c, a = some ⟨b, 0, none⟩ ∧ w.cell? ⟨b, 0, none⟩ = some (.slice (some ⟨g, 0, none⟩) m c) ∧ w.cell? ⟨g, 0, none⟩ = some (.int .i64 (at2 l 0 0)) := by
  obtain ⟨b, A, G, C, e, _, hr, _⟩ := h (by omega)
  obtain ⟨c1, c2⟩ := hr 0 (by omega)
  obtain ⟨e2, _, c3⟩ := c2 (by omega)
  rw [e2, hw] at c1
  exact ⟨b, G 0, C 0, e, c1, (c3 0 (by omega)).1⟩

structure PV (N : Nat) (A : Nat → Nat → Int) (k : Nat) (L : List (List Int)) (q s : Int) : Prop where
  le : k ≤ N
  len : L.length = N - k
  sq : 1 ≤ N - k → Rec L ∧ (L.getD 0 []).length = N - k
  bar : ∃ F, Bar N A k (at2 L) q s F
structure PW (N : Nat) (A : Nat → Nat → Int) (k m i : Nat) (L : List (List Int)) (q s : Int) (X : Nat → Nat → Int) (p s2 : Int) : Prop where
  sq : Rec (swapL L 0 i) ∧ ((swapL L 0 i).getD 0 []).length = m
  len : (swapL L 0 i).length = m
  piv : at2 (swapL L 0 i) 0 0 = p
  sgn : s2 = if i = 0 then s else -s
  eq : ∀ i' k', i' + 1 < m → k' + 1 < m → chio (at2 (swapL L 0 i)) i' k' = q * X i' k'
  bdX : ∀ i' k', i' + 1 < m → k' + 1 < m → -4611686018427387904 ≤ X i' k' ∧ X i' k' ≤ 4611686018427387904
  bd : 2 ≤ m → ∀ i' j', i' < m → j' < m → -1944000000 ≤ at2 (swapL L 0 i) i' j' ∧ at2 (swapL L 0 i) i' j' ≤ 1944000000
  next : PV N A (k + 1) (tabF (m - 1) (m - 1) X) p s2

theorem PV.step {N : Nat} {A : Nat → Nat → Int} {k m i : Nat} {L : List (List Int)} {q s : Int} (h : PV N A k L q s) (hN : N ≤ 6) (hA : ∀ i j, i < N → j < N → -30 ≤ A i j ∧ A i j ≤ 30) (hm : N - k = m) (hi : i < m) (h0 : at2 L i 0 ≠ 0) : ∃ X p s2, PW N A k m i L q s X p s2 := by
  obtain ⟨hR, hw⟩ := h.sq (by omega)
  obtain ⟨F, hB⟩ := h.bar
  have hl := h.len
  rw [hm] at hw hl
  obtain ⟨hR2, hw2, hg⟩ := swapL_rec hl hR hw hi
  have hat : ∀ r c, r < m → at2 (swapL L 0 i) r c = at2 L (ex 0 i r) c := fun r c hr => by unfold at2; rw [hg r hr]
  have hp : at2 (swapL L 0 i) 0 0 = at2 L i 0 := by rw [hat 0 0 (by omega)]; congr 1
  obtain ⟨F2, hB2⟩ : ∃ F2, Bar N A k (at2 (swapL L 0 i)) q (if i = 0 then s else -s) F2 := by
    by_cases hi0 : i = 0
    · subst hi0
      rw [if_pos rfl]
      exact ⟨F, hB.congr fun r c hr _ => by rw [hat r c (by omega), ex_self]⟩
    · rw [if_neg hi0]
      exact ⟨_, hB.swap (a := i) (by omega) hi0 fun r c hr _ => hat r c (by omega)⟩
  have hX : ∀ i' k', i' + 1 < m → k' + 1 < m → chio (at2 (swapL L 0 i)) i' k' = q * Int.tdiv (chio (at2 (swapL L 0 i)) i' k') q := fun i' k' h1 h2 => by
    obtain ⟨x, hx⟩ := hB2.exact (i := i') (j := k') (by omega) (by omega)
    rw [hx, Int.mul_tdiv_cancel_left _ hB2.ne]
  have hB3 := hB2.step (u := at2 (tabF (m - 1) (m - 1) fun i' k' => Int.tdiv (chio (at2 (swapL L 0 i)) i' k') q)) (by omega) (by rw [hp]; exact h0) (fun i' k' h1 h2 => by
    have e := tabF_at (m - 1) (m - 1) (fun i' k' => Int.tdiv (chio (at2 (swapL L 0 i)) i' k') q) i' k' (by omega) (by omega)
    rw [hX i' k' (by omega) (by omega)]
    exact congrArg (q * ·) e.symm)
  refine ⟨fun i' k' => Int.tdiv (chio (at2 (swapL L 0 i)) i' k') q, at2 (swapL L 0 i) 0 0, _, ⟨hR2, hw2⟩, by rw [swapL_length]; exact hl, rfl, rfl, hX, fun i' k' h1 h2 => ?_, fun h2 i' j' h3 h4 => ?_, ⟨by omega, by rw [tabF_length]; omega, fun h1 => ?_, ⟨F2, hB3⟩⟩⟩
  · have e := hB3.bd hN hA (i := i') (j := k') (by omega) (by omega)
    rw [show at2 (tabF (m - 1) (m - 1) fun i' k' => Int.tdiv (chio (at2 (swapL L 0 i)) i' k') q) i' k' = Int.tdiv (chio (at2 (swapL L 0 i)) i' k') q from tabF_at _ _ _ i' k' (by omega) (by omega)] at e
    have : bdN (k + 1 + 1) ≤ 349920000000 := by
      have h : k = 0 ∨ k = 1 ∨ k = 2 ∨ k = 3 ∨ k = 4 := by omega
      rcases h with h | h | h | h | h <;> (subst h; decide)
    omega
  · have e := hB2.bd hN hA (i := i') (j := j') (by omega) (by omega)
    have := bdN_le (n := k + 1) (by omega)
    omega
  · have := tabF_rec (m := m - 1) (by omega) (by omega) fun i' k' => Int.tdiv (chio (at2 (swapL L 0 i)) i' k') q
    rw [show N - (k + 1) = m - 1 by omega]
    exact this

theorem swapped0_any (a : Option Addr) (cap n k : Nat) (l : List (List Int)) (w : World) (hn : l.length = n) (hT : Rec l) (h0 : 0 < n) (hk : k < n) (hm : MatR w a l) :
    Calls Try.prog 96 #[.slice a n cap, .int .i64 0, .int .i64 k] w fun e w' => ∃ a' cap', e = .returned (.slice a' n cap') ∧ w.Since w.heap.size w' ∧ OwnT w.heap.size w'.heap.size w' a' (swapL l 0 k) :=
  swapped_any a cap n 0 k l w hn hT h0 hk hm

theorem swapped00_any (a : Option Addr) (cap n : Nat) (l : List (List Int)) (w : World) (hn : l.length = n) (hT : Rec l) (h0 : 0 < n) (hm : MatR w a l) :
    Calls Try.prog 96 #[.slice a n cap, .int .i64 0, .int .i64 0] w fun e w' => ∃ a' cap', e = .returned (.slice a' n cap') ∧ w.Since w.heap.size w' ∧ OwnT w.heap.size w'.heap.size w' a' (swapL l 0 0) :=
  swapped_any a cap n 0 0 l w hn hT h0 h0 hm

set_option maxRecDepth 100000 in
set_option maxHeartbeats 4000000 in
theorem byPivots_any (N : Nat) (l : List (List Int)) (a : Option Addr) (cap : Nat) (W : World) (hsq : SqD N l) (hN : N ≤ 6) (hm : MatR W a l) :
    Calls Try.prog 88 #[.slice a N cap] W fun e w' => e = .returned (.int .i64 (dt N (at2 l))) ∧ W.Since W.heap.size w' := by
  have hA : ∀ i j, i < N → j < N → -30 ≤ at2 l i j ∧ at2 l i j ≤ 30 := fun i j hi hj => by
    obtain ⟨hT, hw⟩ := hsq.2 (by omega)
    have := hsq.1
    exact hT.at (by omega) (by omega)
  have hst : PV N (at2 l) 0 l 1 1 := ⟨Nat.zero_le _, hsq.1, fun h1 => by
    obtain ⟨hT, hw⟩ := hsq.2 (by omega)
    exact ⟨hT.rec, hw⟩, ⟨_, Bar.start fun _ _ _ _ => rfl⟩⟩
  obtain ⟨A, hAA⟩ : ∃ A, A = at2 l := ⟨_, rfl⟩
  rw [← hAA] at hA hst ⊢
  have HST := Lib.hid hst
  have HA := Lib.hid hA
  have HM := Lib.hid hm
  clear hst hA hm hsq hAA
  go_enter Try.func88, Try.ntmps88
  go_wp2
  go_loopg [0, 3, 4, 5] N (fun g t s q _ wr => ∃ (k : Nat) (L : List (List Int)) (a' : Option Addr) (cap' : Nat) (u v : Int), g = N - k ∧ t = .slice a' (N - k) cap' ∧ s = .int .i64 u ∧ q = .int .i64 v ∧ W.Since W.heap.size wr ∧ MatR wr a' L ∧ PV N A k L v u)
  case atStart => exact ⟨0, l, a, cap, 1, 1, rfl, rfl, rfl, rfl, World.Since.refl _ _, HM.out, HST.out⟩
  case round =>
    obtain ⟨k, L, a1, c1, u, v, rfl, rfl, rfl, rfl, hS, hM, hP⟩ := hrel
    clear HST HM
    by_cases hlt : k < N
    · obtain ⟨m, hmm⟩ : ∃ m, N - k = m := ⟨_, rfl⟩
      have hm1 : 1 ≤ m := by omega
      obtain ⟨hR, hw⟩ := hP.sq (by omega)
      have hl := hP.len
      rw [hmm] at hl hw
      have E1 := Lib.hid (firstFilled_any a1 c1 m L wr hl hR hM)
      have hu : u = 1 ∨ u = -1 := by obtain ⟨F, hB⟩ := hP.bar; exact hB.sgn
      have hv0 : v ≠ 0 := by obtain ⟨F, hB⟩ := hP.bar; exact hB.ne
      have hZ := Lib.hid (fun (h : ∀ i, i < m → at2 L i 0 = 0) => by obtain ⟨F, hB⟩ := hP.bar; exact hB.zero hlt (fun i hi => h i (by omega)))
      have HS := Lib.hid hS
      have ESW := Lib.hid (fun (i : Nat) (hi : i < m) => swapped0_any a1 c1 m i L wr hl hR (by omega) hi hM)
      have ESW0 := Lib.hid (swapped00_any a1 c1 m L wr hl hR (by omega) hM)
      have HP := Lib.hid hP
      have hmi : (m : Int) > 0 := by omega
      have HMM := Lib.hid hmm
      have hgN : N - (k + 1) = m - 1 := by omega
      have HGN := Lib.hid hgN
      rw [hmm]
      clear hR hw hl hP hS hM hgN
      clear hmm
      go_wp2_with fail
      refine (E1.out).mono ?_
      rintro e w' ⟨r, rfl, hr, rfl⟩
      rcases hr with ⟨i, hi, rfl, hp, _⟩ | ⟨rfl, hno⟩
      · obtain ⟨X, p, s2, hPW⟩ := HP.out.step hN HA.out HMM.out hi (by simpa using hp)
        have E2 := Lib.hid (ESW.out i hi)
        clear ESW HP E1 hZ hp
        have hlen := hPW.len
        have E3 := Lib.hid (fun (a2 : Option Addr) (c2 : Nat) (V : World) (h : MatR V a2 (swapL L 0 i)) => behind_any m c2 v X a2 (swapL L 0 i) V hPW.len hPW.sq.1 hPW.sq.2 (by exact hv0) hPW.eq hPW.bdX hPW.bd h)
        have HPW := Lib.hid hPW
        have hs2 := hPW.sgn
        have ETOP := Lib.hid (fun (lo hi : Nat) (V : World) (a2 : Option Addr) (h : OwnT lo hi V a2 (swapL L 0 i)) => h.top0 hPW.len hm1 hPW.sq.2)
        rw [hPW.piv] at ETOP
        clear hlen hPW
        by_cases hi0 : i = 0
        · rw [if_pos hi0] at hs2
          subst hi0
          subst hs2
          clear E2
          have E2 := ESW0
          clear ESW0
          go_wp2_with (first
            | (go_at_call 96; refine (E2.out).mono ?_; rintro e w2 ⟨a2, c2, rfl, hsw, how⟩; obtain ⟨b3, g3, c3, rfl, t1, t2⟩ := ETOP.out _ _ _ _ how; have HO2 := Lib.hid how.matR; have HS2 := Lib.hid (HS.out.trans (since_mono hsw HS.out.size)); clear hsw how; have E4 := Lib.hid (E3.out _ c2 w2.drew (HO2.out.since (World.Since.refl _ _).drew)); have l1 : b3 < w2.heap.size := World.block_lt_of_cell? _ _ t1; have l2 : g3 < w2.heap.size := World.block_lt_of_cell? _ _ t2))
          go_region_held3 (fun w' => w'.cell? ⟨b3, 0, none⟩ = some (.slice (some ⟨g3, 0, none⟩) m c3) ∧ w'.cell? ⟨g3, 0, none⟩ = some (.int .i64 p)) (first | exact ⟨t1, t2⟩)
            (first
              | (go_at_call 97; refine (E4.out).mono ?_; rintro e w3 ⟨rfl, hs3, ho3⟩; have hs3 := since_of_drew hs3; have t1 := (hs3.cell (a := ⟨b3, 0, none⟩) l1).trans t1; have t2 := (hs3.cell (a := ⟨g3, 0, none⟩) l2).trans t2; have HO3 := Lib.hid ho3.matR; have HS3 := Lib.hid (HS2.out.trans (since_mono hs3 HS2.out.size)); clear hs3 ho3))
          go_wp2
          go_roundg (N - (k + 1))
          case measure => omega
          case rel => exact ⟨k + 1, _, _, _, _, _, rfl, by rw [HGN.out]; rfl, rfl, rfl, HS3.out, HO3.out, HPW.out.next⟩
        · rw [if_neg hi0] at hs2
          have hg0 : ((i : Int) > 0) := by omega
          clear ESW0 hi0
          have hwn : IntKind.i64.wrap (-u) = -u := IntWalk.i64_in _ ⟨by omega, by omega⟩
          subst hs2
          go_wp2_with (first
            | (go_at_call 96; refine (E2.out).mono ?_; rintro e w2 ⟨a2, c2, rfl, hsw, how⟩; obtain ⟨b3, g3, c3, rfl, t1, t2⟩ := ETOP.out _ _ _ _ how; have HO2 := Lib.hid how.matR; have HS2 := Lib.hid (HS.out.trans (since_mono hsw HS.out.size)); clear hsw how; have E4 := Lib.hid (E3.out _ c2 w2.drew (HO2.out.since (World.Since.refl _ _).drew)); have l1 : b3 < w2.heap.size := World.block_lt_of_cell? _ _ t1; have l2 : g3 < w2.heap.size := World.block_lt_of_cell? _ _ t2))
          go_region_held3 (fun w' => w'.cell? ⟨b3, 0, none⟩ = some (.slice (some ⟨g3, 0, none⟩) m c3) ∧ w'.cell? ⟨g3, 0, none⟩ = some (.int .i64 p)) (first | exact ⟨t1, t2⟩)
            (first
              | (go_at_call 97; refine (E4.out).mono ?_; rintro e w3 ⟨rfl, hs3, ho3⟩; have hs3 := since_of_drew hs3; have t1 := (hs3.cell (a := ⟨b3, 0, none⟩) l1).trans t1; have t2 := (hs3.cell (a := ⟨g3, 0, none⟩) l2).trans t2; have HO3 := Lib.hid ho3.matR; have HS3 := Lib.hid (HS2.out.trans (since_mono hs3 HS2.out.size)); clear hs3 ho3))
          go_wp2
          go_roundg (N - (k + 1))
          case measure => omega
          case rel => exact ⟨k + 1, _, _, _, _, _, rfl, by rw [HGN.out]; rfl, rfl, rfl, HS3.out, HO3.out, HPW.out.next⟩
      · have h0 := hZ.out (fun i hi => by simpa using hno i hi)
        go_wp2
        go_ret
        exact ⟨by rw [h0]; rfl, HS.out⟩
    · obtain ⟨F, hB⟩ := hP.bar
      have hkN : k = N := by have := hP.le; omega
      subst hkN
      have hd := hB.done
      have hb := dt_bd k A hN HA.out
      have hb6 : bdN k ≤ 349920000000 := by
        have h : k = 0 ∨ k = 1 ∨ k = 2 ∨ k = 3 ∨ k = 4 ∨ k = 5 ∨ k = 6 := by omega
        rcases h with h | h | h | h | h | h | h <;> (subst h; decide)
      rw [← hd] at hb
      have HD := Lib.hid hd
      have hwv : IntKind.i64.wrap (u * v) = u * v := IntWalk.i64_in _ ⟨by omega, by omega⟩
      have hz : k - k = 0 := Nat.sub_self k
      rw [hz]
      clear hB hd hb hb6 hz hP
      go_wp2
      go_ret
      exact ⟨by rw [← HD.out]; rfl, hS⟩

end Go.Proofs.Ytpimdgijjljejaa
end

section
namespace Go.Proofs.Ytpimdgijjljejaa
open Go.RowKit Go.Deep

theorem OwnT.but {lo hi rb : Nat} {w w' : World} {a : Option Addr} {l : List (List Int)} (h : OwnT lo hi w a l) (hb : rb < lo) (hg : w.grownBy w' (some rb)) : MatR w' a l := by
  intro h0
  obtain ⟨b, A, G, C, e, hbl, hr, _⟩ := h h0
  have hc : ∀ (x k : Nat) (v : Value), lo ≤ x → w.cell? ⟨x, k, none⟩ = some v → w'.cell? ⟨x, k, none⟩ = some v := fun x k v hx hv =>
    (World.cell?_of_block (a := ⟨x, k, none⟩) (hg.block x (World.block_lt_of_cell? _ _ hv) (by intro e; injection e with e; omega))).trans hv
  refine ⟨b, 0, A, C, e, fun r hrl => ?_⟩
  obtain ⟨c1, c2⟩ := hr r hrl
  rw [Nat.zero_add]
  refine ⟨hc _ _ _ hbl.1 c1, fun hp => ?_⟩
  obtain ⟨eA, hG, c3⟩ := c2 hp
  exact ⟨G r, 0, eA, fun i hi => by rw [Nat.zero_add]; exact hc _ _ _ hG.1 (c3 i hi).1⟩

theorem since_map (w : World) : w.Since w.heap.size (w.alloc (.map #[] 0)) := (World.Since.refl w.heap.size w).alloc (Nat.le_refl _) _

end Go.Proofs.Ytpimdgijjljejaa
end

section
namespace Go.Proofs.Ytpimdgijjljejaa
open Go.RowKit Go.Deep Go.Shelf

attribute [local go_sem] Oper.semAt_some

def hasR (l : List (List Int)) (k M2 : Nat) (r : Nat) : Bool := (setsTo k M2).any fun c => decide (dt k (at2 (partL l r c)) ≠ 0)
def hasB (l : List (List Int)) (k M1 M2 : Nat) : Bool := (setsTo k M1).any (hasR l k M2)

structure HS (w W : World) (tv kv : Value) : Prop where
  bt : Boxed W w.heap.size 41 tv
  bk : Boxed W (w.heap.size + 1) 3 kv
  br : Boxed W (w.heap.size + 2) 4 (.bool false)
  bm : Boxed W (w.heap.size + 4) 69 (.map (some (w.heap.size + 3)))
  rd : RoadsAt W (w.heap.size + 3)
  sn : w.Since w.heap.size W
theorem since_row {lo : Nat} {w W W' : World} {row : Option Nat} (h : w.Since lo W) (hlo : lo ≤ w.heap.size) (hg : W.grownBy W' row) (hr : ∀ r, row = some r → lo ≤ r) : w.Since lo W' :=
  ⟨hg.os.trans h.os, hg.tape.trans h.tape, hg.output.trans h.output, Nat.le_trans h.size hg.size, fun k hk => (hg.block k (by have := h.size; omega) (fun e => by have := hr k e.symm; omega)).trans (h.block k hk)⟩
theorem HS.kept {w W W' : World} {tv kv : Value} {row : Option Nat} (h : HS w W tv kv) (hg : W.grownBy W' row) (hr : ∀ r, row = some r → w.heap.size + 5 ≤ r) : HS w W' tv kv :=
  ⟨h.bt.kept hg (fun e => by have := hr _ e.symm; omega), h.bk.kept hg (fun e => by have := hr _ e.symm; omega), h.br.kept hg (fun e => by have := hr _ e.symm; omega), h.bm.kept hg (fun e => by have := hr _ e.symm; omega),
    h.rd.kept hg (fun e => by have := hr _ e.symm; omega), since_row h.sn (Nat.le_refl _) hg (fun r e => by have := hr r e; omega)⟩
theorem HS.roads {w W W' : World} {tv kv : Value} (h : HS w W tv kv) (hg : W.grownBy W' (some (w.heap.size + 3))) (hd : RoadsAt W' (w.heap.size + 3)) : HS w W' tv kv :=
  ⟨h.bt.kept hg (fun e => by injection e; omega), h.bk.kept hg (fun e => by injection e; omega), h.br.kept hg (fun e => by injection e; omega), h.bm.kept hg (fun e => by injection e; omega),
    hd, since_row h.sn (Nat.le_refl _) hg (fun r e => by cases e; omega)⟩
theorem hs_start (w : World) (tv kv : Value) : HS w (((((w.alloc (.cells #[tv] 41)).alloc (.cells #[kv] 3)).alloc (.cells #[.bool false] 4)).alloc (.map #[] 0)).alloc (.cells #[.map (some (w.heap.size + 1 + 1 + 1))] 69)) tv kv := by
  have z1 : (w.alloc (.cells #[tv] 41)).heap.size = w.heap.size + 1 := by simp
  have z2 : ((w.alloc (.cells #[tv] 41)).alloc (.cells #[kv] 3)).heap.size = w.heap.size + 2 := by simp
  have z3 : (((w.alloc (.cells #[tv] 41)).alloc (.cells #[kv] 3)).alloc (.cells #[.bool false] 4)).heap.size = w.heap.size + 3 := by simp
  have z4 : ((((w.alloc (.cells #[tv] 41)).alloc (.cells #[kv] 3)).alloc (.cells #[.bool false] 4)).alloc (.map #[] 0)).heap.size = w.heap.size + 4 := by simp
  have b1 := Boxed.new (w.alloc (.cells #[tv] 41)) 3 kv
  have b2 := Boxed.new ((w.alloc (.cells #[tv] 41)).alloc (.cells #[kv] 3)) 4 (.bool false)
  have b3 := roads_made (((w.alloc (.cells #[tv] 41)).alloc (.cells #[kv] 3)).alloc (.cells #[.bool false] 4))
  have b4 := Boxed.new ((((w.alloc (.cells #[tv] 41)).alloc (.cells #[kv] 3)).alloc (.cells #[.bool false] 4)).alloc (.map #[] 0)) 69 (.map (some (w.heap.size + 1 + 1 + 1)))
  rw [z1] at b1
  rw [z2] at b2
  rw [z3] at b3
  rw [z4] at b4
  exact ⟨((((Boxed.new w _ tv).alloc _).alloc _).alloc _).alloc _, ((b1.alloc _).alloc _).alloc _, (b2.alloc _).alloc _, b4, b3.kept (World.grownBy_alloc _ _ none) (by simp),
    (((((World.Since.refl _ w).alloc (Nat.le_refl _) _).alloc (by simp) _).alloc (by simp; omega) _).alloc (by simp; omega) _).alloc (by simp; omega) _⟩

theorem grown_drew {a b : World} {row : Option Nat} (h : a.grownBy b row) : a.grownBy b.drew row := ⟨h.os, h.tape, h.output, h.size, h.block⟩
theorem setK_pos {n k : Nat} (x : SetK k (2 ^ n)) (h6 : n ≤ 6) : x.1 ≤ 63 := by
  have := x.2.1
  have : 2 ^ n ≤ 2 ^ 6 := Nat.pow_le_pow_right (by omega) h6
  omega

set_option maxRecDepth 100000 in
set_option maxHeartbeats 4000000 in
theorem hasMinor_any (a : Option Addr) (cap n m k : Nat) (l : List (List Int)) (w : World) (hn : l.length = n) (hmm : (l.getD 0 []).length = m) (hT : TabIn l) (hm : MatR w a l) :
    Calls Try.prog 60 #[.slice a n cap, .int .i64 k] w fun e w' => e = .returned (.bool (hasB l k (2 ^ n) (2 ^ m))) ∧ w.Since w.heap.size w' := by
  have h1 := hT.1
  have h6 := hT.2.1
  have hw := hT.width
  rw [hn] at h1 h6
  rw [hmm] at hw
  have hmk := @run_makeMap Try.prog
  refine (callsIn_wide (n := 20)).1 ?_
  refine callsIn_of_wp_marks Try.func60 rfl trivial ?_ rfl
  simp only [Try.ntmps60, List.size_toArray, List.length_cons, List.length_nil, Nat.reduceAdd, Nat.reduceSub, Array.replicate_succ, Array.replicate_zero, List.push_toArray, List.append_toArray, List.nil_append, List.cons_append]
  gi_wp2_with (refine ⟨trivial, ?_⟩; gi_at_call 74; refine (sets_in 19 _ _ _).mono ?_; rintro e w' ⟨rfl, rfl⟩)
  have hS0 := hs_start w (.slice a n cap) (.int .i64 k)
  obtain ⟨w5, hw5⟩ : ∃ W, (((((w.alloc (.cells #[.slice a n cap] 41)).alloc (.cells #[.int .i64 k] 3)).alloc (.cells #[.bool false] 4)).alloc (.map #[] 0)).alloc (.cells #[.map (some (w.heap.size + 1 + 1 + 1))] 69)) = W := ⟨_, rfl⟩
  have z5 : w5.heap.size = w.heap.size + 1 + 1 + 1 + 1 + 1 := by rw [← hw5]; simp
  rw [hw5] at hS0 ⊢
  clear hw5
  have bN := (Boxed.new w5 3 (.int .i64 n)).alloc (.cells #[.int .i64 k] 3)
  have bK := Boxed.new (w5.alloc (.cells #[.int .i64 n] 3)) 3 (.int .i64 k)
  have hS1 := (hS0.kept (World.grownBy_alloc w5 (.cells #[.int .i64 n] 3) none) (fun r e => by cases e)).kept (World.grownBy_alloc _ (.cells #[.int .i64 k] 3) none) (fun r e => by cases e)
  have z7 : ((w5.alloc (.cells #[.int .i64 n] 3)).alloc (.cells #[.int .i64 k] 3)).heap.size = w.heap.size + 7 := by simp [z5]
  simp only [World.size_alloc] at bK
  rw [z5] at bN bK
  obtain ⟨W0, hW0⟩ : ∃ W, (w5.alloc (.cells #[.int .i64 n] 3)).alloc (.cells #[.int .i64 k] 3) = W := ⟨_, rfl⟩
  rw [hW0] at bN bK hS1 z7 ⊢
  clear hW0 z5 hS0
  have hS2 : w.heap.size + 7 ≤ W0.heap.size := by omega
  refine wpIn_rangeFunc_ownH rfl (by omega) (gf := 81) (lb := #[.pointer (some ⟨w.heap.size + 1 + 1 + 1 + 1 + 1, 0, none⟩), .pointer (some ⟨w.heap.size + 1 + 1 + 1 + 1 + 1 + 1, 0, none⟩)]) rfl trivial (enters_of Try.func81 (by kernel_rfl) rfl)
    (sets_stops 19 (by omega) (w.heap.size + 1 + 1 + 1 + 1 + 1) (w.heap.size + 1 + 1 + 1 + 1 + 1 + 1) n k (2 ^ n) h6 rfl W0 (by omega) (by omega) bN.cell bK.cell)
    (fun h k => h.trans k) (kp2_b (by omega) (by omega)) (Below.refl _ _) (fun _ => rfl)
    (fun pre W => (HS w W (.slice a n cap) (.int .i64 k) ∧ w.heap.size + 7 ≤ W.heap.size) ∧ (pre.map (·.1)).any (hasR l k (2 ^ m)) = false)
    (fun c _ W => c = .ret ∧ Boxed W (w.heap.size + 2) 4 (.bool true) ∧ w.Since w.heap.size W ∧ hasB l k (2 ^ n) (2 ^ m) = true)
    (fun s X Y row hs hg hr => ⟨⟨hs.1.1.kept hg (fun r e => by have := (hr r e).1; omega), Nat.le_trans hs.1.2 hg.size⟩, hs.2⟩)
    (fun c s X Y row hs hg hr => ⟨hs.1, hs.2.1.kept hg (fun e => by have := (hr _ e.symm).1; omega), since_row hs.2.2.1 (Nat.le_refl _) hg (fun r e => by have := (hr r e).1; omega), hs.2.2.2⟩)
    ⟨⟨hS1, hS2⟩, rfl⟩
    (fun x a' W => ∃ Bx, w.heap.size + 7 ≤ Bx ∧ Boxed W Bx 3 (.int .i64 (x.1 : Int)) ∧ a' = { tmps := #[.slice a n cap, .int .i64 k, .pointer (some ⟨w.heap.size, 0, none⟩), .pointer (some ⟨w.heap.size + 1, 0, none⟩), .pointer (some ⟨w.heap.size + 1 + 1, 0, none⟩), .pointer (some ⟨w.heap.size + 1 + 1 + 1 + 1, 0, none⟩), .pointer (some ⟨Bx, 0, none⟩), undef, .map (some (w.heap.size + 1 + 1 + 1)), .slice a n cap, .int .i64 n, .int .i64 k, .func (.func 81) #[] #[.pointer (some ⟨w.heap.size + 1 + 1 + 1 + 1 + 1, 0, none⟩), .pointer (some ⟨w.heap.size + 1 + 1 + 1 + 1 + 1 + 1, 0, none⟩)], .int .i64 (x.1 : Int), undef, undef, undef, undef, undef, undef, undef, undef, undef, undef, undef, undef], defers := [] })
    (fun x a' _ X Y row hs hg hr => by obtain ⟨Bx, h1, h2, h3⟩ := hs; exact ⟨Bx, h1, boxed_own Bx 3 (fun (_ : Unit) => Value.int .i64 (x.1 : Int)) () X Y row h2 hg (fun r e => (hr r e).2), h3⟩)
    ?assign ?body ?done ?stop
  case assign =>
    rintro l2 pre x W K ⟨⟨hS, hz⟩, hp⟩ hK
    gi_wp2
    exact hK _ _ ((KeepsOthers.alloc _ _).from _) (Kp2.grown (World.grownBy_alloc _ _ none) (by omega) (by omega) (by simp) (by simp)) ⟨⟨hS.kept (World.grownBy_alloc _ _ none) (fun r e => by cases e), by simp; omega⟩, hp⟩ ⟨W.heap.size, hz, Boxed.new W 3 _, rfl⟩
  case body =>
    rintro l2 pre x a' W hl ⟨r, hr⟩ ⟨⟨hS, hz⟩, hp⟩ ⟨Bx, hBx, bX, rfl⟩ hlt
    have cT : W.drew.cell? ⟨w.heap.size, 0, none⟩ = _ := hS.bt.cell
    have cK : W.drew.cell? ⟨w.heap.size + 1, 0, none⟩ = _ := hS.bk.cell
    have EW := Lib.hid (fun (V : World) (h : w.Since w.heap.size V) => width_any a cap n l V hn (by omega) (by omega) (hm.since h))
    have hmix : Try.prog.follows .mixedOrders = true := by kernel_rfl
    rw [hmm] at EW
    have HSN := Lib.hid hS.sn
    gi_wp2
    gi_region_with_o (first
      | (refine ⟨trivial, ?_⟩; gi_at_call 45; refine (CallsIn.inRound l2 (callsIn_wide.2 (EW.out _ HSN.out.drew))).mono ?_; rintro e w' ⟨rfl, rfl⟩)
      | (refine ⟨trivial, ?_⟩; gi_at_call 74; refine (CallsIn.inRound l2 (sets_in 17 _ _ _)).mono ?_; rintro e w' ⟨rfl, rfl⟩))
    all_goals
      gi_wp2
      have bN2 : Boxed ((W.alloc (.cells #[.int .i64 m] 3)).alloc (.cells #[.int .i64 k] 3)).drew W.heap.size 3 (.int .i64 m) := (Boxed.new W 3 (.int .i64 m)).alloc (.cells #[.int .i64 k] 3)
      have bK2 : Boxed ((W.alloc (.cells #[.int .i64 m] 3)).alloc (.cells #[.int .i64 k] 3)).drew (W.heap.size + 1) 3 (.int .i64 k) := by
        have := Boxed.new (W.alloc (.cells #[.int .i64 m] 3)) 3 (.int .i64 k)
        rw [World.size_alloc] at this
        exact this
      have hgV : W.grownBy ((W.alloc (.cells #[.int .i64 m] 3)).alloc (.cells #[.int .i64 k] 3)).drew none := grown_drew ((World.grownBy_alloc W (.cells #[.int .i64 m] 3) none).trans (World.grownBy_alloc _ (.cells #[.int .i64 k] 3) none))
      have zV : ((W.alloc (.cells #[.int .i64 m] 3)).alloc (.cells #[.int .i64 k] 3)).drew.heap.size = W.heap.size + 2 := by
        show ((W.alloc (.cells #[.int .i64 m] 3)).alloc (.cells #[.int .i64 k] 3)).heap.size = _
        simp
      obtain ⟨V, hV⟩ : ∃ V, ((W.alloc (.cells #[.int .i64 m] 3)).alloc (.cells #[.int .i64 k] 3)).drew = V := ⟨_, rfl⟩
      rw [hV] at bN2 bK2 hgV zV ⊢
      clear hV
      have hrl := (Array.getElem?_eq_some_iff.1 hr).1
      have hrV : V.heap[l2]? = some (.loop r) := (hgV.block l2 hrl (by simp)).trans hr
      have hSV := hS.kept hgV (fun r e => by cases e)
      have hxx := x.2
      refine wpIn_rangeFunc_ownN (l₀ := l2) (r₀ := r) rfl hrV (by omega) (gf := 81) (lb := #[.pointer (some ⟨W.heap.size, 0, none⟩), .pointer (some ⟨W.heap.size + 1, 0, none⟩)]) rfl trivial (enters_of Try.func81 (by kernel_rfl) rfl)
        ((sets_stops 17 (by omega) W.heap.size (W.heap.size + 1) m k (2 ^ m) hw.2 rfl V (by omega) (by omega) bN2.cell bK2.cell).inRound l2)
        (fun h k => h.trans k) (kp2_b (by omega) (by omega)) (Below.refl _ _) (fun _ => rfl)
        (fun pre' W' => ((HS w W' (.slice a n cap) (.int .i64 k) ∧ W.heap.size + 2 ≤ W'.heap.size) ∧ Boxed W' Bx 3 (.int .i64 (x.1 : Int))) ∧ ((pre'.map (·.1)).any (fun c => decide (dt k (at2 (partL l x.1 c)) ≠ 0)) = false ∧ KeepsFrom W0.heap.size W W' ∧ Kp2 (w.heap.size + 1 + 1 + 1 + 1 + 1) (w.heap.size + 1 + 1 + 1 + 1 + 1 + 1) W W'))
        (fun c _ W' => c = .ret ∧ Boxed W' (w.heap.size + 2) 4 (.bool true) ∧ w.Since w.heap.size W' ∧ hasB l k (2 ^ n) (2 ^ m) = true ∧ KeepsFrom W0.heap.size W W')
        (fun s X Y row hs hg hr => ⟨⟨⟨hs.1.1.1.kept hg (fun r e => by have := (hr r e).1; omega), Nat.le_trans hs.1.1.2 hg.size⟩, boxed_own Bx 3 (fun (_ : Unit) => Value.int .i64 (x.1 : Int)) () X Y row hs.1.2 hg (fun r e => (hr r e).2)⟩,
          hs.2.1, ownFrom_keepsFrom (w₀ := W) (B := W0.heap.size) (B' := V.heap.size) (by omega) () X Y row hs.2.2.1 hg hr, hs.2.2.2.trans (Kp2.grown hg (by have := hs.1.1.2; omega) (by have := hs.1.1.2; omega) (fun e => by have := (hr _ e).1; omega) (fun e => by have := (hr _ e).1; omega))⟩)
        (fun c s X Y row hs hg hr => ⟨hs.1, hs.2.1.kept hg (fun e => by have := (hr _ e.symm).1; omega), since_row hs.2.2.1 (Nat.le_refl _) hg (fun r e => by have := (hr r e).1; omega), hs.2.2.2.1, ownFrom_keepsFrom (w₀ := W) (B := W0.heap.size) (B' := V.heap.size) (by omega) () X Y row hs.2.2.2.2 hg hr⟩)
        ⟨⟨⟨hSV, by omega⟩, bX.kept hgV (by simp)⟩, rfl, KeepsFrom.of_grownBy hgV (fun j e => by cases e), Kp2.grown hgV (by omega) (by omega) (by simp) (by simp)⟩
        (fun y a'' _ => a'' = { tmps := #[.slice a n cap, .int .i64 k, .pointer (some ⟨w.heap.size, 0, none⟩), .pointer (some ⟨w.heap.size + 1, 0, none⟩), .pointer (some ⟨w.heap.size + 1 + 1, 0, none⟩), .pointer (some ⟨w.heap.size + 1 + 1 + 1 + 1, 0, none⟩), .pointer (some ⟨Bx, 0, none⟩), .int .i64 (y.1 : Int), .map (some (w.heap.size + 1 + 1 + 1)), .slice a n cap, .int .i64 n, .int .i64 k, .func (.func 81) #[] #[.pointer (some ⟨w.heap.size + 1 + 1 + 1 + 1 + 1, 0, none⟩), .pointer (some ⟨w.heap.size + 1 + 1 + 1 + 1 + 1 + 1, 0, none⟩)], .int .i64 (x.1 : Int), .slice a n cap, .int .i64 m, .int .i64 k, .func (.func 81) #[] #[.pointer (some ⟨W.heap.size, 0, none⟩), .pointer (some ⟨W.heap.size + 1, 0, none⟩)], .int .i64 (y.1 : Int), undef, undef, undef, undef, undef, undef, undef], defers := [] })
        (fun _ _ _ _ _ _ hs _ _ => hs)
        ?assign2 ?body2 ?done2 ?stop2
      case assign2 =>
        rintro l3 pre' y W' K hi hK
        gi_wp2
        exact hK _ _ (KeepsFrom.refl _ _) (Kp2.refl _ _ _) hi rfl
      case body2 =>
        rintro l3 pre' y a'' W' _ _ ⟨⟨⟨hS', hz'⟩, bX'⟩, hp', hKF, hK2⟩ rfl hlt'
        have hx63 := setK_pos x h6
        have hy63 := setK_pos y hw.2
        have hyy := y.2
        have hk6 : k ≤ 6 := by rw [← hxx.2]; exact popcS_le x.1
        have hsq := part_sq hT (s := x.1) (c := y.1) (by rw [hn]; exact hxx.1) (by rw [hmm]; exact hyy.1) (by rw [hxx.2, hyy.2])
        rw [hxx.2] at hsq
        obtain ⟨L, hL⟩ : ∃ L, partL l x.1 y.1 = L := ⟨_, rfl⟩
        have EP := fun (V : World) (h : w.Since w.heap.size V) => part_rec a cap n x.1 y.1 l V hn hT.rec hx63 hy63 (hm.since h)
        rw [hL] at hsq
        simp only [hL, hsq.1] at EP
        obtain ⟨v, hv⟩ : ∃ v, dt k (at2 L) = v := ⟨_, rfl⟩
        have EV := fun (a' : Option Addr) (c' lo hi : Nat) (V : World) (hr : RoadsAt V (w.heap.size + 3)) (hlo : w.heap.size + 3 < lo) (ho : OwnT lo hi V a' L) =>
          anyValue_of (w.heap.size + 3) a' k c' (dt k (at2 L)) V hr (fun W'' hg => byPivots_any k L a' c' W'' hsq hk6 (ho.but hlo hg))
        simp only [hv] at EV
        have HV := Lib.hid (show dt k (at2 (partL l x.1 y.1)) = v by rw [hL]; exact hv)
        replace EP := Lib.hid EP
        replace EV := Lib.hid EV
        have cT' : W'.drew.cell? ⟨w.heap.size, 0, none⟩ = _ := hS'.bt.cell
        have cM' : W'.drew.cell? ⟨w.heap.size + 1 + 1 + 1 + 1, 0, none⟩ = some (.map (some (w.heap.size + 1 + 1 + 1))) := hS'.bm.cell
        have cX' : W'.drew.cell? ⟨Bx, 0, none⟩ = _ := bX'.cell
        have HSN' := Lib.hid hS'
        have HBX := Lib.hid bX'
        have hzz : w.heap.size + 7 ≤ W'.heap.size := by omega
        have HFIN := Lib.hid (show ∀ (V2 V3 : World), W'.grownBy V2 none → V2.grownBy V3 (some (w.heap.size + 3)) → RoadsAt V3 (w.heap.size + 3) →
            HS w V3 (.slice a n cap) (.int .i64 k) ∧ W'.heap.size ≤ V3.heap.size ∧ Boxed V3 Bx 3 (.int .i64 (x.1 : Int)) ∧ (∀ B, w.heap.size + 3 < B → KeepsFrom B W' V3) ∧ Kp2 (w.heap.size + 1 + 1 + 1 + 1 + 1) (w.heap.size + 1 + 1 + 1 + 1 + 1 + 1) W' V3 ∧ Kp2 W.heap.size (W.heap.size + 1) W' V3 from
          fun V2 V3 h2 h3 hrd => by
            have e2 := h2.size
            have e3 := h3.size
            exact ⟨(hS'.kept h2 (fun r e => by cases e)).roads h3 hrd, by omega, (bX'.kept h2 (by simp)).kept h3 (fun e => by injection e; omega),
              fun B hB => (KeepsFrom.of_grownBy h2 (fun j e => by cases e)).trans (KeepsFrom.of_grownBy h3 (fun j e => by cases e; omega)),
              (Kp2.grown h2 (by omega) (by omega) (by simp) (by simp)).trans (Kp2.grown h3 (by omega) (by omega) (fun e => by injection e; omega) (fun e => by injection e; omega)),
              (Kp2.grown h2 (by omega) (by omega) (by simp) (by simp)).trans (Kp2.grown h3 (by omega) (by omega) (fun e => by injection e; omega) (fun e => by injection e; omega))⟩)
        by_cases hv0 : v = 0
        · subst hv0
          gi_wp2
          gi_region_with_o (first
            | (refine ⟨trivial, ?_⟩; gi_at_call 64; refine (CallsIn.inRound l3 (CallsIn.inRound l2 (callsIn_wide.2 (EP.out _ HSN'.out.sn.drew)))).mono ?_; rintro e V2 ⟨a', c', rfl, hs2, ho2, _⟩; have hg2 := (grown_drew (World.grownBy.refl W' none)).trans (grown_of_since (row := none) hs2); have cM' := (cell_grown_ne hg2 (b := w.heap.size + 1 + 1 + 1 + 1) (by omega) (by simp)).trans HSN'.out.bm.cell; have HR2 := Lib.hid (HSN'.out.rd.kept hg2 (by simp)); have HO2 := Lib.hid ho2; have HG2 := Lib.hid hg2; have hdz : w.heap.size + 3 < W'.drew.heap.size := (show w.heap.size + 3 < W'.heap.size by omega); clear hs2 ho2 hg2)
            | (refine ⟨trivial, ?_⟩; gi_at_call 75; refine (CallsIn.inRound l3 (CallsIn.inRound l2 (callsIn_wide.2 (EV.out _ _ _ _ _ HR2.out hdz HO2.out)))).mono ?_; rintro e V3 ⟨rfl, hg3, hr3⟩; have HG3 := Lib.hid hg3; have HR3 := Lib.hid hr3; clear hg3 hr3))
          all_goals
            obtain ⟨q1, q2, q3, q4, q5, q6⟩ := HFIN.out _ _ HG2.out HG3.out HR3.out
            gi_wp2
            refine ⟨q4 _ (by omega), q6, ⟨⟨q1, by omega⟩, q3⟩, ?_, hKF.trans (q4 _ (by omega)), hK2.trans q5⟩
            rw [List.map_append, List.any_append, hp', Bool.false_or]
            show (decide (dt k (at2 (partL l x.1 y.1)) ≠ 0) || false) = false
            rw [HV.out]
            rfl
        · have hvb : (v == 0) = false := by simpa using hv0
          have hvn : (v != 0) = true := by simpa using hv0
          have hbb : hasB l k (2 ^ n) (2 ^ m) = true := List.any_eq_true.2 ⟨x.1, (setsTo_mem k).2 hxx, List.any_eq_true.2 ⟨y.1, (setsTo_mem k).2 hyy, by rw [HV.out]; simpa using hv0⟩⟩
          gi_wp2
          gi_region_with_o (first
            | (refine ⟨trivial, ?_⟩; gi_at_call 64; refine (CallsIn.inRound l3 (CallsIn.inRound l2 (callsIn_wide.2 (EP.out _ HSN'.out.sn.drew)))).mono ?_; rintro e V2 ⟨a', c', rfl, hs2, ho2, _⟩; have hg2 := (grown_drew (World.grownBy.refl W' none)).trans (grown_of_since (row := none) hs2); have cM' := (cell_grown_ne hg2 (b := w.heap.size + 1 + 1 + 1 + 1) (by omega) (by simp)).trans HSN'.out.bm.cell; have HR2 := Lib.hid (HSN'.out.rd.kept hg2 (by simp)); have HO2 := Lib.hid ho2; have HG2 := Lib.hid hg2; have hdz : w.heap.size + 3 < W'.drew.heap.size := (show w.heap.size + 3 < W'.heap.size by omega); clear hs2 ho2 hg2)
            | (refine ⟨trivial, ?_⟩; gi_at_call 75; refine (CallsIn.inRound l3 (CallsIn.inRound l2 (callsIn_wide.2 (EV.out _ _ _ _ _ HR2.out hdz HO2.out)))).mono ?_; rintro e V3 ⟨rfl, hg3, hr3⟩; have HG3 := Lib.hid hg3; have HR3 := Lib.hid hr3; clear hg3 hr3))
          all_goals
            obtain ⟨q1, q2, q3, q4, q5, q6⟩ := HFIN.out _ _ HG2.out HG3.out HR3.out
            have cR := q1.br.cell
            have fR := q1.br.frozen
            gi_wp2
            exact ⟨(q4 _ (by omega)).trans ((KeepsOthers.setCell _ _ _).from _), rfl, q1.br.set _, q1.sn.setCell (by simp; omega) _, hbb, (hKF.trans (q4 _ (by omega))).trans ((KeepsOthers.setCell _ _ _).from _)⟩
      case done2 =>
        rintro ys' W' hys ⟨⟨⟨hS', hz'⟩, bX'⟩, hp', hKF, hK2⟩
        gi_wp2
        refine ⟨hKF, hK2, ⟨hS', by omega⟩, ?_⟩
        rw [List.map_append, List.any_append, hp, Bool.false_or]
        rw [hys] at hp'
        show (hasR l k (2 ^ m) x.1 || false) = false
        rw [Bool.or_false]
        exact hp'
      case stop2 =>
        rintro c pre' W' _ ⟨rfl, bR, hs, hb, hKF⟩
        gi_wp2
        exact ⟨hKF, rfl, bR, hs, hb⟩
  case done =>
    rintro D zs W hD hzs ⟨⟨hS, hz⟩, hp⟩ hK
    have cS := hS.br.cell
    have fS := hS.br.frozen
    have hb : hasB l k (2 ^ n) (2 ^ m) = false := by
      show (setsTo k (2 ^ n)).any (hasR l k (2 ^ m)) = false
      rw [← hzs]; exact hp
    have hlt := (Array.getElem?_eq_some_iff.1 hK).1
    have hK2 : (W.setCell ⟨w.heap.size + 1 + 1, 0, none⟩ (.bool false)).heap[D]? = some (.deferred (some [])) := ((grownBy_setCell' W (w.heap.size + 1 + 1) (.bool false)).block D hlt (fun e => by injection e; omega)).trans hK
    have hB3 := (hS.br.set (.bool false)).kept (grownBy_putObj' (W.setCell ⟨w.heap.size + 1 + 1, 0, none⟩ (.bool false)) D (.deferred none)) (fun e => by injection e; omega)
    have cB := hB3.cell
    have hsn := since_row (hS.sn.setCell (a := ⟨w.heap.size + 1 + 1, 0, none⟩) (by simp; omega) (.bool false)) (Nat.le_refl _) (grownBy_putObj' (W.setCell ⟨w.heap.size + 1 + 1, 0, none⟩ (.bool false)) D (.deferred none)) (fun r e => by cases e; omega)
    gi_wp2
    refine ⟨by simp, .inl ⟨_, _, rfl, run_takeDeferred hK2, ?_⟩⟩
    refine ⟨.bool false, ?_, by rw [hb], hsn⟩
    have cB' := cB
    simp [results, Try.f60, go_sem, cB']
  case stop =>
    rintro D c pre W hD _ ⟨rfl, bR, hs, hb⟩ hK
    have hlt := (Array.getElem?_eq_some_iff.1 hK).1
    have hB3 := bR.kept (grownBy_putObj' W D (.deferred none)) (fun e => by injection e; omega)
    have cB := hB3.cell
    have hsn := since_row hs (Nat.le_refl _) (grownBy_putObj' W D (.deferred none)) (fun r e => by cases e; omega)
    gi_wp2
    refine ⟨by simp, .inl ⟨_, _, rfl, run_takeDeferred hK, ?_⟩⟩
    refine ⟨.bool true, ?_, by rw [hb], hsn⟩
    have cB' := cB
    simp [results, Try.f60, go_sem, cB']

end Go.Proofs.Ytpimdgijjljejaa
end

section
namespace Go.Proofs.Ytpimdgijjljejaa
open Go.RowKit Go.Deep

def nzM (l : List (List Int)) (r c : Nat) : Prop := popcS r = popcS c ∧ ordF (partL l r c) (popcS r) (popcS r) 0 ≠ 0
theorem stepR_ge (l : List (List Int)) (r c b : Nat) : b ≤ stepR l r c b := by
  unfold stepR
  split
  · omega
  · omega
theorem stepR_yes {l : List (List Int)} {r c : Nat} (h : nzM l r c) (b : Nat) : popcS r ≤ stepR l r c b := by
  unfold stepR
  by_cases hb : b < popcS r
  · rw [if_pos ⟨h.1, hb, h.2⟩]; omega
  · have := stepR_ge l r c b
    unfold stepR at this
    omega
theorem stepR_ex (l : List (List Int)) (r c b : Nat) : stepR l r c b = b ∨ (stepR l r c b = popcS r ∧ nzM l r c) := by
  unfold stepR
  split
  · rename_i h; exact .inr ⟨rfl, h.1, h.2.2⟩
  · exact .inl rfl
theorem rkC_step (l : List (List Int)) (r b : Nat) : ∀ c, 1 ≤ c → b ≤ rkC l r b c ∧ (∀ c', 1 ≤ c' → c' < c → nzM l r c' → popcS r ≤ rkC l r b c) ∧ (rkC l r b c = b ∨ (rkC l r b c = popcS r ∧ ∃ c', c' < c ∧ nzM l r c'))
  | 0, h => by omega
  | 1, _ => by rw [rkC_one]; exact ⟨by omega, fun c' h1 h2 => by omega, .inl rfl⟩
  | c + 2, _ => by
    obtain ⟨i1, i2, i3⟩ := rkC_step l r b (c + 1) (by omega)
    rw [rkC_succ l r b (by omega)]
    have g := stepR_ge l r (c + 1) (rkC l r b (c + 1))
    refine ⟨by omega, fun c' h1 h2 hn => ?_, ?_⟩
    · by_cases e : c' = c + 1
      · subst e; exact stepR_yes hn _
      · have := i2 c' h1 (by omega) hn
        omega
    · rcases stepR_ex l r (c + 1) (rkC l r b (c + 1)) with e | ⟨e, hn⟩
      · rw [e]
        rcases i3 with e2 | ⟨e2, c', h1, h2⟩
        · exact .inl e2
        · exact .inr ⟨e2, c', by omega, h2⟩
      · exact .inr ⟨e, c + 1, by omega, hn⟩
theorem rkR_step (l : List (List Int)) (C : Nat) (hC : 1 ≤ C) : ∀ r, 1 ≤ r → (∀ r' c', 1 ≤ r' → r' < r → 1 ≤ c' → c' < C → nzM l r' c' → popcS r' ≤ rkR l C r) ∧ (rkR l C r = 0 ∨ ∃ r' c', r' < r ∧ c' < C ∧ nzM l r' c' ∧ rkR l C r = popcS r')
  | 0, h => by omega
  | 1, _ => by rw [rkR_one]; exact ⟨fun r' c' h1 h2 => by omega, .inl rfl⟩
  | r + 2, _ => by
    obtain ⟨i1, i2⟩ := rkR_step l C hC (r + 1) (by omega)
    rw [rkR_succ l C (by omega)]
    obtain ⟨j1, j2, j3⟩ := rkC_step l (r + 1) (rkR l C (r + 1)) C hC
    refine ⟨fun r' c' h1 h2 h3 h4 hn => ?_, ?_⟩
    · by_cases e : r' = r + 1
      · subst e; exact j2 c' h3 h4 hn
      · have := i1 r' c' h1 (by omega) h3 h4 hn
        omega
    · rcases j3 with e | ⟨e, c', h1, h2⟩
      · rw [e]
        rcases i2 with e2 | ⟨r', c', h1, h2, h3, h4⟩
        · exact .inl e2
        · exact .inr ⟨r', c', by omega, h2, h3, h4⟩
      · exact .inr ⟨r + 1, c', by omega, h1, h2, e⟩
theorem popc_le_n : ∀ n : Fin 7, ∀ s : Fin 64, s.val < 2 ^ n.val → popcS s.val ≤ n.val := by decide +kernel
theorem hasB_iff {l : List (List Int)} {k M1 M2 : Nat} : hasB l k M1 M2 = true ↔ ∃ r c, (r < M1 ∧ popcS r = k) ∧ (c < M2 ∧ popcS c = k) ∧ dt k (at2 (partL l r c)) ≠ 0 := by
  unfold hasB hasR
  rw [List.any_eq_true]
  constructor
  · rintro ⟨r, hr, h⟩
    obtain ⟨c, hc, h⟩ := List.any_eq_true.1 h
    exact ⟨r, c, (setsTo_mem k).1 hr, (setsTo_mem k).1 hc, by simpa using h⟩
  · rintro ⟨r, c, hr, hc, h⟩
    exact ⟨r, (setsTo_mem k).2 hr, List.any_eq_true.2 ⟨c, (setsTo_mem k).2 hc, by simpa using h⟩⟩
theorem rank_down {l : List (List Int)} {n m : Nat} (hn : n ≤ 6) (hm : m ≤ 6) :
    rkR l (2 ^ m) (2 ^ n) ≤ n ∧ rkR l (2 ^ m) (2 ^ n) ≤ m ∧ ∀ k, 1 ≤ k → (hasB l k (2 ^ n) (2 ^ m) = true → k ≤ rkR l (2 ^ m) (2 ^ n)) ∧ (hasB l k (2 ^ n) (2 ^ m) = false → rkR l (2 ^ m) (2 ^ n) ≠ k) := by
  have p1 : 2 ^ n ≤ 2 ^ 6 := Nat.pow_le_pow_right (by omega) hn
  have p2 : 2 ^ m ≤ 2 ^ 6 := Nat.pow_le_pow_right (by omega) hm
  have q1 : 1 ≤ 2 ^ n := Nat.pow_pos (by omega)
  have q2 : 1 ≤ 2 ^ m := Nat.pow_pos (by omega)
  obtain ⟨s1, s2⟩ := rkR_step l (2 ^ m) q2 (2 ^ n) q1
  have hle : rkR l (2 ^ m) (2 ^ n) ≤ n ∧ rkR l (2 ^ m) (2 ^ n) ≤ m := by
    rcases s2 with e | ⟨r, c, h1, h2, h3, h4⟩
    · omega
    · have e1 := popc_le_n ⟨n, by omega⟩ ⟨r, by omega⟩ h1
      have e2 := popc_le_n ⟨m, by omega⟩ ⟨c, by omega⟩ h2
      have := h3.1
      simp only at e1 e2
      omega
  refine ⟨hle.1, hle.2, fun k hk => ⟨fun h => ?_, fun h e => ?_⟩⟩
  · obtain ⟨r, c, ⟨r1, r2⟩, ⟨c1, c2⟩, hd⟩ := hasB_iff.1 h
    have g1 := popcS_pos ⟨r, by omega⟩ (by rw [r2]; exact hk)
    have g2 := popcS_pos ⟨c, by omega⟩ (by rw [c2]; exact hk)
    have hk6 : k ≤ 6 := by rw [← r2]; exact popcS_le r
    have := s1 r c g1 r1 g2 c1 ⟨by omega, by rw [r2, ordF_all _ hk6]; exact hd⟩
    omega
  · rcases s2 with e2 | ⟨r, c, h1, h2, h3, h4⟩
    · omega
    · have hk6 : k ≤ 6 := by rw [← e, h4]; exact popcS_le r
      have hr : popcS r = k := by omega
      have : hasB l k (2 ^ n) (2 ^ m) = true := hasB_iff.2 ⟨r, c, ⟨h1, hr⟩, ⟨h2, by rw [← h3.1]; exact hr⟩, by
        have := h3.2
        rw [hr, ordF_all _ hk6] at this
        exact this⟩
      rw [h] at this
      cases this

end Go.Proofs.Ytpimdgijjljejaa
end

section
namespace Go.Proofs.Ytpimdgijjljejaa
open Go.RowKit Go.Deep

set_option maxRecDepth 100000 in
set_option maxHeartbeats 2000000 in
theorem rank_any (a : Option Addr) (cap n m : Nat) (l : List (List Int)) (w : World) (hn : l.length = n) (hT : TabIn l) (hmm : (l.getD 0 []).length = m) (hm : MatR w a l) :
    Calls Try.prog 34 #[.slice a n cap] w fun e w' => e = .returned (.int .i64 (rkR l (2 ^ m) (2 ^ n) : Nat)) ∧ w.Since w.heap.size w' := by
  have h6 := hT.2.1
  have h1 := hT.1
  have hw := hT.width
  rw [hn] at h6 h1
  rw [hmm] at hw
  obtain ⟨r1, r2, r3⟩ := rank_down (l := l) h6 hw.2
  obtain ⟨b, hb⟩ : ∃ b, rkR l (2 ^ m) (2 ^ n) = b := ⟨_, rfl⟩
  rw [hb] at r1 r2 r3 ⊢
  have EW := width_any a cap n l w hn (by omega) (by omega) hm
  rw [hmm] at EW
  have EH := Lib.hid (fun (k : Nat) (W : World) (h : w.Since w.heap.size W) => hasMinor_any a cap n m k l W hn hmm hT (hm.since h))
  replace EW := Lib.hid EW
  have R3 := Lib.hid r3
  clear r3 hn hmm hm hT hb
  go_enter Try.func34, Try.ntmps34
  go_wp2_with fail
  refine (EW.out).mono ?_
  rintro e w1 ⟨rfl, rfl⟩
  go_wp2
  all_goals
    go_loopg [3] 6 (fun g v wr => ∃ c : Nat, b ≤ c ∧ c ≤ 6 ∧ c ≤ g ∧ v = .int .i64 c ∧ w.Since w.heap.size wr)
    case atStart => first | exact ⟨n, r1, h6, h6, rfl, World.Since.refl _ _⟩ | exact ⟨m, r2, hw.2, hw.2, rfl, World.Since.refl _ _⟩
    case round =>
      obtain ⟨c, hbc, hc6, hcg, rfl, hS⟩ := hrel
      by_cases hc0 : c = 0
      · have hb0 : b = 0 := by omega
        subst hc0 hb0
        have HS := Lib.hid hS
        clear hS
        go_wp2
        go_ret
        exact ⟨rfl, HS.out⟩
      · have hc1 : decide ((0 : Int) < (c : Int)) = true := by simp; omega
        have E := EH.out c wr hS
        obtain ⟨q1, q2⟩ := R3.out c (by omega)
        obtain ⟨h, hh⟩ : ∃ h, hasB l c (2 ^ n) (2 ^ m) = h := ⟨_, rfl⟩
        rw [hh] at E q1 q2
        replace E := Lib.hid E
        have HS := Lib.hid hS
        clear hS hh
        go_wp2_with fail
        refine (E.out).mono ?_
        rintro e w2 ⟨rfl, hs2⟩
        have HS2 := Lib.hid (HS.out.trans (since_mono hs2 HS.out.size))
        clear hs2
        cases h with
        | true =>
          have hcb : c = b := by have := q1 rfl; omega
          subst hcb
          go_wp2
          go_ret
          exact ⟨rfl, HS2.out⟩
        | false =>
          have hcb := q2 rfl
          go_wp2
          go_roundg (gk - 1)
          case measure => omega
          case rel => exact ⟨c - 1, by omega, by omega, by omega, by go_num, HS2.out⟩

set_option maxHeartbeats 1000000 in
theorem implValueRank_any (a : Option Addr) (cap n : Nat) (l : List (List Int)) (w : World) (hn : l.length = n) (hsz : szL l ≤ 1048576) (hm : MatR w a l) :
    Calls Try.prog 12 #[.slice a n cap] w (SpecW w (tabIn l) (rkR l (2 ^ (l.getD 0 []).length) (2 ^ n) : Nat)) := by
  have E := implTableIn_any a cap n l w hn hsz hm
  cases hT : tabIn l with
  | false =>
    rw [hT] at E
    replace E := Lib.hid E
    clear hT hm hn hsz
    go_enter Try.func12, Try.ntmps12
    go_wp2_with fail
    refine (E.out).mono ?_
    rintro e w1 ⟨rfl, hd⟩
    have HD := Lib.hid hd
    clear hd
    go_wp2
    go_ret2
    exact ⟨rfl, HD.out⟩
  | true =>
    rw [hT] at E
    replace E := Lib.hid E
    have E2 := Lib.hid (fun (W : World) (hd : w.Since w.heap.size W) => rank_any a cap n _ l W hn (tabIn_of hT) rfl (hm.since hd))
    clear hT hm hn hsz
    go_enter Try.func12, Try.ntmps12
    go_wp2_with fail
    refine (E.out).mono ?_
    rintro e w1 ⟨rfl, hd⟩
    have HD := Lib.hid hd
    clear hd
    go_wp2_with fail
    refine (E2.out w1 HD.out).mono ?_
    rintro e w2 ⟨rfl, hs2⟩
    have HS2 := Lib.hid (HD.out.trans (since_mono hs2 HD.out.size))
    clear hs2
    go_wp2
    go_ret2
    exact ⟨rfl, HS2.out⟩

end Go.Proofs.Ytpimdgijjljejaa
end

section
namespace Go.Proofs.Ytpimdgijjljejaa
open Go.RowKit Go.Deep

theorem sumN_more (f : Nat → Int) (n : Nat) : ∀ m, (∀ j, n ≤ j → j < n + m → f j = 0) → sumN f (n + m) = sumN f n
  | 0, _ => rfl
  | m + 1, h => by
    show sumN f (n + m) + f (n + m) = _
    rw [sumN_more f n m (fun j h1 h2 => h j h1 (by omega)), h (n + m) (by omega) (by omega)]
    omega
theorem sumN_one (f : Nat → Int) (k : Nat) : ∀ n, k < n → (∀ j, j < n → j ≠ k → f j = 0) → sumN f n = f k
  | 0, h, _ => by omega
  | n + 1, h, hz => by
    unfold sumN
    by_cases e : k = n
    · subst e
      rw [sumN_none k (fun j hj => hz j (by omega) (by omega))]; omega
    · rw [sumN_one f k n (by omega) (fun j hj hk => hz j (by omega) hk), hz n (by omega) (fun h => e h.symm)]; omega
theorem sumN_mulR (c : Int) (f : Nat → Int) (n : Nat) : sumN (fun j => f j * c) n = sumN f n * c := by
  rw [sumN_congr n (g := fun j => c * f j) (fun j _ => Int.mul_comm _ _), sumN_mul, Int.mul_comm]

theorem dt_block (m : Nat) : ∀ (n : Nat) (f : Nat → Nat → Int), (∀ i j, i < n → n ≤ j → j < n + m → f i j = 0) → dt (n + m) f = dt n f * dt m (fun i j => f (n + i) (n + j))
  | 0, f, _ => by
    rw [dt_zero, Int.one_mul, Nat.zero_add]
    exact dt_congr m fun i j _ _ => by rw [Nat.zero_add, Nat.zero_add]
  | n + 1, f, h => by
    rw [show n + 1 + m = (n + m) + 1 by omega, dt_succ, show n + m + 1 = (n + 1) + m by omega, sumN_more _ (n + 1) m (fun j h1 h2 => by rw [h 0 j (by omega) h1 h2]; simp), dt_succ, ← sumN_mulR]
    refine sumN_congr _ fun k hk => ?_
    rw [dt_block m n (dr k f) (fun i j h1 h2 h3 => by
      show f (i + 1) (skip k j) = 0
      rw [skip_ge (by omega)]
      exact h _ _ (by omega) (by omega) (by omega))]
    have e : dt m (fun i j => dr k f (n + i) (n + j)) = dt m (fun i j => f (n + 1 + i) (n + 1 + j)) := dt_congr m fun i j _ _ => by
      show f (n + i + 1) (skip k (n + j)) = _
      rw [skip_ge (by omega), show n + i + 1 = n + 1 + i by omega, show n + j + 1 = n + 1 + j by omega]
    rw [e, Int.mul_assoc, Int.mul_assoc]

theorem dt_addS {n r : Nat} (f : Nat → Nat → Int) (c : Nat → Int) (s : Nat → Nat) (hr : r < n) : ∀ k, (∀ m, m < k → s m < n ∧ s m ≠ r) → dt n (setR f r (fun j => f r j + sumN (fun m => c m * f (s m) j) k)) = dt n f
  | 0, _ => by
    rw [dt_congr n (g := f) (fun i j _ _ => by
      unfold setR
      split
      · rename_i h; rw [h]; simp [sumN]
      · rfl)]
  | k + 1, h => by
    have e : ∀ i j, setR f r (fun j => f r j + sumN (fun m => c m * f (s m) j) (k + 1)) i j = setR f r (fun j => 1 * (f r j + sumN (fun m => c m * f (s m) j) k) + c k * f (s k) j) i j := fun i j => by
      unfold setR
      split
      · show f r j + (sumN (fun m => c m * f (s m) j) k + c k * f (s k) j) = 1 * (f r j + sumN (fun m => c m * f (s m) j) k) + c k * f (s k) j
        omega
      · rfl
    obtain ⟨h1, h2⟩ := h k (by omega)
    rw [dt_congr n (fun i j _ _ => e i j), dt_lin n r f 1 (c k) _ _ hr, dt_addS f c s hr k (fun m hm => h m (by omega)), dt_sameR (setR f r (fun j => f (s k) j)) (Ne.symm h2) hr h1 (fun j _ => by unfold setR; rw [if_pos rfl, if_neg h2])]
    omega

def mulF (n : Nat) (A B : Nat → Nat → Int) (i j : Nat) : Int := sumN (fun m => A i m * B m j) n
def oneF (i j : Nat) : Int := if i = j then 1 else 0
def blk (n : Nat) (A B : Nat → Nat → Int) (i j : Nat) : Int := if i < n then (if j < n then A i j else 0) else (if j < n then (if i - n = j then -1 else 0) else B (i - n) (j - n))
def blkT (n : Nat) (A B : Nat → Nat → Int) (t i j : Nat) : Int := if i < t then (if j < n then 0 else mulF n A B i (j - n)) else blk n A B i j
theorem dt_blkT (n : Nat) (A B : Nat → Nat → Int) : ∀ t, t ≤ n → dt (n + n) (blkT n A B t) = dt (n + n) (blk n A B)
  | 0, _ => dt_congr _ fun i j _ _ => by unfold blkT; rw [if_neg (by omega)]
  | t + 1, ht => by
    rw [← dt_blkT n A B t (by omega), ← dt_addS (blkT n A B t) (A t) (fun m => n + m) (show t < n + n by omega) n (fun m hm => ⟨by omega, by omega⟩)]
    refine dt_congr _ fun i j _ hj => ?_
    unfold setR
    by_cases hi : i = t
    · subst hi
      rw [if_pos rfl]
      have e1 : blkT n A B (i + 1) i j = if j < n then 0 else mulF n A B i (j - n) := if_pos (by omega)
      have e2 : blkT n A B i i j = if j < n then A i j else 0 := by unfold blkT blk; rw [if_neg (by omega), if_pos (by omega)]
      have e3 : ∀ m, blkT n A B i (n + m) j = if j < n then (if m = j then -1 else 0) else B m (j - n) := fun m => by unfold blkT blk; rw [if_neg (by omega), if_neg (by omega), Nat.add_sub_cancel_left]
      show _ = blkT n A B i i j + sumN (fun m => A i m * blkT n A B i (n + m) j) n
      rw [e1, e2]
      by_cases hjn : j < n
      · rw [if_pos hjn, if_pos hjn, sumN_one (fun m => A i m * blkT n A B i (n + m) j) j n hjn (fun m _ hmj => by rw [e3, if_pos hjn, if_neg hmj]; simp), e3, if_pos hjn, if_pos rfl]
        omega
      · rw [if_neg hjn, if_neg hjn, Int.zero_add]
        exact sumN_congr n fun m _ => by rw [e3, if_neg hjn]
    · rw [if_neg hi]
      unfold blkT
      by_cases h1 : i < t
      · rw [if_pos (by omega), if_pos h1]
      · rw [if_neg (by omega), if_neg h1]
def colT (n t j : Nat) : Nat := if j < t then n + j else if n ≤ j ∧ j < n + t then j - n else j
theorem dt_colT (n : Nat) (f : Nat → Nat → Int) : ∀ t, t ≤ n → dt (n + n) (fun i j => f i (colT n t j)) = sn t * dt (n + n) f
  | 0, _ => by
    rw [sn_zero, Int.one_mul]
    exact dt_congr _ fun i j _ _ => by
      congr 1
      unfold colT
      rw [if_neg (by omega), if_neg (by omega)]
  | t + 1, ht => by
    have h := dt_exC (fun i j => f i (colT n t j)) (show t ≠ n + t by omega) (show t < n + n by omega) (show n + t < n + n by omega)
    rw [dt_colT n f t (by omega)] at h
    rw [sn_succ]
    have e : dt (n + n) (fun i j => f i (colT n (t + 1) j)) = dt (n + n) (fun i j => f i (colT n t (ex t (n + t) j))) := dt_congr _ fun i j _ _ => by
      congr 1
      unfold colT ex
      repeat (first | split | omega)
    rw [e, h]
    grind
theorem dt_oneF : ∀ n, dt n oneF = 1
  | 0 => rfl
  | n + 1 => by
    rw [dt_corner oneF (fun i _ => if_neg (by omega)), show oneF 0 0 = 1 from rfl, Int.one_mul]
    rw [dt_congr n (g := oneF) (fun i j _ _ => by unfold oneF; by_cases h : i = j <;> simp [h])]
    exact dt_oneF n
theorem pw_neg : ∀ n, pw (-1) n = sn n
  | 0 => rfl
  | n + 1 => by rw [sn_succ, ← pw_neg n]; show -1 * pw (-1) n = _; omega
theorem dt_mul (n : Nat) (A B : Nat → Nat → Int) : dt n (mulF n A B) = dt n A * dt n B := by
  have h1 : dt (n + n) (blk n A B) = dt n A * dt n B := by
    rw [dt_block n n (blk n A B) (fun i j h1 h2 _ => by unfold blk; rw [if_pos h1, if_neg (by omega)])]
    congr 1
    · exact dt_congr n fun i j hi hj => by unfold blk; rw [if_pos hi, if_pos hj]
    · exact dt_congr n fun i j _ _ => by unfold blk; rw [if_neg (by omega), if_neg (by omega), Nat.add_sub_cancel_left, Nat.add_sub_cancel_left]
  have h2 := dt_colT n (blkT n A B n) n (Nat.le_refl _)
  rw [dt_blkT n A B n (Nat.le_refl _), h1] at h2
  have h3 : dt (n + n) (fun i j => blkT n A B n i (colT n n j)) = dt n (mulF n A B) * sn n := by
    rw [dt_block n n _ (fun i j h1 h2 h3 => by
      show blkT n A B n i (colT n n j) = 0
      have ec : colT n n j = j - n := by unfold colT; rw [if_neg (by omega), if_pos ⟨h2, h3⟩]
      rw [ec]
      unfold blkT
      rw [if_pos h1, if_pos (by omega)])]
    congr 1
    · refine dt_congr n fun i j hi hj => ?_
      show blkT n A B n i (colT n n j) = _
      have ec : colT n n j = n + j := by unfold colT; rw [if_pos hj]
      rw [ec]
      unfold blkT
      rw [if_pos hi, if_neg (by omega), Nat.add_sub_cancel_left]
    · rw [dt_congr n (g := fun i j => -1 * oneF i j) (fun i j hi hj => by
        show blkT n A B n (n + i) (colT n n (n + j)) = _
        have ec : colT n n (n + j) = j := by unfold colT; rw [if_neg (by omega), if_pos (by omega), Nat.add_sub_cancel_left]
        rw [ec]
        unfold blkT blk oneF
        rw [if_neg (show ¬ n + i < n by omega), if_neg (show ¬ n + i < n by omega), if_pos hj, Nat.add_sub_cancel_left]
        by_cases e : i = j <;> simp [e]), dt_scale (-1) n oneF, dt_oneF, pw_neg]
      omega
  rw [h3] at h2
  have h4 := sn_sq n
  have h5 : dt n (mulF n A B) * (sn n * sn n) = sn n * sn n * (dt n A * dt n B) := by grind
  rw [h4] at h5
  omega

def selN (s n i : Nat) : Nat := ((sel s n n).map (·.1)).getD i 0
theorem pickTo_at (c : Nat) (x : List Int) (m j : Nat) (hj : j < (sel c m m).length) : (pickTo c x m m).getD j 0 = x.getD (selN c m j) 0 := by
  unfold pickTo selN
  simp [List.getD, hj]
theorem partL_at (l : List (List Int)) (s c : Nat) {i j : Nat} (hi : i < (sel s l.length l.length).length) (hj : j < (sel c (l.getD 0 []).length (l.getD 0 []).length).length) :
    at2 (partL l s c) i j = at2 l (selN s l.length i) (selN c (l.getD 0 []).length j) := by
  have e1 : (partL l s c).getD i [] = pickTo c (l.getD (selN s l.length i) []) (l.getD 0 []).length (l.getD 0 []).length := by
    unfold partL partRows selN
    simp [List.getD, hi]
  unfold at2
  rw [e1, pickTo_at _ _ _ _ hj]
theorem selN_but : ∀ n : Fin 7, ∀ k : Fin 6, ∀ j : Fin 6, k.val < n.val → j.val + 1 < n.val → selN (2 ^ n.val - 1 - 2 ^ k.val) n.val j.val = skip k.val j.val := by decide +kernel
theorem sel_but_len : ∀ n : Fin 7, ∀ k : Fin 6, k.val < n.val → (sel (2 ^ n.val - 1 - 2 ^ k.val) n.val n.val).length + 1 = n.val := by decide +kernel
theorem partL_but {l : List (List Int)} {n r k i j : Nat} (hn : l.length = n) (hw : (l.getD 0 []).length = n) (h6 : n ≤ 6) (hr : r < n) (hk : k < n) (hi : i + 1 < n) (hj : j + 1 < n) :
    at2 (partL l (2 ^ n - 1 - 2 ^ r) (2 ^ n - 1 - 2 ^ k)) i j = at2 l (skip r i) (skip k j) := by
  have l1 := sel_but_len ⟨n, by omega⟩ ⟨r, by omega⟩ hr
  have l2 := sel_but_len ⟨n, by omega⟩ ⟨k, by omega⟩ hk
  simp only at l1 l2
  rw [partL_at l _ _ (by rw [hn]; omega) (by rw [hw]; omega), hn, hw]
  have e1 := selN_but ⟨n, by omega⟩ ⟨r, by omega⟩ ⟨i, by omega⟩ hr hi
  have e2 := selN_but ⟨n, by omega⟩ ⟨k, by omega⟩ ⟨j, by omega⟩ hk hj
  simp only at e1 e2
  rw [e1, e2]
theorem rowF_dt : ∀ (d : Nat) (l : List (List Int)), SqD d l → rowF d l = dt d (at2 l)
  | 0, _, _ => rfl
  | d + 1, l, h => by
    obtain ⟨hT, hw⟩ := h.2 (by omega)
    have h6 := hT.2.1
    have hn := h.1
    rw [rowF_succ, dt_succ]
    refine sumN_congr _ fun k hk => ?_
    rw [sg_sn, rowF_dt d _ (minor_sq h hk)]
    have e : dt d (at2 (minorL l (d + 1) k)) = dt d (dr k (at2 l)) := dt_congr d fun i j hi hj => by
      have := partL_but (r := 0) (k := k) (i := i) (j := j) hn hw (by omega) (by omega) hk (by omega) (by omega)
      exact this
    rw [e]

end Go.Proofs.Ytpimdgijjljejaa
end

section
namespace Go.Proofs.Ytpimdgijjljejaa
open Go.RowKit Go.Deep

theorem selN_lt {s n i : Nat} (h : i < (sel s n n).length) : selN s n i < n := by
  unfold selN
  have e : ((sel s n n).map (·.1)).getD i 0 = ((sel s n n)[i]).1 := by simp [List.getD, h]
  rw [e]
  exact ((sel s n n)[i]).2
theorem has_turn {l : List (List Int)} {n m k : Nat} (hT : TabIn l) (hn : l.length = n) (hmm : (l.getD 0 []).length = m) (h : hasB l k (2 ^ n) (2 ^ m) = true) : hasB (turnL l) k (2 ^ m) (2 ^ n) = true := by
  have h6 := hT.2.1
  have hw := hT.width
  have p1 : 2 ^ n ≤ 2 ^ 6 := Nat.pow_le_pow_right (by omega) (by omega)
  have p2 : 2 ^ m ≤ 2 ^ 6 := Nat.pow_le_pow_right (by omega) (by omega)
  obtain ⟨r, c, ⟨r1, r2⟩, ⟨c1, c2⟩, hd⟩ := hasB_iff.1 h
  refine hasB_iff.2 ⟨c, r, ⟨c1, c2⟩, ⟨r1, r2⟩, ?_⟩
  have e0 : ((turnL l).getD 0 []).length = n := (tabF_len _ _ _ _ (by omega)).trans hn
  have e1 : (turnL l).length = m := (turnL_length l).trans hmm
  have g1 := popcS_sel ⟨n, by omega⟩ ⟨r, by omega⟩ r1
  have g2 := popcS_sel ⟨m, by omega⟩ ⟨c, by omega⟩ c1
  simp only at g1 g2
  have e : dt k (at2 (partL (turnL l) c r)) = dt k (fun i j => at2 (partL l r c) j i) := dt_congr k fun i j hi hj => by
    rw [partL_at (turnL l) c r (by rw [e1]; omega) (by rw [e0]; omega), partL_at l r c (by rw [hn]; omega) (by rw [hmm]; omega), e0, e1, hn, hmm]
    exact tabF_at _ _ _ _ _ (by rw [hmm]; exact selN_lt (by omega)) (by rw [hn]; exact selN_lt (by omega))
  rw [e, dt_turn]
  exact hd
theorem turn_turn {l : List (List Int)} (hT : TabIn l) : TabIn (turnL l) ∧ (turnL l).length = (l.getD 0 []).length ∧ ((turnL l).getD 0 []).length = l.length :=
  ⟨tabIn_of (tabIn_turn hT), turnL_length l, tabF_len _ _ _ _ (by have := hT.width; omega)⟩
theorem turnL_back {l : List (List Int)} {n m k : Nat} (hT : TabIn l) (hn : l.length = n) (hmm : (l.getD 0 []).length = m) (h : hasB (turnL l) k (2 ^ m) (2 ^ n) = true) : hasB l k (2 ^ n) (2 ^ m) = true := by
  obtain ⟨h1, h2, h3⟩ := turn_turn hT
  have := has_turn h1 (h2.trans hmm) (h3.trans hn) h
  rw [turnL_turnL hT] at this
  exact this
theorem rank_turn {l : List (List Int)} {n m : Nat} (hT : TabIn l) (hn : l.length = n) (hmm : (l.getD 0 []).length = m) : rkR (turnL l) (2 ^ n) (2 ^ m) = rkR l (2 ^ m) (2 ^ n) := by
  have h6 := hT.2.1
  have hw := hT.width
  obtain ⟨_, _, a3⟩ := rank_down (l := l) (n := n) (m := m) (by omega) (by omega)
  obtain ⟨_, _, b3⟩ := rank_down (l := turnL l) (n := m) (m := n) (by omega) (by omega)
  have q1 : rkR l (2 ^ m) (2 ^ n) ≤ rkR (turnL l) (2 ^ n) (2 ^ m) := by
    by_cases h0 : 1 ≤ rkR l (2 ^ m) (2 ^ n)
    · cases hb : hasB l (rkR l (2 ^ m) (2 ^ n)) (2 ^ n) (2 ^ m) with
      | false => exact absurd rfl ((a3 _ h0).2 hb)
      | true => exact (b3 _ h0).1 (has_turn hT hn hmm hb)
    · omega
  have q2 : rkR (turnL l) (2 ^ n) (2 ^ m) ≤ rkR l (2 ^ m) (2 ^ n) := by
    by_cases h0 : 1 ≤ rkR (turnL l) (2 ^ n) (2 ^ m)
    · cases hb : hasB (turnL l) (rkR (turnL l) (2 ^ n) (2 ^ m)) (2 ^ m) (2 ^ n) with
      | false => exact absurd rfl ((b3 _ h0).2 hb)
      | true => exact (a3 _ h0).1 (turnL_back hT hn hmm hb)
    · omega
  omega
theorem popc_full : ∀ n : Fin 7, ∀ s : Fin 64, s.val < 2 ^ n.val → popcS s.val = n.val → s.val = 2 ^ n.val - 1 := by decide +kernel
theorem popc_all : ∀ n : Fin 7, popcS (2 ^ n.val - 1) = n.val := by decide +kernel
theorem rank_full {l : List (List Int)} {n : Nat} (h : sqB l = true) (hn : l.length = n) : rkR l (2 ^ n) (2 ^ n) = n ↔ ordF l n n 0 ≠ 0 := by
  obtain ⟨hT, hw⟩ := sqB_of h
  have h6 := hT.2.1
  have h1 := hT.1
  have p1 : 2 ^ n ≤ 2 ^ 6 := Nat.pow_le_pow_right (by omega) (by omega)
  have q1 : 1 ≤ 2 ^ n := Nat.pow_pos (by omega)
  obtain ⟨a1, _, a3⟩ := rank_down (l := l) (n := n) (m := n) (by omega) (by omega)
  obtain ⟨c1, c2⟩ := a3 n (by omega)
  have hf : partL l (2 ^ n - 1) (2 ^ n - 1) = l := by
    have := partL_full hT.rec
    rw [← hw, hn] at this
    exact this
  rw [ordF_all _ (by omega)]
  have e : hasB l n (2 ^ n) (2 ^ n) = true ↔ dt n (at2 l) ≠ 0 := by
    rw [hasB_iff]
    constructor
    · rintro ⟨r, c, ⟨r1, r2⟩, ⟨s1, s2⟩, hd⟩
      have e1 := popc_full ⟨n, by omega⟩ ⟨r, by omega⟩ r1 r2
      have e2 := popc_full ⟨n, by omega⟩ ⟨c, by omega⟩ s1 s2
      simp only at e1 e2
      rw [e1, e2, hf] at hd
      exact hd
    · intro hd
      have e3 := popc_all ⟨n, by omega⟩
      exact ⟨2 ^ n - 1, 2 ^ n - 1, ⟨by omega, e3⟩, ⟨by omega, e3⟩, by rw [hf]; exact hd⟩
  constructor
  · intro hr
    cases hb : hasB l n (2 ^ n) (2 ^ n) with
    | false => exact absurd hr (c2 hb)
    | true => exact e.1 hb
  · intro hd
    have := c1 (e.2 hd)
    omega

end Go.Proofs.Ytpimdgijjljejaa
end

section
namespace Go.Proofs.Ytpimdgijjljejaa
open Go.RowKit Go.Deep

theorem popcS_but : ∀ n : Fin 7, ∀ k : Fin 6, k.val < n.val → popcS (2 ^ n.val - 1 - 2 ^ k.val) = n.val - 1 := by decide +kernel
theorem but_lt : ∀ n : Fin 7, ∀ k : Fin 6, k.val < n.val → 2 ^ n.val - 1 - 2 ^ k.val < 2 ^ n.val ∧ 2 ^ n.val - 1 - 2 ^ k.val ≤ 63 := by decide +kernel

def othF (l : List (List Int)) (n i k : Nat) : Int := sg (i + k) (ordF (partL l (2 ^ n - 1 - 2 ^ k) (2 ^ n - 1 - 2 ^ i)) (n - 1) (n - 1) 0)
def otherR (l : List (List Int)) (n i j : Nat) : List Int := (List.range j).map fun k => othF l n i k
theorem otherR_succ (l : List (List Int)) (n i j : Nat) : otherR l n i (j + 1) = otherR l n i j ++ [othF l n i j] := by simp [otherR, List.range_succ]
theorem otherR_length (l : List (List Int)) (n i j : Nat) : (otherR l n i j).length = j := by simp [otherR]
def otherTo (l : List (List Int)) (n r : Nat) : List (List Int) := (List.range r).map fun i => otherR l n i n
theorem otherTo_succ (l : List (List Int)) (n r : Nat) : otherTo l n (r + 1) = otherTo l n r ++ [otherR l n r n] := by simp [otherTo, List.range_succ]
theorem otherTo_length (l : List (List Int)) (n r : Nat) : (otherTo l n r).length = r := by simp [otherTo]
theorem otherTo_all (l : List (List Int)) (n : Nat) : otherTo l n n = tabF n n (othF l n) := rfl
theorem RB.later {wo wr w1 : World} {v : Value} {x : List Int} (h : RB wo wr v x) (hs : wr.Since wr.heap.size w1) : RB wo w1 v x :=
  ⟨h.since.trans (since_mono hs h.since.size), World.ownsRow.kept h.own (row := none) ⟨hs.os, hs.tape, hs.output, hs.size, fun k hk _ => hs.block k hk⟩ (by cases hv : v.ownBlock <;> simp)⟩

end Go.Proofs.Ytpimdgijjljejaa
end

section
namespace Go.Proofs.Ytpimdgijjljejaa
open Go.RowKit Go.Deep Go.Shelf
attribute [local go_sem] Oper.semAt_some

def dotF (l u : List (List Int)) (i k j : Nat) : Int := at2 l i j * at2 u j k

set_option maxRecDepth 100000 in
set_option maxHeartbeats 2000000 in
theorem prodEntry_any (pu pt i k n n2 m m2 cap cap2 : Nat) (a a2 : Option Addr) (l u : List (List Int)) (w : World) (hn : l.length = n) (hu : u.length = n2) (hT : TabIn l) (hTu : TabIn u) (hmm : (l.getD 0 []).length = m) (hmm2 : (u.getD 0 []).length = m2) (hmn : m = n2)
    (hbu : w.cell? ⟨pu, 0, none⟩ = some (.slice a2 n2 cap2)) (hbt : w.cell? ⟨pt, 0, none⟩ = some (.slice a n cap)) (hm : MatR w a l) (hmu : MatR w a2 u) (hi : i < n) (hk : k < m2) :
    Calls Try.prog 66 #[.int .i64 i, .int .i64 k, .pointer (some ⟨pu, 0, none⟩), .pointer (some ⟨pt, 0, none⟩)] w fun e w' => e = .returned (.int .i64 (sumN (dotF l u i k) n2)) ∧ w.Since w.heap.size w' := by
  subst hmn
  have h6 := hT.2.1
  have g6 := hTu.2.1
  have h1 := hT.1
  have g1 := hTu.1
  have hw := hT.width
  have gw := hTu.width
  rw [hn] at h6 h1
  rw [hu] at g6 g1
  rw [hmm] at hw
  rw [hmm2] at gw
  obtain ⟨bt, ot, At, Ct, rfl, hlen, hcell⟩ := hm.grid hn hT hmm
  obtain ⟨bu, ou, Au, Cu, rfl, hlenu, hcellu⟩ := hmu.grid hu hTu hmm2
  have hpu : pu < w.heap.size := World.block_lt_of_cell? _ _ hbu
  have hpt : pt < w.heap.size := World.block_lt_of_cell? _ _ hbt
  have hbul : bu < w.heap.size := World.block_lt_of_cell? _ _ (hlenu 0 (by omega))
  have hbtl : bt < w.heap.size := World.block_lt_of_cell? _ _ (hlen 0 (by omega))
  have hpow : 2 ^ m - 1 ≤ 63 := by have : 2 ^ m ≤ 2 ^ 6 := Nat.pow_le_pow_right (by omega) g6; omega
  have HC := Lib.hid hcell
  have HCU := Lib.hid hcellu
  have HLU := Lib.hid hlenu
  obtain ⟨f, hf⟩ : ∃ f, f = dotF l u i k := ⟨_, rfl⟩
  rw [← hf]
  have HF := Lib.hid hf
  have hmix : Try.prog.follows .mixedOrders = true := by kernel_rfl
  clear hm hmu hT hTu hn hu hmm hmm2 hlen hcell hlenu hcellu hf
  refine (callsIn_wide (n := 9)).1 ?_
  refine callsIn_of_wp_marks Try.func66 rfl trivial ?_ rfl
  simp only [Try.ntmps66, List.size_toArray, List.length_cons, List.length_nil, Nat.reduceAdd, Nat.reduceSub, Array.replicate_succ, Array.replicate_zero, List.push_toArray, List.append_toArray, List.nil_append, List.cons_append]
  have hbuA := fun (o1 o2 o3 : Obj) => cell_alloc_l o3 (cell_alloc_l o2 (cell_alloc_l o1 hbu))
  gi_wp2
  gi_region_with_o (first
    | (refine ⟨trivial, ?_⟩; gi_at_call 62; refine (callsIn_wide.2 (allRows_any _ _ _ _ g6)).mono ?_; rintro e w' ⟨rfl, rfl⟩)
    | (refine ⟨trivial, ?_⟩; gi_at_call 67; refine (callsIn_wide.2 (rows_any _ _ _ _ _)).mono ?_; rintro e w' ⟨rfl, rfl⟩))
  all_goals
    gi_wp2
    obtain ⟨W0, hW0⟩ : ∃ W0, W0 = (((((w.alloc (.cells #[.int .i64 i] 3)).alloc (.cells #[.int .i64 k] 3)).alloc (.cells #[.int .i64 0] 3)).alloc (.cells #[.slice (some ⟨bu, ou, none⟩) m cap2] 41)).alloc (.cells #[.int .i64 (2 ^ m - 1 : Nat)] 3)).drew := ⟨_, rfl⟩
    rw [← hW0]
    obtain ⟨hsz0, hB0, d0, d1, d2, d2f, d3, d4⟩ := prod_world w (.int .i64 i) (.int .i64 k) (.int .i64 0) (.slice (some ⟨bu, ou, none⟩) m cap2) (.int .i64 (2 ^ m - 1 : Nat)) 41 W0 hW0
    have hc0' : ∀ j, j < m → W0.cell? ⟨bu, ou + j, none⟩ = some (.slice (Au j) m2 (Cu j)) := fun j hj => (hB0.cell (p := ⟨bu, ou + j, none⟩) hbul).trans (HLU.out j hj)
    have hstops := rows_stopsB 8 (by omega) (w.heap.size + 1 + 1) W0.heap.size (w.heap.size + 1 + 1 + 1) (w.heap.size + 1 + 1 + 1 + 1) bu ou m cap2 (2 ^ m - 1) (by omega) hpow Au (fun _ => m2) Cu W0 (Nat.le_refl _) (by omega) (by omega) (by omega) (by omega) (by omega) d3 d4 hc0'
    clear hc0' d3 d4 hbuA
    refine wpIn_rangeFunc_ownF (F := Fence.wide) (n := 9) rfl (by omega) (gf := 78) (lb := #[.pointer (some ⟨w.heap.size + 1 + 1 + 1, 0, none⟩), .pointer (some ⟨w.heap.size + 1 + 1 + 1 + 1, 0, none⟩)]) rfl trivial (enters_of Try.func78 (by kernel_rfl) rfl)
      hstops kpB_t (kpB_b (Nat.le_refl _)) (Below.refl _ _) (fun _ => rfl)
      (fun pre W => (W.cell? ⟨w.heap.size, 0, none⟩ = some (.int .i64 i) ∧ W.cell? ⟨w.heap.size + 1, 0, none⟩ = some (.int .i64 k) ∧ W.cell? ⟨w.heap.size + 1 + 1, 0, none⟩ = some (.int .i64 (lsum f pre)) ∧ W.frozen? ⟨w.heap.size + 1 + 1, 0, none⟩ = false) ∧ Below w.heap.size w W)
      (fun _ _ _ => False)
      (OwnFrom.and (Own.from (fun s A B row hs hg hr => ⟨cell_kept hs.1 hg hr, cell_kept hs.2.1 hg hr, cell_kept hs.2.2.1 hg hr, (frozen_kept hs.2.2.1 hg hr).trans hs.2.2.2⟩) _) (ownFrom_below (Nat.le_refl _) (by omega)))
      (fun c => fun s A B row hs hg hr => hs)
      ⟨⟨d0, d1, d2, d2f⟩, hB0⟩
      (fun x => { tmps := #[.int .i64 i, .int .i64 k, .pointer (some ⟨pu, 0, none⟩), .pointer (some ⟨pt, 0, none⟩), .pointer (some ⟨w.heap.size, 0, none⟩), .pointer (some ⟨w.heap.size + 1, 0, none⟩), .int .i64 0,
          .pointer (some ⟨w.heap.size + 1 + 1, 0, none⟩), .int .i64 x.1, .slice (Au x.1) m2 (Cu x.1), .slice (some ⟨bu, ou, none⟩) m cap2, .slice (some ⟨bu, ou, none⟩) m cap2, .int .i64 (2 ^ m - 1 : Nat),
          .func (.func 78) #[] #[.pointer (some ⟨w.heap.size + 1 + 1 + 1, 0, none⟩), .pointer (some ⟨w.heap.size + 1 + 1 + 1 + 1, 0, none⟩)],
          .int .i64 x.1, .slice (Au x.1) m2 (Cu x.1), undef, undef, undef, undef, undef, undef, undef, undef, undef, undef, undef, undef, undef, undef, undef], defers := [] }) ?assign ?body ?done ?stop
    case assign =>
      intro lp x W K hK
      gi_wp2
      exact hK
    case body =>
      rintro lp pre x W ⟨⟨g0, g1, g2, g2f⟩, gB⟩ hlen
      have hx2 := x.2
      obtain ⟨j, hj⟩ : ∃ j, x.1 = j := ⟨_, rfl⟩
      rw [hj] at hx2 ⊢
      obtain ⟨bi, oi, e1, e2, e3⟩ := HC.out i j hi hx2
      obtain ⟨bj, oj, f1, f2, f3⟩ := HCU.out j k hx2 hk
      have hAu : Au j = some ⟨bj, oj, none⟩ := by
        have := (HLU.out j hx2).symm.trans f1
        simp at this
        exact this
      rw [hAu]
      have hsn := lsum_snoc f pre x
      rw [hj] at hsn
      have hfj : f j = at2 l i j * at2 u j k := by rw [HF.out]; rfl
      have hlb := lsum_bd f (fun j hj => by
        obtain ⟨_, _, _, _, b1⟩ := HC.out i j hi hj
        obtain ⟨_, _, _, _, b2⟩ := HCU.out j k hj hk
        rw [HF.out]; exact mul_bd2 _ _ b1 b2) pre
      obtain ⟨p, hp⟩ : ∃ p, at2 l i j = p := ⟨_, rfl⟩
      obtain ⟨q, hq⟩ : ∃ q, at2 u j k = q := ⟨_, rfl⟩
      obtain ⟨s, hs⟩ : ∃ s, lsum f pre = s := ⟨_, rfl⟩
      rw [hp] at e2 e3 hfj
      rw [hq] at f2 f3 hfj
      rw [hs] at g2 hsn hlb
      have hpq := mul_bd2 p q e3 f3
      have hw1 : IntKind.i64.wrap (p * q) = p * q := IntWalk.i64_in _ ⟨by omega, by omega⟩
      have hw2 : IntKind.i64.wrap (s + p * q) = s + p * q := IntWalk.i64_in _ ⟨by omega, by omega⟩
      rw [hfj] at hsn
      have HSN := Lib.hid hsn
      have E0 := (gB.cell (p := ⟨pt, 0, none⟩) hpt).trans hbt
      have E1 := (gB.cell (p := ⟨bt, ot + i, none⟩) hbtl).trans e1
      have E2 := (gB.cell (p := ⟨bi, oi + j, none⟩) (World.block_lt_of_cell? _ _ e2)).trans e2
      have F2 := (gB.cell (p := ⟨bj, oj + k, none⟩) (World.block_lt_of_cell? _ _ f2)).trans f2
      clear hj hp hq hs hsn hlb hfj e1 e2 f1 f2 hAu
      gi_wp2
      refine round_still_tail 14 hmix (by kernel_rfl) (by kernel_rfl) ?hno ?_
      case hno =>
        rintro ⟨a, w, h⟩
        exact h
      simp only [List.take_succ_cons, List.take_zero, List.drop_succ_cons, List.drop_zero]
      repeat still_step
      refine wpStill_nil ?_
      go_wp2
      rw [← HSN.out] at hw2 ⊢
      have hset : ∀ v, (W.setCell ⟨w.heap.size + 1 + 1, 0, none⟩ v).frozen? ⟨w.heap.size + 1 + 1, 0, none⟩ = false := fun v => (W.frozen?_setCell _ _ _).trans g2f
      refine ⟨(KeepsOthers.setCell _ _ _).trans (KeepsOthers.drew _), ⟨?_, fun b h1 _ => ?_⟩, ⟨?_, ?_, ?_, ?_⟩, (gB.setCell (p := ⟨w.heap.size + 1 + 1, 0, none⟩) (by simp; omega) _).drew⟩
      · simp
      · exact Below.heap_setCell _ _ _ _ h1
      · exact (World.cell?_setCell_other _ _ _ _ (fun e => by injection e with e1; omega)).trans g0
      · exact (World.cell?_setCell_other _ _ _ _ (fun e => by injection e with e1; omega)).trans g1
      · exact World.cell?_setCell_same' _ _ _ (by rw [g2]; rfl)
      · exact hset _
    case done => 
      rintro D ys W hD rfl ⟨⟨g0, g1, g2, g2f⟩, gB⟩ hK
      gi_wp2
      refine ⟨by simp, .inl ⟨_, _, rfl, run_takeDeferred hK, ?_⟩⟩
      refine ⟨.int .i64 (sumN f m), ?_, rfl, below_since (gB.trans (belowK_b (w := w) (Nat.le_refl _) W D _ _ (by omega) hK rfl rfl))⟩
      have hls := lsum_sel f (2 ^ m - 1) m (fun i hi => by rw [Nat.testBit_two_pow_sub_one]; simpa using hi) m (Nat.le_refl _)
      simp [results, Try.f66, go_sem, hls]
    case stop =>
      rintro D c pre W hD hpre hF hK
      exact hF.elim

end Go.Proofs.Ytpimdgijjljejaa
end

section
namespace Go.Proofs.Ytpimdgijjljejaa
open Go.RowKit Go.Deep

def makeL (l u : List (List Int)) : List (List Int) := tabF l.length (u.getD 0 []).length fun i k => sumN (dotF l u i k) u.length
theorem makeL_length (l u : List (List Int)) : (makeL l u).length = l.length := tabF_length _ _ _

set_option maxRecDepth 100000 in
set_option maxHeartbeats 2000000 in
theorem product_any (a : Option Addr) (cap n : Nat) (l : List (List Int)) (a2 : Option Addr) (cap2 n2 : Nat) (u : List (List Int)) (w : World) (hn : l.length = n) (hT : TabIn l) (hm : MatR w a l) (hu : u.length = n2) (hTu : TabIn u) (huw : (l.getD 0 []).length = n2) (hmu : MatR w a2 u) :
    Calls Try.prog 46 #[.slice a n cap, .slice a2 n2 cap2] w fun e w' => e = .returned (.slice (some ⟨w.heap.size + 1 + 1, 0, none⟩) n n) ∧ w.Since w.heap.size w' ∧ OwnT w.heap.size w'.heap.size w' (some ⟨w.heap.size + 1 + 1, 0, none⟩) (makeL l u) := by
  have hw := hTu.width
  have h6 := hT.2.1
  rw [hn] at h6
  have g6 := hTu.2.1
  have g1 := hTu.1
  rw [hu] at g6 g1
  have hwid := fun (W : World) (hs : w.Since w.heap.size W) => width_any a2 cap2 n2 u W hu (by omega) (by omega) (hmu.since hs)
  obtain ⟨m2, hmm⟩ : ∃ m, (u.getD 0 []).length = m := ⟨_, rfl⟩
  have hnt := fun (W : World) (hs : w.Since w.heap.size W) (hb0 : W.cell? ⟨w.heap.size, 0, none⟩ = some (.slice a n cap)) (hb1 : W.cell? ⟨w.heap.size + 1, 0, none⟩ = some (.slice a2 n2 cap2)) =>
    newTable_any 66 #[.pointer (some ⟨w.heap.size + 1, 0, none⟩), .pointer (some ⟨w.heap.size, 0, none⟩)] n m2 (fun i k => sumN (dotF l u i k) n2) W (by omega) (by omega) (enters_of Try.func66 (by kernel_rfl) rfl)
      (fun W' i k hs' hi hk => prodEntry_any (w.heap.size + 1) w.heap.size i k n n2 n2 m2 cap cap2 a a2 l u W' hn hu hT hTu huw hmm rfl ((hs'.cell (a := ⟨w.heap.size + 1, 0, none⟩) (World.block_lt_of_cell? _ _ hb1)).trans hb1) ((hs'.cell (a := ⟨w.heap.size, 0, none⟩) (World.block_lt_of_cell? _ _ hb0)).trans hb0) (hm.since (hs.trans (since_mono hs' hs.size))) (hmu.since (hs.trans (since_mono hs' hs.size))) hi hk)
  have htl : makeL l u = tabF n m2 (fun i k => sumN (dotF l u i k) n2) := by unfold makeL; rw [hmm, hn, hu]
  rw [hmm] at hwid hw
  rw [htl]
  have HW := Lib.hid hwid
  have HNT := Lib.hid hnt
  have HS1 := Lib.hid (show w.Since w.heap.size ((w.alloc (.cells #[.slice a n cap] 41)).alloc (.cells #[.slice a2 n2 cap2] 41)) from (((World.Since.refl _ _).alloc (Nat.le_refl _) _).alloc (by simp) _))
  have hc0 := cell_new_l w (.slice a n cap) 41
  have hc1 := cell_new_l (w.alloc (.cells #[.slice a n cap] 41)) (.slice a2 n2 cap2) 41
  simp only [World.size_alloc] at hc1
  have hcb0 : ((w.alloc (.cells #[.slice a n cap] 41)).alloc (.cells #[.slice a2 n2 cap2] 41)).cell? ⟨w.heap.size, 0, none⟩ = some (.slice a n cap) := (cell_alloc_l _ hc0.1)
  have hcb1 : ((w.alloc (.cells #[.slice a n cap] 41)).alloc (.cells #[.slice a2 n2 cap2] 41)).cell? ⟨w.heap.size + 1, 0, none⟩ = some (.slice a2 n2 cap2) := hc1.1
  clear hwid hnt hm hT hn hmm htl hc0 hc1 hu hTu huw hmu
  go_enter Try.func46, Try.ntmps46
  go_wp2
  go_region_held3 (fun w' => w'.cell? ⟨w.heap.size, 0, none⟩ = some (.slice a n cap) ∧ w'.cell? ⟨w.heap.size + 1, 0, none⟩ = some (.slice a2 n2 cap2)) (go_keep)
    (first
      | (go_at_call 45; refine (HW.out _ ?_).mono ?_; (exact World.Since.drew HS1.out); rintro e w1 ⟨rfl, rfl⟩)
      | (go_at_call 65; refine (HNT.out _ ?_ ?_ ?_).mono ?_; (exact World.Since.drew HS1.out); (exact hcb0); (exact hcb1); rintro e w1 ⟨rfl, hs2, ho⟩; have hcc := hs2.cell (a := ⟨w.heap.size, 0, none⟩) (World.block_lt_of_cell? _ _ hcb0); simp only [World.cell?_drew, hcb0] at hcc; have hcd := hs2.cell (a := ⟨w.heap.size + 1, 0, none⟩) (World.block_lt_of_cell? _ _ hcb1); simp only [World.cell?_drew, hcb1] at hcd))
  all_goals
    go_wp2
    go_ret
    refine ⟨rfl, HS1.out.trans (since_mono (since_of_drew hs2) (by simp; omega)), ?_⟩
    have hz : ((w.alloc (.cells #[.slice a n cap] 41)).alloc (.cells #[.slice a2 n2 cap2] 41)).drew.heap.size = w.heap.size + 1 + 1 := by simp
    rw [hz] at ho
    exact ho.mono (by omega) (Nat.le_refl _)

noncomputable def makeOk (l u : List (List Int)) : Bool := tabIn l && (tabIn u && (((l.getD 0 []).length == u.length) && tabIn (makeL l u)))
theorem szL_make {l u : List (List Int)} (h : TabIn l) (hu : TabIn u) : szL (makeL l u) ≤ 1048576 := szL_tabF _ _ _ (by have := h.2.1; omega) (by have := hu.width; omega)

end Go.Proofs.Ytpimdgijjljejaa
end

section
namespace Go.Proofs.Ytpimdgijjljejaa
open Go.RowKit Go.Deep

def mv (r i : Nat) : Nat := if i = 0 then r else if i ≤ r then i - 1 else i
theorem mv_zero (i : Nat) : mv 0 i = i := by unfold mv; repeat (first | split | omega)
theorem mv_succ (r i : Nat) : ex r (r + 1) (mv r i) = mv (r + 1) i := by unfold mv ex; repeat (first | split | omega)
theorem mv_skip (r i : Nat) : mv r (i + 1) = skip r i := by unfold mv skip; repeat (first | split | omega)
theorem dt_mv {n : Nat} : ∀ (r : Nat) (f : Nat → Nat → Int), r < n → dt n (fun i j => f (mv r i) j) = sn r * dt n f
  | 0, f, _ => by
    rw [sn_zero, Int.one_mul]
    exact dt_congr n fun i j _ _ => by rw [mv_zero]
  | r + 1, f, h => by
    have e : (fun i j => f (mv (r + 1) i) j) = fun i j => (fun i j => f (ex r (r + 1) i) j) (mv r i) j := by
      funext i j
      show _ = f (ex r (r + 1) (mv r i)) j
      rw [mv_succ]
    rw [e, dt_mv r (fun i j => f (ex r (r + 1) i) j) (by omega), dt_exR f (by omega) (by omega) h, sn_succ]
    rw [Int.mul_neg, Int.neg_mul]
theorem dt_row {n r : Nat} (f : Nat → Nat → Int) (h : r < n + 1) : dt (n + 1) f = sumN (fun k => f r k * (sn (r + k) * dt n (fun i j => f (skip r i) (skip k j)))) (n + 1) := by
  have e := dt_mv r f h
  have e2 : sn r * (sn r * dt (n + 1) f) = dt (n + 1) f := by rw [← Int.mul_assoc, sn_sq, Int.one_mul]
  rw [← e2, ← e, dt_succ, ← sumN_mul]
  refine sumN_congr _ fun k _ => ?_
  have e3 : dr k (fun i j => f (mv r i) j) = fun i j => f (skip r i) (skip k j) := by
    funext i j
    show f (mv r (i + 1)) (skip k j) = _
    rw [mv_skip]
  rw [e3, sn_add]
  show sn r * (sn k * (f (mv r 0) k * _)) = _
  have e4 : mv r 0 = r := rfl
  rw [e4]
  grind
theorem dt_alien {n r s : Nat} (f : Nat → Nat → Int) (hr : r < n + 1) (hs : s < n + 1) : sumN (fun k => f s k * (sn (r + k) * dt n (fun i j => f (skip r i) (skip k j)))) (n + 1) = if s = r then dt (n + 1) f else 0 := by
  by_cases e : s = r
  · subst e
    rw [if_pos rfl, ← dt_row f hs]
  · rw [if_neg e, ← dt_sameR (n := n + 1) (setR f r (f s)) (p := s) (q := r) e hs hr (fun j _ => by unfold setR; rw [if_neg e, if_pos rfl]), dt_row _ hr]
    refine sumN_congr _ fun k _ => ?_
    have e3 : (fun i j => setR f r (f s) (skip r i) (skip k j)) = fun i j => f (skip r i) (skip k j) := by
      funext i j
      unfold setR
      rw [if_neg (by unfold skip; split <;> omega)]
    rw [e3]
    unfold setR
    rw [if_pos rfl]
theorem othF_dt {l : List (List Int)} {n i k : Nat} (hT : TabIn l) (hn : l.length = n) (hw : (l.getD 0 []).length = n) (hi : i < n) (hk : k < n) : othF l n i k = sn (k + i) * dt (n - 1) (fun a b => at2 l (skip k a) (skip i b)) := by
  have h6 := hT.2.1
  unfold othF
  rw [sg_sn, ordF_all _ (by omega), Nat.add_comm i k]
  congr 1
  exact dt_congr _ fun a b ha hb => partL_but hn hw (by omega) hk hi (by omega) (by omega)
theorem other_left {l : List (List Int)} {n i k : Nat} (hT : TabIn l) (hn : l.length = n) (hw : (l.getD 0 []).length = n) (hi : i < n) (hk : k < n) :
    sumN (fun j => at2 l i j * othF l n j k) n = if i = k then dt n (at2 l) else 0 := by
  obtain ⟨m, rfl⟩ : ∃ m, n = m + 1 := ⟨n - 1, by omega⟩
  rw [← dt_alien (at2 l) hk hi]
  exact sumN_congr _ fun j hj => by rw [othF_dt hT hn hw hj hk]; rfl
theorem other_right {l : List (List Int)} {n i k : Nat} (hT : TabIn l) (hn : l.length = n) (hw : (l.getD 0 []).length = n) (hi : i < n) (hk : k < n) :
    sumN (fun j => othF l n i j * at2 l j k) n = if i = k then dt n (at2 l) else 0 := by
  obtain ⟨m, rfl⟩ : ∃ m, n = m + 1 := ⟨n - 1, by omega⟩
  have h := dt_alien (fun a b => at2 l b a) (r := i) (s := k) hi hk
  rw [dt_turn] at h
  have e : (if i = k then dt (m + 1) (at2 l) else 0) = if k = i then dt (m + 1) (at2 l) else 0 := by
    by_cases e : i = k
    · rw [if_pos e, if_pos e.symm]
    · rw [if_neg e, if_neg (fun h => e h.symm)]
  rw [e, ← h]
  refine sumN_congr _ fun j hj => ?_
  rw [othF_dt hT hn hw hi hj, Nat.add_comm j i, Int.mul_comm]
  show at2 l j k * _ = at2 l j k * (sn (i + j) * dt m (fun a b => at2 l (skip j b) (skip i a)))
  rw [← dt_turn m (fun a b => at2 l (skip j b) (skip i a))]
  rfl
theorem othF_bd {l : List (List Int)} {n i k : Nat} (hT : TabIn l) (hn : l.length = n) (hw : (l.getD 0 []).length = n) (hi : i < n) (hk : k < n) : -10000000000 ≤ othF l n i k ∧ othF l n i k ≤ 10000000000 := by
  have h6 := hT.2.1
  rw [othF_dt hT hn hw hi hk, ← sg_sn]
  refine sg_bd ?_
  have hb := dt_bd (n - 1) (fun a b => at2 l (skip k a) (skip i b)) (by omega) (fun a b ha hb => hT.at (by have := skip_bd (k := k) ha; omega) (by have := skip_bd (k := i) hb; omega))
  have hB : bdN (n - 1) ≤ 10000000000 := by
    have : n - 1 ≤ 5 := by omega
    match n - 1, this with
    | 0, _ => decide
    | 1, _ => decide
    | 2, _ => decide
    | 3, _ => decide
    | 4, _ => decide
    | 5, _ => decide
  omega
theorem rec_tabF {n m : Nat} (f : Nat → Nat → Int) (hn : 1 ≤ n ∧ n ≤ 6) (hm : 1 ≤ m ∧ m ≤ 6) : Rec (tabF n m f) := by
  have h0 : ((tabF n m f).getD 0 []).length = m := tabF_len _ _ _ _ (by omega)
  exact ⟨by rw [tabF_length]; omega, by rw [tabF_length]; omega, by rw [h0]; exact hm, fun hr => by rw [h0]; rw [tabF_length] at hr; exact tabF_len _ _ _ _ hr⟩
structure OtherM (l M : List (List Int)) (n : Nat) (v : Int) : Prop where
  len : M.length = n
  wid : (M.getD 0 []).length = n
  rec1 : Rec M
  b1 : ∀ i j k, i < n → j < n → k < (M.getD 0 []).length → -1000000000000 ≤ at2 l i j * at2 M j k ∧ at2 l i j * at2 M j k ≤ 1000000000000
  b2 : ∀ i j k, i < n → j < n → k < (l.getD 0 []).length → -1000000000000 ≤ at2 M i j * at2 l j k ∧ at2 M i j * at2 l j k ≤ 1000000000000
  l1 : (makeL l M).length = n
  l2 : (makeL M l).length = n
  w1 : ((makeL l M).getD 0 []).length = n
  w2 : ((makeL M l).getD 0 []).length = n
  r1 : Rec (makeL l M)
  r2 : Rec (makeL M l)
  e1 : ∀ i k, i < n → k < n → at2 (makeL l M) i k = if i = k then v else 0
  e2 : ∀ i k, i < n → k < n → at2 (makeL M l) i k = if i = k then v else 0
theorem otherM_of {l : List (List Int)} {n : Nat} (h : sqB l = true) (hn : l.length = n) : OtherM l (tabF n n (othF l n)) n (ordF l n n 0) := by
  obtain ⟨hT, hw⟩ := sqB_of h
  have h1 := hT.1
  have h6 := hT.2.1
  have hwn : (l.getD 0 []).length = n := by omega
  have hl : (tabF n n (othF l n)).length = n := tabF_length _ _ _
  have hmw : ((tabF n n (othF l n)).getD 0 []).length = n := tabF_len _ _ _ _ (by omega)
  have hat : ∀ i j, i < n → j < n → at2 (tabF n n (othF l n)) i j = othF l n i j := fun i j hi hj => tabF_at _ _ _ i j hi hj
  have hp : ∀ i j k, i < n → j < n → k < n → -1000000000000 ≤ at2 l i j * othF l n j k ∧ at2 l i j * othF l n j k ≤ 1000000000000 := fun i j k hi hj hk => by
    have b := hT.at (i := i) (k := j) (by omega) (by omega)
    have c := othF_bd hT hn hwn hj hk
    have := mul_bdB b.1 b.2 c.1 c.2
    omega
  have hp2 : ∀ i j k, i < n → j < n → k < n → -1000000000000 ≤ othF l n i j * at2 l j k ∧ othF l n i j * at2 l j k ≤ 1000000000000 := fun i j k hi hj hk => by
    have b := hT.at (i := j) (k := k) (by omega) (by omega)
    have c := othF_bd hT hn hwn hi hj
    have := mul_bdB b.1 b.2 c.1 c.2
    rw [Int.mul_comm]
    omega
  have g1 : 1 ≤ n ∧ n ≤ 6 := by omega
  have q1 : makeL l (tabF n n (othF l n)) = tabF n n fun i k => sumN (dotF l (tabF n n (othF l n)) i k) n := by unfold makeL; rw [hn, hl, hmw]
  have q2 : makeL (tabF n n (othF l n)) l = tabF n n fun i k => sumN (dotF (tabF n n (othF l n)) l i k) n := by unfold makeL; rw [hn, hl, hwn]
  refine ⟨hl, hmw, rec_tabF _ g1 g1, fun i j k hi hj hk => ?_, fun i j k hi hj hk => ?_, by rw [q1, tabF_length], by rw [q2, tabF_length], by rw [q1]; exact tabF_len _ _ _ _ (by omega), by rw [q2]; exact tabF_len _ _ _ _ (by omega), by rw [q1]; exact rec_tabF _ g1 g1, by rw [q2]; exact rec_tabF _ g1 g1, fun i k hi hk => ?_, fun i k hi hk => ?_⟩
  · rw [hmw] at hk
    rw [hat j k hj hk]
    exact hp i j k hi hj hk
  · rw [hwn] at hk
    rw [hat i j hi hj]
    exact hp2 i j k hi hj hk
  · rw [q1, show at2 (tabF n n fun i k => sumN (dotF l (tabF n n (othF l n)) i k) n) i k = sumN (dotF l (tabF n n (othF l n)) i k) n from tabF_at _ _ _ i k hi hk, ordF_all _ (by omega), ← other_left hT hn hwn hi hk]
    exact sumN_congr _ fun j hj => by show at2 l i j * at2 _ j k = _; rw [hat j k hj hk]
  · rw [q2, show at2 (tabF n n fun i k => sumN (dotF (tabF n n (othF l n)) l i k) n) i k = sumN (dotF (tabF n n (othF l n)) l i k) n from tabF_at _ _ _ i k hi hk, ordF_all _ (by omega), ← other_right hT hn hwn hi hk]
    exact sumN_congr _ fun j hj => by show at2 _ i j * at2 l j k = _; rw [hat i j hi hj]

end Go.Proofs.Ytpimdgijjljejaa
end

section
namespace Go.Proofs.Ytpimdgijjljejaa
open Go.RowKit Go.Deep

theorem sumN_some {f : Nat → Int} {n : Nat} (h : sumN f n ≠ 0) : ∃ i, i < n ∧ f i ≠ 0 :=
  Classical.byContradiction fun hno => h (sumN_none n fun j hj => Classical.byContradiction fun h2 => hno ⟨j, hj, h2⟩)
theorem dt_sumR {k r : Nat} (f : Nat → Nat → Int) (c : Nat → Int) (u : Nat → Nat → Int) (hr : r < k) : ∀ N, dt k (setR f r (fun j => sumN (fun m => c m * u m j) N)) = sumN (fun m => c m * dt k (setR f r (u m))) N
  | 0 => by
    have e := dt_lin k r f 0 0 (u 0) (u 0) hr
    rw [dt_congr k (g := setR f r (fun j => 0 * u 0 j + 0 * u 0 j)) (fun i j _ _ => by unfold setR; split <;> simp [sumN]), e]
    simp [sumN]
  | N + 1 => by
    have e := dt_lin k r f 1 (c N) (fun j => sumN (fun m => c m * u m j) N) (u N) hr
    rw [dt_congr k (g := setR f r (fun j => 1 * sumN (fun m => c m * u m j) N + c N * u N j)) (fun i j _ _ => by
      unfold setR
      split
      · have e2 : sumN (fun m => c m * u m j) (N + 1) = sumN (fun m => c m * u m j) N + c N * u N j := rfl
        dsimp only
        rw [e2]; omega
      · rfl), e, dt_sumR f c u hr N]
    have e3 : sumN (fun m => c m * dt k (setR f r (u m))) (N + 1) = sumN (fun m => c m * dt k (setR f r (u m))) N + c N * dt k (setR f r (u N)) := rfl
    rw [e3]
    omega

theorem dt_pickR {k N : Nat} (X Y : Nat → Nat → Int) (h : dt k (fun i j => sumN (fun m => X i m * Y m j) N) ≠ 0) : ∃ g : Nat → Nat, (∀ i, i < k → g i < N) ∧ dt k (fun i j => Y (g i) j) ≠ 0 := by
  have key : ∀ q, q ≤ k → ∃ g : Nat → Nat, (∀ i, i < q → g i < N) ∧ dt k (fun i j => if i < q then Y (g i) j else sumN (fun m => X i m * Y m j) N) ≠ 0 := by
    intro q
    induction q with
    | zero => exact fun _ => ⟨fun _ => 0, fun i hi => absurd hi (Nat.not_lt_zero _), by rw [dt_congr k (g := fun i j => sumN (fun m => X i m * Y m j) N) (fun i j _ _ => if_neg (Nat.not_lt_zero _))]; exact h⟩
    | succ q ih =>
      intro hq
      obtain ⟨g, hg, hd⟩ := ih (by omega)
      obtain ⟨M, hM⟩ : ∃ M : Nat → Nat → Int, M = fun i j => if i < q then Y (g i) j else sumN (fun m => X i m * Y m j) N := ⟨_, rfl⟩
      rw [← hM] at hd
      have e : dt k M = dt k (setR M q (fun j => sumN (fun m => X q m * Y m j) N)) := dt_congr k fun i j _ _ => by
        unfold setR
        split
        · rename_i hi; rw [hM, hi]; exact if_neg (Nat.lt_irrefl _)
        · rfl
      rw [e, dt_sumR M (X q) Y (by omega)] at hd
      obtain ⟨m, hm, hd2⟩ := sumN_some hd
      refine ⟨fun i => if i = q then m else g i, fun i hi => ?_, ?_⟩
      · show (if i = q then m else g i) < N
        split
        · exact hm
        · exact hg i (by omega)
      · rw [dt_congr k (g := setR M q (Y m)) (fun i j _ _ => by
          unfold setR
          dsimp only
          by_cases hi : i = q
          · rw [if_pos (by omega), if_pos hi, if_pos hi]
          · rw [if_neg hi, if_neg hi, hM]
            by_cases h2 : i < q
            · rw [if_pos (by omega)]; exact (if_pos h2).symm
            · rw [if_neg (by omega)]; exact (if_neg h2).symm)]
        exact fun h0 => hd2 (by rw [h0, Int.mul_zero])
  obtain ⟨g, hg, hd⟩ := key k (Nat.le_refl _)
  exact ⟨g, hg, by rw [dt_congr k (g := fun i j => if i < k then Y (g i) j else sumN (fun m => X i m * Y m j) N) (fun i j hi _ => (if_pos hi).symm)]; exact hd⟩
theorem mul_right_some {k n : Nat} {X Y : Nat → Nat → Int} {R C : Nat → Nat} (h : dt k (fun i j => mulF n X Y (R i) (C j)) ≠ 0) : ∃ g : Nat → Nat, (∀ i, i < k → g i < n) ∧ dt k (fun i j => Y (g i) (C j)) ≠ 0 :=
  dt_pickR (fun i m => X (R i) m) (fun m j => Y m (C j)) h
theorem mul_left_some {k n : Nat} {X Y : Nat → Nat → Int} {R C : Nat → Nat} (h : dt k (fun i j => mulF n X Y (R i) (C j)) ≠ 0) : ∃ g : Nat → Nat, (∀ i, i < k → g i < n) ∧ dt k (fun i j => X (R i) (g j)) ≠ 0 := by
  rw [← dt_turn] at h
  obtain ⟨g, hg, hd⟩ := dt_pickR (fun i m => Y m (C i)) (fun m j => X (R j) m) (by
    rw [dt_congr k (g := fun i j => mulF n X Y (R j) (C i)) (fun i j _ _ => sumN_congr n fun m _ => Int.mul_comm _ _)]
    exact h)
  rw [← dt_turn] at hd
  exact ⟨g, hg, hd⟩

theorem dt_someRC {k r : Nat} (M : Nat → Nat → Int) (h : dt (k + 1) M ≠ 0) (hr : r < k + 1) : ∃ c, c < k + 1 ∧ dt k (fun i j => M (skip r i) (skip c j)) ≠ 0 := by
  rw [dt_row M hr] at h
  obtain ⟨c, hc, hd⟩ := sumN_some h
  exact ⟨c, hc, fun h0 => hd (by rw [h0, Int.mul_zero, Int.mul_zero])⟩
theorem dt_zeroR {k r : Nat} (M : Nat → Nat → Int) (hr : r < k) (h : ∀ j, j < k → M r j = 0) : dt k M = 0 := by
  obtain ⟨m, rfl⟩ : ∃ m, k = m + 1 := ⟨k - 1, by omega⟩
  rw [dt_row M hr]
  exact sumN_none _ fun j hj => by rw [h j hj, Int.zero_mul]
theorem dt_zeroC {k c : Nat} (M : Nat → Nat → Int) (hc : c < k) (h : ∀ i, i < k → M i c = 0) : dt k M = 0 := by
  rw [← dt_turn]
  exact dt_zeroR (fun i j => M j i) hc h

theorem low_rows (M : Nat → Nat → Int) : ∀ (v k : Nat) (g h : Nat → Nat), dt k (fun i j => M (g i) (h j)) ≠ 0 →
    ∃ (t : Nat) (g' h' : Nat → Nat), k ≤ t + v ∧ (∀ i, i < t → v ≤ g' i ∧ ∃ i0, i0 < k ∧ g' i = g i0) ∧ (∀ j, j < t → ∃ j0, j0 < k ∧ h' j = h j0) ∧ dt t (fun i j => M (g' i) (h' j)) ≠ 0
  | 0, k, g, h, hd => ⟨k, g, h, by omega, fun i hi => ⟨Nat.zero_le _, i, hi, rfl⟩, fun j hj => ⟨j, hj, rfl⟩, hd⟩
  | v + 1, k, g, h, hd => by
    obtain ⟨t, g', h', h1, h2, h3, h4⟩ := low_rows M v k g h hd
    by_cases hex : ∃ i0, i0 < t ∧ g' i0 = v
    · obtain ⟨i0, hi0, hv⟩ := hex
      obtain ⟨t1, rfl⟩ : ∃ t1, t = t1 + 1 := ⟨t - 1, by omega⟩
      obtain ⟨c, hc, hd2⟩ := dt_someRC (fun i j => M (g' i) (h' j)) h4 hi0
      refine ⟨t1, fun i => g' (skip i0 i), fun j => h' (skip c j), by omega, fun i hi => ?_, fun j hj => h3 _ (skip_bd hj), hd2⟩
      have hs := skip_bd (k := i0) hi
      obtain ⟨a1, a2⟩ := h2 _ hs
      refine ⟨?_, a2⟩
      have hne : g' (skip i0 i) ≠ g' i0 := fun e => h4 (dt_sameR (fun i j => M (g' i) (h' j)) (p := skip i0 i) (q := i0) (by unfold skip; split <;> omega) hs hi0 (fun j _ => by show M (g' _) _ = M (g' _) _; rw [e]))
      show v + 1 ≤ g' (skip i0 i)
      omega
    · refine ⟨t, g', h', by omega, fun i hi => ?_, h3, h4⟩
      obtain ⟨a1, a2⟩ := h2 i hi
      exact ⟨by have : g' i ≠ v := fun e => hex ⟨i, hi, e⟩
                omega, a2⟩

def sylR (n b : Nat) (A B : Nat → Nat → Int) (R C : Nat → Nat) (i j : Nat) : Int := if i < n then (if j < b then B i (C j) else if i = j - b then 1 else 0) else (if j < b then -(mulF n A B (R (i - n)) (C j)) else 0)
def sylP (n : Nat) (A : Nat → Nat → Int) (R : Nat → Nat) (i m : Nat) : Int := if i < n then (if i = m then 1 else 0) else (if m < n then A (R (i - n)) m else if i = m then 1 else 0)
theorem syl_top {n a b : Nat} {A B : Nat → Nat → Int} {R C : Nat → Nat} {i j : Nat} (hi : i < n) : mulF (n + a) (sylP n A R) (sylR n b A B R C) i j = sylR n b A B R C i j := by
  unfold mulF
  rw [sumN_one _ i (n + a) (by omega) (fun m _ hm => by unfold sylP; rw [if_pos hi, if_neg (fun e => hm e.symm), Int.zero_mul])]
  unfold sylP
  rw [if_pos hi, if_pos rfl, Int.one_mul]
theorem sumN_splitM (f : Nat → Int) (n : Nat) : ∀ m, sumN f (n + m) = sumN f n + sumN (fun j => f (n + j)) m
  | 0 => by simp [sumN]
  | m + 1 => by
    show sumN f (n + m) + f (n + m) = sumN f n + (sumN (fun j => f (n + j)) m + f (n + m))
    rw [sumN_splitM f n m]; omega
theorem syl_low {n a b : Nat} {A B : Nat → Nat → Int} {R C : Nat → Nat} {i j : Nat} (hi : i < a) : mulF (n + a) (sylP n A R) (sylR n b A B R C) (n + i) j = sumN (fun m => A (R i) m * sylR n b A B R C m j) n + sylR n b A B R C (n + i) j := by
  unfold mulF
  rw [sumN_splitM, sumN_one (fun q => sylP n A R (n + i) (n + q) * sylR n b A B R C (n + q) j) i a hi (fun m _ hm => by
    unfold sylP; rw [if_neg (by omega), if_neg (by omega), if_neg (by omega), Int.zero_mul])]
  congr 1
  · exact sumN_congr n fun m hm => by unfold sylP; rw [if_neg (by omega), if_pos hm, show n + i - n = i by omega]
  · unfold sylP; rw [if_neg (by omega), if_neg (by omega), if_pos rfl, Int.one_mul]
theorem syl_low0 {n a b : Nat} {A B : Nat → Nat → Int} {R C : Nat → Nat} {i j : Nat} (hi : i < a) (hj : j < b) : mulF (n + a) (sylP n A R) (sylR n b A B R C) (n + i) j = 0 := by
  rw [syl_low hi]
  have e : sumN (fun m => A (R i) m * sylR n b A B R C m j) n = mulF n A B (R i) (C j) := sumN_congr n fun m hm => by unfold sylR; rw [if_pos hm, if_pos hj]
  rw [e]
  unfold sylR
  rw [if_neg (by omega), if_pos hj, show n + i - n = i by omega]
  omega
theorem syl_low1 {n a b : Nat} {A B : Nat → Nat → Int} {R C : Nat → Nat} {i j : Nat} (hi : i < a) (hj : j < n) : mulF (n + a) (sylP n A R) (sylR n b A B R C) (n + i) (b + j) = A (R i) j := by
  rw [syl_low hi, sumN_one _ j n hj (fun m hm hmj => by unfold sylR; rw [if_pos hm, if_neg (by omega), if_neg (by omega), Int.mul_zero])]
  unfold sylR
  rw [if_pos hj, if_neg (by omega), if_pos (by omega), if_neg (by omega), if_neg (by omega)]
  omega

theorem syl_rank {A B : Nat → Nat → Int} {n a b : Nat} {R J K C : Nat → Nat} (hJ : ∀ j, j < a → J j < n) (hK : ∀ i, i < b → K i < n) (hA : dt a (fun i j => A (R i) (J j)) ≠ 0) (hB : dt b (fun i j => B (K i) (C j)) ≠ 0) :
    ∃ (t : Nat) (g h : Nat → Nat), a + b ≤ t + n ∧ (∀ i, i < t → g i < a) ∧ (∀ j, j < t → h j < b) ∧ dt t (fun i j => mulF n A B (R (g i)) (C (h j))) ≠ 0 := by
  obtain ⟨ρ, hρ⟩ : ∃ ρ : Nat → Nat, ρ = fun i => if i < b then K i else n + (i - b) := ⟨_, rfl⟩
  obtain ⟨γ, hγ⟩ : ∃ γ : Nat → Nat, γ = fun j => if j < b then j else b + J (j - b) := ⟨_, rfl⟩
  have r1 : ∀ i, i < b → ρ i = K i := fun i hi => by rw [hρ]; exact if_pos hi
  have r2 : ∀ i, ρ (b + i) = n + i := fun i => by rw [hρ]; show (if b + i < b then _ else _) = _; rw [if_neg (by omega)]; omega
  have c1 : ∀ j, j < b → γ j = j := fun j hj => by rw [hγ]; exact if_pos hj
  have c2 : ∀ j, γ (b + j) = b + J j := fun j => by rw [hγ]; show (if b + j < b then _ else b + J (b + j - b)) = _; rw [if_neg (by omega), show b + j - b = j by omega]
  have hdet : dt (b + a) (fun i j => mulF (n + a) (sylP n A R) (sylR n b A B R C) (ρ i) (γ j)) = dt b (fun i j => B (K i) (C j)) * dt a (fun i j => A (R i) (J j)) := by
    rw [← dt_turn, dt_block a b _ (fun i j hi hj hN => by
      obtain ⟨j', rfl⟩ : ∃ j', j = b + j' := ⟨j - b, by omega⟩
      rw [r2, c1 i hi]
      exact syl_low0 (by omega) hi)]
    rw [← dt_turn b (fun i j => B (K i) (C j)), ← dt_turn a (fun i j => A (R i) (J j))]
    congr 1
    · exact dt_congr b fun i j hi hj => by
        rw [r1 j hj, c1 i hi, syl_top (hK j hj)]
        unfold sylR
        rw [if_pos (hK j hj), if_pos hi]
    · exact dt_congr a fun i j hi hj => by
        rw [r2, c2]
        exact syl_low1 hj (hJ i hi)
  obtain ⟨g, hg, hd⟩ := mul_right_some (n := n + a) (X := sylP n A R) (Y := sylR n b A B R C) (R := ρ) (C := γ) (k := b + a) (by rw [hdet]; exact Int.mul_ne_zero hB hA)
  obtain ⟨t, g', h', e1, e2, e3, e4⟩ := low_rows (sylR n b A B R C) n (b + a) g γ hd
  have hg' : ∀ i, i < t → n ≤ g' i ∧ g' i < n + a := fun i hi => by
    obtain ⟨x1, i0, x2, x3⟩ := e2 i hi
    have := hg i0 x2
    omega
  have hcol : ∀ j, j < t → h' j < b := fun j hj => Classical.byContradiction fun hno => e4 (dt_zeroC _ hj fun i hi => by
    have := hg' i hi
    show sylR n b A B R C (g' i) (h' j) = 0
    unfold sylR
    rw [if_neg (by omega), if_neg hno])
  refine ⟨t, fun i => g' i - n, h', by omega, fun i hi => by have := hg' i hi; show g' i - n < a; omega, hcol, fun h0 => e4 ?_⟩
  rw [dt_congr t (g := fun i j => (-1) * mulF n A B (R (g' i - n)) (C (h' j))) (fun i j hi hj => by
    have := hg' i hi
    unfold sylR
    rw [if_neg (by omega), if_pos (hcol j hj)]
    omega), dt_scale, h0, Int.mul_zero]

theorem add_bit : ∀ s : Fin 64, ∀ x : Fin 6, s.val.testBit x.val = false → popcS (s.val + 2 ^ x.val) = popcS s.val + 1 ∧ s.val + 2 ^ x.val < 64 ∧ (∀ y : Fin 6, (s.val + 2 ^ x.val).testBit y.val = (s.val.testBit y.val || decide (y = x))) := by decide +kernel
theorem in_pow : ∀ n : Fin 7, ∀ s : Fin 64, (∀ y : Fin 6, s.val.testBit y.val = true → y.val < n.val) → s.val < 2 ^ n.val := by decide +kernel
theorem selN_in : ∀ n : Fin 7, ∀ s : Fin 64, s.val < 2 ^ n.val → ∀ y : Fin 6, s.val.testBit y.val = true → ∃ i : Fin 6, i.val < popcS s.val ∧ selN s.val n.val i.val = y.val := by decide +kernel
theorem selN_inj : ∀ n : Fin 7, ∀ s : Fin 64, s.val < 2 ^ n.val → ∀ i j : Fin 6, i.val < popcS s.val → j.val < popcS s.val → selN s.val n.val i.val = selN s.val n.val j.val → i = j := by decide +kernel

theorem set_of {n : Nat} (hn : n ≤ 6) (R : Nat → Nat) : ∀ k, (∀ i, i < k → R i < n) → (∀ i j, i < k → j < k → R i = R j → i = j) → ∃ s, s < 64 ∧ popcS s = k ∧ (∀ i, i < k → s.testBit (R i) = true) ∧ ∀ y, y < 6 → s.testBit y = true → ∃ i, i < k ∧ R i = y
  | 0, _, _ => ⟨0, by omega, by decide, fun i hi => absurd hi (Nat.not_lt_zero _), fun y _ h => by simp at h⟩
  | k + 1, h1, h2 => by
    obtain ⟨s, s1, s2, s3, s4⟩ := set_of hn R k (fun i hi => h1 i (by omega)) (fun i j hi hj e => h2 i j (by omega) (by omega) e)
    have hk := h1 k (by omega)
    have hb : s.testBit (R k) = false := by
      cases hb : s.testBit (R k) with
      | false => rfl
      | true =>
        obtain ⟨i, hi, e⟩ := s4 (R k) (by omega) hb
        have := h2 i k (by omega) (by omega) e
        omega
    obtain ⟨a1, a2, a3⟩ := add_bit ⟨s, s1⟩ ⟨R k, by omega⟩ hb
    simp only at a1 a2 a3
    refine ⟨s + 2 ^ R k, a2, by omega, fun i hi => ?_, fun y hy h => ?_⟩
    · have hi6 := h1 i hi
      have := a3 ⟨R i, by omega⟩
      simp only at this
      rw [this]
      by_cases e : i = k
      · subst e; simp
      · rw [s3 i (by omega)]; simp
    · have := a3 ⟨y, hy⟩
      simp only at this
      rw [this, Bool.or_eq_true] at h
      rcases h with h | h
      · obtain ⟨i, hi, e⟩ := s4 y hy h
        exact ⟨i, by omega, e⟩
      · have e : (⟨y, hy⟩ : Fin 6) = ⟨R k, by omega⟩ := of_decide_eq_true h
        injection e with e
        exact ⟨k, by omega, e.symm⟩

theorem rows_set {n k : Nat} (hn : n ≤ 6) (f : Nat → Nat → Int) (R : Nat → Nat) (hR : ∀ i, i < k → R i < n) (h : dt k (fun i j => f (R i) j) ≠ 0) : ∃ s, s < 2 ^ n ∧ popcS s = k ∧ dt k (fun i j => f (selN s n i) j) ≠ 0 := by
  have hinj : ∀ i j, i < k → j < k → R i = R j → i = j := fun i j hi hj e => Classical.byContradiction fun hne => h (dt_sameR (fun i j => f (R i) j) hne hi hj (fun q _ => by show f (R i) q = f (R j) q; rw [e]))
  obtain ⟨s, s1, s2, s3, s4⟩ := set_of hn R k hR hinj
  have hs := in_pow ⟨n, by omega⟩ ⟨s, s1⟩ (fun y hy => by
    obtain ⟨i, hi, e⟩ := s4 y.val y.2 hy
    have := hR i hi
    show y.val < n
    omega)
  have hk6 := popcS_le s
  have hin : ∀ i, i < k → ∃ q, q < k ∧ selN s n q = R i := fun i hi => by
    have := hR i hi
    obtain ⟨q, q1, q2⟩ := selN_in ⟨n, by omega⟩ ⟨s, s1⟩ hs ⟨R i, by omega⟩ (s3 i hi)
    simp only at q1 q2
    exact ⟨q.val, by omega, q2⟩
  have hsj : ∀ i j, i < k → j < k → selN s n i = selN s n j → i = j := fun i j hi hj e => by
    have := selN_inj ⟨n, by omega⟩ ⟨s, s1⟩ hs ⟨i, by omega⟩ ⟨j, by omega⟩ (by show i < popcS s; omega) (by show j < popcS s; omega) e
    injection this
  refine ⟨s, hs, s2, fun h0 => h ?_⟩
  have e : dt k (fun i j => f (R i) j) = dt k (mulF k (fun i q => if R i = selN s n q then 1 else 0) (fun q j => f (selN s n q) j)) := dt_congr k fun i j hi hj => by
    obtain ⟨q, hq, e⟩ := hin i hi
    unfold mulF
    dsimp only
    rw [sumN_one _ q k hq (fun p hp hpq => by rw [if_neg (fun e2 => hpq (hsj p q hp hq (by rw [e, ← e2]))), Int.zero_mul]), if_pos e.symm, Int.one_mul, e]
  rw [e, dt_mul, h0, Int.mul_zero]

theorem rank_fun {l : List (List Int)} {n m k : Nat} (hT : TabIn l) (hn : l.length = n) (hm : (l.getD 0 []).length = m) {R C : Nat → Nat} (hR : ∀ i, i < k → R i < n) (hC : ∀ j, j < k → C j < m) (h : dt k (fun i j => at2 l (R i) (C j)) ≠ 0) : k ≤ rkR l (2 ^ m) (2 ^ n) := by
  have h6 := hT.2.1
  have hw := hT.width
  rw [hn] at h6
  rw [hm] at hw
  obtain ⟨r, r1, r2, hd⟩ := rows_set h6 (fun x j => at2 l x (C j)) R hR h
  rw [← dt_turn] at hd
  obtain ⟨c, c1, c2, hd2⟩ := rows_set hw.2 (fun y i => at2 l (selN r n i) y) C hC hd
  rw [← dt_turn] at hd2
  by_cases h0 : 1 ≤ k
  · obtain ⟨_, _, a3⟩ := rank_down (l := l) (n := n) (m := m) h6 hw.2
    have p1 : 2 ^ n ≤ 2 ^ 6 := Nat.pow_le_pow_right (by omega) h6
    have p2 : 2 ^ m ≤ 2 ^ 6 := Nat.pow_le_pow_right (by omega) hw.2
    have g1 := popcS_sel ⟨n, by omega⟩ ⟨r, by omega⟩ r1
    have g2 := popcS_sel ⟨m, by omega⟩ ⟨c, by omega⟩ c1
    simp only at g1 g2
    refine (a3 k h0).1 (hasB_iff.2 ⟨r, c, ⟨r1, r2⟩, ⟨c1, c2⟩, ?_⟩)
    rw [dt_congr k (g := fun i j => at2 l (selN r n i) (selN c m j)) (fun i j hi hj => by
      rw [partL_at l r c (by rw [hn]; omega) (by rw [hm]; omega), hn, hm])]
    exact hd2
  · omega
theorem rank_fun_of {l : List (List Int)} {n m : Nat} (hT : TabIn l) (hn : l.length = n) (hm : (l.getD 0 []).length = m) : ∃ R C : Nat → Nat, (∀ i, i < rkR l (2 ^ m) (2 ^ n) → R i < n) ∧ (∀ j, j < rkR l (2 ^ m) (2 ^ n) → C j < m) ∧ dt (rkR l (2 ^ m) (2 ^ n)) (fun i j => at2 l (R i) (C j)) ≠ 0 := by
  have h6 := hT.2.1
  have hw := hT.width
  rw [hn] at h6
  rw [hm] at hw
  by_cases h0 : 1 ≤ rkR l (2 ^ m) (2 ^ n)
  · obtain ⟨_, _, a3⟩ := rank_down (l := l) (n := n) (m := m) h6 hw.2
    cases hb : hasB l (rkR l (2 ^ m) (2 ^ n)) (2 ^ n) (2 ^ m) with
    | false => exact absurd rfl ((a3 _ h0).2 hb)
    | true =>
      obtain ⟨r, c, ⟨r1, r2⟩, ⟨c1, c2⟩, hd⟩ := hasB_iff.1 hb
      have p1 : 2 ^ n ≤ 2 ^ 6 := Nat.pow_le_pow_right (by omega) h6
      have p2 : 2 ^ m ≤ 2 ^ 6 := Nat.pow_le_pow_right (by omega) hw.2
      have g1 := popcS_sel ⟨n, by omega⟩ ⟨r, by omega⟩ r1
      have g2 := popcS_sel ⟨m, by omega⟩ ⟨c, by omega⟩ c1
      simp only at g1 g2
      refine ⟨selN r n, selN c m, fun i hi => selN_lt (by omega), fun j hj => selN_lt (by omega), ?_⟩
      rw [dt_congr _ (g := at2 (partL l r c)) (fun i j hi hj => by
        rw [partL_at l r c (by rw [hn]; omega) (by rw [hm]; omega), hn, hm])]
      exact hd
  · have e : rkR l (2 ^ m) (2 ^ n) = 0 := by omega
    rw [e]
    exact ⟨fun _ => 0, fun _ => 0, fun i hi => absurd hi (Nat.not_lt_zero _), fun i hi => absurd hi (Nat.not_lt_zero _), by rw [dt_zero]; omega⟩

theorem rank_mul {l u M : List (List Int)} {p n q : Nat} (hT : TabIn l) (hU : TabIn u) (hM : TabIn M) (hl : l.length = p) (hlw : (l.getD 0 []).length = n) (hu : u.length = n) (huw : (u.getD 0 []).length = q) (hMl : M.length = p) (hMw : (M.getD 0 []).length = q)
    (hat : ∀ i j, i < p → j < q → at2 M i j = mulF n (at2 l) (at2 u) i j) :
    rkR M (2 ^ q) (2 ^ p) ≤ rkR l (2 ^ n) (2 ^ p) ∧ rkR M (2 ^ q) (2 ^ p) ≤ rkR u (2 ^ q) (2 ^ n) ∧ rkR l (2 ^ n) (2 ^ p) + rkR u (2 ^ q) (2 ^ n) ≤ rkR M (2 ^ q) (2 ^ p) + n := by
  obtain ⟨R, C, hR, hC, hd⟩ := rank_fun_of hM hMl hMw
  have hd' : dt (rkR M (2 ^ q) (2 ^ p)) (fun i j => mulF n (at2 l) (at2 u) (R i) (C j)) ≠ 0 := by
    rw [dt_congr _ (g := fun i j => at2 M (R i) (C j)) (fun i j hi hj => (hat _ _ (hR i hi) (hC j hj)).symm)]
    exact hd
  refine ⟨?_, ?_, ?_⟩
  · obtain ⟨g, hg, h⟩ := mul_left_some hd'
    exact rank_fun hT hl hlw hR hg h
  · obtain ⟨g, hg, h⟩ := mul_right_some hd'
    exact rank_fun hU hu huw hg hC h
  · obtain ⟨R1, J, a1, a2, a3⟩ := rank_fun_of hT hl hlw
    obtain ⟨K, C1, b1, b2, b3⟩ := rank_fun_of hU hu huw
    obtain ⟨t, g, h, e1, e2, e3, e4⟩ := syl_rank (n := n) a2 b1 a3 b3
    have := rank_fun hM hMl hMw (k := t) (R := fun i => R1 (g i)) (C := fun j => C1 (h j)) (fun i hi => a1 _ (e2 i hi)) (fun j hj => b2 _ (e3 j hj)) (by
      rw [dt_congr t (g := fun i j => mulF n (at2 l) (at2 u) (R1 (g i)) (C1 (h j))) (fun i j hi hj => hat _ _ (a1 _ (e2 i hi)) (b2 _ (e3 j hj)))]
      exact e4)
    omega

end Go.Proofs.Ytpimdgijjljejaa
end

section
namespace Go.Proofs.Ytpimdgijjljejaa
open Go.RowKit Go.Deep

def setC (f : Nat → Nat → Int) (k : Nat) (b : Nat → Int) (i j : Nat) : Int := if j = k then b i else f i j
theorem dt_setC {n k : Nat} (f : Nat → Nat → Int) (b : Nat → Int) (hk : k < n + 1) : dt (n + 1) (setC f k b) = sumN (fun j => b j * (sn (j + k) * dt n (fun a c => f (skip j a) (skip k c)))) (n + 1) := by
  rw [← dt_turn, dt_row _ hk]
  refine sumN_congr _ fun j _ => ?_
  have e1 : setC f k b j k = b j := if_pos rfl
  have e2 : (fun a c => setC f k b (skip j c) (skip k a)) = fun a c => f (skip j c) (skip k a) := by
    funext a c
    unfold setC
    rw [if_neg (by unfold skip; split <;> omega)]
  show setC f k b j k * (sn (k + j) * dt n (fun a c => setC f k b (skip j c) (skip k a))) = _
  rw [e1, e2, Nat.add_comm k j, ← dt_turn n (fun a c => f (skip j a) (skip k c))]
theorem dt_solve {n i : Nat} (f : Nat → Nat → Int) (b : Nat → Int) (hi : i < n) : sumN (fun k => f i k * dt n (setC f k b)) n = dt n f * b i := by
  obtain ⟨m, rfl⟩ : ∃ m, n = m + 1 := ⟨n - 1, by omega⟩
  have e1 : sumN (fun k => f i k * dt (m + 1) (setC f k b)) (m + 1) = sumN (fun k => sumN (fun j => b j * (f i k * (sn (j + k) * dt m (fun a c => f (skip j a) (skip k c))))) (m + 1)) (m + 1) :=
    sumN_congr _ fun k hk => by
      rw [dt_setC f b hk, ← sumN_mul]
      exact sumN_congr _ fun j _ => by grind
  rw [e1, sumN_comm]
  have e2 : sumN (fun j => sumN (fun k => b j * (f i k * (sn (j + k) * dt m (fun a c => f (skip j a) (skip k c))))) (m + 1)) (m + 1) = sumN (fun j => b j * (if i = j then dt (m + 1) f else 0)) (m + 1) :=
    sumN_congr _ fun j hj => by rw [sumN_mul, dt_alien f hj hi]
  rw [e2, sumN_one _ i (m + 1) hi (fun j _ hji => by rw [if_neg (fun h => hji h.symm), Int.mul_zero]), if_pos rfl, Int.mul_comm]

end Go.Proofs.Ytpimdgijjljejaa
end

section
namespace Go.Proofs.Ytpimdgijjljejaa
open Go.RowKit Go.Deep

theorem dt_scal (a : Int) : ∀ p, dt p (fun i j => if i = j then a else 0) = pw a p
  | 0 => rfl
  | p + 1 => by
    rw [dt_corner _ (fun i _ => by rw [if_neg (by omega)]), if_pos rfl]
    show a * _ = a * pw a p
    rw [← dt_scal a p]
    congr 1
    exact dt_congr p fun i j _ _ => by
      by_cases e : i = j
      · rw [if_pos e, if_pos (by omega)]
      · rw [if_neg e, if_neg (by omega)]

def bord (n : Nat) (M : Nat → Nat → Int) (r s : Nat) : Int := M (n + r) (n + s) * dt n M - sumN (fun k => M (n + r) k * dt n (setC M k (fun i => M i (n + s)))) n
def sylN (n : Nat) (M : Nat → Nat → Int) (i j : Nat) : Int := if j < n then (if i = j then 1 else 0) else if i < n then -(dt n (setC M i (fun q => M q j))) else if i = j then dt n M else 0

theorem sumN_split (f : Nat → Int) (n : Nat) : ∀ m, sumN f (n + m) = sumN f n + sumN (fun j => f (n + j)) m
  | 0 => by simp [sumN]
  | m + 1 => by
    show sumN f (n + m) + f (n + m) = sumN f n + (sumN (fun j => f (n + j)) m + f (n + m))
    rw [sumN_split f n m]; omega

theorem mul_sylN {n p : Nat} (M : Nat → Nat → Int) {i j : Nat} (hj : j < n + p) : mulF (n + p) M (sylN n M) i j = if j < n then M i j else (M i j * dt n M - sumN (fun k => M i k * dt n (setC M k (fun q => M q j))) n) := by
  unfold mulF
  by_cases hn : j < n
  · rw [if_pos hn, sumN_one _ j (n + p) hj (fun k _ hk => by unfold sylN; rw [if_pos hn, if_neg hk, Int.mul_zero])]
    unfold sylN; rw [if_pos hn, if_pos rfl, Int.mul_one]
  · rw [if_neg hn, sumN_split, sumN_one (fun q => M i (n + q) * sylN n M (n + q) j) (j - n) p (by omega) (fun k _ hk => by unfold sylN; rw [if_neg hn, if_neg (by omega), if_neg (by omega), Int.mul_zero])]
    rw [sumN_congr n (g := fun k => -(M i k * dt n (setC M k (fun q => M q j)))) (fun k hk => by unfold sylN; rw [if_neg hn, if_pos hk, Int.mul_neg]), sumN_neg]
    rw [show n + (j - n) = j by omega]
    unfold sylN
    rw [if_neg hn, if_neg hn, if_pos rfl]
    omega

theorem dt_sylN (n p : Nat) (M : Nat → Nat → Int) : dt (n + p) (sylN n M) = pw (dt n M) p := by
  rw [← dt_turn, dt_block p n _ (fun i j hi hj _ => by unfold sylN; rw [if_pos hi, if_neg (by omega)])]
  rw [dt_congr n (g := oneF) (fun i j hi hj => by
    unfold sylN oneF
    rw [if_pos hi]
    by_cases e : i = j
    · rw [if_pos e, if_pos e.symm]
    · rw [if_neg e, if_neg (fun h => e h.symm)]), dt_oneF, Int.one_mul, ← dt_scal]
  exact dt_congr p fun i j _ _ => by
    unfold sylN
    rw [if_neg (by omega), if_neg (by omega)]
    by_cases e : i = j
    · rw [if_pos e, if_pos (by omega)]
    · rw [if_neg e, if_neg (by omega)]

theorem dt_sylv (n p : Nat) (M : Nat → Nat → Int) : dt (n + p) M * pw (dt n M) p = dt n M * dt p (bord n M) := by
  rw [← dt_sylN n p M, ← dt_mul, dt_block p n _ (fun i j hi hj hp => by
    rw [mul_sylN M hp, if_neg (by omega), dt_solve M (fun q => M q j) hi, Int.mul_comm]; omega)]
  congr 1
  · exact dt_congr n fun i j _ hj => by rw [mul_sylN M (by omega), if_pos hj]
  · exact dt_congr p fun i j _ hj => by rw [mul_sylN M (by omega), if_neg (by omega)]; rfl

theorem dt_bord {n : Nat} (M : Nat → Nat → Int) (r s : Nat) (h : dt n M ≠ 0) : bord n M r s = dt (n + 1) (fun i j => M (if i < n then i else n + r) (if j < n then j else n + s)) := by
  obtain ⟨F, hF⟩ : ∃ F : Nat → Nat → Int, F = fun i j => M (if i < n then i else n + r) (if j < n then j else n + s) := ⟨_, rfl⟩
  have e := dt_sylv n 1 F
  have e0 : dt n F = dt n M := dt_congr n fun i j hi hj => by rw [hF]; show M _ _ = _; rw [if_pos hi, if_pos hj]
  have e1 : dt 1 (bord n F) = bord n M r s := by
    rw [dt_one]
    unfold bord
    rw [e0]
    have a1 : F (n + 0) (n + 0) = M (n + r) (n + s) := by rw [hF]; show M _ _ = _; rw [if_neg (by omega), if_neg (by omega)]
    rw [a1]
    congr 1
    refine sumN_congr n fun k hk => ?_
    have a2 : F (n + 0) k = M (n + r) k := by rw [hF]; show M _ _ = _; rw [if_neg (by omega), if_pos hk]
    rw [a2]
    congr 1
    refine dt_congr n fun i j hi hj => ?_
    unfold setC
    have a3 : F i (n + 0) = M i (n + s) := by rw [hF]; show M _ _ = _; rw [if_pos hi, if_neg (by omega)]
    have a4 : F i j = M i j := by rw [hF]; show M _ _ = _; rw [if_pos hi, if_pos hj]
    rw [a4]
    by_cases e : j = k
    · rw [if_pos e, if_pos e]; exact a3
    · rw [if_neg e, if_neg e]
  rw [e0, e1] at e
  rw [← hF]
  have e2 : pw (dt n M) 1 = dt n M := by simp [pw]
  rw [e2, Int.mul_comm] at e
  exact (Int.eq_of_mul_eq_mul_left h e).symm

def cyc (n i : Nat) : Nat := if i < n then i + 1 else if i = n then 0 else i
theorem cyc_succ (n i : Nat) : cyc (n + 1) i = cyc n (ex1 n i) := by unfold cyc ex1; repeat (first | split | omega)
theorem dt_cycC (N : Nat) : ∀ (n : Nat) (f : Nat → Nat → Int), n < N → dt N (fun i j => f i (cyc n j)) = sn n * dt N f
  | 0, f, _ => by
    rw [dt_congr N (g := f) (fun i j _ _ => by congr 1; unfold cyc; repeat (first | split | omega)), sn_zero, Int.one_mul]
  | n + 1, f, h => by
    have e := dt_ex1 n N (fun i j => f i (cyc n j)) h
    rw [dt_cycC N n f (by omega)] at e
    rw [dt_congr N (g := fun i j => f i (cyc n (ex1 n j))) (fun i j _ _ => by rw [cyc_succ]), e, sn_succ, Int.neg_mul]
theorem dt_cycR (N n : Nat) (f : Nat → Nat → Int) (h : n < N) : dt N (fun i j => f (cyc n i) j) = sn n * dt N f := by
  rw [← dt_turn, dt_cycC N n (fun i j => f j i) h, dt_turn]

theorem dt_dj (n : Nat) (f : Nat → Nat → Int) (h : dt n (fun i j => f (i + 1) (j + 1)) ≠ 0) :
    dt (n + 1) f * dt (n + 1) (fun i j => f (i + 1) (j + 1)) - dt (n + 1) (fun i j => f i (j + 1)) * dt (n + 1) (fun i j => f (i + 1) j) = dt n (fun i j => f (i + 1) (j + 1)) * dt (n + 2) f := by
  obtain ⟨M, hM⟩ : ∃ M : Nat → Nat → Int, M = fun i j => f (cyc n i) (cyc n j) := ⟨_, rfl⟩
  have e0 : dt n M = dt n (fun i j => f (i + 1) (j + 1)) := dt_congr n fun i j hi hj => by rw [hM]; show f _ _ = _; unfold cyc; rw [if_pos hi, if_pos hj]
  have e1 : dt (n + 2) M = dt (n + 2) f := by
    rw [hM, dt_cycR (n + 2) n (fun i j => f i (cyc n j)) (by omega), dt_cycC (n + 2) n f (by omega), ← Int.mul_assoc, sn_sq, Int.one_mul]
  have hne : dt n M ≠ 0 := by rw [e0]; exact h
  have ca : ∀ i, i < n + 1 → cyc n (if i < n then i else n + 0) = cyc n i := fun i hi => by
    split
    · rfl
    · congr 1; omega
  have cb : ∀ i, i < n + 1 → cyc n (if i < n then i else n + 1) = i + 1 := fun i hi => by unfold cyc; repeat (first | split | omega)
  have b00 : bord n M 0 0 = dt (n + 1) f := by
    rw [dt_bord M 0 0 hne, dt_congr (n + 1) (g := fun i j => f (cyc n i) (cyc n j)) (fun i j hi hj => by rw [hM]; show f _ _ = _; rw [ca i hi, ca j hj]), dt_cycR (n + 1) n (fun i j => f i (cyc n j)) (by omega), dt_cycC (n + 1) n f (by omega), ← Int.mul_assoc, sn_sq, Int.one_mul]
  have b11 : bord n M 1 1 = dt (n + 1) (fun i j => f (i + 1) (j + 1)) := by
    rw [dt_bord M 1 1 hne]
    exact dt_congr (n + 1) fun i j hi hj => by rw [hM]; show f _ _ = _; rw [cb i hi, cb j hj]
  have b01 : bord n M 0 1 = sn n * dt (n + 1) (fun i j => f i (j + 1)) := by
    rw [dt_bord M 0 1 hne, ← dt_cycR (n + 1) n (fun i j => f i (j + 1)) (by omega)]
    exact dt_congr (n + 1) fun i j hi hj => by rw [hM]; show f _ _ = _; rw [ca i hi, cb j hj]
  have b10 : bord n M 1 0 = sn n * dt (n + 1) (fun i j => f (i + 1) j) := by
    rw [dt_bord M 1 0 hne, ← dt_cycC (n + 1) n (fun i j => f (i + 1) j) (by omega)]
    exact dt_congr (n + 1) fun i j hi hj => by rw [hM]; show f _ _ = _; rw [cb i hi, ca j hj]
  have e := dt_sylv n 2 M
  rw [dt_two, b00, b11, b01, b10, e1, e0] at e
  have e2 : pw (dt n (fun i j => f (i + 1) (j + 1))) 2 = dt n (fun i j => f (i + 1) (j + 1)) * dt n (fun i j => f (i + 1) (j + 1)) := by simp [pw]
  have e3 : sn n * dt (n + 1) (fun i j => f i (j + 1)) * (sn n * dt (n + 1) (fun i j => f (i + 1) j)) = dt (n + 1) (fun i j => f i (j + 1)) * dt (n + 1) (fun i j => f (i + 1) j) := by
    have := sn_sq n
    grind
  rw [e2, e3] at e
  have e4 : dt n (fun i j => f (i + 1) (j + 1)) * (dt n (fun i j => f (i + 1) (j + 1)) * dt (n + 2) f) = dt n (fun i j => f (i + 1) (j + 1)) * (dt (n + 1) f * dt (n + 1) (fun i j => f (i + 1) (j + 1)) - dt (n + 1) (fun i j => f i (j + 1)) * dt (n + 1) (fun i j => f (i + 1) j)) := by
    rw [← e]; grind
  exact (Int.eq_of_mul_eq_mul_left h e4).symm

end Go.Proofs.Ytpimdgijjljejaa
end

section
namespace Go.Proofs.Ytpimdgijjljejaa
open Go.RowKit Go.Deep

theorem dt_times (c : Int) : ∀ (n : Nat) (f : Nat → Nat → Int), c ≠ 0 → dt n f ≠ 0 → dt n (fun i j => c * f i j) ≠ 0 := fun n f hc hf => by
  have h : ∀ (n : Nat) (f : Nat → Nat → Int), dt n (fun i j => c * f i j) = pw c n * dt n f := by
    intro n
    induction n with
    | zero => intro f; simp [dt, pw]
    | succ n ih =>
      intro f
      rw [dt_succ, dt_succ, ← sumN_mul]
      refine sumN_congr _ fun k _ => ?_
      rw [show dr k (fun i j => c * f i j) = fun i j => c * (dr k f i j) from rfl, ih]
      have : pw c (n + 1) = c * pw c n := rfl
      rw [this]
      grind
  rw [h]
  exact Int.mul_ne_zero (pw_ne hc n) hf
theorem rank_even {l : List (List Int)} {n : Nat} (hT : TabIn l) (hn : l.length = n) (hm : (l.getD 0 []).length = n) (h : Skew n (at2 l)) : rkR l (2 ^ n) (2 ^ n) % 2 = 0 := by
  obtain ⟨R, C, hR, hC, hD⟩ := rank_fun_of hT hn hm
  obtain ⟨r, hr⟩ : ∃ r, rkR l (2 ^ n) (2 ^ n) = r := ⟨_, rfl⟩
  have hrank := fun (k : Nat) (R' C' : Nat → Nat) (h1 : ∀ i, i < k → R' i < n) (h2 : ∀ j, j < k → C' j < n) (h3 : dt k (fun i j => at2 l (R' i) (C' j)) ≠ 0) => rank_fun hT hn hm h1 h2 h3
  rw [hr] at hR hC hD hrank ⊢
  obtain ⟨M, hM⟩ : ∃ M : Nat → Nat → Int, M = fun i j => at2 l (if i < r then R i else i - r) (if j < r then C j else j - r) := ⟨_, rfl⟩
  have hMD : dt r M ≠ 0 := by
    rw [hM, dt_congr r (g := fun i j => at2 l (R i) (C j)) (fun i j hi hj => by rw [if_pos hi, if_pos hj])]
    exact hD
  -- every column is made of the chosen ones
  have hspan : ∀ p q, p < n → q < n → dt r M * at2 l p q = sumN (fun k => at2 l p (C k) * dt r (setC M k (fun i => M i (r + q)))) r := fun p q hp hq => by
    have hb := dt_bord M p q hMD
    have h0 : dt (r + 1) (fun i j => M (if i < r then i else r + p) (if j < r then j else r + q)) = 0 := by
      by_cases e : dt (r + 1) (fun i j => M (if i < r then i else r + p) (if j < r then j else r + q)) = 0
      · exact e
      · have := hrank (r + 1) (fun i => if i < r then R i else p) (fun j => if j < r then C j else q)
          (fun i _ => by show (if i < r then R i else p) < n; split <;> first | exact hR _ (by assumption) | exact hp)
          (fun j _ => by show (if j < r then C j else q) < n; split <;> first | exact hC _ (by assumption) | exact hq) (by
            rw [← dt_congr (r + 1) (f := fun i j => M (if i < r then i else r + p) (if j < r then j else r + q)) (fun i j hi hj => by
              rw [hM]
              show at2 l (if (if i < r then i else r + p) < r then R (if i < r then i else r + p) else (if i < r then i else r + p) - r) (if (if j < r then j else r + q) < r then C (if j < r then j else r + q) else (if j < r then j else r + q) - r) = at2 l (if i < r then R i else p) (if j < r then C j else q)
              by_cases a : i < r <;> by_cases b : j < r
              · simp only [if_pos a, if_pos b]
              · simp only [if_pos a, if_neg b, if_neg (show ¬ r + q < r by omega), Nat.add_sub_cancel_left]
              · simp only [if_neg a, if_pos b, if_neg (show ¬ r + p < r by omega), Nat.add_sub_cancel_left]
              · simp only [if_neg a, if_neg b, if_neg (show ¬ r + p < r by omega), if_neg (show ¬ r + q < r by omega), Nat.add_sub_cancel_left])]
            exact e)
        omega
    rw [h0] at hb
    unfold bord at hb
    have e1 : M (r + p) (r + q) = at2 l p q := by
      rw [hM]
      show at2 l (if r + p < r then _ else _) (if r + q < r then _ else _) = _
      rw [if_neg (by omega), if_neg (by omega), Nat.add_sub_cancel_left, Nat.add_sub_cancel_left]
    have e2 : sumN (fun k => M (r + p) k * dt r (setC M k (fun i => M i (r + q)))) r = sumN (fun k => at2 l p (C k) * dt r (setC M k (fun i => M i (r + q)))) r := sumN_congr r fun k hk => by
      have : M (r + p) k = at2 l p (C k) := by
        rw [hM]
        show at2 l (if r + p < r then _ else _) (if k < r then _ else _) = _
        rw [if_neg (by omega), if_pos hk, Nat.add_sub_cancel_left]
      rw [this]
    rw [e1, e2, Int.mul_comm] at hb
    omega
  by_cases ho : r % 2 = 0
  · exact ho
  · exfalso
    have ho' : r % 2 = 1 := by omega
    have hmul : dt r (fun i j => dt r M * at2 l (C i) (R j)) = dt r (fun i k => at2 l (C i) (C k)) * dt r (fun k j => dt r (setC M k (fun i => M i (r + R j)))) := by
      rw [← dt_mul]
      exact dt_congr r fun i j hi hj => hspan (C i) (R j) (hC i hi) (hR j hj)
    have hz : dt r (fun i k => at2 l (C i) (C k)) = 0 := det_odd (fun i j hi hj => h _ _ (hC i hi) (hC j hj)) ho'
    rw [hz, Int.zero_mul] at hmul
    refine dt_times (dt r M) r _ hMD ?_ hmul
    rw [dt_congr r (f := fun i j => at2 l (C i) (R j)) (g := fun i j => -(fun i j => at2 l (R j) (C i)) i j) (fun i j hi hj => h _ _ (hC i hi) (hR j hj)), dt_neg, dt_turn r (fun i j => at2 l (R i) (C j))]
    exact Int.mul_ne_zero (sn_ne r) hD

end Go.Proofs.Ytpimdgijjljejaa
end

section
namespace Go.Proofs.Ytpimdgijjljejaa
open Go.RowKit Go.Deep

theorem halfS_start (l : List (List Int)) (i s : Nat) (f : Nat → Int) : ∀ m, m ≤ i + 1 → sumN (halfT l i s f) m = 0
  | 0, _ => rfl
  | m + 1, h => by
    show sumN (halfT l i s f) m + halfT l i s f m = 0
    rw [halfS_start l i s f m (by omega), halfT_no f (by omega)]
    rfl
theorem popcS_oneH' : ∀ s : Fin 64, 0 < s.val → 1 ≤ popcS s.val := by decide +kernel
theorem btw_le (s i k : Nat) : btw s i k ≤ 6 := popcS_le _

end Go.Proofs.Ytpimdgijjljejaa
end

section
namespace Go.Proofs.Ytpimdgijjljejaa
open Go.RowKit Go.Deep

theorem cntS_start (l : List (List Int)) (i s : Nat) (f : Nat → Nat) : ∀ m, m ≤ i + 1 → sumM (cntT l i s f) m = 0
  | 0, _ => rfl
  | m + 1, h => by
    show sumM (cntT l i s f) m + cntT l i s f m = 0
    rw [cntS_start l i s f m (by omega), cntT_no f (by omega)]
theorem p6_le : ∀ d, d ≤ 4 → p6 d ≤ 1296 := by
  intro d hd
  have h : d = 0 ∨ d = 1 ∨ d = 2 ∨ d = 3 ∨ d = 4 := by omega
  rcases h with rfl | rfl | rfl | rfl | rfl <;> decide
theorem cntS_bd {l : List (List Int)} {i s n : Nat} {f : Nat → Nat} {B : Nat} (h : ∀ u, f u ≤ B) : sumM (cntT l i s f) n ≤ n * B :=
  sumM_le (fun k => by
    unfold cntT
    split
    · exact h _
    · omega) n

end Go.Proofs.Ytpimdgijjljejaa
end

section
namespace Go.Proofs.Ytpimdgijjljejaa
open Go.RowKit Go.Deep

def AboutP (l : List (List Int)) (n : Nat) : Prop := ∀ i, i < n → ∀ k, k < i + 1 → at2 l i k + at2 l k i = 0
instance (l : List (List Int)) (n : Nat) : Decidable (AboutP l n) := inferInstanceAs (Decidable (∀ i, i < n → ∀ k, k < i + 1 → _))
noncomputable def pairB (l : List (List Int)) : Bool := sqB l && decide (AboutP l l.length)
theorem pairB_of {l : List (List Int)} {n : Nat} (h : pairB l = true) (hn : l.length = n) : TabIn l ∧ (l.getD 0 []).length = n ∧ AboutP l n := by
  unfold pairB at h
  simp only [Bool.and_eq_true, decide_eq_true_eq] at h
  obtain ⟨h1, h2⟩ := sqB_of h.1
  rw [hn] at h h2
  exact ⟨h1, h2.symm, h.2⟩
theorem pairB_sq {l : List (List Int)} (h : pairB l = true) : sqB l = true := by
  unfold pairB at h
  simp only [Bool.and_eq_true] at h
  exact h.1

set_option maxRecDepth 100000 in
set_option maxHeartbeats 2000000 in
theorem specPairIn_any (a : Option Addr) (cap n : Nat) (l : List (List Int)) (w : World) (hn : l.length = n) (hsz : szL l ≤ 1048576) (hm : MatR w a l) :
    Calls Try.prog 11 #[.slice a n cap] w fun e w' => e = .returned (.bool (pairB l)) ∧ Drawn w w' := by
  have E := l2Square_any a cap n l w hn hsz hm
  cases hs : sqB l with
  | false =>
    have hok : pairB l = false := by unfold pairB; rw [hs]; rfl
    rw [hs] at E
    rw [hok]
    replace E := Lib.hid E
    clear hs hm hn hsz hok
    go_enter Try.func11, Try.ntmps11
    go_wp2_with fail
    refine (E.out).mono ?_
    rintro e w1 ⟨rfl, hd⟩
    go_wp2
    go_ret
    exact ⟨rfl, hd⟩
  | true =>
    have hok : pairB l = decide (AboutP l n) := by unfold pairB; rw [hs, hn]; rfl
    rw [hs] at E
    rw [hok]
    replace E := Lib.hid E
    obtain ⟨hT, hw⟩ := sqB_of hs
    have h6 := hT.2.1
    rw [hn] at h6 hw
    obtain ⟨b, o, A, C, rfl, hrow, hcell⟩ := hm.grid hn hT hw.symm
    have HROW := Lib.hid hrow
    have HC := Lib.hid hcell
    obtain ⟨r, hr⟩ : ∃ r, decide (AboutP l n) = r := ⟨_, rfl⟩
    have HYES := Lib.hid (fun (h : AboutP l n) => show r = true by rw [← hr]; exact decide_eq_true h)
    have HNO := Lib.hid (fun (h : ¬ AboutP l n) => show r = false by rw [← hr]; exact decide_eq_false h)
    rw [hr]
    clear hs hm hn hsz hok hT hw hrow hcell hr
    go_enter Try.func11, Try.ntmps11
    go_wp2_with fail
    refine (E.out).mono ?_
    rintro e w1 ⟨rfl, hd⟩
    have HD1 := Lib.hid hd
    clear hd
    go_wp2
    go_loopg [3, 4] n (fun g i _ wr => ∃ i0 : Nat, i0 ≤ n ∧ g = n - i0 ∧ i = .int .i64 i0 ∧ AboutP l i0 ∧ Drawn w wr)
    case atStart => exact ⟨0, Nat.zero_le _, rfl, rfl, fun i hi => absurd hi (Nat.not_lt_zero _), HD1.out⟩
    case round =>
      obtain ⟨i0, hi0, rfl, rfl, hA, hD⟩ := hrel
      have HA := Lib.hid hA
      clear hA
      by_cases hlt : i0 < n
      · have HDR := Lib.hid hD
        clear hD
        go_wp2
        go_loopg [4] (i0 + 1) (fun g k wr => ∃ k0 : Nat, k0 ≤ i0 + 1 ∧ g = i0 + 1 - k0 ∧ k = .int .i64 k0 ∧ (∀ k, k < k0 → at2 l i0 k + at2 l k i0 = 0) ∧ Drawn w wr)
        case atStart => exact ⟨0, Nat.zero_le _, rfl, rfl, fun k hk => absurd hk (Nat.not_lt_zero _), HDR.out⟩
        case round =>
          obtain ⟨k0, hk0, rfl, rfl, hK, hD⟩ := hrel
          clear HDR
          have HK := Lib.hid hK
          clear hK
          by_cases hltk : k0 < i0 + 1
          · obtain ⟨b1, o1, c1, c2, c3, c4⟩ := HC.out i0 k0 hlt (by omega)
            obtain ⟨b2, o2, d1, d2, d3, d4⟩ := HC.out k0 i0 (by omega) hlt
            have hle : decide ((k0 : Int) ≤ (i0 : Int)) = true := by simp; omega
            rw [← hD.cell] at c1 c2 d1 d2
            obtain ⟨x, hx⟩ : ∃ x, at2 l i0 k0 = x := ⟨_, rfl⟩
            obtain ⟨y, hy⟩ : ∃ y, at2 l k0 i0 = y := ⟨_, rfl⟩
            rw [hx] at c2 c3 c4
            rw [hy] at d2 d3 d4
            have hw1 : IntKind.i64.wrap (x + y) = x + y := IntWalk.i64_in _ ⟨by omega, by omega⟩
            have HDR := Lib.hid hD
            by_cases h0 : x + y = 0
            · have hz : (x + y != 0) = false := by simp [h0]
              have HK2 := Lib.hid (show ∀ k, k < k0 + 1 → at2 l i0 k + at2 l k i0 = 0 from fun k hk => by
                by_cases e : k = k0
                · subst e; rw [hx, hy]; exact h0
                · exact HK.out k (by omega))
              clear hD hx hy h0
              go_wp2
              go_quiet (fail)
              go_wp2
              go_roundg (i0 + 1 - (k0 + 1))
              case measure => omega
              case rel => exact ⟨k0 + 1, by omega, rfl, by go_num, HK2.out, HDR.out.trans (Drawn.mk _ _)⟩
            · have hz : (x + y != 0) = true := by simp [h0]
              have HN := Lib.hid (HNO.out (fun h => h0 (by have := h i0 hlt k0 hltk; rw [hx, hy] at this; exact this)))
              clear hD hx hy h0
              go_wp2
              go_quiet (fail)
              go_wp2
              go_ret
              exact ⟨by rw [HN.out] <;> rfl, HDR.out.trans (Drawn.mk _ _)⟩
          · have hki : k0 = i0 + 1 := by omega
            have hle : decide ((k0 : Int) ≤ (i0 : Int)) = false := by simp; omega
            have HA2 := Lib.hid (show AboutP l (i0 + 1) from fun i hi k hk => by
              by_cases e : i = i0
              · subst e; exact HK.out k (by omega)
              · exact HA.out i (by omega) k hk)
            have HDR := Lib.hid hD
            subst hki
            clear hD
            go_wp2
            go_roundg (n - (i0 + 1))
            case measure => omega
            case rel => exact ⟨i0 + 1, by omega, rfl, by go_num, HA2.out, HDR.out⟩
      · have hin : i0 = n := by omega
        subst hin
        have HY := Lib.hid (HYES.out HA.out)
        go_wp2
        go_ret
        exact ⟨by rw [HY.out] <;> rfl, hD⟩

theorem full_in : ∀ n : Fin 7, 2 ^ n.val - 1 < 2 ^ n.val ∧ popcS (2 ^ n.val - 1) ≤ 2 * 3 := by decide +kernel

end Go.Proofs.Ytpimdgijjljejaa
end

section
namespace Go.Proofs.Ytpimdgijjljejaa
open Go.RowKit Go.Deep

theorem aboutP_skew {l : List (List Int)} {n : Nat} (h : AboutP l n) : Skew n (at2 l) := fun i j hi hj => by
  by_cases e : j ≤ i
  · have := h i hi j (by omega); omega
  · have := h j hj i (by omega); omega

end Go.Proofs.Ytpimdgijjljejaa
end

section
namespace Go.Proofs.Ytpimdgijjljejaa

noncomputable def sameOk (l u : List (List Int)) : Bool := tabIn l && (tabIn u && decide (l = u))

end Go.Proofs.Ytpimdgijjljejaa
end

section
namespace Go.Proofs.Ytpimdgijjljejaa
open Go.RowKit Go.Deep Go.Shelf

set_option maxHeartbeats 1000000 in
theorem slicesEqual_any (a b : Option Addr) (ca cb m : Nat) (x y : List Int) (w : World) (hx : x.length = m) (hy : y.length = m) (h63 : m ≤ 1048576) (ha : RowR w a x) (hb : RowR w b y) :
    Calls Try.prog 71 #[.slice a m ca, .slice b m cb] w fun e w' => e = .returned (.bool (decide (x = y))) ∧ Drawn w w' := by
  have hext : (∀ j, j < m → x.getD j 0 = y.getD j 0) → x = y := fun h => by
    refine List.ext_getElem (by omega) fun c g1 g2 => ?_
    have := h c (by omega)
    simpa [List.getD, g1, g2] using this
  have HX := Lib.hid hx
  have HY := Lib.hid hy
  have HEXT := Lib.hid hext
  clear hx hy hext
  go_enter Try.func71, Try.ntmps71
  go_wp2
  go_loopg [5, 13] m (fun g _ i wr => ∃ k : Nat, k ≤ m ∧ g = m - k ∧ i = .int .i64 k ∧ Drawn w wr ∧ ∀ j, j < k → x.getD j 0 = y.getD j 0)
  case atStart => exact ⟨0, Nat.zero_le _, rfl, rfl, Drawn.refl w, fun j hj => absurd hj (Nat.not_lt_zero _)⟩
  case round =>
    obtain ⟨k, hk, rfl, rfl, hD, hS⟩ := hrel
    have HS := Lib.hid hS
    clear hS
    by_cases hlt : k < m
    · obtain ⟨b1, o1, rfl, hc1⟩ := ha (by rw [HX.out]; omega)
      obtain ⟨b2, o2, rfl, hc2⟩ := hb (by rw [HY.out]; omega)
      have c1 := hc1 k (by rw [HX.out]; exact hlt)
      have c2 := hc2 k (by rw [HY.out]; exact hlt)
      obtain ⟨p, hp⟩ : ∃ p, x.getD k 0 = p := ⟨_, rfl⟩
      obtain ⟨q, hq⟩ : ∃ q, y.getD k 0 = q := ⟨_, rfl⟩
      rw [hp] at c1
      rw [hq] at c2
      rw [← hD.cell] at c1 c2
      have HP := Lib.hid hp
      have HQ := Lib.hid hq
      clear hp hq hc1 hc2 ha hb
      by_cases hpq : p = q
      · subst hpq
        go_wp2
        go_quiet (fail)
        go_wp2
        go_roundg (m - (k + 1))
        case measure => omega
        case rel => exact ⟨k + 1, by omega, rfl, by go_num, hD.trans (Drawn.mk _ _), fun j hj => by
          by_cases e : j = k
          · subst e; rw [HP.out, HQ.out]
          · exact HS.out j (by omega)⟩
      · have hne : (p != q) = true := by simp [hpq]
        go_wp2
        go_quiet (fail)
        go_wp2
        go_ret
        refine ⟨ret_bool (decide_eq_false fun e => ?_).symm, hD.trans (Drawn.mk _ _)⟩
        subst e
        exact hpq (by rw [← HP.out, ← HQ.out])
    · have : k = m := by omega
      subst this
      have HXY := Lib.hid (HEXT.out HS.out)
      go_wp2
      go_ret
      exact ⟨ret_bool (decide_eq_true HXY.out).symm, hD⟩

theorem rows_eq {l u : List (List Int)} {n : Nat} (hn : l.length = n) (hu : u.length = n) (h : ∀ r, r < n → l.getD r [] = u.getD r []) : l = u := by
  refine List.ext_getElem (by omega) fun c g1 g2 => ?_
  have := h c (by omega)
  simpa [List.getD, g1, g2] using this

attribute [local go_sem] Oper.semAt_some

set_option maxRecDepth 100000 in
set_option maxHeartbeats 2000000 in
theorem same_any (a a2 : Option Addr) (cap cap2 n n2 : Nat) (l u : List (List Int)) (w : World) (hn : l.length = n) (hu : u.length = n2) (hm : MatR w a l) (hmu : MatR w a2 u) (hT : TabIn l) (hTu : TabIn u) :
    Calls Try.prog 57 #[.slice a n cap, .slice a2 n2 cap2] w fun e w' => e = .returned (.bool (decide (l = u))) ∧ w.Since w.heap.size w' := by
  have h6 := hT.2.1
  have h1 := hT.1
  rw [hn] at h1 h6
  have hw := hT.width
  have E := Lib.hid (fun (W : World) (hs : Below w.heap.size w W) => alike_any a a2 cap cap2 n n2 l u W hn hu hT hTu (hm.since (below_since hs)) (hmu.since (below_since hs)))
  refine (callsIn_wide (n := 9)).1 ?_
  refine callsIn_of_wp_marks Try.func57 rfl trivial ?_ rfl
  simp only [Try.ntmps57, List.size_toArray, List.length_cons, List.length_nil, Nat.reduceAdd, Nat.reduceSub, Array.replicate_succ, Array.replicate_zero, List.push_toArray, List.append_toArray, List.nil_append, List.cons_append]
  have hB2 : Below w.heap.size w ((w.alloc (.cells #[.slice a2 n2 cap2] 41)).alloc (.cells #[.bool false] 4)) := ((Below.refl _ w).alloc (Nat.le_refl _) _).alloc (by simp) _
  have HB2 := Lib.hid hB2
  clear hB2
  cases hal : alikeB l u with
  | false =>
    rw [hal] at E
    have hno : l ≠ u := by
      rintro rfl
      unfold alikeB at hal
      simp at hal
    have HNO := Lib.hid hno
    clear hm hmu hT hTu hn hu hno hal
    gi_wp2_with (refine ⟨trivial, ?_⟩; gi_at_call 70; refine (callsIn_wide.2 (E.out _ HB2.out)).mono ?_; rintro e w' ⟨rfl, rfl⟩)
    refine ⟨.bool false, ?_, ret_bool (decide_eq_false HNO.out).symm, below_since HB2.out⟩
    simp [results, Try.f57, go_sem]
  | true =>
    rw [hal] at E
    unfold alikeB at hal
    rw [Bool.and_eq_true, beq_iff_eq, beq_iff_eq] at hal
    obtain rfl : n2 = n := by omega
    obtain ⟨m, hmm⟩ : ∃ m, (l.getD 0 []).length = m := ⟨_, rfl⟩
    have hrow : ∀ r, r < n2 → (l.getD r []).length = m := fun r hr => by rw [hT.row (by omega), hmm]
    have hrowu : ∀ r, r < n2 → (u.getD r []).length = m := fun r hr => by rw [hTu.row (by omega), ← hal.2, hmm]
    rw [hmm] at hw
    obtain ⟨b, o, A, C, ha, hc⟩ := hm (by omega)
    obtain ⟨d, q, A2, C2, ha2, hc2⟩ := hmu (by omega)
    have hbl : b < w.heap.size := World.block_lt_of_cell? _ _ (hc 0 (by omega)).1
    have hdl : d < w.heap.size := World.block_lt_of_cell? _ _ (hc2 0 (by omega)).1
    have hc1 : ∀ r, r < n2 → w.cell? ⟨b, o + r, none⟩ = some (.slice (A r) m (C r)) ∧ RowR w (A r) (l.getD r []) := fun r hr => by
      have := hc r (by omega); rw [hrow r hr] at this; exact this
    have hc3 : ∀ r, r < n2 → w.cell? ⟨d, q + r, none⟩ = some (.slice (A2 r) m (C2 r)) ∧ RowR w (A2 r) (u.getD r []) := fun r hr => by
      have := hc2 r (by omega); rw [hrowu r hr] at this; exact this
    subst ha
    subst ha2
    have HC := Lib.hid hc1
    have HC2 := Lib.hid hc3
    have HROW := Lib.hid hrow
    have HROWU := Lib.hid hrowu
    have HEQ := Lib.hid (rows_eq hn hu)
    have hpow : 2 ^ n2 - 1 ≤ 63 := by have : 2 ^ n2 ≤ 2 ^ 6 := Nat.pow_le_pow_right (by omega) h6; omega
    clear hm hmu hT hTu hn hu hal hmm hc hc2 hc1 hc3 hrow hrowu
    gi_wp2_with (first
      | (refine ⟨trivial, ?_⟩; gi_at_call 70; refine (callsIn_wide.2 (E.out _ HB2.out)).mono ?_; rintro e w' ⟨rfl, rfl⟩)
      | (refine ⟨trivial, ?_⟩; gi_at_call 62; refine (callsIn_wide.2 (allRows_any _ _ _ _ h6)).mono ?_; rintro e w' ⟨rfl, rfl⟩)
      | (refine ⟨trivial, ?_⟩; gi_at_call 67; refine (callsIn_wide.2 (rows_any _ _ _ _ _)).mono ?_; rintro e w' ⟨rfl, rfl⟩))
    obtain ⟨W0, hW0⟩ : ∃ W0, W0 = (((w.alloc (.cells #[.slice (some ⟨d, q, none⟩) n2 cap2] 41)).alloc (.cells #[.bool false] 4)).alloc (.cells #[.slice (some ⟨b, o, none⟩) n2 cap] 41)).alloc (.cells #[.int .i64 (2 ^ n2 - 1 : Nat)] 3) := ⟨_, rfl⟩
    rw [← hW0]
    have hsz0 : W0.heap.size = w.heap.size + 1 + 1 + 1 + 1 := by rw [hW0]; simp
    have hB0 : Below w.heap.size w W0 := by rw [hW0]; exact (HB2.out.alloc (by simp; omega) _).alloc (by simp; omega) _
    have c0 := cell_new_l w (.slice (some ⟨d, q, none⟩) n2 cap2) 41
    have c1 := cell_new_l (w.alloc (.cells #[.slice (some ⟨d, q, none⟩) n2 cap2] 41)) (.bool false) 4
    have c2 := cell_new_l ((w.alloc (.cells #[.slice (some ⟨d, q, none⟩) n2 cap2] 41)).alloc (.cells #[.bool false] 4)) (.slice (some ⟨b, o, none⟩) n2 cap) 41
    have c3 := cell_new_l (((w.alloc (.cells #[.slice (some ⟨d, q, none⟩) n2 cap2] 41)).alloc (.cells #[.bool false] 4)).alloc (.cells #[.slice (some ⟨b, o, none⟩) n2 cap] 41)) (.int .i64 (2 ^ n2 - 1 : Nat)) 3
    simp only [World.size_alloc] at c1 c2 c3
    have d0 : W0.cell? ⟨w.heap.size, 0, none⟩ = some (.slice (some ⟨d, q, none⟩) n2 cap2) := by rw [hW0]; exact cell_alloc_l _ (cell_alloc_l _ (cell_alloc_l _ c0.1))
    have d1 : W0.cell? ⟨w.heap.size + 1, 0, none⟩ = some (.bool false) := by rw [hW0]; exact cell_alloc_l _ (cell_alloc_l _ c1.1)
    have d1f : W0.frozen? ⟨w.heap.size + 1, 0, none⟩ = false := by rw [hW0]; exact frozen_alloc_l _ (cell_alloc_l _ c1.1) (frozen_alloc_l _ c1.1 c1.2)
    have d2 : W0.cell? ⟨w.heap.size + 1 + 1, 0, none⟩ = some (.slice (some ⟨b, o, none⟩) n2 cap) := by rw [hW0]; exact cell_alloc_l _ c2.1
    have d3 : W0.cell? ⟨w.heap.size + 1 + 1 + 1, 0, none⟩ = some (.int .i64 (2 ^ n2 - 1 : Nat)) := by rw [hW0]; exact c3.1
    clear c0 c1 c2 c3
    have hc0' : ∀ k, k < n2 → W0.cell? ⟨b, o + k, none⟩ = some (.slice (A k) m (C k)) := fun k hk => (hB0.cell (p := ⟨b, o + k, none⟩) hbl).trans (HC.out k hk).1
    have hstops := rows_stops 8 (by omega) (w.heap.size + 1 + 1) (w.heap.size + 1 + 1 + 1) b o n2 cap (2 ^ n2 - 1) W0.heap.size (by omega) hpow A (fun _ => m) C W0 (Nat.le_refl _) (by omega) (by omega) (by omega) d2 d3 hc0'
    clear hc0' d2 d3
    refine wpIn_rangeFunc_ownF (F := Fence.wide) (n := 9) rfl (by omega) (gf := 78) (lb := #[.pointer (some ⟨w.heap.size + 1 + 1, 0, none⟩), .pointer (some ⟨w.heap.size + 1 + 1 + 1, 0, none⟩)]) rfl trivial (enters_of Try.func78 (by kernel_rfl) rfl)
      hstops belowK_t (belowK_b (Nat.le_refl _)) (Below.refl _ _) (fun _ => rfl)
      (fun pre W => (W.cell? ⟨w.heap.size, 0, none⟩ = some (.slice (some ⟨d, q, none⟩) n2 cap2) ∧ W.cell? ⟨w.heap.size + 1, 0, none⟩ = some (.bool false) ∧ W.frozen? ⟨w.heap.size + 1, 0, none⟩ = false ∧ ∀ x ∈ pre, l.getD x.1 [] = u.getD x.1 []) ∧ Below w.heap.size w W)
      (fun c _ W => (c = .ret ∧ l ≠ u ∧ W.cell? ⟨w.heap.size + 1, 0, none⟩ = some (.bool false)) ∧ Below w.heap.size w W)
      (OwnFrom.and (Own.from (fun s A B row hs hg hr => ⟨cell_kept hs.1 hg hr, cell_kept hs.2.1 hg hr, (frozen_kept hs.2.1 hg hr).trans hs.2.2.1, hs.2.2.2⟩) _) (ownFrom_below (Nat.le_refl _) (by omega)))
      (fun c => OwnFrom.and (Own.from (fun s A B row hs hg hr => ⟨hs.1, hs.2.1, cell_kept hs.2.2 hg hr⟩) _) (ownFrom_below (Nat.le_refl _) (by omega)))
      ⟨⟨d0, d1, d1f, by simp⟩, hB0⟩
      (fun x => { tmps := #[.slice (some ⟨b, o, none⟩) n2 cap, .slice (some ⟨d, q, none⟩) n2 cap2, undef, .pointer (some ⟨w.heap.size, 0, none⟩), .pointer (some ⟨w.heap.size + 1, 0, none⟩), .int .i64 x.1, .slice (A x.1) m (C x.1), .slice (some ⟨b, o, none⟩) n2 cap, .slice (some ⟨d, q, none⟩) n2 cap2,
          .bool true, .bool false, .slice (some ⟨b, o, none⟩) n2 cap, .slice (some ⟨b, o, none⟩) n2 cap, .int .i64 (2 ^ n2 - 1 : Nat),
          .func (.func 78) #[] #[.pointer (some ⟨w.heap.size + 1 + 1, 0, none⟩), .pointer (some ⟨w.heap.size + 1 + 1 + 1, 0, none⟩)],
          .int .i64 x.1, .slice (A x.1) m (C x.1), undef, undef, undef, undef, undef, undef, undef], defers := [] }) ?assign ?body ?done ?stop
    case assign =>
      intro lp x W K hK
      gi_wp2
      exact hK
    case body =>
      rintro lp pre x W ⟨⟨g0, g1, g2, g3⟩, gB⟩ hlen
      obtain ⟨_, r1⟩ := HC.out x.1 x.2
      obtain ⟨e2, r2⟩ := HC2.out x.1 x.2
      rw [← gB.cell (p := ⟨d, q + x.1, none⟩) hdl] at e2
      have hx2 := x.2
      obtain ⟨X, hX⟩ : ∃ X, l.getD x.1 [] = X := ⟨_, rfl⟩
      obtain ⟨Y, hY⟩ : ∃ Y, u.getD x.1 [] = Y := ⟨_, rfl⟩
      have hXm := HROW.out x.1 x.2
      have hYm := HROWU.out x.1 x.2
      rw [hX] at r1 hXm
      rw [hY] at r2 hYm
      have E5 := slicesEqual_any (A x.1) (A2 x.1) (C x.1) (C2 x.1) m X Y W hXm hYm (by omega) (r1.since (below_since gB)) (r2.since (below_since gB))
      have HX := Lib.hid hX
      have HY := Lib.hid hY
      obtain ⟨bb, hbb⟩ : ∃ bb, decide (X = Y) = bb := ⟨_, rfl⟩
      rw [hbb] at E5
      have HBB := Lib.hid hbb
      replace E5 := Lib.hid E5
      clear hX hY hXm hYm r1 r2 hbb
      cases bb with
      | true =>
        gi_wp2_with (refine ⟨trivial, ?_⟩; gi_at_call 71; refine (CallsIn.inRound lp (callsIn_wide.2 E5.out)).mono ?_; rintro e w' ⟨rfl, qq, rfl⟩)
        have hxy : X = Y := of_decide_eq_true HBB.out
        refine ⟨⟨Nat.le_refl _, fun _ _ h _ => h⟩, ⟨rfl, rfl, rfl, Nat.le_refl _, fun _ _ => rfl⟩, ⟨g0, g1, g2, fun y hy => ?_⟩, ⟨gB.os, gB.tape, gB.output, gB.size, gB.block⟩⟩
        rcases List.mem_append.1 hy with hy | hy
        · exact g3 y hy
        · simp at hy
          subst hy
          rw [HX.out, HY.out]; exact hxy
      | false =>
        gi_wp2_with (refine ⟨trivial, ?_⟩; gi_at_call 71; refine (CallsIn.inRound lp (callsIn_wide.2 E5.out)).mono ?_; rintro e w' ⟨rfl, qq, rfl⟩)
        have hxy : X ≠ Y := of_decide_eq_false HBB.out
        have gB' : Below w.heap.size w (W.drewN qq) := ⟨gB.os, gB.tape, gB.output, gB.size, gB.block⟩
        have g1' : (W.drewN qq).cell? ⟨w.heap.size + 1, 0, none⟩ = some (.bool false) := g1
        have hk0 : KeepsOthers W (W.drewN qq) := ⟨Nat.le_refl _, fun _ _ h _ => h⟩
        exact ⟨hk0.trans (KeepsOthers.setCell _ _ _), ⟨rfl, fun e => hxy (by rw [← HX.out, ← HY.out, e]), World.cell?_setCell_same' _ _ _ (by rw [g1']; rfl)⟩, gB'.setCell (p := ⟨w.heap.size + 1, 0, none⟩) (by simp) _⟩
    case done =>
      rintro D ys W hD rfl ⟨⟨g0, g1, g2, g3⟩, gB⟩ hK
      have hlu : l = u := HEQ.out fun r hr => g3 ⟨r, hr⟩ (sel_mem (2 ^ n2 - 1) n2 hr (Nat.le_refl _) (by rw [Nat.testBit_two_pow_sub_one]; simpa using hr))
      have HLU := Lib.hid hlu
      clear hlu
      gi_wp2
      have hK' := (KeepsOthers.setCell W ⟨w.heap.size + 1, 0, none⟩ (.bool true)).same D _ hK rfl
      refine ⟨by simp, .inl ⟨_, _, rfl, run_takeDeferred hK', ?_⟩⟩
      have hc5 := cell_kept (World.cell?_setCell_same' W ⟨w.heap.size + 1, 0, none⟩ (.bool true) (by rw [g1]; rfl)) (grownBy_putObj' _ D (.deferred none)) (fun r e => by cases e; exact ⟨_, hK', rfl⟩)
      refine ⟨.bool true, ?_, ret_bool (decide_eq_true HLU.out).symm, below_since ((gB.setCell (p := ⟨w.heap.size + 1, 0, none⟩) (by simp) _).trans (belowK_b (w := w) (Nat.le_refl _) _ D _ _ (by omega) hK' rfl rfl))⟩
      simp [results, Try.f57, go_sem, hc5]
    case stop =>
      rintro D c pre W hD hpre ⟨⟨rfl, hnot, hcr⟩, gB⟩ hK
      have HNOT := Lib.hid hnot
      clear hnot
      gi_wp2
      refine ⟨by simp, .inl ⟨_, _, rfl, run_takeDeferred hK, ?_⟩⟩
      have hc5 := cell_kept hcr (grownBy_putObj' _ D (.deferred none)) (fun r e => by cases e; exact ⟨_, hK, rfl⟩)
      refine ⟨.bool false, ?_, ret_bool (decide_eq_false HNOT.out).symm, below_since (gB.trans (belowK_b (w := w) (Nat.le_refl _) W D _ _ (by omega) hK rfl rfl))⟩
      simp [results, Try.f57, go_sem, hc5]

end Go.Proofs.Ytpimdgijjljejaa
end

section
namespace Go.Proofs.Ytpimdgijjljejaa
open Go.RowKit Go.Deep

theorem same_ext {l u : List (List Int)} {n m : Nat} (hn : l.length = n) (hu : u.length = n) (hl : ∀ r, r < n → (l.getD r []).length = m) (hul : ∀ r, r < n → (u.getD r []).length = m) (h : ∀ r c, r < n → c < m → at2 l r c = at2 u r c) : l = u := by
  refine List.ext_getElem (by omega) fun r h1 h2 => ?_
  have e1 : l.getD r [] = l[r] := by simp [List.getD, h1]
  have e2 : u.getD r [] = u[r] := by simp [List.getD, h2]
  have l1 := hl r (by omega)
  have l2 := hul r (by omega)
  rw [e1] at l1
  rw [e2] at l2
  refine List.ext_getElem (by omega) fun c g1 g2 => ?_
  have := h r c (by omega) (by omega)
  unfold at2 at this
  rw [e1, e2] at this
  simpa [List.getD, g1, g2] using this

def SameTo (l u : List (List Int)) (m r c : Nat) : Prop := (∀ i j, i < r → j < m → at2 l i j = at2 u i j) ∧ ∀ j, j < c → at2 l r j = at2 u r j
theorem SameTo.next {l u : List (List Int)} {m r : Nat} (h : SameTo l u m r m) : SameTo l u m (r + 1) 0 :=
  ⟨fun i j hi hj => by
    by_cases e : i = r
    · subst e; exact h.2 j hj
    · exact h.1 i j (by omega) hj, fun j hj => absurd hj (Nat.not_lt_zero _)⟩
theorem SameTo.step {l u : List (List Int)} {m r c : Nat} (h : SameTo l u m r c) (e : at2 l r c = at2 u r c) : SameTo l u m r (c + 1) :=
  ⟨h.1, fun j hj => by
    by_cases e' : j = c
    · subst e'; exact e
    · exact h.2 j (by omega)⟩

end Go.Proofs.Ytpimdgijjljejaa
end

section
namespace Go.Proofs.Ytpimdgijjljejaa
open Go.RowKit Go.Deep

structure SW (w1 w' : World) (b n m : Nat) (A : Nat → Option Addr) (G C : Nat → Nat) (Z : Nat → Nat → Int) (hi : Nat) : Prop where
  since : w1.Since w1.heap.size w'
  size : hi ≤ w'.heap.size
  own : OwnD w1.heap.size hi w' b A G C n (fun _ => m) Z
  free : ∀ r, r < n → w'.frozen? ⟨b, r, none⟩ = false
  inb : w1.heap.size ≤ b ∧ b < hi

theorem SW.later {w1 w' w2 : World} {b n m : Nat} {A : Nat → Option Addr} {G C : Nat → Nat} {Z : Nat → Nat → Int} {hi : Nat} (h : SW w1 w' b n m A G C Z hi) (hs : w'.Since w'.heap.size w2) : SW w1 w2 b n m A G C Z hi :=
  ⟨h.since.trans (since_mono hs h.since.size), Nat.le_trans h.size hs.size, h.own.later hs, fun r hr => by rw [hs.frozen (a := ⟨b, r, none⟩) (World.block_lt_of_cell? _ _ (h.own.top r hr))]; exact h.free r hr, h.inb⟩

theorem SW.put {w1 w2 w3 : World} {b n m : Nat} {A : Nat → Option Addr} {G C : Nat → Nat} {Z : Nat → Nat → Int} {hi : Nat} (h : SW w1 w2 b n m A G C Z hi) (hs : w2.Since w2.heap.size w3) {g cp : Nat} {x : List Int} (hg : w2.heap.size ≤ g) (hx : RowB w3 g x) (hxl : x.length = m)
    (hm : 0 < m) {i : Nat} (hi' : i < n) : SW w1 (w3.setCell ⟨b, i, none⟩ (.slice (some ⟨g, 0, none⟩) m cp)) b n m (fun r => if r = i then some ⟨g, 0, none⟩ else A r) (fun r => if r = i then g else G r) (fun r => if r = i then cp else C r) (fun r c => if r = i then x.getD c 0 else Z r c) w3.heap.size := by
  have h3 := h.later hs
  have hgl := hx.lt
  have hsz := h.size
  have hb := h.inb
  have hss := h.since.size
  have hsz3 := hs.size
  have hgb : g ≠ b := by omega
  refine ⟨h3.since.setCell hb.1 _, by simp, ⟨fun r hr => ?_, fun r hr h0 => ?_, fun r hr h0 => ?_, fun r hr c hc => ?_, fun r hr c hc => ?_, fun r r' hr hr' h0 h0' e => ?_⟩, fun r hr => by rw [World.frozen?_setCell]; exact h3.free r hr, hb.1, by omega⟩
  · by_cases e : r = i
    · subst e
      rw [if_pos rfl, if_pos rfl]
      exact World.cell?_setCell_same' _ _ _ (by rw [h3.own.top r hr]; rfl)
    · rw [if_neg e, if_neg e, World.cell?_setCell_other _ _ _ _ (fun e' => e (by injection e' with _ e'; exact e'.symm))]
      exact h3.own.top r hr
  · by_cases e : r = i
    · rw [if_pos e, if_pos e]
    · rw [if_neg e, if_neg e]; exact h3.own.addr r hr h0
  · by_cases e : r = i
    · rw [if_pos e]; exact ⟨by omega, hgl, hgb⟩
    · rw [if_neg e]; have := h3.own.inside r hr h0; exact ⟨this.1, by omega, this.2.2⟩
  · by_cases e : r = i
    · rw [if_pos e, if_pos e, World.cell?_setCell_other _ _ _ _ (fun e' => hgb (by injection e' with e'; exact e'.symm))]
      exact hx.cell (by rw [hxl]; exact hc)
    · rw [if_neg e, if_neg e, World.cell?_setCell_other _ _ _ _ (fun e' => (h3.own.inside r hr (by omega)).2.2 (by injection e' with e'; exact e'.symm))]
      exact h3.own.cell r hr c hc
  · rw [World.frozen?_setCell]
    by_cases e : r = i
    · rw [if_pos e]; exact hx.frozen c
    · rw [if_neg e]; exact h3.own.free r hr c hc
  · by_cases e1 : r = i <;> by_cases e2 : r' = i
    · omega
    · rw [if_pos e1, if_neg e2] at e
      have := (h.own.inside r' hr' h0').2.1
      omega
    · rw [if_neg e1, if_pos e2] at e
      have := (h.own.inside r hr h0).2.1
      omega
    · rw [if_neg e1, if_neg e2] at e
      exact h3.own.apart r r' hr hr' h0 h0' e

theorem OwnT.sw {w w1 : World} {a : Option Addr} {l : List (List Int)} {n m : Nat} (h : OwnT w.heap.size w1.heap.size w1 a l) (hn : l.length = n) (h1 : 0 < n) (hm : ∀ r, r < n → (l.getD r []).length = m) (hs : w.Since w.heap.size w1) (hf : FreeTop w1 a n) :
    ∃ b A G C, a = some ⟨b, 0, none⟩ ∧ SW w w1 b n m A G C (fun r c => at2 l r c) w1.heap.size := by
  obtain ⟨b, A, G, C, e, hb, hW⟩ := h.wr hn h1 hm hs (fun _ _ => 0)
  exact ⟨b, A, G, C, e, hs, Nat.le_refl _, hW.own.congr fun r _ c _ => by unfold updF; rw [if_neg (by omega)], fun r hr => hf b r e hr, hb⟩

theorem SW.ownT {w1 w' : World} {b n m : Nat} {A : Nat → Option Addr} {G C : Nat → Nat} {Z : Nat → Nat → Int} {hi : Nat} {l : List (List Int)} (h : SW w1 w' b n m A G C Z hi) (hn : l.length = n) (hm : ∀ r, r < n → (l.getD r []).length = m) (hZ : ∀ r c, r < n → c < m → at2 l r c = Z r c) : OwnT w1.heap.size w'.heap.size w' (some ⟨b, 0, none⟩) l :=
  (h.own.ownT h.inb hn hm fun r hr c hc => hZ r c hr hc).mono (Nat.le_refl _) h.size

theorem own_row (W : World) : (W.alloc (.cells #[] 3)).ownsRow W.heap.size 3 1 (.slice (some ⟨W.heap.size, 0, none⟩) 0 0) 0 [] := World.ownsRow_made W #[] 0 (Nat.le_refl _) (Nat.zero_le _) rfl
theorem row_cells {w W : World} {b' o' m : Nat} {x : List Int} (hx : x.length = m) (hs : w.Since w.heap.size W) (hce : ∀ j, j < m → w.cell? ⟨b', o' + j, none⟩ = some (.int .i64 (x.getD j 0))) (o : Obj) : ∀ (j : Nat) (u : Value), (x.map (Value.int .i64))[j]? = some u → (W.alloc o).cell? ((⟨b', o', none⟩ : Addr).add j) = some u := fun j u hj => by
  rw [Go.WideShapes.add_plain]
  obtain ⟨hjl, he⟩ := List.getElem?_eq_some_iff.1 hj
  have hjx : j < m := by rw [← hx]; simpa using hjl
  have h2 := hce j hjx
  refine cell_alloc_l _ ?_
  rw [hs.cell (a := ⟨b', o' + j, none⟩) (World.block_lt_of_cell? _ _ h2), h2, ← he]
  simp [List.getD, show j < x.length by omega]

end Go.Proofs.Ytpimdgijjljejaa
end

section
namespace Go.Proofs.Ytpimdgijjljejaa
open Go.RowKit Go.Deep

theorem swap_back {l : List (List Int)} {i k : Int} (h : swapOk l i k = true) : swapOk (swapL l i.toNat k.toNat) i k = true ∧ swapL (swapL l i.toNat k.toNat) i.toNat k.toNat = l := by
  have hT := swapOk_tab h
  unfold swapOk at h ⊢
  rw [Bool.and_eq_true, Bool.and_eq_true] at h
  refine ⟨by rw [tabIn_true hT, swapL_length, h.2.1, h.2.2]; rfl, ?_⟩
  obtain ⟨i, rfl, hi⟩ := rowB_of h.2.1
  obtain ⟨k, rfl, hk⟩ := rowB_of h.2.2
  rw [Int.toNat_natCast, Int.toNat_natCast]
  have e : swapL (swapL l i k) i k = (List.range l.length).map fun r => l.getD r [] := by
    show (List.range (swapL l i k).length).map (fun r => (swapL l i k).getD (sw i k r) []) = _
    rw [swapL_length]
    refine List.map_congr_left fun r hr => ?_
    rw [swapL_get l i k (sw_lt hi hk (List.mem_range.1 hr)), sw_sw]
  rw [e, range_getD]

theorem tabF_congr {n m : Nat} {f g : Nat → Nat → Int} (h : ∀ i k, i < n → k < m → f i k = g i k) : tabF n m f = tabF n m g := by
  unfold tabF
  exact List.map_congr_left fun r hr => List.map_congr_left fun k hk => h r k (List.mem_range.1 hr) (List.mem_range.1 hk)

theorem add_back {l : List (List Int)} {fr tq f : Int} (h : addOk l fr tq f = true) : addOk (addL l fr.toNat tq.toNat f) fr tq (-f) = true ∧ addL (addL l fr.toNat tq.toNat f) fr.toNat tq.toNat (-f) = l := by
  unfold addOk at h ⊢
  simp only [Bool.and_eq_true, Bool.not_eq_true'] at h
  obtain ⟨h1, h2, h3, h4, h5, h6⟩ := h
  have hT := tabIn_of h1
  obtain ⟨fr, rfl, hfr⟩ := rowB_of h2
  obtain ⟨tq, rfl, hto⟩ := rowB_of h3
  rw [Int.toNat_natCast, Int.toNat_natCast] at *
  have hne : fr ≠ tq := by rintro rfl; simp at h4
  have hw := hT.width
  have h0 := hT.1
  have e0 : ((addL l fr tq f).getD 0 []).length = (l.getD 0 []).length := tabF_len _ _ _ _ (by omega)
  have e : addL (addL l fr tq f) fr tq (-f) = l := by
    show tabF (addL l fr tq f).length ((addL l fr tq f).getD 0 []).length (addF (addL l fr tq f) fr tq (-f)) = l
    rw [addL_length, e0]
    refine Eq.trans (tabF_congr fun i k hi hk => ?_) (tab_self rfl (fun r hr => hT.row hr))
    have a1 : at2 (addL l fr tq f) i k = addF l fr tq f i k := tabF_at _ _ _ _ _ hi hk
    have a2 : at2 (addL l fr tq f) fr k = addF l fr tq f fr k := tabF_at _ _ _ _ _ hfr hk
    show (if i = tq then at2 (addL l fr tq f) i k + (-f) * at2 (addL l fr tq f) fr k else at2 (addL l fr tq f) i k) = at2 l i k
    rw [a1, a2]
    unfold addF
    by_cases hi : i = tq
    · rw [if_pos hi, if_pos hi, if_neg hne, Int.neg_mul]; omega
    · rw [if_neg hi, if_neg hi]
  refine ⟨?_, e⟩
  have h5' := of_decide_eq_true h5
  rw [h6, addL_length, h2, h3, h4, e, h1]
  have : inB (-f) (-30) 30 = true := by unfold inB at *; simp at *; omega
  rw [this]; rfl
theorem addOk_num {l : List (List Int)} {fr tq f : Int} (h : addOk l fr tq f = true) : -30 ≤ f ∧ f ≤ 30 := by
  unfold addOk at h
  simp only [Bool.and_eq_true] at h
  exact of_decide_eq_true h.2.2.2.2.1

end Go.Proofs.Ytpimdgijjljejaa
end

section
namespace Go.Proofs.Ytpimdgijjljejaa
open Go.RowKit Go.Deep

theorem tabF_tab {n m : Nat} {f : Nat → Nat → Int} (hn : 1 ≤ n ∧ n ≤ 6) (hm : 1 ≤ m ∧ m ≤ 6) (h : ∀ i k, i < n → k < m → -30 ≤ f i k ∧ f i k ≤ 30) : TabIn (tabF n m f) := by
  refine ⟨by rw [tabF_length]; exact hn.1, by rw [tabF_length]; exact hn.2, fun r hr => ?_⟩
  rw [tabF_length] at hr
  refine ⟨by rw [tabF_len _ _ _ _ hr, tabF_len _ _ _ _ (by omega)], by rw [tabF_len _ _ _ _ hr]; exact hm.1, by rw [tabF_len _ _ _ _ hr]; exact hm.2, fun k hk => ?_⟩
  rw [tabF_len _ _ _ _ hr] at hk
  rw [tabF_at _ _ _ _ _ hr hk]
  exact h r k hr hk
theorem tab_bd {n m : Nat} {f : Nat → Nat → Int} (hn : 1 ≤ n) (h : TabIn (tabF n m f)) : ∀ i k, i < n → k < m → -30 ≤ f i k ∧ f i k ≤ 30 := by
  intro i k hi hk
  have h1 := h.at (i := i) (k := k) (by rw [tabF_length]; exact hi) (by rw [tabF_len _ _ _ _ (by omega)]; exact hk)
  have h2 : at2 (tabF n m f) i k = f i k := tabF_at _ _ _ _ _ hi hk
  rw [h2] at h1
  exact h1
theorem TabIn.sides {l : List (List Int)} (h : TabIn l) : (1 ≤ l.length ∧ l.length ≤ 6) ∧ (1 ≤ (l.getD 0 []).length ∧ (l.getD 0 []).length ≤ 6) := ⟨⟨h.1, h.2.1⟩, h.width⟩
theorem timesL_at {l : List (List Int)} {z : Int} {i k : Nat} (hi : i < l.length) (hk : k < (l.getD 0 []).length) : at2 (timesL l z) i k = at2 l i k * z := tabF_at _ _ _ _ _ hi hk
theorem timesL_width {l : List (List Int)} (z : Int) (h : 1 ≤ l.length) : ((timesL l z).getD 0 []).length = (l.getD 0 []).length := tabF_len _ _ _ _ (by omega)

theorem less_bd {x z : Int} (hz : 1 ≤ z) (h1 : -30 ≤ x * z) (h2 : x * z ≤ 30) : -30 ≤ x * (z - 1) ∧ x * (z - 1) ≤ 30 := by
  rw [Int.mul_sub, Int.mul_one]
  by_cases hx : 0 ≤ x
  · have := Int.mul_le_mul_of_nonneg_left hz hx
    rw [Int.mul_one] at this
    omega
  · have := Int.mul_le_mul_of_nonneg_left hz (show 0 ≤ -x by omega)
    rw [Int.mul_one, Int.neg_mul] at this
    omega

theorem timesOk_of {l : List (List Int)} {z : Int} (h : timesOk l z = true) : TabIn l ∧ (-30 ≤ z ∧ z ≤ 30) ∧ TabIn (timesL l z) := by
  unfold timesOk at h
  simp only [Bool.and_eq_true] at h
  exact ⟨tabIn_of h.1, of_decide_eq_true h.2.1, tabIn_of h.2.2⟩

theorem times_less {l : List (List Int)} {z : Int} (h : timesOk l z = true) (hz : 1 ≤ z) : timesOk l (z - 1) = true ∧ sumOk (timesL l (z - 1)) l = true ∧ sumL (timesL l (z - 1)) l = timesL l z := by
  obtain ⟨hT, hzb, hM⟩ := timesOk_of h
  have hs := hT.sides
  have hb := tab_bd hs.1.1 hM
  have hL : TabIn (timesL l (z - 1)) := tabF_tab hs.1 hs.2 fun i k hi hk => less_bd hz (hb i k hi hk).1 (hb i k hi hk).2
  have hin : inB (z - 1) (-30) 30 = true := by unfold inB; simp; omega
  have e : sumL (timesL l (z - 1)) l = timesL l z := by
    show tabF (timesL l (z - 1)).length ((timesL l (z - 1)).getD 0 []).length (fun i k => at2 (timesL l (z - 1)) i k + at2 l i k) = tabF l.length (l.getD 0 []).length fun i k => at2 l i k * z
    rw [timesL_length, timesL_width _ hs.1.1]
    refine tabF_congr fun i k hi hk => ?_
    rw [timesL_at hi hk, Int.mul_sub, Int.mul_one]
    omega
  refine ⟨?_, ?_, e⟩
  · unfold timesOk
    rw [tabIn_true hT, hin, tabIn_true hL]; rfl
  · unfold sumOk alikeB
    rw [e, tabIn_true hT, tabIn_true hL, tabIn_true hM, timesL_length, timesL_width _ hs.1.1]
    simp

end Go.Proofs.Ytpimdgijjljejaa
end

section
namespace Go.Proofs.Ytpimdgijjljejaa
open Go.RowKit Go.Deep

theorem turnL_at {l : List (List Int)} {i k : Nat} (hi : i < l.length) (hk : k < (l.getD 0 []).length) : at2 (turnL l) k i = at2 l i k := tabF_at _ _ _ _ _ hk hi
theorem turnL_width {l : List (List Int)} (h : TabIn l) : ((turnL l).getD 0 []).length = l.length := tabF_len _ _ _ _ (by have := h.width; omega)
theorem turnL_tab {l : List (List Int)} (h : TabIn l) : TabIn (turnL l) := tabIn_of (tabIn_turn h)

theorem sumOk_of {l u : List (List Int)} (h : sumOk l u = true) : TabIn l ∧ TabIn u ∧ l.length = u.length ∧ (l.getD 0 []).length = (u.getD 0 []).length ∧ TabIn (sumL l u) := by
  unfold sumOk alikeB at h
  simp only [Bool.and_eq_true, beq_iff_eq] at h
  exact ⟨tabIn_of h.1, tabIn_of h.2.1, h.2.2.1.1, h.2.2.1.2, tabIn_of h.2.2.2⟩
theorem sumOk_mk {l u : List (List Int)} (h1 : TabIn l) (h2 : TabIn u) (h3 : l.length = u.length) (h4 : (l.getD 0 []).length = (u.getD 0 []).length) (h5 : TabIn (sumL l u)) : sumOk l u = true := by
  unfold sumOk alikeB
  rw [tabIn_true h1, tabIn_true h2, tabIn_true h5, h3, h4]
  simp

theorem sum_comm {l u : List (List Int)} (h : sumOk l u = true) : sumOk u l = true ∧ sumL u l = sumL l u := by
  obtain ⟨h1, h2, h3, h4, h5⟩ := sumOk_of h
  have e : sumL u l = sumL l u := by
    unfold sumL
    rw [← h3, ← h4]
    exact tabF_congr fun i k _ _ => Int.add_comm _ _
  exact ⟨sumOk_mk h2 h1 h3.symm h4.symm (by rw [e]; exact h5), e⟩

theorem sumL_at {l u : List (List Int)} {i k : Nat} (hi : i < l.length) (hk : k < (l.getD 0 []).length) : at2 (sumL l u) i k = at2 l i k + at2 u i k := tabF_at _ _ _ _ _ hi hk
theorem sumL_width {l : List (List Int)} (u : List (List Int)) (h : 1 ≤ l.length) : ((sumL l u).getD 0 []).length = (l.getD 0 []).length := tabF_len _ _ _ _ (by omega)

theorem sum_turn {l u : List (List Int)} (h : sumOk l u = true) : sumOk (turnL l) (turnL u) = true ∧ sumL (turnL l) (turnL u) = turnL (sumL l u) := by
  obtain ⟨h1, h2, h3, h4, h5⟩ := sumOk_of h
  have e : sumL (turnL l) (turnL u) = turnL (sumL l u) := by
    show tabF (turnL l).length ((turnL l).getD 0 []).length (fun i k => at2 (turnL l) i k + at2 (turnL u) i k) = tabF ((sumL l u).getD 0 []).length (sumL l u).length fun k i => at2 (sumL l u) i k
    rw [turnL_length, turnL_width h1, sumL_width u h1.1, sumL_length]
    refine tabF_congr fun k i hk hi => ?_
    rw [turnL_at hi hk, turnL_at (l := u) (by omega) (by omega), sumL_at hi hk]
  exact ⟨sumOk_mk (turnL_tab h1) (turnL_tab h2) (by rw [turnL_length, turnL_length, h4]) (by rw [turnL_width h1, turnL_width h2, h3]) (by rw [e]; exact turnL_tab h5), e⟩

end Go.Proofs.Ytpimdgijjljejaa
end

section
namespace Go.Proofs.Ytpimdgijjljejaa
open Go.RowKit Go.Deep

theorem neg_tab {l : List (List Int)} (hT : TabIn l) : TabIn (timesL l (-1)) := by
  refine tabIn_tabF hT.1 hT.2.1 hT.width.1 hT.width.2 (fun i k hi hk => ?_)
  have := hT.at hi hk
  omega
theorem about_same {l : List (List Int)} {n : Nat} (hT : TabIn l) (hn : l.length = n) (hw : (l.getD 0 []).length = n) : (decide (l = timesL (turnL l) (-1))) = decide (AboutP l n) := by
  have hat : ∀ i k, i < n → k < n → at2 (timesL (turnL l) (-1)) i k = -at2 l k i := fun i k hi hk => by
    rw [timesL_at (by rw [turnL_length]; omega) (by rw [turnL_width hT]; omega), turnL_at (by omega) (by omega)]
    omega
  by_cases h : AboutP l n
  · rw [decide_eq_true h]
    refine decide_eq_true ?_
    have hTt := tabIn_of (tabIn_turn hT)
    have hlt : (turnL l).length = n := (turnL_length l).trans hw
    have hN := neg_tab hTt
    have hlN : (timesL (turnL l) (-1)).length = n := (timesL_length _ _).trans hlt
    have hwN : ((timesL (turnL l) (-1)).getD 0 []).length = n := by rw [timesL_width _ (by have := hT.1; omega), turnL_width hT]; exact hn
    refine same_ext (n := n) (m := n) hn hlN (fun r hr => by rw [hT.row (by omega), hw]) (fun r hr => by rw [hN.row (by omega), hwN]) fun i k hi hk => ?_
    rw [hat i k hi hk]
    by_cases e : k ≤ i
    · have := h i hi k (by omega); omega
    · have := h k hk i (by omega); omega
  · rw [decide_eq_false h]
    refine decide_eq_false fun e => h fun i hi k hk => ?_
    have this : at2 l i k = at2 (timesL (turnL l) (-1)) i k := congrArg (fun m => at2 m i k) e
    rw [hat i k hi (by omega)] at this
    omega

set_option maxRecDepth 100000 in
set_option maxHeartbeats 1000000 in
theorem turnedAbout_any (a : Option Addr) (cap n : Nat) (l : List (List Int)) (w : World) (hn : l.length = n) (hsz : szL l ≤ 1048576) (hm : MatR w a l) :
    Calls Try.prog 31 #[.slice a n cap] w fun e w' => e = .returned (.bool (pairB l)) ∧ w.Since w.heap.size w' := by
  have E := isSquare_any a cap n l w hn hsz hm
  cases hs : sqB l with
  | false =>
    have hok : pairB l = false := by unfold pairB; rw [hs]; rfl
    rw [hs] at E
    rw [hok]
    replace E := Lib.hid E
    clear hs hm hn hsz hok
    go_enter Try.func31, Try.ntmps31
    go_wp2_with (first
      | (go_at_call 56; refine (E.out).mono ?_; rintro e w1 ⟨rfl, hd⟩; have HD := Lib.hid hd; clear hd))
    go_ret
    exact ⟨rfl, HD.out⟩
  | true =>
    obtain ⟨hT, hw⟩ := sqB_of hs
    rw [hn] at hw
    have hok : pairB l = decide (l = timesL (turnL l) (-1)) := by rw [about_same hT hn hw.symm]; unfold pairB; rw [hs, hn]; rfl
    rw [hs] at E
    rw [hok]
    have hTt := tabIn_of (tabIn_turn hT)
    have hlt : (turnL l).length = n := (turnL_length l).trans hw.symm
    have ET := fun (W : World) (hd : w.Since w.heap.size W) => turned_any a cap n l W hn hT (hm.since hd)
    simp only [← hw] at ET
    have EM := fun (b : Option Addr) (W : World) (hd : MatR W b (turnL l)) => times_any b n n (turnL l) (-1) W hlt hTt hd (by omega) (by omega)
    have ES := fun (b : Option Addr) (W : World) (hd : w.Since w.heap.size W) (hb : MatR W b (timesL (turnL l) (-1))) => same_any a b cap n n n l (timesL (turnL l) (-1)) W hn ((timesL_length _ _).trans hlt) (hm.since hd) hb hT (neg_tab hTt)
    obtain ⟨r, hr⟩ : ∃ r, decide (l = timesL (turnL l) (-1)) = r := ⟨_, rfl⟩
    simp only [hr] at ES
    rw [hr]
    replace E := Lib.hid E
    replace ET := Lib.hid ET
    replace EM := Lib.hid EM
    replace ES := Lib.hid ES
    clear hs hm hn hsz hok hT hw hTt hlt hr
    go_enter Try.func31, Try.ntmps31
    go_wp2_with (first
      | (go_at_call 56; refine (E.out).mono ?_; rintro e w1 ⟨rfl, hd⟩; have HD := Lib.hid hd; clear hd)
      | (go_at_call 47; refine (ET.out w1 HD.out).mono ?_; rintro e w2 ⟨rfl, hs2, ho2⟩; have HS2 := Lib.hid (HD.out.trans (since_mono hs2 HD.out.size)); have HO2 := Lib.hid ho2.matR; clear hs2 ho2)
      | (go_at_call 58; refine (EM.out _ w2 HO2.out).mono ?_; rintro e w3 ⟨rfl, hs3, ho3⟩; have HS3 := Lib.hid (HS2.out.trans (since_mono hs3 HS2.out.size)); have HO3 := Lib.hid ho3.matR; clear hs3 ho3)
      | (go_at_call 57; refine (ES.out _ w3 HS3.out HO3.out).mono ?_; rintro e w4 ⟨rfl, hs4⟩; have HS4 := Lib.hid (HS3.out.trans (since_mono hs4 HS3.out.size)); clear hs4))
    go_ret
    exact ⟨rfl, HS4.out⟩

theorem implPairIn_any (a : Option Addr) (cap n : Nat) (l : List (List Int)) (w : World) (hn : l.length = n) (hsz : szL l ≤ 1048576) (hm : MatR w a l) :
    Calls Try.prog 10 #[.slice a n cap] w fun e w' => e = .returned (.bool (pairB l)) ∧ w.Since w.heap.size w' := by
  have E := Lib.hid (turnedAbout_any a cap n l w hn hsz hm)
  clear hm hn hsz
  go_enter Try.func10, Try.ntmps10
  go_wp2_with fail
  refine (E.out).mono ?_
  rintro e w1 ⟨rfl, hd⟩
  have HD := Lib.hid hd
  clear hd
  go_wp2
  go_ret
  exact ⟨rfl, HD.out⟩

end Go.Proofs.Ytpimdgijjljejaa
end

section
namespace Go.Proofs.Ytpimdgijjljejaa
open Go.RowKit Go.Deep

theorem pair_turn {l : List (List Int)} {n : Nat} (h : pairB l = true) (hn : l.length = n) : pairB (turnL l) = true := by
  obtain ⟨hT, hw, hab⟩ := pairB_of h hn
  obtain ⟨_, _, ht1, ht2, _, _⟩ := value_turn (pairB_sq h) hn
  unfold pairB
  rw [ht1, ht2, Bool.true_and]
  refine decide_eq_true fun i hi k hk => ?_
  rw [turnL_at (by omega) (by omega), turnL_at (by omega) (by omega)]
  have := hab i hi k hk
  omega

set_option maxRecDepth 100000 in
set_option maxHeartbeats 4000000 in
theorem fnPair (a : Option Addr) (cap n : Nat) (w : World) (hc : n ≤ cap) (h63 : cap ≤ 9223372036854775807) (hb : BytR w a n) :
    Calls Try.prog 3 #[.slice a n cap] w fun e w' => e = .returned (.bool true) ∧ w.Since w.heap.size w' := by
  by_cases hlen : 1048576 < n
  · have hl' : decide ((1048576 : Int) < (n : Int)) = true := by simp; omega
    clear hb
    go_enter Try.func3, Try.ntmps3
    go_wp2
    go_ret
    exact ⟨rfl, World.Since.refl _ _⟩
  · have hl' : decide ((1048576 : Int) < (n : Int)) = false := by simp; omega
    have ED := Lib.hid (drawPairIn_any a n cap w hc h63 hb)
    clear hb
    go_enter Try.func3, Try.ntmps3
    go_wp2_with fail
    refine (ED.out).mono ?_
    rintro e w1 ⟨a1, c1, l, rfl, hs1, h1, h5, hlens, hit⟩
    have hsz : szL l ≤ 1048576 := szL_of h5 (fun j hj => (hlens j hj).2) (by decide)
    obtain ⟨nn, hn⟩ : ∃ nn, l.length = nn := ⟨_, rfl⟩
    rw [hn]
    have HN := Lib.hid hn
    have HSZ := Lib.hid hsz
    have HM := Lib.hid (fun (W : World) (h : w1.Since w1.heap.size W) => hit.matR.since h)
    have HS1 := Lib.hid hs1
    obtain ⟨ok, hok⟩ : ∃ ok, pairB l = ok := ⟨_, rfl⟩
    have E1 := implPairIn_any a1 c1 nn l w1 hn hsz hit.matR
    have E2 := fun (W : World) (h : w1.Since w1.heap.size W) => specPairIn_any a1 c1 nn l W hn hsz (hit.matR.since h)
    rw [hok] at E1
    simp only [hok] at E2
    replace E1 := Lib.hid E1
    replace E2 := Lib.hid E2
    have HOK := Lib.hid hok
    clear hn hsz hit hs1 h1 h5 hlens hok
    go_wp2_with fail
    refine (E1.out).mono ?_
    rintro e w2 ⟨rfl, hs2⟩
    have HS2 := Lib.hid hs2
    clear hs2
    go_wp2_with fail
    refine (E2.out w2 HS2.out).mono ?_
    rintro e w3 ⟨rfl, hd3⟩
    have HS3 := Lib.hid (HS2.out.trans (since_mono (hd3.since _) HS2.out.size))
    clear hd3
    cases ok with
    | false =>
      go_wp2
      go_ret
      exact ⟨rfl, HS1.out.trans (since_mono HS3.out HS1.out.size)⟩
    | true =>
      obtain ⟨hT, hw, hab⟩ := pairB_of HOK.out HN.out
      obtain ⟨_, _, ht1, ht2, ht3, _⟩ := value_turn (pairB_sq HOK.out) HN.out
      have hev := rank_even hT HN.out hw (aboutP_skew hab)
      have hpt := pair_turn HOK.out HN.out
      have E4 := fun (W : World) (h : w1.Since w1.heap.size W) => implValueRank_any a1 c1 nn l W HN.out HSZ.out (HM.out W h)
      unfold SpecW at E4
      simp only [tabIn_true hT, if_true, hw] at E4
      obtain ⟨r, hr⟩ : ∃ r, rkR l (2 ^ nn) (2 ^ nn) = r := ⟨_, rfl⟩
      simp only [hr] at E4
      rw [hr] at hev
      have E5 := fun (W : World) (h : w1.Since w1.heap.size W) => across_any a1 c1 nn l W HN.out hT (HM.out W h)
      simp only [hw] at E5
      have E6 := fun (a' : Option Addr) (c' : Nat) (W : World) (h : MatR W a' (turnL l)) => implPairIn_any a' c' nn (turnL l) W ht2 ht3 h
      simp only [hpt] at E6
      replace E4 := Lib.hid E4
      replace E5 := Lib.hid E5
      replace E6 := Lib.hid E6
      have hmod : ((r : Nat) : Int) % 2 = 0 := by omega
      have htm : (Int.tmod ((r : Nat) : Int) 2 == 0) = true := by
        have : Int.tmod ((r : Nat) : Int) 2 = 0 := Int.tmod_eq_zero_of_dvd (Int.dvd_of_emod_eq_zero hmod)
        rw [this]; rfl
      clear hT hw hab ht1 ht2 ht3 hev hpt hr
      go_wp2_with fail
      refine (E4.out w3 HS3.out).mono ?_
      rintro e w4 ⟨rfl, hs4⟩
      have HS4 := Lib.hid (HS3.out.trans (since_mono hs4 HS3.out.size))
      clear hs4
      go_wp2_with fail
      refine (E5.out w4 HS4.out).mono ?_
      rintro e w5 ⟨a5, c5, rfl, hs5, ho5⟩
      have HS5 := Lib.hid (HS4.out.trans (since_mono hs5 HS4.out.size))
      have HX5 := Lib.hid ho5.matR
      clear hs5 ho5
      go_wp2_with fail
      refine (E6.out a5 c5 w5 HX5.out).mono ?_
      rintro e w6 ⟨rfl, hs6⟩
      have HS6 := Lib.hid (HS5.out.trans (since_mono hs6 HS5.out.size))
      clear hs6
      go_wp2
      go_ret
      exact ⟨rfl, HS1.out.trans (since_mono HS6.out HS1.out.size)⟩

end Go.Proofs.Ytpimdgijjljejaa
end

section
namespace Go.Proofs.Ytpimdgijjljejaa
open Go.ChangeShapes Go.WideShapes Go.ChangeAt Go.RowKit Go.Deep

theorem below_since' {B : Nat} {w w' : World} (h : Below B w w') : w.Since B w' := ⟨h.os, h.tape, h.output, h.size, h.block⟩
theorem since_below' {B : Nat} {w w' : World} (h : w.Since B w') : Below B w w' := ⟨h.os, h.tape, h.output, h.size, h.block⟩

section
variable {H : Type} {enc : TypeId × Value → H} {P : Program}
theorem post_of_below {f : Func} {s : ChangeSpec} {apart fresh handsOn again : Bool} {W W' : World} {args : Array Value} {v : Value} {ds gs : List (DataW H)} {before pa pv : List MemPlace}
    (hW : DataW.Whole enc P f.params.toList s.vars apart W args.toList ds gs before)
    (hres : ∀ (b : Nat) (sp : Nat → Bool) (hd : Bool), DataW.TrodAll enc P W' b sp hd f.resultTypes.toList (v.resultList f.resultTypes.size) (s.fn H (ds ++ gs)).results [])
    (hargs : ∀ sp : Nat → Bool, (∀ p ∈ before, sp p.block = true) → DataW.TrodAll enc P W' 0 sp true f.params.toList args.toList (s.fn H (ds ++ gs)).args pa)
    (hvars : ∀ sp : Nat → Bool, (∀ p ∈ before, sp p.block = true) → DataW.TrodVars enc P W' sp s.vars (s.fn H (ds ++ gs)).vars pv)
    (hps : before = pa ++ pv) (hb : Below W.heap.size W W') (hag : again = false) :
    s.post enc P f apart fresh handsOn again W args v W' := by
  have hlt : ∀ p ∈ before, p.block < W.heap.size := fun p hp => hW.lt p hp
  have hold : ∀ p ∈ before, (fun b => decide (b < W.heap.size)) p.block = true := fun p hp => by simpa using hlt p hp
  refine ⟨ds, gs, before, [], pa, pv, hW, hres _ _ _, hargs _ hold, hvars _ hold, World.keptBut_mono (fun p hp => ⟨hp, ?_⟩) (hb.frame (· ∈ before)), fun h => ?_⟩
  · rw [hps, List.mem_append] at hp
    exact Or.inr hp
  · rw [hag] at h; cases h

theorem open_mat {W : World} {t e q : TypeId} {a : Option Addr} {n cap : Nat} {d : DataW H} {p : List MemPlace} (ht : P.underlying t = some (.slice e)) (he : P.underlying e = some (.slice q)) (hq : P.underlying q = some (.int .i64))
    (ce : P.cellsOf e = 1) (cq : P.cellsOf q = 1) (h : DataW.Trod enc P W 0 (fun _ => true) true t (.slice a n cap) d p) :
    ∃ l : List (List Int), l.length = n ∧ MatR W a l ∧ n ≤ 9223372036854775807 ∧ ∀ r, r < l.length → (l.getD r []).length ≤ 9223372036854775807 := by
  obtain ⟨fuel, hf⟩ := h
  rcases open_int_rows ht he hq ce cq hf with ⟨hcs, _⟩ | ⟨a', len', cap', A, L, C, Z, hcs, _, hl, hm, _, hrows⟩
  · simp [Value.cells] at hcs
    obtain ⟨rfl, rfl, rfl⟩ := hcs
    exact ⟨[], rfl, (fun h => by simp at h), by omega, fun r hr => by simp at hr⟩
  · simp [Value.cells] at hcs
    obtain ⟨rfl, rfl, rfl⟩ := hcs
    have hmx : maxLen = 9223372036854775807 := rfl
    have hlen : ∀ r, r < n → ((Z r).take (L r)).length = L r := fun r hr => by
      obtain ⟨_, h1, _, h2, _⟩ := hrows r (by omega)
      rw [List.length_take]; omega
    have hget : ∀ r, r < n → ((List.range n).map fun r => (Z r).take (L r)).getD r [] = (Z r).take (L r) := fun r hr => by simp [List.getD, hr]
    refine ⟨(List.range n).map fun r => (Z r).take (L r), by simp, fun h => ?_, by omega, fun r hr => ?_⟩
    · obtain ⟨b, o, spot⟩ := a'
      simp at h
      have hspot : spot = none := by simpa [Addr.add] using World.cell?_spot (hrows 0 (by omega)).1
      subst hspot
      refine ⟨b, o, A, C, rfl, fun r hr => ?_⟩
      simp at hr
      rw [hget r hr, hlen r hr]
      obtain ⟨g1, g2, g3, g4, g5, g6, g7⟩ := hrows r (by omega)
      refine ⟨by rw [← add_plain]; exact g1, fun h0 => ?_⟩
      rw [hlen r hr] at h0
      cases hA : A r with
      | none => have := g6 hA; omega
      | some a'' =>
        obtain ⟨_, hcell⟩ := g7 a'' hA
        obtain ⟨b', o', sp⟩ := a''
        have hs : sp = none := by simpa [Addr.add] using World.cell?_spot (hcell 0 (by omega))
        subst hs
        refine ⟨b', o', rfl, fun i hi => ?_⟩
        rw [hlen r hr] at hi
        rw [← add_plain, hcell i (by omega)]
        congr 2
        simp [List.getD, hi]
    · simp at hr
      rw [hget r hr, hlen r hr]
      obtain ⟨_, h1, h2, _⟩ := hrows r (by omega)
      omega
end

theorem Try.own : ownKnob Try.prog.godebug = none := by kernel_rfl
theorem Try.laidOut : laidOutB Try.prog = true := by kernel_rfl
theorem Try.cellsR : Try.prog.cellsOf 43 = 1 := by kernel_rfl
theorem Try.cellsI : Try.prog.cellsOf 3 = 1 := by kernel_rfl

end Go.Proofs.Ytpimdgijjljejaa
end

section
namespace Go.Proofs.Ytpimdgijjljejaa
open Go.ChangeShapes Go.WideShapes Go.ChangeAt Go.RowKit Go.Deep

theorem wf_u8_of {n : Int} (h : (Lit.int .u8 n).wf = true) : 0 ≤ n ∧ n ≤ 255 := by
  have h2 : (0 : Int) ≤ n ∧ n ≤ 255 := by simpa [Lit.wf, IntKind.min, IntKind.max, IntKind.signed, IntKind.bits] using h
  exact h2

theorem open_bytes {H : Type} {enc : TypeId × Value → H} {P : Program} {W : World} {t e : TypeId} {a : Option Addr} {n cap : Nat} {d : DataW H} {p : List MemPlace} (ht : P.underlying t = some (.slice e)) (he : P.underlying e = some (.int .u8)) (ce : P.cellsOf e = 1)
    (h : DataW.Trod enc P W 0 (fun _ => true) true t (.slice a n cap) d p) : BytR W a n ∧ n ≤ cap ∧ cap ≤ 9223372036854775807 := by
  obtain ⟨fuel, hf⟩ := h
  rcases open_ints ht he ce hf with ⟨hcs, _⟩ | ⟨a', len, cap', zs, hcs, _, hl, hm, hlen, _, hcell, hwf⟩
  · simp [Value.cells] at hcs
    obtain ⟨rfl, rfl, rfl⟩ := hcs
    exact ⟨fun h => absurd h (by omega), by omega, by omega⟩
  · simp [Value.cells] at hcs
    obtain ⟨rfl, rfl, rfl⟩ := hcs
    have hmx : maxLen = 9223372036854775807 := rfl
    have hzl : zs.length = cap := by simpa using hlen
    refine ⟨fun h0 => ?_, by omega, by omega⟩
    obtain ⟨b, o, spot⟩ := a'
    have hspot : spot = none := by simpa [Addr.add] using World.cell?_spot (hcell 0 (by omega))
    subst hspot
    refine ⟨b, o, rfl, fun i hi => ?_⟩
    have hi' : i < zs.length := by omega
    have hw := wf_u8_of (hwf (zs.getD i 0) (by simp [List.getD, hi']))
    obtain ⟨z, hz⟩ := Int.eq_ofNat_of_zero_le hw.1
    refine ⟨z, by omega, ?_⟩
    rw [← add_plain, hcell i hi', hz]

theorem Try.cellsB : Try.prog.cellsOf 5 = 1 := by kernel_rfl

end Go.Proofs.Ytpimdgijjljejaa
end
