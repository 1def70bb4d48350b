import Derived.Test.YtbclpbgomkfabaaTurnSpec
import Derived.Deep.QuietTactic
import Derived.Deep.AppendLies
import Derived.Deep.RegionHeld3
import Derived.Test.YtbclpbgomkfabaaHarn2
import Derived.Test.YtbclpbgomkfabaaPartsL
import Derived.Test.YtbclpbgomkfabaaRankV
import Derived.Test.YtbclpbgomkfabaaSetsE
import Derived.Test.YtbclpbgomkfabaaSeqD
import Derived.Laws.EntriesVeiled
import Derived.WalkHide
import Derived.LoopNIn
import Derived.Test.YtbclpbgomkfabaaRound
import Derived.OrdersHeld
import Derived.Test.YtbclpbgomkfabaaTabInImpl
import Derived.Test.YtbclpbgomkfabaaRows
import Derived.Test.YtbclpbgomkfabaaData
import Derived.ProofKit
import Derived.Deep.Matrix

section
namespace Go.Proofs.Ytbclpbgomkfabaa
open Go.RowKit Go.Deep

theorem World.grownBy_refl (w : World) (row : Option Nat) : w.grownBy w row := ⟨rfl, rfl, rfl, Nat.le_refl _, fun _ _ _ => rfl⟩
theorem grown_trans {a b c : World} {row : Option Nat} (h : a.grownBy b row) (k : b.grownBy c row) : a.grownBy c row :=
  ⟨k.os.trans h.os, k.tape.trans h.tape, k.output.trans h.output, Nat.le_trans h.size k.size, fun i hi hn => (k.block i (Nat.lt_of_lt_of_le hi h.size) hn).trans (h.block i hi hn)⟩
theorem grown_since {a b : World} (row : Option Nat) (h : a.Since a.heap.size b) : a.grownBy b row := ⟨h.os, h.tape, h.output, h.size, fun i hi _ => h.block i hi⟩
theorem grown_of {a b : World} {row row' : Option Nat} (h : a.grownBy b row) (hr : ∀ k, row = some k → a.heap.size ≤ k ∨ some k = row') : a.grownBy b row' :=
  ⟨h.os, h.tape, h.output, h.size, fun i hi hn => h.block i hi (fun e => by
    rcases hr i e.symm with h1 | h1
    · omega
    · exact hn h1)⟩
theorem since_grown {a b : World} {G B : Nat} (h : a.grownBy b (some G)) (hG : B ≤ G) (hB : B ≤ a.heap.size) : a.Since B b :=
  ⟨h.os, h.tape, h.output, h.size, fun i hi => h.block i (by omega) (fun e => by injection e with e; omega)⟩

def BytR (w : World) (a : Option Addr) (n : Nat) : Prop :=
  0 < n → ∃ b o, a = some ⟨b, o, none⟩ ∧ ∀ i, i < n → ∃ z : Nat, z ≤ 255 ∧ w.cell? ⟨b, o + i, none⟩ = some (.int .u8 z)
theorem BytR.since {w w' : World} {a : Option Addr} {n : Nat} (h : BytR w a n) (hs : w.Since w.heap.size w') : BytR w' a n := by
  intro h0
  obtain ⟨b, o, e, hc⟩ := h h0
  refine ⟨b, o, e, fun i hi => ?_⟩
  obtain ⟨z, h1, h2⟩ := hc i hi
  exact ⟨z, h1, (hs.cell (a := ⟨b, o + i, none⟩) (World.block_lt_of_cell? _ _ h2)).trans h2⟩

structure RD (w0 w : World) (G : Nat) (a : Option Addr) (n c : Nat) (tr : TypeId) (p : Nat) : Prop where
  blk : w.heap[G]? = some (.cells #[.slice a n c, .int .i64 p] tr (0, 0))
  base : w0.heap.size ≤ G
  since : w0.Since w0.heap.size w
  bytes : BytR w0 a n
  small : n ≤ 2000
theorem RD.lt {w0 w : World} {G : Nat} {a : Option Addr} {n c : Nat} {tr : TypeId} {p : Nat} (h : RD w0 w G a n c tr p) : G < w.heap.size := (Array.getElem?_eq_some_iff.1 h.blk).1
theorem RD.cell0 {w0 w : World} {G : Nat} {a : Option Addr} {n c : Nat} {tr : TypeId} {p : Nat} (h : RD w0 w G a n c tr p) : w.cell? ⟨G, 0, none⟩ = some (.slice a n c) := by simp [World.cell?, h.blk]
theorem RD.cell1 {w0 w : World} {G : Nat} {a : Option Addr} {n c : Nat} {tr : TypeId} {p : Nat} (h : RD w0 w G a n c tr p) : w.cell? ⟨G, 1, none⟩ = some (.int .i64 p) := by simp [World.cell?, h.blk]
theorem RD.free1 {w0 w : World} {G : Nat} {a : Option Addr} {n c : Nat} {tr : TypeId} {p : Nat} (h : RD w0 w G a n c tr p) : w.frozen? ⟨G, 1, none⟩ = false := by simp [World.frozen?, h.blk]
theorem RD.set {w0 w : World} {G : Nat} {a : Option Addr} {n c : Nat} {tr : TypeId} {p : Nat} (h : RD w0 w G a n c tr p) (q : Nat) : RD w0 (w.setCell ⟨G, 1, none⟩ (.int .i64 q)) G a n c tr q :=
  ⟨by simp [World.setCell, Array.getElem?_modify, h.blk], h.base, h.since.setCell h.base _, h.bytes, h.small⟩
theorem RD.later {w0 w w' : World} {G : Nat} {a : Option Addr} {n c : Nat} {tr : TypeId} {p : Nat} (h : RD w0 w G a n c tr p) (hs : w.Since w.heap.size w') : RD w0 w' G a n c tr p :=
  ⟨(hs.block G h.lt).trans h.blk, h.base, h.since.trans (since_mono hs h.since.size), h.bytes, h.small⟩
theorem RD.grown {w0 w w' : World} {G : Nat} {a : Option Addr} {n c : Nat} {tr : TypeId} {p : Nat} {row : Option Nat} (h : RD w0 w G a n c tr p) (hg : w.grownBy w' row) (hr : ∀ k, row = some k → G < k) : RD w0 w' G a n c tr p :=
  ⟨(hg.block G h.lt (fun e => by have := hr G e.symm; omega)).trans h.blk, h.base, h.since.grown hg h.since.size (fun k e => by have := hr k e; have := h.base; omega), h.bytes, h.small⟩

def RW (B : Nat) (w : World) (v : Value) (x : List Int) : Prop := w.ownsRow B 3 1 v x.length (x.map (Value.int .i64))
theorem RW.kept {B : Nat} {w w' : World} {v : Value} {x : List Int} {G : Nat} (h : RW B w v x) (hg : w.grownBy w' (some G)) (hG : G < B) : RW B w' v x :=
  World.ownsRow.kept h hg (by
    cases hv : v.ownBlock with
    | none => exact .inl rfl
    | some k => exact .inr (fun e => by injection e with e; have := (World.ownsRow.lt h k hv).1; omega))
theorem RW.base {B B' : Nat} {w : World} {v : Value} {x : List Int} (h : RW B w v x) (hB : B' ≤ B) : RW B' w v x := by
  refine ⟨h.1, ?_⟩
  rcases h.2 with h1 | ⟨g, cap, cur, e, hb, hr⟩
  · exact .inl h1
  · exact .inr ⟨g, cap, cur, e, by omega, hr⟩
theorem RW.form {B : Nat} {w : World} {v : Value} {x : List Int} (h : RW B w v x) (h0 : 0 < x.length) : ∃ g cap, v = .slice (some ⟨g, 0, none⟩) x.length cap ∧ B ≤ g ∧ RowB w g x := RowB.of_owns h h0
theorem RW.set {B : Nat} {w : World} {g cap k : Nat} {x : List Int} (h : RW B w (.slice (some ⟨g, 0, none⟩) x.length cap) x) (_hk : k < x.length) (y : Int) : RW B (w.setCell ⟨g, k, none⟩ (.int .i64 y)) (.slice (some ⟨g, 0, none⟩) x.length cap) (x.set k y) := by
  rcases h.2 with ⟨e, _⟩ | ⟨g', cap', cur, e, hb, hg, hn, hm, hs, ht⟩
  · cases e
  · injection e with e1 e2 e3
    injection e1 with e1
    injection e1 with e1
    subst e1; subst e3
    refine ⟨by simp, .inr ⟨g, cap, cur.setIfInBounds k (.int .i64 y), by rw [List.length_set], hb, ?_, by rw [List.length_set]; exact hn, hm, by simpa using hs, ?_⟩⟩
    · simp [World.setCell, Array.getElem?_modify, hg]
    · rw [List.length_set, Nat.mul_one]
      rw [Nat.mul_one] at ht
      rw [List.map_set, ← ht]
      simp [List.take_set]

structure BD (B : Nat) (w : World) (v : Value) (l : List (List Int)) (A : Nat → Option Addr) (C : Nat → Nat) : Prop where
  own : w.ownsRow B 43 1 v l.length ((List.range l.length).map fun r => .slice (A r) (l.getD r []).length (C r))
  rows : ∀ r, r < l.length → 0 < (l.getD r []).length ∧ RW B w (.slice (A r) (l.getD r []).length (C r)) (l.getD r [])
  apart : ∀ r r', r < l.length → r' < l.length → A r = A r' → r = r'
theorem BD.start (w : World) (A : Nat → Option Addr) (C : Nat → Nat) {B : Nat} (hB : B ≤ w.heap.size) : BD B (w.alloc (.cells #[] 43)) (.slice (some ⟨w.heap.size, 0, none⟩) 0 0) [] A C :=
  ⟨World.ownsRow_made w #[] 0 hB (Nat.zero_le _) rfl, fun r hr => by simp at hr, fun r _ hr => by simp at hr⟩
theorem BD.kept {B : Nat} {w w' : World} {v : Value} {l : List (List Int)} {A : Nat → Option Addr} {C : Nat → Nat} {G : Nat} (h : BD B w v l A C) (hg : w.grownBy w' (some G)) (hG : G < B) : BD B w' v l A C :=
  ⟨World.ownsRow.kept h.own hg (by
      cases hv : v.ownBlock with
      | none => exact .inl rfl
      | some k => exact .inr (fun e => by injection e with e; have := (h.own.lt k hv).1; omega)),
    fun r hr => ⟨(h.rows r hr).1, (h.rows r hr).2.kept hg hG⟩, h.apart⟩
theorem BD.later {B : Nat} {w w' : World} {v : Value} {l : List (List Int)} {A : Nat → Option Addr} {C : Nat → Nat} (h : BD B w v l A C) (hs : w.Since w.heap.size w') : BD B w' v l A C := by
  have hg : w.grownBy w' none := grown_since none hs
  refine ⟨World.ownsRow.kept h.own hg ?_, fun r hr => ⟨(h.rows r hr).1, World.ownsRow.kept (h.rows r hr).2 hg ?_⟩, h.apart⟩
  · cases hv : v.ownBlock <;> simp
  · cases hv : (Value.slice (A r) (l.getD r []).length (C r)).ownBlock <;> simp
theorem BD.row {B : Nat} {w : World} {v : Value} {l : List (List Int)} {A : Nat → Option Addr} {C : Nat → Nat} (h : BD B w v l A C) {r : Nat} (hr : r < l.length) : ∃ g, A r = some ⟨g, 0, none⟩ ∧ B ≤ g ∧ RowB w g (l.getD r []) := by
  obtain ⟨g, cap, e, hb, hw⟩ := (h.rows r hr).2.form (h.rows r hr).1
  injection e with e _ _
  exact ⟨g, e, hb, hw⟩
theorem BD.top {B : Nat} {w : World} {v : Value} {l : List (List Int)} {A : Nat → Option Addr} {C : Nat → Nat} (h : BD B w v l A C) (h0 : 0 < l.length) : ∃ b cap cur, v = .slice (some ⟨b, 0, none⟩) l.length cap ∧ B ≤ b ∧ w.heap[b]? = some (.cells cur 43 (0, 0)) ∧ ∀ r, r < l.length → cur[r]? = some (.slice (A r) (l.getD r []).length (C r)) := by
  rcases h.own.2 with ⟨_, hn⟩ | ⟨g, cap, cur, e, hb, hg, hn, _, hs, ht⟩
  · omega
  · refine ⟨g, cap, cur, e, hb, hg, fun r hr => ?_⟩
    have h1 : (cur.toList.take (l.length * 1))[r]? = some (.slice (A r) (l.getD r []).length (C r)) := by rw [ht]; simp [hr]
    rw [List.getElem?_take] at h1
    have h2 : r < l.length ∧ cur[r]? = some (.slice (A r) (l.getD r []).length (C r)) := by simpa using h1
    exact h2.2
theorem BD.push {B : Nat} {w w1 : World} {v v' : Value} {l : List (List Int)} {A : Nat → Option Addr} {C : Nat → Nat} {x : List Int} {a : Option Addr} {cp : Nat} (h : BD B w v l A C) (h0 : 0 < x.length) (hx : RW B w (.slice a x.length cp) x)
    (hfresh : ∀ r, r < l.length → A r ≠ a)
    (hown : w1.ownsRow B 43 1 v' (l.length + 1) (((List.range l.length).map fun r => .slice (A r) (l.getD r []).length (C r)) ++ [.slice a x.length cp])) (hg : (w.alloc (.cells #[.slice a x.length cp] 43)).grownBy w1 v.ownBlock) :
    BD B w1 v' (l ++ [x]) (fun r => if r = l.length then a else A r) (fun r => if r = l.length then cp else C r) := by
  have hkeep : ∀ (u : Value) (y : List Int), 0 < y.length → RW B w u y → RW B w1 u y := by
    intro u y hy hu
    refine World.ownsRow.kept (World.ownsRow.alloc hu _) hg ?_
    obtain ⟨g, cap, e, _, cs, hc, _⟩ := hu.form hy
    subst e
    refine .inr fun e => ?_
    rcases h.own.2 with ⟨rfl, _⟩ | ⟨g', cap', cur, rfl, _, hgg, _⟩
    · cases e
    · injection e with e
      have e : g = g' := e
      rw [← e, hc] at hgg
      injection hgg with hgg
      injection hgg with _ e2 _
      exact absurd e2 (by decide)
  have e4 : ∀ q, q < l.length → (l ++ [x]).getD q [] = l.getD q [] := fun q hq => by simp [List.getD, List.getElem?_append_left hq]
  have e5 : (l ++ [x]).getD l.length [] = x := by simp [List.getD]
  have e6 : (l ++ [x]).length = l.length + 1 := by simp
  refine ⟨?_, fun r hr => ?_, fun r r' hr hr' e => ?_⟩
  · rw [e6, List.range_succ, List.map_append]
    have e2 : (List.range l.length).map (fun r => Value.slice (if r = l.length then a else A r) ((l ++ [x]).getD r []).length (if r = l.length then cp else C r)) = (List.range l.length).map fun r => .slice (A r) (l.getD r []).length (C r) := by
      refine List.map_congr_left fun r hr => ?_
      have hr' := List.mem_range.1 hr
      rw [if_neg (by omega), if_neg (by omega), e4 r hr']
    rw [e2]
    simpa [e5] using hown
  · by_cases e : r = l.length
    · subst e
      rw [e5, if_pos rfl, if_pos rfl]
      exact ⟨h0, hkeep _ _ h0 hx⟩
    · rw [e6] at hr
      rw [e4 r (by omega), if_neg e, if_neg e]
      exact ⟨(h.rows r (by omega)).1, hkeep _ _ (h.rows r (by omega)).1 (h.rows r (by omega)).2⟩
  · rw [e6] at hr hr'
    by_cases e1 : r = l.length <;> by_cases e2 : r' = l.length
    · omega
    · rw [if_pos e1, if_neg e2] at e
      exact absurd e.symm (hfresh r' (by omega))
    · rw [if_neg e1, if_pos e2] at e
      exact absurd e (hfresh r (by omega))
    · rw [if_neg e1, if_neg e2] at e
      exact h.apart r r' (by omega) (by omega) e
theorem BD.fresh {B : Nat} {w : World} {v : Value} {l : List (List Int)} {A : Nat → Option Addr} {C : Nat → Nat} (h : BD B w v l A C) {a : Option Addr} {g : Nat} (ha : a = some ⟨g, 0, none⟩) (hg : w.heap.size ≤ g) : ∀ r, r < l.length → A r ≠ a := by
  intro r hr e
  obtain ⟨g', e', _, hw⟩ := h.row hr
  have := hw.lt
  rw [e', ha] at e
  injection e with e; injection e with e
  omega
theorem BD.matR {B : Nat} {w : World} {v : Value} {l : List (List Int)} {A : Nat → Option Addr} {C : Nat → Nat} (h : BD B w v l A C) : ∃ a cap, v = .slice a l.length cap ∧ MatR w a l := by
  by_cases h0 : 0 < l.length
  · obtain ⟨b, cap, cur, e, _, hg, hc⟩ := h.top h0
    refine ⟨_, cap, e, fun _ => ⟨b, 0, A, C, rfl, fun r hr => ⟨?_, fun h1 => ?_⟩⟩⟩
    · rw [Nat.zero_add]; simp [World.cell?, hg, hc r hr]
    · obtain ⟨g, e, _, hw⟩ := h.row hr
      exact ⟨g, 0, e, fun i hi => by rw [Nat.zero_add]; exact hw.cell hi⟩
  · rcases h.own.2 with ⟨hv, hn⟩ | ⟨g, cap, cur, e, _⟩
    · exact ⟨none, 0, by rw [hv, hn], fun h => absurd h h0⟩
    · exact ⟨_, cap, e, fun h => absurd h h0⟩

end Go.Proofs.Ytbclpbgomkfabaa
end

section
namespace Go.Proofs.Ytbclpbgomkfabaa
open Go.RowKit Go.Deep

theorem grown_drewN {a b : World} {row : Option Nat} (h : a.grownBy b row) (q : Nat) : a.grownBy (b.drewN q) row := ⟨h.os, h.tape, h.output, h.size, h.block⟩
theorem xor_i64_nat (a b : Nat) (ha : a < 2 ^ 62) (hb : b < 2 ^ 62) : bits .xor .i64 (a : Int) (b : Int) = ((a ^^^ b : Nat) : Int) := by
  have hx : a ^^^ b < 2 ^ 62 := Nat.xor_lt_two_pow ha hb
  have h1 : (BitVec.ofInt 64 (a : Int)).toNat = a := by
    rw [BitVec.ofInt_natCast, BitVec.toNat_ofNat]; exact Nat.mod_eq_of_lt (by omega)
  have h2 : (BitVec.ofInt 64 (b : Int)).toNat = b := by
    rw [BitVec.ofInt_natCast, BitVec.toNat_ofNat]; exact Nat.mod_eq_of_lt (by omega)
  show IntKind.i64.wrap ((BitVec.ofInt 64 (a : Int) ^^^ BitVec.ofInt 64 (b : Int)).toNat : Int) = _
  rw [BitVec.toNat_xor, h1, h2]
  exact IntWalk.i64_in _ ⟨by omega, by omega⟩

set_option maxRecDepth 100000 in
set_option maxHeartbeats 2000000 in
theorem pick_any (w0 w : World) (G n c p : Nat) (a : Option Addr) (m : Int) (h : RD w0 w G a n c 103 p) (hp : p ≤ 100000) :
    Calls Try.prog 57 #[.pointer (some ⟨G, 0, none⟩), .int .i64 m] w fun e w' => ∃ x : Nat, e = .returned (.int .i64 x) ∧ ((x : Int) < m ∨ x = 0) ∧ w.grownBy w' (some G) ∧ RD w0 w' G a n c 103 (p + 1) := by
  have e0 := h.cell0
  have e1 := h.cell1
  have e2 := h.free1
  have hs := h.set (p + 1)
  have hwp : IntKind.i64.wrap ((p : Int) + 1) = (p : Int) + 1 := IntWalk.i64_in _ ⟨by omega, by omega⟩
  have hc : ((p + 1 : Nat) : Int) = (p : Int) + 1 := by omega
  have hgr : w.grownBy (w.setCell ⟨G, 1, none⟩ (.int .i64 (p + 1 : Nat))) (some G) := ⟨rfl, rfl, rfl, by simp, fun k _ hk => Below.heap_setCell _ _ _ _ (fun e => hk (by rw [e]))⟩
  rw [hc] at hs hgr
  have s0 := hs.cell0
  have s1 := hs.cell1
  rw [hc] at s1
  have hsm := hs.small
  have hbb := hs.bytes.since hs.since
  have HS := Lib.hid hs
  have HG := Lib.hid hgr
  have HB := Lib.hid hbb
  clear hs hgr h hbb hc
  by_cases hm : m < 1
  · go_enter Try.func57, Try.ntmps57
    go_wp2
    go_wp2
    go_ret
    exact ⟨0, rfl, .inr rfl, HG.out, HS.out⟩
  · obtain ⟨M, rfl⟩ := Int.eq_ofNat_of_zero_le (show 0 ≤ m by omega)
    have hM1 : 1 ≤ M := by omega
    have hd : decide ((M : Int) < 1) = false := by simp; omega
    by_cases hn : n = 0
    · subst hn
      go_enter Try.func57, Try.ntmps57
      go_wp2
      go_wp2
      go_ret
      exact ⟨0, rfl, .inr rfl, HG.out, HS.out⟩
    · have hn1 : 1 ≤ n := by omega
      have hnb : ((n : Int) == 0) = false := by simp; omega
      obtain ⟨b, o, rfl, hb⟩ := HB.out (by omega)
      have hwm : IntKind.i64.wrap ((p : Int) + 1 - 1) = (p : Int) := by rw [show (p : Int) + 1 - 1 = p by omega]; exact IntWalk.i64_in _ ⟨by omega, by omega⟩
      by_cases hlt : p < n
      · obtain ⟨z, hz, hzc⟩ := hb p hlt
        have hl : decide ((p : Int) < n) = true := by simp; omega
        clear hb
        go_enter Try.func57, Try.ntmps57
        go_wp2
        go_ret
        exact ⟨z % M, rfl, .inl (by have := Nat.mod_lt z hM1; omega), HG.out, HS.out⟩
      · have hl : decide ((p : Int) < n) = false := by simp; omega
        obtain ⟨q1, hq1, hql1⟩ : ∃ q : Nat, (p : Int) % (n : Int) = q ∧ q < n := ⟨p % n, (Int.natCast_emod p n).symm, Nat.mod_lt _ (by omega)⟩
        obtain ⟨q2, hq2, hql2⟩ : ∃ q : Nat, ((p : Int) * 7 + 3) % (n : Int) = q ∧ q < n := ⟨(p * 7 + 3) % n, by rw [Int.natCast_emod]; simp, Nat.mod_lt _ (by omega)⟩
        obtain ⟨dd, hdd, hdl⟩ : ∃ q : Nat, (p : Int) / (n : Int) = q ∧ q ≤ p := ⟨p / n, (Int.natCast_ediv p n).symm, Nat.div_le_self _ _⟩
        obtain ⟨z1, hz1, hzc1⟩ := hb q1 hql1
        obtain ⟨z2, hz2, hzc2⟩ := hb q2 hql2
        clear hb
        have w1 : IntKind.i64.wrap ((p : Int) * 7) = (p : Int) * 7 := IntWalk.i64_in _ ⟨by omega, by omega⟩
        have w2 : IntKind.i64.wrap ((p : Int) * 7 + 3) = (p : Int) * 7 + 3 := IntWalk.i64_in _ ⟨by omega, by omega⟩
        have w3 : IntKind.i64.wrap ((z1 : Int) * 131) = (z1 : Int) * 131 := IntWalk.i64_in _ ⟨by omega, by omega⟩
        have w4 : IntKind.i64.wrap ((z2 : Int) * 1117) = (z2 : Int) * 1117 := IntWalk.i64_in _ ⟨by omega, by omega⟩
        have w5 : IntKind.i64.wrap ((z1 : Int) * 131 + (z2 : Int) * 1117) = (z1 : Int) * 131 + (z2 : Int) * 1117 := IntWalk.i64_in _ ⟨by omega, by omega⟩
        have w6 : IntKind.i64.wrap ((p : Int) * 29) = (p : Int) * 29 := IntWalk.i64_in _ ⟨by omega, by omega⟩
        have w7 : IntKind.i64.wrap ((z1 : Int) * 131 + (z2 : Int) * 1117 + (p : Int) * 29) = (z1 : Int) * 131 + (z2 : Int) * 1117 + (p : Int) * 29 := IntWalk.i64_in _ ⟨by omega, by omega⟩
        have w8 : IntKind.i64.wrap ((dd : Int) * 53) = (dd : Int) * 53 := IntWalk.i64_in _ ⟨by omega, by omega⟩
        have w9 : IntKind.i64.wrap ((z1 : Int) * 131 + (z2 : Int) * 1117 + (p : Int) * 29 + (dd : Int) * 53) = (z1 : Int) * 131 + (z2 : Int) * 1117 + (p : Int) * 29 + (dd : Int) * 53 := IntWalk.i64_in _ ⟨by omega, by omega⟩
        go_enter Try.func57, Try.ntmps57
        go_wp2
        go_quiet (fail)
        obtain ⟨X, hX⟩ : ∃ X : Nat, (z1 : Int) * 131 + (z2 : Int) * 1117 + (p : Int) * 29 + (dd : Int) * 53 = X := ⟨z1 * 131 + z2 * 1117 + p * 29 + dd * 53, by omega⟩
        have hx : bits .xor .i64 (X : Int) ((X : Int) / 64) = ((X ^^^ X / 64 : Nat) : Int) := by
          rw [show ((X : Int) / 64) = ((X / 64 : Nat) : Int) by omega]
          exact xor_i64_nat _ _ (by omega) (by omega)
        obtain ⟨y, hy⟩ : ∃ y : Nat, bits .xor .i64 (X : Int) ((X : Int) / 64) = y := ⟨_, hx⟩
        clear hx
        go_wp2
        go_ret
        exact ⟨y % M, rfl, .inl (by have := Nat.mod_lt y hM1; omega), grown_drewN HG.out nq, HS.out.later (since_drewN (World.Since.refl _ _) nq)⟩

end Go.Proofs.Ytbclpbgomkfabaa
end

section
namespace Go.Proofs.Ytbclpbgomkfabaa
open Go.RowKit Go.Deep

theorem grown_new {a b c : World} {G : Nat} {row : Option Nat} (h : a.grownBy b (some G)) (k : b.grownBy c row) (hr : ∀ i, row = some i → a.heap.size ≤ i) : a.grownBy c (some G) :=
  ⟨k.os.trans h.os, k.tape.trans h.tape, k.output.trans h.output, Nat.le_trans h.size k.size, fun i hi hn => (k.block i (Nat.lt_of_lt_of_le hi h.size) (fun e => by have := hr i e.symm; omega)).trans (h.block i hi hn)⟩
theorem grown_alloc {a b : World} {G : Nat} (h : a.grownBy b (some G)) (o : Obj) : a.grownBy (b.alloc o) (some G) := grown_new h (World.grownBy_alloc b o none) (fun i e => by cases e)
theorem grown_set {a b : World} {G : Nat} (h : a.grownBy b (some G)) {g k : Nat} (hg : a.heap.size ≤ g) (v : Value) : a.grownBy (b.setCell ⟨g, k, none⟩ v) (some G) :=
  grown_new h (row := some g) ⟨rfl, rfl, rfl, by simp, fun i _ hi => Below.heap_setCell _ _ _ _ (fun e => hi (by rw [e]))⟩ (fun i e => by cases e; exact hg)
theorem cell_grown {a b : World} {G : Nat} {p : Addr} {v : Value} (h : a.cell? p = some v) (hg : a.grownBy b (some G)) (hp : p.block ≠ G) : b.cell? p = some v := hg.cell h (fun e => hp (by injection e))
theorem cell_set_far {w : World} {g j : Nat} {v : Value} {p : Addr} {u : Value} (h : w.cell? p = some u) (hne : p.block ≠ g) : (w.setCell ⟨g, j, none⟩ v).cell? p = some u := by
  rw [World.cell?_setCell_other _ _ _ _ (fun e => hne (by rw [← e]))]; exact h

theorem wpList_append_int {P : Program} (w : World) {ops : Array Oper} {rest : List Oper} {o : Oper} {a : Act} {Q : Exit → Act → World → Prop} (hgd : o.guard = none) (s x : Operand) (t : TypeId)
    (ho : o.op = .call { callee := .builtin .append, args := #[s, x], argTypes := #[t, t] }) (B : Nat) (i : TypeInfo) (ht : P.underlying t = some (.slice 3)) (hi : P.info? 3 = some i) (hz : i.zero = some (.int .i64 0)) (hsz : i.size = 1) (hby : i.bytes = 8)
    (v : Value) (xs : List Int) (hs : a.eval s = v) (h : RW B w v xs) (y : Int) (hx : a.eval x = .slice (some ⟨w.heap.size, 0, none⟩) 1 1) (hlen : xs.length ≤ 1000) (hB : B ≤ w.heap.size)
    (hK : ∀ v' w', RW B w' v' (xs ++ [y]) → w.grownBy w' v.ownBlock → wpList P ops Q rest (a.put o.dst v') w') : wpList P ops Q (o :: rest) a (w.alloc (.cells #[.int .i64 y] 3)) := by
  refine wpList_append_own _ hgd s x t ho B 3 i (.int .i64 0) 1 8 ht hi hz hsz hby rfl (by decide) v xs.length (xs.map (Value.int .i64)) hs (World.ownsRow.alloc h _) ⟨w.heap.size, 0, none⟩ 1 1 [.int .i64 y] hx rfl (cell_one_at _ _ _ rfl) (fun u hu => by simp at hu; subst hu; rfl) (by unfold maxLen; omega) (by omega) (by simp; omega) ?_
  intro v' w' hown hg _
  refine hK v' w' ?_ ⟨hg.os, hg.tape, hg.output, by have := hg.size; simp at this; omega, fun j hj hn => (hg.block j (by simp; omega) hn).trans (Below.heap_alloc _ _ _ hj)⟩
  unfold RW
  rw [List.length_append, List.map_append]
  exact hown

theorem wpList_append_row {P : Program} (w : World) {ops : Array Oper} {rest : List Oper} {o : Oper} {a : Act} {Q : Exit → Act → World → Prop} (hgd : o.guard = none) (s x : Operand) (t : TypeId)
    (ho : o.op = .call { callee := .builtin .append, args := #[s, x], argTypes := #[t, t] }) (B B' : Nat) (i : TypeInfo) (ht : P.underlying t = some (.slice 43)) (hi : P.info? 43 = some i) (hz : i.zero = some (.slice none 0 0)) (hsz : i.size = 1) (hby : i.bytes = 24)
    (v : Value) (l : List (List Int)) (A : Nat → Option Addr) (C : Nat → Nat) (hs : a.eval s = v) (h : BD B w v l A C) (g cp m : Nat) (y : List Int) (hy : y.length = m) (h0 : 0 < m) (hr : RW B' w (.slice (some ⟨g, 0, none⟩) m cp) y) (hfresh : ∀ r, r < l.length → A r ≠ some ⟨g, 0, none⟩)
    (hBB : B ≤ B') (hx : a.eval x = .slice (some ⟨w.heap.size, 0, none⟩) 1 1) (hlen : l.length ≤ 1000) (hB : B ≤ w.heap.size)
    (hK : ∀ v' w' A' C', BD B w' v' (l ++ [y]) A' C' → w.grownBy w' v.ownBlock → wpList P ops Q rest (a.put o.dst v') w') : wpList P ops Q (o :: rest) a (w.alloc (.cells #[.slice (some ⟨g, 0, none⟩) m cp] 43)) := by
  subst hy
  refine wpList_append_own _ hgd s x t ho B 43 i (.slice none 0 0) 1 24 ht hi hz hsz hby rfl (by decide) v l.length _ hs (h.own.alloc _) ⟨w.heap.size, 0, none⟩ 1 1 [.slice (some ⟨g, 0, none⟩) y.length cp] hx rfl (cell_one_at _ _ _ rfl) (fun u hu => by simp at hu; subst hu; rfl) (by unfold maxLen; omega) (by omega) (by simp; omega) ?_
  intro v' w' hown hg _
  refine hK v' w' _ _ (h.push h0 (hr.base hBB) hfresh hown hg) ⟨hg.os, hg.tape, hg.output, by have := hg.size; simp at this; omega, fun j hj hn => (hg.block j (by simp; omega) hn).trans (Below.heap_alloc _ _ _ hj)⟩

end Go.Proofs.Ytbclpbgomkfabaa
end

section
namespace Go.Proofs.Ytbclpbgomkfabaa
open Go.RowKit Go.Deep

theorem RW.set' {B : Nat} {w : World} {g cap k m : Nat} {x : List Int} (hm : x.length = m) (h : RW B w (.slice (some ⟨g, 0, none⟩) m cap) x) (hk : k < m) (y : Int) : RW B (w.setCell ⟨g, k, none⟩ (.int .i64 y)) (.slice (some ⟨g, 0, none⟩) m cap) (x.set k y) := by
  subst hm; exact h.set hk y
theorem RW.rowB {B : Nat} {w : World} {g k cap : Nat} {x : List Int} (h : RW B w (.slice (some ⟨g, 0, none⟩) k cap) x) (h0 : 0 < x.length) : B ≤ g ∧ RowB w g x := by
  obtain ⟨g', cap', e, h1, h2⟩ := h.form h0
  injection e with e
  injection e with e
  injection e with e
  subst e
  exact ⟨h1, h2⟩
theorem grown_set_any (w : World) (g k : Nat) (v : Value) : w.grownBy (w.setCell ⟨g, k, none⟩ v) (some g) := ⟨rfl, rfl, rfl, by simp, fun i _ hi => Below.heap_setCell _ _ _ _ (fun e => hi (by rw [e]))⟩
theorem grown_undrew' {W w' : World} {row : Option Nat} (h : W.drew.grownBy w' row) : W.grownBy w' row := ⟨h.os, h.tape, h.output, h.size, h.block⟩
theorem lens_snoc {l : List (List Int)} {x : List Int} {r m : Nat} (hl : l.length = r) (h : ∀ j, j < r → (l.getD j []).length = m) (hx : x.length = m) : ∀ j, j < r + 1 → ((l ++ [x]).getD j []).length = m := by
  intro j hj
  by_cases e : j = r
  · subst e; subst hl; simpa [List.getD] using hx
  · rw [show (l ++ [x]).getD j [] = l.getD j [] by simp [List.getD, List.getElem?_append_left (show j < l.length by omega)]]
    exact h j (by omega)

set_option maxRecDepth 100000 in
set_option maxHeartbeats 8000000 in
theorem l91Table_any (w0 w : World) (G nb c p n m : Nat) (a : Option Addr) (h : RD w0 w G a nb c 103 p) (hn : n ≤ 10) (hm1 : 1 ≤ m) (hm : m ≤ 10) (hp : p ≤ 50000) :
    Calls Try.prog 136 #[.pointer (some ⟨G, 0, none⟩), .int .i64 n, .int .i64 m] w fun e w' => ∃ v l A C p', e = .returned v ∧ l.length = n ∧ (∀ j, j < n → (l.getD j []).length = m) ∧ w.grownBy w' (some G) ∧ RD w0 w' G a nb c 103 p' ∧ p' ≤ p + 500 ∧ BD w.heap.size w' v l A C := by
  obtain ⟨i42, hi42⟩ := info42_parts
  obtain ⟨i3, hi3⟩ := info3_parts
  have HI := Lib.hid hi42
  have HJ := Lib.hid hi3
  have hG := h.lt
  have HRD := Lib.hid h
  clear h hi42 hi3
  go_enter Try.func136, Try.ntmps136
  go_wp2_with fail
  refine (pick_any w0 _ G nb c _ a _ (HRD.out.grown (World.grownBy_alloc w _ none) (fun k e => by cases e)) (by omega)).mono ?_
  rintro e w1 ⟨κ, rfl, hκ, hg, hd⟩
  have hk : κ = 0 ∨ κ = 1 ∨ κ = 2 ∨ κ = 3 := by omega
  have HST := Lib.hid ((BD.start w (fun _ => none) (fun _ => 0) (Nat.le_refl _)).kept hg hG)
  have HG1 := Lib.hid (grown_trans (World.grownBy_alloc w _ _) hg)
  have HD1 := Lib.hid hd
  clear hg hd hκ HRD
  go_wp2
  go_loopg [7, 9, 10, 11, 12, 13] n (fun g v i _ _ _ _ wr => ∃ r A C p' l, r ≤ n ∧ g = n - r ∧ i = .int .i64 (r : Nat) ∧ List.length l = r ∧ (∀ j, j < r → (List.getD l j []).length = m) ∧ w.grownBy wr (some G) ∧ RD w0 wr G a nb c 103 p' ∧ p' ≤ p + 1 + 40 * r ∧ BD w.heap.size wr v l A C)
  case atStart => exact ⟨0, _, _, _, [], Nat.zero_le _, rfl, rfl, rfl, fun j hj => by omega, HG1.out, HD1.out, by omega, HST.out⟩
  case round =>
    obtain ⟨r, A, C, p', l, hr, rfl, rfl, hl, hlm, hgw, hd, hp', hB⟩ := hrel
    clear HST HG1 HD1
    by_cases hlt : r < n
    · have HB := Lib.hid hB
      have HGW := Lib.hid hgw
      have HD := Lib.hid hd
      have hzw := hgw.size
      obtain ⟨wo, hwo⟩ : ∃ wo : World, wo = wr := ⟨_, rfl⟩
      clear hB hgw hd
      go_wp2
      subst hwo
      go_loopg [10, 11, 12] m (fun g v k _ wi => ∃ q x p'', q ≤ m ∧ g = m - q ∧ k = .int .i64 (q : Nat) ∧ List.length x = q ∧ wo.grownBy wi (some G) ∧ RD w0 wi G a nb c 103 p'' ∧ p'' ≤ p' + 2 * q ∧ RW wo.heap.size wi v x)
      case atStart => exact ⟨0, [], p', Nat.zero_le _, rfl, rfl, rfl, World.grownBy_alloc _ _ _, HD.out.grown (World.grownBy_alloc _ _ none) (fun k e => by cases e), by omega, World.ownsRow_made wo #[] 0 (Nat.le_refl _) (Nat.zero_le _) rfl⟩
      case round =>
        obtain ⟨q, x, p'', hq, rfl, rfl, hxl, hgi, hdi, hp'', hW⟩ := hrel
        clear HD
        have HD := Lib.hid hdi
        have HG := Lib.hid hgi
        have HW := Lib.hid hW
        have hz1 := hgi.size
        clear hdi hgi hW
        by_cases hlq : q < m
        · rcases hk with rfl | rfl | rfl | rfl
          all_goals
            go_wp2_with (first
              | (go_at_call 57; refine (pick_any w0 _ G nb c _ a _ HD.out (by omega)).mono ?_; rintro e w2 ⟨y, rfl, _, hg, hd⟩; have HW := Lib.hid (HW.out.kept hg (by omega)); have HG := Lib.hid (grown_trans HG.out hg); have HD := Lib.hid hd; have hz2 := HG.out.size; clear hd hg)
              | (at_builtin; (refine wpList_append_int _ rfl (.tmp 42) (.tmp 44) 43 rfl wo.heap.size i3 Try.underlying43 HJ.out.1 HJ.out.2.1 HJ.out.2.2.1 HJ.out.2.2.2 _ x rfl HW.out _ rfl (by omega) (by omega) ?_); intro v' w3 hrw hgr; have hge := fun i e => (World.ownsRow.lt HW.out i e).1; have HD := Lib.hid (HD.out.grown hgr (fun i e => by have := hge i e; omega)); have HG := Lib.hid (grown_new HG.out hgr hge); have HW := Lib.hid hrw; clear hgr hrw hge))
            go_roundg (m - (q + 1))
            case measure => omega
            case rel => exact ⟨q + 1, x ++ [_], _, by omega, rfl, by go_num, by rw [List.length_append, hxl]; rfl, HG.out, HD.out, by omega, HW.out⟩
        · have hqm : m = q := by omega
          subst hqm
          obtain ⟨g1, cp1, hv, hge, hrb⟩ := HW.out.form (by omega)
          rw [hxl] at hv
          subst hv
          clear hrb
          rcases hk with rfl | rfl | rfl | rfl
          · go_wp2_with (first
              | (at_builtin; (refine wpList_append_row _ rfl (.tmp 77) (.tmp 79) 31 rfl w.heap.size wo.heap.size i42 Try.underlying31 HI.out.1 HI.out.2.1 HI.out.2.2.1 HI.out.2.2.2 _ l A C rfl (HB.out.kept HG.out hG) g1 cp1 m x hxl (by omega) HW.out (HB.out.fresh rfl hge) hzw rfl (by omega) (by omega) ?_); intro v' w3 A' C' hbd hgr; have hbge := fun i e => (World.ownsRow.lt (HB.out.kept HG.out hG).own i e).1; have HD := Lib.hid (HD.out.grown hgr (fun i e => by have := hbge i e; omega)); have HGG := Lib.hid (grown_new (grown_trans HGW.out HG.out) hgr hbge); have HBD := Lib.hid hbd; clear hgr hbd hbge))
            go_roundg (n - (r + 1))
            case measure => omega
            case rel => exact ⟨r + 1, A', C', _, l ++ [x], by omega, rfl, by go_num, by rw [List.length_append, hl]; rfl, lens_snoc hl hlm hxl, HGG.out, HD.out, by omega, HBD.out⟩
          · go_wp2_with (first
              | (at_builtin; (refine wpList_append_row _ rfl (.tmp 77) (.tmp 79) 31 rfl w.heap.size wo.heap.size i42 Try.underlying31 HI.out.1 HI.out.2.1 HI.out.2.2.1 HI.out.2.2.2 _ l A C rfl (HB.out.kept HG.out hG) g1 cp1 m x hxl (by omega) HW.out (HB.out.fresh rfl hge) hzw rfl (by omega) (by omega) ?_); intro v' w3 A' C' hbd hgr; have hbge := fun i e => (World.ownsRow.lt (HB.out.kept HG.out hG).own i e).1; have HD := Lib.hid (HD.out.grown hgr (fun i e => by have := hbge i e; omega)); have HGG := Lib.hid (grown_new (grown_trans HGW.out HG.out) hgr hbge); have HBD := Lib.hid hbd; clear hgr hbd hbge))
            go_roundg (n - (r + 1))
            case measure => omega
            case rel => exact ⟨r + 1, A', C', _, l ++ [x], by omega, rfl, by go_num, by rw [List.length_append, hl]; rfl, lens_snoc hl hlm hxl, HGG.out, HD.out, by omega, HBD.out⟩
          · go_wp2_with (first
              | (at_builtin; (refine wpList_append_row _ rfl (.tmp 77) (.tmp 79) 31 rfl w.heap.size wo.heap.size i42 Try.underlying31 HI.out.1 HI.out.2.1 HI.out.2.2.1 HI.out.2.2.2 _ l A C rfl (HB.out.kept HG.out hG) g1 cp1 m x hxl (by omega) HW.out (HB.out.fresh rfl hge) hzw rfl (by omega) (by omega) ?_); intro v' w3 A' C' hbd hgr; have hbge := fun i e => (World.ownsRow.lt (HB.out.kept HG.out hG).own i e).1; have HD := Lib.hid (HD.out.grown hgr (fun i e => by have := hbge i e; omega)); have HGG := Lib.hid (grown_new (grown_trans HGW.out HG.out) hgr hbge); have HBD := Lib.hid hbd; clear hgr hbd hbge))
            go_roundg (n - (r + 1))
            case measure => omega
            case rel => exact ⟨r + 1, A', C', _, l ++ [x], by omega, rfl, by go_num, by rw [List.length_append, hl]; rfl, lens_snoc hl hlm hxl, HGG.out, HD.out, by omega, HBD.out⟩
          · by_cases hr0 : r = 0
            · have hr0' : decide ((0 : Int) < (r : Int)) = false := by simp; omega
              go_wp2_with (first
                | (at_builtin; (refine wpList_append_row _ rfl (.tmp 77) (.tmp 79) 31 rfl w.heap.size wo.heap.size i42 Try.underlying31 HI.out.1 HI.out.2.1 HI.out.2.2.1 HI.out.2.2.2 _ l A C rfl (HB.out.kept HG.out hG) g1 cp1 m x hxl (by omega) HW.out (HB.out.fresh rfl hge) hzw rfl (by omega) (by omega) ?_); intro v' w3 A' C' hbd hgr; have hbge := fun i e => (World.ownsRow.lt (HB.out.kept HG.out hG).own i e).1; have HD := Lib.hid (HD.out.grown hgr (fun i e => by have := hbge i e; omega)); have HGG := Lib.hid (grown_new (grown_trans HGW.out HG.out) hgr hbge); have HBD := Lib.hid hbd; clear hgr hbd hbge))
              go_roundg (n - (r + 1))
              case measure => omega
              case rel => exact ⟨r + 1, A', C', _, l ++ [x], by omega, rfl, by go_num, by rw [List.length_append, hl]; rfl, lens_snoc hl hlm hxl, HGG.out, HD.out, by omega, HBD.out⟩
            · have hr0' : decide ((0 : Int) < (r : Int)) = true := by simp; omega
              go_wp2_with fail
              refine (pick_any w0 _ G nb c _ a _ HD.out (by omega)).mono ?_
              rintro e w2 ⟨y, rfl, hy3, hg, hd⟩
              have HW := Lib.hid (HW.out.kept hg (by omega))
              have HG := Lib.hid (grown_trans HG.out hg)
              have HD := Lib.hid hd
              have hz2 := HG.out.size
              clear hd hg
              by_cases hy0 : y = 0
              · subst hy0
                obtain ⟨s, hs⟩ : ∃ s, r = s + 1 := ⟨r - 1, by omega⟩
                have hr1 : IntKind.i64.wrap ((r : Int) - 1) = (s : Int) := by rw [show (r : Int) - 1 = s by omega]; exact IntWalk.i64_in _ ⟨by omega, by omega⟩
                have hsr : s < r := by omega
                have HSS := Lib.hid hs
                clear hs
                obtain ⟨bb, cpp, cur, hv, hbb, hcur, hc⟩ := HB.out.top (by omega)
                rw [hl] at hv
                subst hv
                have ct := hc s (by omega)
                obtain ⟨g2, hA, hg2, hrb⟩ := HB.out.row (r := s) (by omega)
                rw [hlm s hsr, hA] at ct
                have t1 : wo.cell? ⟨bb, s, none⟩ = some (.slice (some ⟨g2, 0, none⟩) m (C s)) := by simp [World.cell?, hcur, ct]
                have lb : bb < wo.heap.size := (Array.getElem?_eq_some_iff.1 hcur).1
                have lg : g2 < wo.heap.size := hrb.lt
                have HT1 := Lib.hid t1
                have HRB := Lib.hid hrb
                have HA := Lib.hid hA
                have hls := hlm s hsr
                clear t1 hcur hc ct hrb hA
                go_wp2
                go_loopg [13] m (fun g k wi => ∃ q x p'', q ≤ m ∧ g = m - q ∧ k = .int .i64 (q : Nat) ∧ List.length x = m ∧ wo.grownBy wi (some G) ∧ RD w0 wi G a nb c 103 p'' ∧ p'' ≤ p' + 2 * m + 1 + q ∧ RW wo.heap.size wi (.slice (some ⟨g1, 0, none⟩) m cp1) x)
                case atStart => exact ⟨0, x, _, Nat.zero_le _, rfl, rfl, hxl, HG.out, HD.out, by omega, HW.out⟩
                case round =>
                  obtain ⟨q, x, p'', hq, rfl, rfl, hxl, hgi, hdi, hp'', hW⟩ := hrel
                  clear HD HG HW
                  have HD := Lib.hid hdi
                  have HG := Lib.hid hgi
                  have HW := Lib.hid hW
                  have hz1 := hgi.size
                  clear hdi hgi hW
                  by_cases hlq : q < m
                  · obtain ⟨z, hz⟩ : ∃ z, z = (l.getD s []).getD q 0 := ⟨_, rfl⟩
                    have q2 := HRB.out.cell (i := q) (by rw [hls]; exact hlq)
                    rw [← hz] at q2
                    have d1 := cell_grown HT1.out HG.out (show bb ≠ G by omega)
                    have d0 := cell_grown q2 HG.out (show g2 ≠ G by omega)
                    obtain ⟨hge2, hrw⟩ := HW.out.rowB (by omega)
                    have s1 := hrw.cell (i := q) (by omega)
                    have s2 := hrw.frozen q
                    clear q2 hz hrw
                    go_wp2
                    go_region_held3 (fun w' => w'.cell? ⟨bb, s, none⟩ = some (.slice (some ⟨g2, 0, none⟩) m (C s)) ∧ w'.cell? ⟨g2, q, none⟩ = some (.int .i64 z))
                      (first | exact ⟨d1, d0⟩ | exact ⟨q1, q0⟩ | exact ⟨cell_set_far q1 (by show bb ≠ g1; omega), cell_set_far q0 (by show g2 ≠ g1; omega)⟩)
                      (first
                        | (go_at_call 57; refine (pick_any w0 _ G nb c _ a _ (HD.out.later (World.Since.refl _ _).drew) (by omega)).mono ?_; rintro e w3 ⟨y3, rfl, _, hg, hd⟩; have hg := grown_undrew' hg; have HW := Lib.hid (HW.out.kept hg (by omega)); have HG := Lib.hid (grown_trans HG.out hg); have HD := Lib.hid hd; have q1 := cell_grown d1 hg (show bb ≠ G by omega); have q0 := cell_grown d0 hg (show g2 ≠ G by omega); have k1 := cell_grown s1 hg (show g1 ≠ G by omega); have k2 : w3.frozen? ⟨g1, q, none⟩ = false := (World.frozen?_of_block (hg.block g1 (World.block_lt_of_cell? _ _ s1) (fun e => by injection e with e; omega))).trans s2; clear hg hd))
                    clear d1 d0 q1 q0 k1 k2 s1 s2
                    go_wp2
                    go_roundg (m - (q + 1))
                    case measure => omega
                    case rel => exact ⟨q + 1, x.set q _, _, by omega, rfl, by go_num, by rw [List.length_set]; exact hxl, grown_set HG.out hge2 _, HD.out.grown (row := some g1) (grown_set_any _ _ _ _) (fun i e => by cases e; omega), by omega, RW.set' hxl HW.out hlq _⟩
                  · have hqm : m = q := by omega
                    subst hqm
                    go_wp2_with (first
                      | (at_builtin; (refine wpList_append_row _ rfl (.tmp 77) (.tmp 79) 31 rfl w.heap.size wo.heap.size i42 Try.underlying31 HI.out.1 HI.out.2.1 HI.out.2.2.1 HI.out.2.2.2 _ l A C rfl (HB.out.kept HG.out hG) g1 cp1 m x hxl (by omega) HW.out (HB.out.fresh rfl hge) hzw rfl (by omega) (by omega) ?_); intro v' w3 A' C' hbd hgr; have hbge := fun i e => (World.ownsRow.lt (HB.out.kept HG.out hG).own i e).1; have HD := Lib.hid (HD.out.grown hgr (fun i e => by have := hbge i e; omega)); have HGG := Lib.hid (grown_new (grown_trans HGW.out HG.out) hgr hbge); have HBD := Lib.hid hbd; clear hgr hbd hbge))
                    go_roundg (n - (r + 1))
                    case measure => omega
                    case rel => exact ⟨r + 1, A', C', _, l ++ [x], by omega, rfl, by go_num, by rw [List.length_append, hl]; rfl, lens_snoc hl hlm hxl, HGG.out, HD.out, by omega, HBD.out⟩
              · have hy0' : ((y : Int) == 0) = false := by simp; omega
                go_wp2_with (first
                  | (at_builtin; (refine wpList_append_row _ rfl (.tmp 77) (.tmp 79) 31 rfl w.heap.size wo.heap.size i42 Try.underlying31 HI.out.1 HI.out.2.1 HI.out.2.2.1 HI.out.2.2.2 _ l A C rfl (HB.out.kept HG.out hG) g1 cp1 m x hxl (by omega) HW.out (HB.out.fresh rfl hge) hzw rfl (by omega) (by omega) ?_); intro v' w3 A' C' hbd hgr; have hbge := fun i e => (World.ownsRow.lt (HB.out.kept HG.out hG).own i e).1; have HD := Lib.hid (HD.out.grown hgr (fun i e => by have := hbge i e; omega)); have HGG := Lib.hid (grown_new (grown_trans HGW.out HG.out) hgr hbge); have HBD := Lib.hid hbd; clear hgr hbd hbge))
                go_roundg (n - (r + 1))
                case measure => omega
                case rel => exact ⟨r + 1, A', C', _, l ++ [x], by omega, rfl, by go_num, by rw [List.length_append, hl]; rfl, lens_snoc hl hlm hxl, HGG.out, HD.out, by omega, HBD.out⟩
    · have : r = n := by omega
      subst this
      go_wp2
      go_ret
      exact ⟨_, l, A, C, p', rfl, hl, hlm, hgw, hd, by omega, hB⟩

end Go.Proofs.Ytbclpbgomkfabaa
end

section
namespace Go.Proofs.Ytbclpbgomkfabaa
open Go.RowKit Go.Deep

theorem BD.inT {B : Nat} {w : World} {v : Value} {l : List (List Int)} {A : Nat → Option Addr} {C : Nat → Nat} (h : BD B w v l A C) : ∃ a cap, v = .slice a l.length cap ∧ InT B w.heap.size w a l := by
  by_cases h0 : 0 < l.length
  · obtain ⟨b, cap, cur, e, hb, hg, hc⟩ := h.top h0
    refine ⟨_, cap, e, fun _ => ⟨b, 0, A, fun r => ((A r).getD default).block, fun _ => 0, C, rfl, ⟨hb, (Array.getElem?_eq_some_iff.1 hg).1⟩, fun r hr => ⟨?_, fun h1 => ?_⟩⟩⟩
    · rw [Nat.zero_add]; simp [World.cell?, hg, hc r hr]
    · obtain ⟨g, e, hB, hw⟩ := h.row hr
      have e' : ((A r).getD default).block = g := by rw [e]; rfl
      dsimp only
      rw [e']
      exact ⟨e, ⟨hB, hw.lt⟩, fun i hi => by rw [Nat.zero_add]; exact hw.cell hi⟩
  · rcases h.own.2 with ⟨hv, hn⟩ | ⟨g, cap, cur, e, _⟩
    · exact ⟨none, 0, by rw [hv, hn], fun h => absurd h h0⟩
    · exact ⟨_, cap, e, fun h => absurd h h0⟩

theorem BD.row_ne {B : Nat} {w : World} {l : List (List Int)} {A : Nat → Option Addr} {C : Nat → Nat} {b cap n : Nat} (h : BD B w (.slice (some ⟨b, 0, none⟩) n cap) l A C) {g : Nat} {x : List Int} (hw : RowB w g x) : g ≠ b := by
  rintro rfl
  obtain ⟨cs, hc, _⟩ := hw
  rcases h.own.2 with ⟨e, _⟩ | ⟨g', cap', cur, e, _, hgg, _⟩
  · cases e
  · injection e with e
    injection e with e
    injection e with e
    rw [← e, hc] at hgg
    injection hgg with hgg
    injection hgg with _ e2 _
    exact absurd e2 (by decide)

theorem BD.addr_ne {B : Nat} {w : World} {v : Value} {l : List (List Int)} {A : Nat → Option Addr} {C : Nat → Nat} (h : BD B w v l A C) {r j g g' : Nat} (hr : r < l.length) (hj : j < l.length) (hA : A r = some ⟨g, 0, none⟩) (hA' : A j = some ⟨g', 0, none⟩) (hne : j ≠ r) : g' ≠ g := by
  rintro rfl
  exact hne (h.apart j r hj hr (by rw [hA, hA']))

theorem BD.cellTop {B : Nat} {w : World} {l : List (List Int)} {A : Nat → Option Addr} {C : Nat → Nat} {b cap n : Nat} (h : BD B w (.slice (some ⟨b, 0, none⟩) n cap) l A C) {r : Nat} (hr : r < l.length) :
    w.cell? ⟨b, r, none⟩ = some (.slice (A r) (l.getD r []).length (C r)) ∧ w.frozen? ⟨b, r, none⟩ = false ∧ b < w.heap.size := by
  obtain ⟨b', cp', cur, hv, _, hcur, hc⟩ := h.top (by omega)
  injection hv with hv _ _
  injection hv with hv
  injection hv with hv
  subst hv
  exact ⟨by simp [World.cell?, hcur, hc r hr], by simp [World.frozen?, hcur], (Array.getElem?_eq_some_iff.1 hcur).1⟩

theorem BD.setRow {B : Nat} {w w5 : World} {l : List (List Int)} {A : Nat → Option Addr} {C : Nat → Nat} {b cap n : Nat} (h : BD B w (.slice (some ⟨b, 0, none⟩) n cap) l A C) {r g : Nat} (hr : r < l.length) (hA : A r = some ⟨g, 0, none⟩) (hg : w.grownBy w5 (some g)) {g2 cp k : Nat} {y : List Int}
    (hy : RW B w5 (.slice (some ⟨g2, 0, none⟩) k cp) y) (hk : y.length = k) (h0 : 0 < k) : InT B w5.heap.size (w5.setCell ⟨b, r, none⟩ (.slice (some ⟨g2, 0, none⟩) k cp)) (some ⟨b, 0, none⟩) (l.set r y) := by
  subst hk
  obtain ⟨b', cap', cur, e, hb, hcur, hc⟩ := h.top (by omega)
  injection e with e en _
  injection e with e
  injection e with e
  subst e
  obtain ⟨g', hA', hBg, hrb⟩ := h.row hr
  rw [hA] at hA'
  injection hA' with hA'
  injection hA' with hA'
  subst hA'
  have hgb := h.row_ne hrb
  have hbl : b < w.heap.size := (Array.getElem?_eq_some_iff.1 hcur).1
  have hcur5 : w5.heap[b]? = some (.cells cur 43 (0, 0)) := (hg.block b hbl (fun e => by injection e with e; omega)).trans hcur
  obtain ⟨hB2, hrb2⟩ := hy.rowB h0
  have hg2b : g2 ≠ b := by
    rintro rfl
    obtain ⟨cs, h1, _⟩ := hrb2
    rw [h1] at hcur5
    injection hcur5 with h2
    injection h2 with _ h2 _
    exact absurd h2 (by decide)
  have hbl5 : b < w5.heap.size := (Array.getElem?_eq_some_iff.1 hcur5).1
  intro _
  refine ⟨b, 0, fun j => if j = r then some ⟨g2, 0, none⟩ else A j, fun j => if j = r then g2 else ((A j).getD default).block, fun _ => 0, fun j => if j = r then cp else C j, rfl, ⟨hb, hbl5⟩, fun j hj => ?_⟩
  rw [List.length_set] at hj
  show (w5.setCell ⟨b, r, none⟩ _).cell? ⟨b, 0 + j, none⟩ = _ ∧ _
  rw [Nat.zero_add]
  by_cases ej : j = r
  · subst ej
    have e1 : (l.set j y).getD j [] = y := by simp [List.getD, hj]
    rw [e1]
    simp only [↓reduceIte]
    refine ⟨World.cell?_setCell_same' _ _ _ (by simp [World.cell?, hcur5, hc j hj]), fun _ => ⟨trivial, ⟨hB2, hrb2.lt⟩, fun i hi => ?_⟩⟩
    rw [Nat.zero_add]
    exact cell_set_far (hrb2.cell hi) hg2b
  · have e1 : (l.set r y).getD j [] = l.getD j [] := by simp [List.getD, List.getElem?_set_ne (Ne.symm ej)]
    rw [e1]
    simp only [if_neg ej]
    obtain ⟨gj, hAj, hBj, hrbj⟩ := h.row hj
    have hgj := h.addr_ne hr hj hA hAj ej
    have hrb5 : RowB w5 gj (l.getD j []) := hrbj.of_block (hg.block gj hrbj.lt (fun e => by injection e with e; omega))
    have hgjb := h.row_ne hrbj
    refine ⟨?_, fun _ => ?_⟩
    · rw [World.cell?_setCell_other _ _ _ _ (fun e => ej (by injection e with _ e; exact e.symm))]
      simp [World.cell?, hcur5, hc j hj]
    · have e' : ((A j).getD default).block = gj := by rw [hAj]; rfl
      rw [e']
      exact ⟨hAj, ⟨hBj, hrb5.lt⟩, fun i hi => by rw [Nat.zero_add]; exact cell_set_far (hrb5.cell hi) hgjb⟩

theorem BD.setNum {B : Nat} {w : World} {l : List (List Int)} {A : Nat → Option Addr} {C : Nat → Nat} {b cap n : Nat} (h : BD B w (.slice (some ⟨b, 0, none⟩) n cap) l A C) {r g k : Nat} (hr : r < l.length) (hA : A r = some ⟨g, 0, none⟩) (hk : k < (l.getD r []).length) (z : Int) :
    InT B w.heap.size (w.setCell ⟨g, k, none⟩ (.int .i64 z)) (some ⟨b, 0, none⟩) (l.set r ((l.getD r []).set k z)) := by
  obtain ⟨b', cap', cur, e, hb, hcur, hc⟩ := h.top (by omega)
  injection e with e en _
  injection e with e
  injection e with e
  subst e
  obtain ⟨g', hA', hBg, hrb⟩ := h.row hr
  rw [hA] at hA'
  injection hA' with hA'
  injection hA' with hA'
  subst hA'
  have hgb := h.row_ne hrb
  intro _
  refine ⟨b, 0, A, fun j => ((A j).getD default).block, fun _ => 0, C, rfl, ⟨hb, (Array.getElem?_eq_some_iff.1 hcur).1⟩, fun j hj => ?_⟩
  rw [List.length_set] at hj
  show (w.setCell ⟨g, k, none⟩ _).cell? ⟨b, 0 + j, none⟩ = _ ∧ _
  rw [Nat.zero_add]
  have hlen : ((l.set r ((l.getD r []).set k z)).getD j []).length = (l.getD j []).length := by
    by_cases ej : j = r
    · subst ej; simp [List.getD, hj]
    · simp [List.getD, List.getElem?_set_ne (Ne.symm ej)]
  rw [hlen]
  refine ⟨cell_set_far (by simp [World.cell?, hcur, hc j hj]) (Ne.symm hgb), fun _ => ?_⟩
  obtain ⟨gj, hAj, hBj, hrbj⟩ := h.row hj
  have e' : ((A j).getD default).block = gj := by rw [hAj]; rfl
  dsimp only
  rw [e']
  refine ⟨hAj, ⟨hBj, hrbj.lt⟩, fun i hi => ?_⟩
  rw [Nat.zero_add]
  by_cases ej : j = r
  · subst ej
    rw [hA] at hAj
    injection hAj with hAj
    injection hAj with hAj
    subst hAj
    have e1 : (l.set j ((l.getD j []).set k z)).getD j [] = (l.getD j []).set k z := by simp [List.getD, hj]
    rw [e1]
    by_cases ei : i = k
    · subst ei
      rw [World.cell?_setCell_same' _ _ _ (by rw [hrbj.cell hi]; rfl)]
      simp [List.getD] at hi ⊢
      simp [hi]
    · rw [World.cell?_setCell_other _ _ _ _ (fun e => ei (by injection e with _ e; exact e.symm)), hrbj.cell hi]
      simp [List.getD, List.getElem?_set_ne (Ne.symm ei)]
  · have hgj := h.addr_ne hr hj hA hAj ej
    have e1 : (l.set r ((l.getD r []).set k z)).getD j [] = l.getD j [] := by simp [List.getD, List.getElem?_set_ne (Ne.symm ej)]
    rw [e1]
    exact cell_set_far (hrbj.cell hi) hgj

theorem InT.kept {lo hi : Nat} {w w' : World} {a : Option Addr} {l : List (List Int)} {G : Nat} (h : InT lo hi w a l) (hg : w.grownBy w' (some G)) (hG : G < lo) : InT lo hi w' a l :=
  h.frame (lo' := G) (hi' := G + 1) ⟨hg.os, hg.tape, hg.output, hg.size, fun k hk ho => hg.block k hk (fun e => by injection e with e; omega)⟩ (.inr (by omega))

end Go.Proofs.Ytbclpbgomkfabaa
end

section
namespace Go.Proofs.Ytbclpbgomkfabaa
open Go.RowKit Go.Deep

def Drawn0 (w w' : World) (R K : Nat) (a : Option Addr) (l : List (List Int)) : Prop :=
  1 ≤ l.length ∧ l.length ≤ R ∧ (∀ j, j < l.length → 1 ≤ (l.getD j []).length ∧ (l.getD j []).length ≤ K + 1) ∧ InT w.heap.size w'.heap.size w' a l

theorem lens_set {l : List (List Int)} {r : Nat} {y : List Int} {n m K : Nat} (hl : l.length = n) (h : ∀ j, j < n → (l.getD j []).length = m) (hm : 1 ≤ m ∧ m ≤ K) (hy : 1 ≤ y.length ∧ y.length ≤ K + 1) : ∀ j, j < (l.set r y).length → 1 ≤ ((l.set r y).getD j []).length ∧ ((l.set r y).getD j []).length ≤ K + 1 := by
  intro j hj
  rw [List.length_set] at hj
  by_cases e : j = r
  · subst e
    rw [show (l.set j y).getD j [] = y by simp [List.getD, hj]]
    exact hy
  · rw [show (l.set r y).getD j [] = l.getD j [] by simp [List.getD, List.getElem?_set_ne (Ne.symm e)], h j (by omega)]
    omega

set_option maxRecDepth 100000 in
set_option maxHeartbeats 4000000 in
theorem l91Some_any (w0 w : World) (G nb c p R K : Nat) (a : Option Addr) (h : RD w0 w G a nb c 103 p) (hR1 : 1 ≤ R) (hR : R ≤ 8) (hK1 : 1 ≤ K) (hK : K ≤ 8) (hp : p ≤ 40000) :
    Calls Try.prog 119 #[.pointer (some ⟨G, 0, none⟩), .int .i64 R, .int .i64 K] w fun e w' => ∃ a' cap l p', e = .returned (.slice a' l.length cap) ∧ w.grownBy w' (some G) ∧ RD w0 w' G a nb c 103 p' ∧ p' ≤ p + 600 ∧ Drawn0 w w' R K a' l := by
  obtain ⟨i3, hi3⟩ := info3_parts
  have HJ := Lib.hid hi3
  have hG := h.lt
  have HRD := Lib.hid h
  clear h hi3
  go_enter Try.func119, Try.ntmps119
  go_wp2_with fail
  refine (pick_any w0 _ G nb c _ a _ HRD.out (by omega)).mono ?_
  rintro e w1 ⟨y1, rfl, hy1, hg1, hd1⟩
  obtain ⟨n, hn, hnn⟩ : ∃ n : Nat, IntKind.i64.wrap (1 + (y1 : Int)) = n ∧ n = y1 + 1 := ⟨y1 + 1, (IntWalk.i64_in _ ⟨by omega, by omega⟩).trans (by omega), rfl⟩
  have hn1 : 1 ≤ n ∧ n ≤ R := by omega
  have HD1 := Lib.hid hd1
  have HG1 := Lib.hid hg1
  clear hd1 hg1 hnn hy1 HRD
  go_wp2_with fail
  refine (pick_any w0 _ G nb c _ a _ HD1.out (by omega)).mono ?_
  rintro e w2 ⟨y2, rfl, hy2, hg2, hd2⟩
  obtain ⟨m, hm, hmm⟩ : ∃ m : Nat, IntKind.i64.wrap (1 + (y2 : Int)) = m ∧ m = y2 + 1 := ⟨y2 + 1, (IntWalk.i64_in _ ⟨by omega, by omega⟩).trans (by omega), rfl⟩
  have hm1 : 1 ≤ m ∧ m ≤ K := by omega
  have HD2 := Lib.hid hd2
  have HG2 := Lib.hid (grown_trans HG1.out hg2)
  clear hd2 hg2 hmm hy2 HD1 HG1
  go_wp2_with fail
  refine (l91Table_any w0 _ G nb c _ n m a HD2.out (by omega) (by omega) (by omega) (by omega)).mono ?_
  rintro e w3 ⟨v, l, A, C, p3, rfl, hl, hlm, hg3, hd3, hp3, hB⟩
  obtain ⟨b, cp, cur, hv, hbb, hcur, hc⟩ := hB.top (by omega)
  rw [hl] at hv
  subst hv
  have hG2 := HG2.out.size
  have HD3 := Lib.hid hd3
  have HG3 := Lib.hid (grown_trans HG2.out hg3)
  have HB := Lib.hid hB
  clear hd3 hg3 hcur hc hB HD2
  go_wp2_with fail
  refine (pick_any w0 _ G nb c _ a _ HD3.out (by omega)).mono ?_
  rintro e w4 ⟨y4, rfl, hy4, hg4, hd4⟩
  have HG4 := Lib.hid (grown_trans HG3.out hg4)
  have HB4 := Lib.hid (HB.out.kept hg4 (by omega))
  have HD4 := Lib.hid hd4
  have hz4 := HG4.out.size
  clear hd4 hg4 HB HG3 HD3 hy4
  obtain ⟨g0, hA0, hg0, hrb0⟩ := HB4.out.row (r := 0) (by omega)
  by_cases hy0 : y4 = 0
  · subst hy0
    obtain ⟨t1, _, _⟩ := HB4.out.cellTop (r := 0) (by omega)
    rw [hlm 0 (by omega), hA0] at t1
    have t2 := hrb0.cell (i := 0) (by rw [hlm 0 (by omega)]; omega)
    have t3 := hrb0.frozen 0
    have hIT := HB4.out.setNum (r := 0) (k := 0) (by omega) hA0 (by rw [hlm 0 (by omega)]; omega) 31
    have hll : (l.set 0 ((l.getD 0 []).set 0 31)).length = n := by rw [List.length_set]; exact hl
    have hlens := lens_set (r := 0) (y := (l.getD 0 []).set 0 31) hl hlm hm1 (by rw [List.length_set, hlm 0 (by omega)]; omega)
    have HIT := Lib.hid hIT
    have HLL := Lib.hid hll
    have HLENS := Lib.hid hlens
    have HGS := Lib.hid (grown_set HG4.out (show w.heap.size ≤ g0 by omega) (k := 0) (.int .i64 31))
    have HDS := Lib.hid (HD4.out.grown (grown_set_any w4 g0 0 (.int .i64 31)) (fun i e => by cases e; omega))
    have p1 : 0 < n := by omega
    have p2 : 0 < m := by omega
    clear hrb0 hIT hll hlens hA0 hlm hl
    go_wp2
    go_ret
    exact ⟨_, _, l.set 0 ((l.getD 0 []).set 0 31), _, by rw [HLL.out]; rfl, HGS.out, HDS.out, by omega, by rw [HLL.out]; omega, by rw [HLL.out]; omega, HLENS.out, HIT.out.mono hG2 (by simp)⟩
  · clear hrb0 hA0 hg0
    by_cases hy1 : y4 = 1
    · subst hy1
      obtain ⟨s, hs⟩ : ∃ s, n = s + 1 := ⟨n - 1, by omega⟩
      have hr1 : IntKind.i64.wrap ((n : Int) - 1) = (s : Int) := by rw [show (n : Int) - 1 = s by omega]; exact IntWalk.i64_in _ ⟨by omega, by omega⟩
      have hsr : s < n := by omega
      clear hs
      obtain ⟨g1, hA, hg1, hrb⟩ := HB4.out.row (r := s) (by omega)
      obtain ⟨t1, t2, lb⟩ := HB4.out.cellTop (r := s) (by omega)
      have hRW := (HB4.out.rows s (by omega)).2
      have hls := hlm s hsr
      rw [hls, hA] at t1 hRW
      have hgb := HB4.out.row_ne hrb
      obtain ⟨x, hx⟩ : ∃ x, x = l.getD s [] := ⟨_, rfl⟩
      rw [← hx] at hRW hls
      have HRW := Lib.hid hRW
      have HA := Lib.hid hA
      have HL := Lib.hid hl
      have HLM := Lib.hid hlm
      have t1a := fun ob => cell_alloc_l ob t1
      clear hRW hrb hA hl hlm hx
      go_wp2_with (first
        | (at_builtin; (refine wpList_append_int _ rfl (.tmp 37) (.tmp 38) 43 rfl w2.heap.size i3 Try.underlying43 HJ.out.1 HJ.out.2.1 HJ.out.2.2.1 HJ.out.2.2.2 _ x rfl HRW.out 0 rfl (by omega) (by omega) ?_); intro v' w5 hrw hgr; have hgr : w4.grownBy w5 (some g1) := hgr; obtain ⟨g2, cp2, hv2, hg2b, hrb2⟩ := hrw.form (by simp); rw [show (x ++ [(0 : Int)]).length = m + 1 by rw [List.length_append, hls]; rfl] at hv2; subst hv2; have k1 := hgr.cell t1 (fun e => hgb (by injection e with e; exact e.symm)); have k2 : w5.frozen? ⟨b, s, none⟩ = false := (World.frozen?_of_block (hgr.block b lb (fun e => hgb (by injection e with e; exact e.symm)))).trans t2; have HRW2 := Lib.hid hrw; have HGR := Lib.hid hgr; clear hrw hgr hrb2))
      have hl2 : (x ++ [(0 : Int)]).length = m + 1 := by rw [List.length_append, hls]; rfl
      have hIT := HB4.out.setRow (r := s) (by rw [HL.out]; exact hsr) HA.out HGR.out HRW2.out hl2 (by omega)
      have hll : (l.set s (x ++ [0])).length = n := by rw [List.length_set]; exact HL.out
      have hlens := lens_set (r := s) (y := x ++ [0]) HL.out HLM.out hm1 (by rw [hl2]; omega)
      have hgs := grown_set (grown_new HG4.out HGR.out (fun i e => by cases e; omega)) (show w.heap.size ≤ b by omega) (k := s) (.slice (some ⟨g2, 0, none⟩) (m + 1) cp2)
      have hds := (HD4.out.grown HGR.out (fun i e => by cases e; omega)).grown (grown_set_any w5 b s (.slice (some ⟨g2, 0, none⟩) (m + 1) cp2)) (fun i e => by cases e; omega)
      go_ret
      exact ⟨_, _, l.set s (x ++ [0]), _, by rw [hll]; rfl, hgs, hds, by omega, by rw [hll]; omega, by rw [hll]; omega, hlens, hIT.mono hG2 (by simp)⟩
    · have h1 : ((y4 : Int) == 0) = false := by simp; omega
      have h2 : ((y4 : Int) == 1) = false := by simp; omega
      obtain ⟨a', cap', hv, hIT⟩ := HB4.out.inT
      rw [hl] at hv
      injection hv with hv _ _
      subst hv
      have HL := Lib.hid hl
      have HLM := Lib.hid hlm
      have HIT := Lib.hid hIT
      clear hl hlm hIT
      go_wp2
      go_ret
      exact ⟨_, _, l, _, by rw [HL.out]; rfl, HG4.out, HD4.out, by omega, by rw [HL.out]; omega, by rw [HL.out]; omega, fun j hj => by rw [HLM.out j (by rw [← HL.out]; exact hj)]; omega, HIT.out.mono hG2 (Nat.le_refl _)⟩

end Go.Proofs.Ytbclpbgomkfabaa
end

section
namespace Go.Proofs.Ytbclpbgomkfabaa
open Go.RowKit Go.Deep

set_option maxHeartbeats 1000000 in
theorem l6Open_any (a : Option Addr) (nb cb : Nat) (w : World) (hc : nb ≤ cb) (h63 : cb ≤ 9223372036854775807) (hb : BytR w a nb) :
    Calls Try.prog 56 #[.slice a nb cb] w fun e w' => ∃ n' c', e = .returned (.pointer (some ⟨w.heap.size, 0, none⟩)) ∧ w.Since w.heap.size w' ∧ w'.heap.size = w.heap.size + 1 ∧ RD w w' w.heap.size a n' c' 103 0 := by
  by_cases hl : 2000 < nb
  · have hl' : decide ((2000 : Int) < (nb : Int)) = true := by simp; omega
    have h2 : (2000 : Int) ≤ (cb : Int) := by omega
    obtain ⟨b, o, rfl, hcell⟩ := hb (by omega)
    go_enter Try.func56, Try.ntmps56
    go_wp2
    go_ret
    exact ⟨_, _, rfl, (World.Since.refl _ _).alloc (Nat.le_refl _) _, by simp, ⟨heap_alloc_new _ _, Nat.le_refl _, (World.Since.refl _ _).alloc (Nat.le_refl _) _, fun _ => ⟨b, o, rfl, fun i hi => hcell i (by omega)⟩, by omega⟩⟩
  · have hl' : decide ((2000 : Int) < (nb : Int)) = false := by simp; omega
    go_enter Try.func56, Try.ntmps56
    go_wp2
    go_ret
    exact ⟨_, _, rfl, (World.Since.refl _ _).alloc (Nat.le_refl _) _, by simp, ⟨heap_alloc_new _ _, Nat.le_refl _, (World.Since.refl _ _).alloc (Nat.le_refl _) _, hb, by omega⟩⟩

def DrawnT (w w' : World) (R K : Nat) (a : Option Addr) (l : List (List Int)) : Prop :=
  1 ≤ l.length ∧ l.length ≤ R ∧ (∀ j, j < l.length → 1 ≤ (l.getD j []).length ∧ (l.getD j []).length ≤ K + 1) ∧ InT w.heap.size w'.heap.size w' a l

set_option maxHeartbeats 1000000 in
theorem l91One_any (a : Option Addr) (nb cb : Nat) (w : World) (hc : nb ≤ cb) (h63 : cb ≤ 9223372036854775807) (hb : BytR w a nb) :
    Calls Try.prog 73 #[.slice a nb cb] w fun e w' => ∃ a' cap l, e = .returned (.slice a' l.length cap) ∧ w.Since w.heap.size w' ∧ DrawnT w w' 5 5 a' l := by
  have E := Lib.hid (l6Open_any a nb cb w hc h63 hb)
  clear hb
  go_enter Try.func73, Try.ntmps73
  go_wp2_with fail
  refine (E.out).mono ?_
  rintro e w1 ⟨n', c', rfl, hs, hz, hd⟩
  have HD := Lib.hid hd
  clear hd
  go_wp2_with fail
  refine (l91Some_any w w1 w.heap.size n' c' 0 5 5 a HD.out (by omega) (by omega) (by omega) (by omega) (by omega)).mono ?_
  rintro e w2 ⟨a', cap', l, p', rfl, hg, hd2, hp, h1, h5, hl, hit⟩
  go_wp2
  go_ret
  exact ⟨a', cap', l, rfl, hs.trans (since_grown hg (Nat.le_refl _) hs.size), h1, h5, hl, hit.mono hs.size (Nat.le_refl _)⟩

end Go.Proofs.Ytbclpbgomkfabaa
end

section
namespace Go.Proofs.Ytbclpbgomkfabaa
open Go.RowKit Go.Deep

set_option maxHeartbeats 1000000 in
theorem drawPosFirstCount_any (a : Option Addr) (nb cb : Nat) (w : World) (hc : nb ≤ cb) (h63 : cb ≤ 9223372036854775807) (hb : BytR w a nb) :
    Calls Try.prog 26 #[.slice a nb cb] w fun e w' => ∃ a' cap l, e = .returned (.slice a' l.length cap) ∧ w.Since w.heap.size w' ∧ DrawnT w w' 5 5 a' l := by
  have E := Lib.hid (l91One_any a nb cb w hc h63 hb)
  clear hb
  go_enter Try.func26, Try.ntmps26
  go_wp2_with fail
  refine (E.out).mono ?_
  rintro e w1 ⟨a', cap', l, rfl, hs, hd⟩
  go_wp2
  go_ret
  exact ⟨a', cap', l, rfl, hs, hd⟩

end Go.Proofs.Ytbclpbgomkfabaa
end

section
namespace Go.Proofs.Ytbclpbgomkfabaa
open Go.RowKit Go.Deep

set_option maxHeartbeats 1000000 in
theorem sameInts_same (a b : Option Addr) (ca cb n : Nat) (l : List Int) (w : World) (hn : l.length = n) (h63 : n ≤ 9223372036854775807) (ha : RowR w a l) (hb : RowR w b l) :
    Calls Try.prog 87 #[.slice a n ca, .slice b n cb] w fun e w' => e = .returned (.bool true) ∧ Drawn w w' := by
  have H := Lib.hid hn; clear hn
  go_enter Try.func87, Try.ntmps87
  go_wp2
  go_loopg [5] n (fun g i wr => ∃ k : Nat, k ≤ n ∧ g = n - k ∧ i = .int .i64 k ∧ Drawn w wr)
  case atStart => exact ⟨0, Nat.zero_le _, rfl, rfl, Drawn.refl w⟩
  case round =>
    obtain ⟨k, hk, rfl, rfl, hD⟩ := hrel
    by_cases hlt : k < n
    · obtain ⟨b1, o1, rfl, hc1⟩ := ha (by rw [H.out]; omega)
      obtain ⟨b2, o2, rfl, hc2⟩ := hb (by rw [H.out]; omega)
      have c1 := hc1 k (by rw [H.out]; exact hlt)
      have c2 := hc2 k (by rw [H.out]; exact hlt)
      obtain ⟨x, hx⟩ : ∃ x, x = l.getD k 0 := ⟨_, rfl⟩
      rw [← hx] at c1 c2
      rw [← hD.cell] at c1 c2
      clear hx hc1 hc2 ha hb
      go_wp2
      go_quiet (fail)
      go_wp2
      go_roundg (n - (k + 1))
      case measure => omega
      case rel => exact ⟨k + 1, by omega, rfl, by go_num, hD.trans (Drawn.mk _ _)⟩
    · go_wp2
      go_ret
      exact ⟨rfl, hD⟩

set_option maxHeartbeats 1000000 in
theorem sameRows_same (a b : Option Addr) (ca cb n : Nat) (l : List (List Int)) (w : World) (hn : l.length = n) (h63 : n ≤ 9223372036854775807) (hl : ∀ r, r < l.length → (l.getD r []).length ≤ 9223372036854775807)
    (ha : MatR w a l) (hb : MatR w b l) :
    Calls Try.prog 34 #[.slice a n ca, .slice b n cb] w fun e w' => e = .returned (.bool true) ∧ Drawn w w' := by
  have H := Lib.hid hn; clear hn
  go_enter Try.func34, Try.ntmps34
  go_wp2
  go_loopg [5] n (fun g i wr => ∃ k : Nat, k ≤ n ∧ g = n - k ∧ i = .int .i64 k ∧ Drawn w wr)
  case atStart => exact ⟨0, Nat.zero_le _, rfl, rfl, Drawn.refl w⟩
  case round =>
    obtain ⟨k, hk, rfl, rfl, hD⟩ := hrel
    by_cases hlt : k < n
    · obtain ⟨b1, o1, A1, C1, rfl, hc1⟩ := ha (by rw [H.out]; omega)
      obtain ⟨b2, o2, A2, C2, rfl, hc2⟩ := hb (by rw [H.out]; omega)
      obtain ⟨c1, r1⟩ := hc1 k (by rw [H.out]; exact hlt)
      obtain ⟨c2, r2⟩ := hc2 k (by rw [H.out]; exact hlt)
      have hlk := hl k (by rw [H.out]; exact hlt)
      obtain ⟨x, hx⟩ : ∃ x, x = l.getD k [] := ⟨_, rfl⟩
      rw [← hx] at c1 c2 r1 r2 hlk
      obtain ⟨m, hm⟩ : ∃ m, x.length = m := ⟨_, rfl⟩
      rw [hm] at c1 c2 hlk
      have HM := Lib.hid hm
      clear hx hc1 hc2 ha hb hl hm
      have r1 := r1.drawn hD
      have r2 := r2.drawn hD
      rw [← hD.cell] at c1 c2
      have e1 := fun (p : Nat) => sameInts_same (A1 k) (A2 k) (C1 k) (C2 k) m x (wr.drewN p) HM.out hlk r1 r2
      have E1 := Lib.hid e1; clear e1 r1 r2
      go_wp2
      go_quiet ((go_at_call 87; exact Calls.quiet_of (E1.out _)))
      go_wp2
      go_roundg (n - (k + 1))
      case measure => omega
      case rel => exact ⟨k + 1, by omega, rfl, by go_num, hD.trans (Drawn.mk _ _)⟩
    · go_wp2
      go_ret
      exact ⟨rfl, hD⟩

end Go.Proofs.Ytbclpbgomkfabaa
end

section
namespace Go.Proofs.Ytbclpbgomkfabaa
open Go.RowKit Go.Deep

theorem szL_of {l : List (List Int)} {n k : Nat} (h1 : l.length ≤ n) (h2 : ∀ j, j < l.length → (l.getD j []).length ≤ k) (hnk : n * k + n ≤ 1048576) : szL l ≤ 1048576 := by
  have h3 := sumTo_le_mul l k h2 l.length (Nat.le_refl _)
  have h4 : l.length * k ≤ n * k := Nat.mul_le_mul_right _ h1
  have h5 : k * l.length = l.length * k := Nat.mul_comm _ _
  unfold szL
  omega
theorem rows_le {l : List (List Int)} (h : szL l ≤ 1048576) : ∀ r, r < l.length → (l.getD r []).length ≤ 9223372036854775807 := fun r hr => by
  have := row_le l hr
  unfold szL at h
  omega

theorem tab_self {l : List (List Int)} {n m : Nat} (hn : l.length = n) (hm : ∀ r, r < n → (l.getD r []).length = m) : tabF n m (at2 l) = l := by
  refine List.ext_getElem (by rw [tabF_length, hn]) fun r h1 h2 => ?_
  have hr : r < n := by rw [tabF_length] at h1; exact h1
  have e1 : (tabF n m (at2 l))[r] = (tabF n m (at2 l)).getD r [] := by simp [List.getD, h1]
  have e2 : l[r] = l.getD r [] := by simp [List.getD, h2]
  rw [e1, e2, tabF_get _ _ _ _ hr]
  refine List.ext_getElem (by rw [List.length_map, List.length_range, hm r hr]) fun k h3 h4 => ?_
  rw [List.getElem_map, List.getElem_range]
  unfold at2
  obtain ⟨x, hx⟩ : ∃ x, x = l.getD r [] := ⟨_, rfl⟩
  subst hx
  generalize l.getD r [] = x at *
  simp [List.getD, h4]

theorem turnL_turnL {l : List (List Int)} (hT : TabIn l) : turnL (turnL l) = l := by
  have h1 := hT.1
  have hw := hT.width
  have e0 : ((turnL l).getD 0 []).length = l.length := tabF_len _ _ _ _ hw.1
  have e1 : turnL (turnL l) = tabF l.length (l.getD 0 []).length fun k i => at2 (turnL l) i k := by
    show tabF ((turnL l).getD 0 []).length (turnL l).length _ = _
    rw [e0, turnL_length]
  rw [e1]
  have e2 : tabF l.length (l.getD 0 []).length (fun k i => at2 (turnL l) i k) = tabF l.length (l.getD 0 []).length (at2 l) := by
    unfold tabF
    refine List.map_congr_left fun r hr => List.map_congr_left fun k hk => ?_
    exact tabF_at _ _ _ _ _ (List.mem_range.1 hk) (List.mem_range.1 hr)
  rw [e2]
  exact tab_self rfl (fun r hr => hT.row hr)

end Go.Proofs.Ytbclpbgomkfabaa
end

section
namespace Go.Proofs.Ytbclpbgomkfabaa
open Go.RowKit Go.Deep

end Go.Proofs.Ytbclpbgomkfabaa
end

section
namespace Go.Proofs.Ytbclpbgomkfabaa
open Go.RowKit Go.Deep

def fpart (i k : Nat) : Nat × Nat := (runS (i + 1 - (min i k + 1)) (min i k + 1), runS (k + 1 - (min i k + 1)) (min i k + 1))

end Go.Proofs.Ytbclpbgomkfabaa
end

section
namespace Go.Proofs.Ytbclpbgomkfabaa
open Go.RowKit Go.Deep Go.Shelf
attribute [local go_sem] Oper.semAt_some

def OldT (n₀ : Nat) (w0 W : World) : Prop := ∀ k, k < n₀ → W.heap[k]? = w0.heap[k]?
theorem OldT.cell {n₀ : Nat} {w0 W : World} (h : OldT n₀ w0 W) {a : Addr} (ha : a.block < n₀) : W.cell? a = w0.cell? a := World.cell?_of_block (h _ ha)
theorem OldT.grown {n₀ : Nat} {w0 X Y : World} {row : Option Nat} (h : OldT n₀ w0 X) (hz : n₀ ≤ X.heap.size) (hg : X.grownBy Y row) (hr : ∀ r, row = some r → n₀ ≤ r) : OldT n₀ w0 Y :=
  fun k hk => (hg.block k (by omega) (fun e => by have := hr k e.symm; omega)).trans (h k hk)
theorem OldT.keeps {n₀ : Nat} {w0 X Y : World} {own : Nat → Prop} (h : OldT n₀ w0 X) (hz : n₀ ≤ X.heap.size) (hk : Keeps own X Y) (ho : ∀ k, own k → n₀ ≤ k) : OldT n₀ w0 Y := fun k hlt => by
  have hx : k < X.heap.size := by omega
  have e := hk.same k X.heap[k] (fun o => by have := ho k o; omega) (Array.getElem?_eq_getElem hx)
  rw [e, ← h k hlt]
  exact (Array.getElem?_eq_getElem hx).symm
theorem MatR.oldT {w0 W : World} {a : Option Addr} {l : List (List Int)} (h : MatR w0 a l) (ho : OldT w0.heap.size w0 W) : MatR W a l := by
  intro h0
  obtain ⟨b, o, A, C, e, hc⟩ := h h0
  refine ⟨b, o, A, C, e, fun r hr => ?_⟩
  obtain ⟨c1, c2⟩ := hc r hr
  refine ⟨(ho.cell (World.block_lt_of_cell? _ _ c1)).trans c1, fun hp => ?_⟩
  obtain ⟨b', o', e', c3⟩ := c2 hp
  exact ⟨b', o', e', fun i hi => (ho.cell (World.block_lt_of_cell? _ _ (c3 i hi))).trans (c3 i hi)⟩
theorem Keeps.fromB {own : Nat → Prop} {A X Y : World} {row : Option Nat} (h : Keeps own A X) (hg : X.grownBy Y row) (hr : ∀ r, row = some r → A.heap.size ≤ r) : Keeps own A Y :=
  ⟨Nat.le_trans h.size hg.size, fun k o hk ho => (hg.block k (Array.getElem?_eq_some_iff.1 (h.same k o hk ho)).1 (fun e => by have := hr k e.symm; have := (Array.getElem?_eq_some_iff.1 ho).1; omega)).trans (h.same k o hk ho)⟩
theorem boxed_put {W : World} {B l : Nat} {t : TypeId} {v : Value} {o o' : Obj} (h : Boxed W B t v) (hl : W.heap[l]? = some o) (ho : o.isCells = false) : Boxed (W.putObj l o') B t v :=
  h.kept (grownBy_putObj' W l o') (fun e => by
    have e' : B = l := by injection e
    subst e'
    have h' : W.heap[B]? = _ := h
    rw [h'] at hl
    cases hl
    cases ho)

structure KB (n₀ : Nat) (w0 : World) (Bt Bk By lp : Nat) (a : Option Addr) (n cap : Nat) (k : Nat) (X : World) : Prop where
  bt : X.cell? ⟨Bt, 0, none⟩ = some (.slice a n cap)
  bk : X.cell? ⟨Bk, 0, none⟩ = some (.int .i64 (k : Int))
  yb : X.cell? ⟨By, 0, none⟩ = some (.func (.yield lp) #[] #[])
  old : OldT n₀ w0 X
theorem cell_own {X Y : World} {row : Option Nat} {b B : Nat} {v : Value} (h : X.cell? ⟨b, 0, none⟩ = some v) (hb : b < B) (hg : X.grownBy Y row) (hr : ∀ r, row = some r → B ≤ r) : Y.cell? ⟨b, 0, none⟩ = some v :=
  (World.cell?_of_block (a := ⟨b, 0, none⟩) (hg.block b (World.block_lt_of_cell? _ _ h) (fun e => by have := hr b e.symm; omega))).trans h
theorem KB.grown {n₀ : Nat} {w0 : World} {Bt Bk By lp : Nat} {a : Option Addr} {n cap k : Nat} {X Y : World} {row : Option Nat} {B : Nat} (h : KB n₀ w0 Bt Bk By lp a n cap k X) (hz : n₀ ≤ X.heap.size) (h1 : n₀ ≤ B ∧ Bt < B ∧ Bk < B ∧ By < B) (hg : X.grownBy Y row) (hr : ∀ r, row = some r → B ≤ r) : KB n₀ w0 Bt Bk By lp a n cap k Y :=
  ⟨cell_own h.bt h1.2.1 hg hr, cell_own h.bk h1.2.2.1 hg hr, cell_own h.yb h1.2.2.2 hg hr, h.old.grown hz hg (fun r e => by have := hr r e; omega)⟩
theorem KB.keeps {n₀ : Nat} {w0 : World} {Bt Bk By lp : Nat} {a : Option Addr} {n cap k : Nat} {X Y : World} {own : Nat → Prop} (h : KB n₀ w0 Bt Bk By lp a n cap k X) (hz : n₀ ≤ X.heap.size) (hk : Keeps own X Y) (ho : ∀ q, own q → n₀ ≤ q ∧ q ≠ Bt ∧ q ≠ Bk ∧ q ≠ By) : KB n₀ w0 Bt Bk By lp a n cap k Y :=
  ⟨hk.cell (a := ⟨Bt, 0, none⟩) (fun e => (ho _ e).2.1 rfl) h.bt, hk.cell (a := ⟨Bk, 0, none⟩) (fun e => (ho _ e).2.2.1 rfl) h.bk, hk.cell (a := ⟨By, 0, none⟩) (fun e => (ho _ e).2.2.2 rfl) h.yb, h.old.keeps hz hk (fun q e => (ho q e).1)⟩

theorem grown_drewP {a b : World} {row : Option Nat} (h : a.grownBy b row) : a.grownBy b.drew row := ⟨h.os, h.tape, h.output, h.size, h.block⟩
def encP (x : Nat × Nat) : Array Value := #[.int .i64 (x.1 : Int), .int .i64 (x.2 : Int)]

theorem kthParts_in (f : Nat) (a : Option Addr) (n cap : Nat) (k : Int) (w : World) :
    CallsIn Fence.wide f Try.prog 135 #[.slice a n cap, .int .i64 k] w fun e w' => e = .returned (.func (.func 148) #[] #[.pointer (some ⟨w.heap.size, 0, none⟩), .pointer (some ⟨w.heap.size + 1, 0, none⟩)]) ∧ w' = (w.alloc (.cells #[.slice a n cap] 66)).alloc (.cells #[.int .i64 k] 3) := by
  refine callsIn_of_wp Try.func135 rfl trivial ?_ rfl
  simp only [Try.ntmps135, List.size_toArray, List.length_cons, List.length_nil, Nat.reduceAdd, Nat.reduceSub, Array.replicate_succ, Array.replicate_zero, List.push_toArray, List.append_toArray, List.nil_append, List.cons_append]
  gi_wp2
  go_ret
  exact ⟨rfl, by simp⟩

theorem flat_len (k m : Nat) (hm : m ≤ 6) : ∀ rs : List Nat, (rs.flatMap (prow k m)).length ≤ rs.length * 64
  | [] => by simp
  | r :: rs => by
    have h1 := flat_len k m hm rs
    have h2 := prow_len k m r
    have p : 2 ^ m ≤ 2 ^ 6 := Nat.pow_le_pow_right (by omega) hm
    rw [List.flatMap_cons, List.length_append, List.length_cons, Nat.succ_mul]
    omega
theorem flat_snoc (k m : Nat) (rs : List Nat) (r : Nat) : (rs ++ [r]).flatMap (prow k m) = rs.flatMap (prow k m) ++ prow k m r := by simp

set_option maxRecDepth 100000 in
set_option maxHeartbeats 2000000 in
theorem kth_seqE (f : Nat) (hf : 12 ≤ f) (Bt Bk n m cap k : Nat) (a : Option Addr) (l : List (List Int)) (w0 w : World) (hn : l.length = n) (hT : TabIn l) (hmm : (l.getD 0 []).length = m) (hm : MatR w0 a l) (hold : OldT w0.heap.size w0 w) (_hz0 : w0.heap.size ≤ w.heap.size) (hBt : w0.heap.size ≤ Bt) (hBk : w0.heap.size ≤ Bk) (ct : w.cell? ⟨Bt, 0, none⟩ = some (.slice a n cap)) (ck : w.cell? ⟨Bk, 0, none⟩ = some (.int .i64 (k : Int))) :
    SeqE Fence.wide f Try.prog 148 #[.pointer (some ⟨Bt, 0, none⟩), .pointer (some ⟨Bk, 0, none⟩)] encP (fun x _ => x ∈ partsK k n m) (fun q => q < w0.heap.size ∨ q = Bt ∨ q = Bk) (fun ys => ys = partsK k n m) (fun _ => True) 4096 w := by
  intro lp J Jx own W hW hown hJ hJx hY hj
  have h6 := hT.2.1
  have h1 := hT.1
  have hw := hT.width
  rw [hn] at h6 h1
  rw [hmm] at hw
  have lt := World.block_lt_of_cell? _ _ ct
  have lk := World.block_lt_of_cell? _ _ ck
  simp only at lt lk
  have c1 := (hW.cell (p := ⟨Bt, 0, none⟩) lt).trans ct
  have c2 := (hW.cell (p := ⟨Bk, 0, none⟩) lk).trans ck
  have hWz := hW.size
  have hOW : OldT w0.heap.size w0 W := fun q hq => (hW.block q (by omega)).trans (hold q hq)
  have hso : ∀ q, own q → w0.heap.size ≤ q ∧ q ≠ Bt ∧ q ≠ Bk ∧ q < W.heap.size := fun q hq => by
    obtain ⟨g1, g2⟩ := hown q hq
    exact ⟨by
      by_cases e : q < w0.heap.size
      · exact absurd (.inl e) g2
      · omega, fun e => g2 (.inr (.inl e)), fun e => g2 (.inr (.inr e)), g1⟩
  have EW := fun (V : World) (h : OldT w0.heap.size w0 V) => width_any a cap n l V hn (by omega) (by omega) (hm.oldT h)
  rw [hmm] at EW
  replace EW := Lib.hid EW
  have p6 : 2 ^ n ≤ 2 ^ 6 := Nat.pow_le_pow_right (by omega) h6
  have p6' : 2 ^ m ≤ 2 ^ 6 := Nat.pow_le_pow_right (by omega) hw.2
  clear hold ct ck hm hmm hT
  refine callsIn_of_wp_marks Try.func148 rfl trivial ?_ rfl
  simp only [Try.ntmps148, List.size_toArray, List.length_cons, List.length_nil, Nat.reduceAdd, Nat.reduceSub, Array.replicate_succ, Array.replicate_zero, List.push_toArray, List.append_toArray, List.nil_append, List.cons_append]
  have c1 : (W.alloc (.cells #[.func (.yield lp) #[] #[]] 54)).cell? ⟨Bt, 0, none⟩ = _ := cell_alloc_l _ c1
  have c2 : (W.alloc (.cells #[.func (.yield lp) #[] #[]] 54)).cell? ⟨Bk, 0, none⟩ = _ := cell_alloc_l _ c2
  have y0 : (W.alloc (.cells #[.func (.yield lp) #[] #[]] 54)).cell? ⟨W.heap.size, 0, none⟩ = _ := (cell_new_l W _ _).1
  gi_wp2_with (refine ⟨trivial, fun _ => by omega, ?_⟩; gi_at_call 149; refine (sets_in _ _ _ _).mono ?_; rintro e w' ⟨rfl, rfl⟩)
  have hbn := (cell_new_l (W.alloc (.cells #[.func (.yield lp) #[] #[]] 54)) (.int .i64 n) 3).1
  have c3 := cell_alloc_l (.cells #[.int .i64 (k : Int)] 3) (cell_alloc_l (.cells #[.int .i64 (n : Int)] 3) c1)
  have c4 := cell_alloc_l (.cells #[.int .i64 (k : Int)] 3) (cell_alloc_l (.cells #[.int .i64 (n : Int)] 3) c2)
  have y3 := cell_alloc_l (.cells #[.int .i64 (k : Int)] 3) (cell_alloc_l (.cells #[.int .i64 (n : Int)] 3) y0)
  have hbn := cell_alloc_l (.cells #[.int .i64 (k : Int)] 3) hbn
  have hbk := (cell_new_l ((W.alloc (.cells #[.func (.yield lp) #[] #[]] 54)).alloc (.cells #[.int .i64 (n : Int)] 3)) (.int .i64 (k : Int)) 3).1
  have hg2 := ((World.grownBy_alloc W (.cells #[.func (.yield lp) #[] #[]] 54) none).trans (World.grownBy_alloc _ (.cells #[.int .i64 (n : Int)] 3) none)).trans (World.grownBy_alloc _ (.cells #[.int .i64 (k : Int)] 3) none)
  have hjV := hJ.alloc (.cells #[.int .i64 (k : Int)] 3) (hJ.alloc (.cells #[.int .i64 (n : Int)] 3) (hJ.alloc (.cells #[.func (.yield lp) #[] #[]] 54) hj))
  have zV : (((W.alloc (.cells #[.func (.yield lp) #[] #[]] 54)).alloc (.cells #[.int .i64 (n : Int)] 3)).alloc (.cells #[.int .i64 (k : Int)] 3)).heap.size = W.heap.size + 3 := by simp
  simp only [World.size_alloc] at hbn hbk
  obtain ⟨V, hV⟩ : ∃ V, ((W.alloc (.cells #[.func (.yield lp) #[] #[]] 54)).alloc (.cells #[.int .i64 (n : Int)] 3)).alloc (.cells #[.int .i64 (k : Int)] 3) = V := ⟨_, rfl⟩
  rw [hV] at hbn hbk c3 c4 y3 hg2 hjV zV ⊢
  clear hV c1 c2 y0
  have hKV : KB w0.heap.size w0 Bt Bk W.heap.size lp a n cap k V := ⟨c3, c4, y3, hOW.grown (by omega) hg2 (fun r e => by cases e)⟩
  have hB : ∀ X : World, V.heap.size ≤ X.heap.size → w0.heap.size ≤ X.heap.size := fun X h => by omega
  have hBB : w0.heap.size ≤ V.heap.size ∧ Bt < V.heap.size ∧ Bk < V.heap.size ∧ W.heap.size < V.heap.size := by omega
  have hso4 : ∀ q, own q → w0.heap.size ≤ q ∧ q ≠ Bt ∧ q ≠ Bk ∧ q ≠ W.heap.size := fun q hq => by have := hso q hq; omega
  refine rangeF (F := Fence.wide) (n := f) rfl (by omega) (gf := 161) (lb := #[.pointer (some ⟨W.heap.size + 1, 0, none⟩), .pointer (some ⟨W.heap.size + 1 + 1, 0, none⟩)]) rfl trivial (enters_of Try.func161 (by kernel_rfl) rfl)
    (sets_seqE (f - 1) (by omega) (W.heap.size + 1) (W.heap.size + 1 + 1) n k (2 ^ n) h6 rfl V (by omega) (by omega) hbn hbk) (fun _ => rfl) own (fun q hq => ⟨by have := hso q hq; omega, by have := hso q hq; omega⟩) (by rintro q (rfl | rfl) <;> omega)
    (fun (rs : List Nat) X => J (rs.flatMap (prow k m)) X ∧ KB w0.heap.size w0 Bt Bk W.heap.size lp a n cap k X ∧ V.heap.size ≤ X.heap.size)
    (fun c _ X => c = .ret ∧ ∃ q, Jx q X)
    (fun rs X Y row hs hg hr => ⟨hJ _ X Y row hs.1 hg (fun r e => by have := hr r e; omega), hs.2.1.grown (hB _ hs.2.2) hBB hg hr, Nat.le_trans hs.2.2 hg.size⟩)
    (fun c rs X Y row hs hg hr => ⟨hs.1, by
      obtain ⟨q, hq⟩ := hs.2
      exact ⟨q, hJx _ X Y row hq hg (fun r e => by have := hr r e; omega)⟩⟩)
    ⟨hjV, hKV, Nat.le_refl _⟩
    (fun x a' X => ∃ Bx, V.heap.size ≤ Bx ∧ Boxed X Bx 3 (.int .i64 (x : Int)) ∧ a' = { tmps := #[.func (.yield lp) #[] #[], .pointer (some ⟨Bt, 0, none⟩), .pointer (some ⟨Bk, 0, none⟩), .pointer (some ⟨W.heap.size, 0, none⟩), .pointer (some ⟨Bx, 0, none⟩), undef, .slice a n cap, .int .i64 n, .int .i64 k, .func (.func 161) #[] #[.pointer (some ⟨W.heap.size + 1, 0, none⟩), .pointer (some ⟨W.heap.size + 1 + 1, 0, none⟩)], .int .i64 (x : Int), undef, undef, undef, undef, undef, undef, undef, undef, undef, undef], defers := [] })
    (fun x a' X lq o o' hA hl ho => by obtain ⟨Bx, e1, e2, e3⟩ := hA; exact ⟨Bx, e1, boxed_put e2 hl ho, e3⟩)
    ?assign ?body ?done ?stop
  case assign =>
    rintro lq rs x X K hzX hi _ hK
    gi_wp2
    exact hK _ _ (Keeps.grown (World.grownBy_alloc _ _ none) (fun r e => by cases e)) ⟨hJ.alloc _ hi.1, hi.2.1.grown (hB _ hi.2.2) hBB (World.grownBy_alloc _ _ none) (fun r e => by cases e), by rw [World.size_alloc]; have := hi.2.2; omega⟩ ⟨X.heap.size, hi.2.2, Boxed.new X 3 _, rfl⟩
  case body =>
    rintro lq rs x a' X hlq hzX ⟨r, hr⟩ ⟨hjx, hKX, _⟩ ⟨hxl, hxk⟩ ⟨Bx, hBx, bX, rfl⟩ hlen
    have hmix : Try.prog.follows .mixedOrders = true := by kernel_rfl
    have cT : X.drew.cell? ⟨Bt, 0, none⟩ = _ := hKX.bt
    have cK : X.drew.cell? ⟨Bk, 0, none⟩ = _ := hKX.bk
    have hbx := bX.lt
    have HKX := Lib.hid hKX
    gi_wp2
    gi_region_with_o (first
      | (refine ⟨trivial, fun _ => by omega, ?_⟩; gi_at_call 68; refine (CallsIn.inRound lq (callsIn_wide.2 (EW.out X.drew HKX.out.old))).mono ?_; rintro e w' ⟨rfl, rfl⟩)
      | (refine ⟨trivial, fun _ => by omega, ?_⟩; gi_at_call 149; refine (CallsIn.inRound lq (sets_in _ _ _ _)).mono ?_; rintro e w' ⟨rfl, rfl⟩))
    all_goals
      gi_wp2
      have hgV : X.grownBy ((X.alloc (.cells #[.int .i64 (m : Int)] 3)).alloc (.cells #[.int .i64 (k : Int)] 3)).drew none := grown_drewP ((World.grownBy_alloc X (.cells #[.int .i64 (m : Int)] 3) none).trans (World.grownBy_alloc _ (.cells #[.int .i64 (k : Int)] 3) none))
      have bN2 : ((X.alloc (.cells #[.int .i64 (m : Int)] 3)).alloc (.cells #[.int .i64 (k : Int)] 3)).drew.cell? ⟨X.heap.size, 0, none⟩ = some (.int .i64 (m : Int)) := cell_alloc_l (.cells #[.int .i64 (k : Int)] 3) (cell_new_l X (.int .i64 (m : Int)) 3).1
      have bK2 : ((X.alloc (.cells #[.int .i64 (m : Int)] 3)).alloc (.cells #[.int .i64 (k : Int)] 3)).drew.cell? ⟨X.heap.size + 1, 0, none⟩ = some (.int .i64 (k : Int)) := by
        have := (cell_new_l (X.alloc (.cells #[.int .i64 (m : Int)] 3)) (.int .i64 (k : Int)) 3).1
        rw [World.size_alloc] at this
        exact this
      have zX : ((X.alloc (.cells #[.int .i64 (m : Int)] 3)).alloc (.cells #[.int .i64 (k : Int)] 3)).drew.heap.size = X.heap.size + 2 := by
        show ((X.alloc (.cells #[.int .i64 (m : Int)] 3)).alloc (.cells #[.int .i64 (k : Int)] 3)).heap.size = _
        simp
      obtain ⟨U, hU⟩ : ∃ U, ((X.alloc (.cells #[.int .i64 (m : Int)] 3)).alloc (.cells #[.int .i64 (k : Int)] 3)).drew = U := ⟨_, rfl⟩
      rw [hU] at bN2 bK2 hgV zX ⊢
      clear hU cT cK
      have hrU : U.heap[lq]? = some (.loop r) := (hgV.block lq (Array.getElem?_eq_some_iff.1 hr).1 (by simp)).trans hr
      have hKU := hKX.grown (hB _ hzX) hBB hgV (fun r e => by cases e)
      have hBU : w0.heap.size ≤ U.heap.size ∧ Bt < U.heap.size ∧ Bk < U.heap.size ∧ W.heap.size < U.heap.size := by omega
      have hfl := flat_len k m hw.2 rs
      refine rangeN (F := Fence.wide.inRound lq) (n := f - 1 - 1) (l₀ := lq) (r₀ := r) rfl hrU (by omega) (gf := 161) (lb := #[.pointer (some ⟨X.heap.size, 0, none⟩), .pointer (some ⟨X.heap.size + 1, 0, none⟩)]) rfl trivial (enters_of Try.func161 (by kernel_rfl) rfl)
        (SeqE.inRound lq (sets_seqE (f - 1 - 1 - 1) (by omega) X.heap.size (X.heap.size + 1) m k (2 ^ m) hw.2 rfl U (by omega) (by omega) bN2 bK2)) (fun _ => rfl) own (fun q hq => ⟨by have := hso q hq; omega, by have := hso q hq; omega⟩) (by rintro q (rfl | rfl) <;> omega)
        (fun (cs : List Nat) Y => (J (rs.flatMap (prow k m) ++ cs.map (fun c => (x, c))) Y ∧ KB w0.heap.size w0 Bt Bk W.heap.size lp a n cap k Y ∧ Boxed Y Bx 3 (.int .i64 (x : Int))) ∧ Keeps own X Y ∧ U.heap.size ≤ Y.heap.size)
        (fun c _ Y => c = .ret ∧ (∃ q, Jx q Y) ∧ Keeps own X Y)
        (fun cs Y Z row hs hg hr => ⟨⟨hJ _ Y Z row hs.1.1 hg (fun r e => by have := hr r e; omega), hs.1.2.1.grown (by have := hs.2.2; omega) hBU hg hr, hs.1.2.2.kept hg (fun e => by have := hr _ e.symm; omega)⟩, hs.2.1.fromB hg (fun r e => by have := hr r e; omega), Nat.le_trans hs.2.2 hg.size⟩)
        (fun c cs Y Z row hs hg hr => ⟨hs.1, by
          obtain ⟨q, hq⟩ := hs.2.1
          exact ⟨q, hJx _ Y Z row hq hg (fun r e => by have := hr r e; omega)⟩, hs.2.2.fromB hg (fun r e => by have := hr r e; omega)⟩)
        ⟨⟨by rw [List.map_nil, List.append_nil]; exact hJ _ X U none hjx hgV (fun r e => by cases e), hKU, bX.kept hgV (by simp)⟩, Keeps.grown hgV (fun r e => by cases e), Nat.le_refl _⟩
        (fun y a'' _ => a'' = { tmps := #[.func (.yield lp) #[] #[], .pointer (some ⟨Bt, 0, none⟩), .pointer (some ⟨Bk, 0, none⟩), .pointer (some ⟨W.heap.size, 0, none⟩), .pointer (some ⟨Bx, 0, none⟩), .int .i64 (y : Int), .slice a n cap, .int .i64 n, .int .i64 k, .func (.func 161) #[] #[.pointer (some ⟨W.heap.size + 1, 0, none⟩), .pointer (some ⟨W.heap.size + 1 + 1, 0, none⟩)], .int .i64 (x : Int), .slice a n cap, .int .i64 m, .int .i64 k, .func (.func 161) #[] #[.pointer (some ⟨X.heap.size, 0, none⟩), .pointer (some ⟨X.heap.size + 1, 0, none⟩)], .int .i64 (y : Int), undef, undef, undef, undef, undef], defers := [] })
        (fun _ _ _ _ _ _ hA _ _ => hA)
        ?assign2 ?body2 ?done2 ?stop2
      case assign2 =>
        rintro l3 cs y Y K _ hi _ hK
        gi_wp2
        exact hK _ _ (Keeps.refl _ _) hi rfl
      case body2 =>
        rintro l3 cs y a'' Y hl3 hzY _ ⟨⟨hjy, hKY, bY⟩, hkY, _⟩ ⟨hyl, hyk⟩ rfl hlen2
        have cX := bY.cell
        have cY := hKY.yb
        have hl4 : (rs.flatMap (prow k m) ++ cs.map (fun c => (x, c))).length < 4096 := by
          rw [List.length_append, List.length_map]
          have : rs.length * 64 ≤ 63 * 64 := Nat.mul_le_mul_right 64 (by omega)
          omega
        obtain ⟨fn, tmps, assign, body, hy, hR⟩ := yieldAt_any (m' := f - 1 - 1 - 1 - 1 - 1) (hY _ (x, y) Y hjy (partsK_mem.2 ⟨⟨hxl, hxk⟩, hyl, hyk⟩) hl4)
        dsimp only [encP] at hy
        have HKEEP := Lib.hid (show ∀ Z, Keeps own Y Z → Keeps own X Z ∧ KB w0.heap.size w0 Bt Bk W.heap.size lp a n cap k Z ∧ Boxed Z Bx 3 (.int .i64 (x : Int)) ∧ U.heap.size ≤ Z.heap.size from fun Z hk =>
          ⟨hkY.trans hk, hKY.keeps (by omega) hk hso4, hk.same _ _ (fun h => by have := hso _ h; omega) bY, by have := hk.size; omega⟩)
        clear hjy hKY bY hkY
        gi_wp2
        refine ⟨fun h => by omega, ?_⟩
        refine RoundIn.mono (F := (Fence.wide.inRound lq).inRound l3) hR ?_
        rintro e W3 (⟨rfl, hJ3, hk3⟩ | ⟨rfl, hx3, hk3⟩)
        · obtain ⟨q1, q2, q3, q4⟩ := HKEEP.out _ hk3
          gi_wp2
          exact ⟨hk3, ⟨⟨by rw [List.map_append, ← List.append_assoc]; exact hJ3, q2, q3⟩, q1, q4⟩⟩
        · obtain ⟨q1, q2, q3, q4⟩ := HKEEP.out _ hk3
          gi_wp2
          exact ⟨hk3, rfl, ⟨_, hx3⟩, q1⟩
      case done2 =>
        rintro cs Y rfl ⟨⟨hjy, hKY, bY⟩, hkY, hzY⟩
        gi_wp2
        exact ⟨hkY, by rw [flat_snoc]; exact hjy, hKY, by omega⟩
      case stop2 =>
        rintro c cs Y _ ⟨rfl, hq, hkY⟩
        gi_wp2
        exact ⟨hkY, rfl, hq⟩
  case done =>
    rintro D rs X hD hS ⟨hjx, _, _⟩ hK
    subst hS
    have hjz := hJ.put (.deferred none) hjx (show W.heap.size ≤ D by omega)
    gi_wp2
    show LeavesInM _ _ _ _ _ _ _ _ _
    refine ⟨by simp, .inl ⟨_, _, rfl, run_takeDeferred hK, ?_⟩⟩
    refine ⟨.tuple #[], ?_, ⟨_, rfl⟩, .inl ⟨_, rfl, hjz⟩⟩
    simp [results, Try.f148, go_sem]
  case stop =>
    rintro D c rs X hD _ ⟨rfl, q, hq⟩ hK
    have hjz := hJx.put (.deferred none) hq (show W.heap.size ≤ D by omega)
    gi_wp2
    show LeavesInM _ _ _ _ _ _ _ _ _
    refine ⟨by simp, .inl ⟨_, _, rfl, run_takeDeferred hK, ?_⟩⟩
    refine ⟨.tuple #[], ?_, ⟨_, rfl⟩, .inr ⟨q, trivial, hjz⟩⟩
    simp [results, Try.f148, go_sem]

end Go.Proofs.Ytbclpbgomkfabaa
end

section
namespace Go.Proofs.Ytbclpbgomkfabaa
open Go.RowKit Go.Deep Go.Shelf
attribute [local go_sem] Oper.semAt_some

set_option maxHeartbeats 400000 in
theorem hasKth_any (a : Option Addr) (cap n m k : Nat) (l : List (List Int)) (w : World) (hn : l.length = n) (hT : TabIn l) (hmm : (l.getD 0 []).length = m) (hm : MatR w a l) :
    Calls Try.prog 140 #[.slice a n cap, .int .i64 k] w fun e w' => e = .returned (.bool (inB k 0 (min n m : Nat))) ∧ w = w' := by
  have h6 := hT.2.1
  have h1 := hT.1
  rw [hn] at h6 h1
  have EW := width_any a cap n l w hn (by omega) (by omega) hm
  rw [hmm] at EW
  have EI := Lib.hid (fun x => inRange_any k 0 x w)
  replace EW := Lib.hid EW
  clear hn hT hmm hm
  have hmi : ((min n m : Nat) : Int) = min (n : Int) (m : Int) := by omega
  rw [hmi]
  go_enter Try.func140, Try.ntmps140
  go_wp2_with fail
  refine (EW.out).mono ?_
  rintro e w2 ⟨rfl, rfl⟩
  go_wp2_with fail
  all_goals
    refine (EI.out _).mono ?_
    rintro e w3 ⟨rfl, rfl⟩
    go_wp2
    go_ret
    first
      | (have e : min (n : Int) (m : Int) = m := by omega
         rw [e]; exact ⟨rfl, rfl⟩)
      | (have e : min (n : Int) (m : Int) = n := by omega
         rw [e]; exact ⟨rfl, rfl⟩)

def mkD (Ds : List Nat) : List Deferred := Ds.map fun D => { target := .collected D, args := #[] }
def MK (B C : Nat) (Ds : List Nat) (W : World) : Prop := Ds.Nodup ∧ ∀ D ∈ Ds, B ≤ D ∧ D < C ∧ W.heap[D]? = some (.deferred (some []))
theorem MK.grown {B C : Nat} {Ds : List Nat} {X Y : World} {row : Option Nat} (h : MK B C Ds X) (hg : X.grownBy Y row) (hr : ∀ r, row = some r → C ≤ r) : MK B C Ds Y :=
  ⟨h.1, fun D hD => by
    obtain ⟨h1, h2, h3⟩ := h.2 D hD
    exact ⟨h1, h2, (hg.block D (Array.getElem?_eq_some_iff.1 h3).1 (fun e => by have := hr D e.symm; omega)).trans h3⟩⟩
theorem MK.keeps {B C : Nat} {Ds : List Nat} {X Y : World} {own : Nat → Prop} (h : MK B C Ds X) (hk : Keeps own X Y) (ho : ∀ q, own q → q < B) : MK B C Ds Y :=
  ⟨h.1, fun D hD => by
    obtain ⟨h1, h2, h3⟩ := h.2 D hD
    exact ⟨h1, h2, hk.same D _ (fun e => by have := ho D e; omega) h3⟩⟩
theorem MK.mono {B C C' : Nat} {Ds : List Nat} {X : World} (h : MK B C Ds X) (hc : C ≤ C') : MK B C' Ds X := ⟨h.1, fun D hD => by
  obtain ⟨h1, h2, h3⟩ := h.2 D hD
  exact ⟨h1, by omega, h3⟩⟩
theorem MK.cons {B C C' D : Nat} {Ds : List Nat} {X : World} (h : MK B C Ds X) (hB : B ≤ C) (hD : C ≤ D) (hD2 : D < C') (hK : X.heap[D]? = some (.deferred (some []))) : MK B C' (D :: Ds) X :=
  ⟨List.nodup_cons.2 ⟨fun e => by have := (h.2 D e).2.1; omega, h.1⟩, fun E hE => by
    rcases List.mem_cons.1 hE with e | e
    · subst e; exact ⟨by omega, hD2, hK⟩
    · obtain ⟨h1, h2, h3⟩ := h.2 E e
      exact ⟨h1, by omega, h3⟩⟩
theorem leaves_marks {F : Fence} {n : Nat} {P : Program} {fn : Func} {tmps : Array Value} {R : Ending → World → Prop} {B C : Nat} (T : World → Prop) (hT : ∀ X D, T X → B ≤ D → T (X.putObj D (.deferred none))) (hfin : ∀ X, T X → LeavesIn F n P fn tmps R [] .returning X) :
    ∀ (Ds : List Nat) (W : World), MK B C Ds W → T W → LeavesInM F n P fn tmps R (mkD Ds) .returning W
  | [], W, _, h => hfin W h
  | D :: Ds, W, hm, h => by
    obtain ⟨h1, h2⟩ := hm
    rw [List.nodup_cons] at h1
    obtain ⟨g1, _, g2⟩ := h2 D (by simp)
    refine ⟨by simp, .inl ⟨_, _, rfl, run_takeDeferred g2, ?_⟩⟩
    refine leaves_marks (C := C) T hT hfin Ds _ (⟨h1.2, fun E hE => ?_⟩ : MK B C Ds _) (hT _ _ h g1)
    obtain ⟨q1, q3, q2⟩ := h2 E (by simp [hE])
    exact ⟨q1, q3, (World.putObj_heap_other (fun e => h1.1 (by first | exact e ▸ hE | (subst e; exact hE)))).trans q2⟩
structure AB (n₀ : Nat) (w0 : World) (Bt By lp : Nat) (a : Option Addr) (n cap : Nat) (X : World) : Prop where
  bt : X.cell? ⟨Bt, 0, none⟩ = some (.slice a n cap)
  yb : X.cell? ⟨By, 0, none⟩ = some (.func (.yield lp) #[] #[])
  old : OldT n₀ w0 X
theorem AB.grown {n₀ : Nat} {w0 : World} {Bt By lp : Nat} {a : Option Addr} {n cap : Nat} {X Y : World} {row : Option Nat} {B : Nat} (h : AB n₀ w0 Bt By lp a n cap X) (hz : n₀ ≤ X.heap.size) (h1 : n₀ ≤ B ∧ Bt < B ∧ By < B) (hg : X.grownBy Y row) (hr : ∀ r, row = some r → B ≤ r) : AB n₀ w0 Bt By lp a n cap Y :=
  ⟨cell_own h.bt h1.2.1 hg hr, cell_own h.yb h1.2.2 hg hr, h.old.grown hz hg (fun r e => by have := hr r e; omega)⟩
theorem AB.keeps {n₀ : Nat} {w0 : World} {Bt By lp : Nat} {a : Option Addr} {n cap : Nat} {X Y : World} {own : Nat → Prop} (h : AB n₀ w0 Bt By lp a n cap X) (hz : n₀ ≤ X.heap.size) (hk : Keeps own X Y) (ho : ∀ q, own q → n₀ ≤ q ∧ q ≠ Bt ∧ q ≠ By) : AB n₀ w0 Bt By lp a n cap Y :=
  ⟨hk.cell (a := ⟨Bt, 0, none⟩) (fun e => (ho _ e).2.1 rfl) h.bt, hk.cell (a := ⟨By, 0, none⟩) (fun e => (ho _ e).2.2 rfl) h.yb, h.old.keeps hz hk (fun q e => (ho q e).1)⟩

theorem partsTo_len {n m : Nat} (h6 : n ≤ 6) (hm : m ≤ 6) : ∀ j, (partsTo n m j).length ≤ j * 4096
  | 0 => by simp [partsTo]
  | j + 1 => by
    have h1 := partsTo_len h6 hm j
    have h2 := flat_len (j + 1) m hm (setsTo (j + 1) (2 ^ n))
    have h3 := setsTo_len (j + 1) (2 ^ n)
    have p : 2 ^ n ≤ 2 ^ 6 := Nat.pow_le_pow_right (by omega) h6
    have h4 : (setsTo (j + 1) (2 ^ n)).length * 64 ≤ 64 * 64 := Nat.mul_le_mul_right 64 (by omega)
    show (partsTo n m j ++ partsK (j + 1) n m).length ≤ _
    rw [List.length_append]
    have e : (partsK (j + 1) n m).length = ((setsTo (j + 1) (2 ^ n)).flatMap (prow (j + 1) m)).length := rfl
    omega

set_option maxRecDepth 100000 in
set_option maxHeartbeats 2000000 in
theorem all_seqE (f : Nat) (hf : 16 ≤ f) (Bt n m cap : Nat) (a : Option Addr) (l : List (List Int)) (w0 w : World) (hn : l.length = n) (hT : TabIn l) (hmm : (l.getD 0 []).length = m) (hm : MatR w0 a l) (hold : OldT w0.heap.size w0 w) (_hz0 : w0.heap.size ≤ w.heap.size) (hBt : w0.heap.size ≤ Bt) (ct : w.cell? ⟨Bt, 0, none⟩ = some (.slice a n cap)) :
    SeqE Fence.wide f Try.prog 139 #[.pointer (some ⟨Bt, 0, none⟩)] encP (fun x _ => x ∈ partsA n m) (fun q => q < w0.heap.size ∨ q = Bt) (fun ys => ys = partsA n m) (fun _ => True) 32768 w := by
  intro lp J Jx own W hW hown hJ hJx hY hj
  have h6 := hT.2.1
  have h1 := hT.1
  have hw := hT.width
  rw [hn] at h6 h1
  rw [hmm] at hw
  have lt := World.block_lt_of_cell? _ _ ct
  simp only at lt
  have c1 := (hW.cell (p := ⟨Bt, 0, none⟩) lt).trans ct
  have hWz := hW.size
  have hOW : OldT w0.heap.size w0 W := fun q hq => (hW.block q (by omega)).trans (hold q hq)
  have hso : ∀ q, own q → w0.heap.size ≤ q ∧ q ≠ Bt ∧ q < W.heap.size := fun q hq => by
    obtain ⟨g1, g2⟩ := hown q hq
    exact ⟨by
      by_cases e : q < w0.heap.size
      · exact absurd (.inl e) g2
      · omega, fun e => g2 (.inr e), g1⟩
  have EK := Lib.hid (fun (k : Nat) (V : World) (h : OldT w0.heap.size w0 V) => hasKth_any a cap n m k l V hn hT hmm (hm.oldT h))
  have HSEQ := Lib.hid (fun (g : Nat) (hg : 12 ≤ g) (Bt' Bk' k : Nat) (V : World) => kth_seqE g hg Bt' Bk' n m cap k a l w0 V hn hT hmm hm)
  clear hold ct hm hmm hT hn
  refine callsIn_of_wp_marks Try.func139 rfl trivial ?_ rfl
  simp only [Try.ntmps139, List.size_toArray, List.length_cons, List.length_nil, Nat.reduceAdd, Nat.reduceSub, Array.replicate_succ, Array.replicate_zero, List.push_toArray, List.append_toArray, List.nil_append, List.cons_append]
  have c2 : (W.alloc (.cells #[.func (.yield lp) #[] #[]] 54)).cell? ⟨Bt, 0, none⟩ = _ := cell_alloc_l _ c1
  have y0 : (W.alloc (.cells #[.func (.yield lp) #[] #[]] 54)).cell? ⟨W.heap.size, 0, none⟩ = _ := (cell_new_l W _ _).1
  have hg1 := World.grownBy_alloc W (.cells #[.func (.yield lp) #[] #[]] 54) none
  have hA1 : AB w0.heap.size w0 Bt W.heap.size lp a n cap (W.alloc (.cells #[.func (.yield lp) #[] #[]] 54)) := ⟨c2, y0, hOW.grown (by omega) hg1 (fun r e => by cases e)⟩
  have hj1 := hJ.alloc (.cells #[.func (.yield lp) #[] #[]] 54) hj
  have hso3 : ∀ q, own q → w0.heap.size ≤ q ∧ q ≠ Bt ∧ q ≠ W.heap.size := fun q hq => by have := hso q hq; omega
  gi_wp2
  refine wpIn_loop (fun a' X => ∃ (j : Nat) (Ds : List Nat) (u6 u7 u8 u9 u10 u11 u12 u13 : Value), 1 ≤ j ∧ j ≤ min n m + 1 ∧ a' = { tmps := #[.func (.yield lp) #[] #[], .pointer (some ⟨Bt, 0, none⟩), .pointer (some ⟨W.heap.size, 0, none⟩), .int .i64 (j : Int), undef, undef, u6, u7, u8, u9, u10, u11, u12, u13, undef, undef, undef, undef, undef, undef, undef], defers := mkD Ds } ∧ J (partsTo n m (j - 1)) X ∧ AB w0.heap.size w0 Bt W.heap.size lp a n cap X ∧ MK W.heap.size X.heap.size Ds X ∧ W.heap.size + 1 ≤ X.heap.size)
    (fun a' _ => 8 - (intOf (a'.tmps.getD 3 undef)).toNat) ⟨1, [], _, _, _, _, _, _, _, _, Nat.le_refl _, by omega, rfl, hj1, hA1, ⟨List.nodup_nil, fun D hD => by cases hD⟩, by simp⟩ ?_
  rintro a' X ⟨j, Ds, u6, u7, u8, u9, u10, u11, u12, u13, hj1', hj2, rfl, hjx, hAX, hMK, hzX⟩
  have EKj := Lib.hid (EK.out j X hAX.old)
  have cT := hAX.bt
  by_cases hjm : j ≤ min n m
  · have hin : inB (j : Int) 0 (min n m : Nat) = true := by simp [inB]; omega
    rw [hin] at EKj
    gi_wp2_with (first
      | (refine ⟨trivial, fun _ => by omega, ?_⟩; gi_at_call 140; refine (callsIn_wide.2 EKj.out).mono ?_; rintro e w' ⟨rfl, rfl⟩)
      | (refine ⟨trivial, fun _ => by omega, ?_⟩; gi_at_call 135; refine (kthParts_in _ _ _ _ _ _).mono ?_; rintro e w' ⟨rfl, rfl⟩))
    have hg2 := (World.grownBy_alloc X (.cells #[.slice a n cap] 66) none).trans (World.grownBy_alloc _ (.cells #[.int .i64 (j : Int)] 3) none)
    have bt2 : ((X.alloc (.cells #[.slice a n cap] 66)).alloc (.cells #[.int .i64 (j : Int)] 3)).cell? ⟨X.heap.size, 0, none⟩ = some (.slice a n cap) := cell_alloc_l _ (cell_new_l X _ _).1
    have bk2 : ((X.alloc (.cells #[.slice a n cap] 66)).alloc (.cells #[.int .i64 (j : Int)] 3)).cell? ⟨X.heap.size + 1, 0, none⟩ = some (.int .i64 (j : Int)) := by
      have := (cell_new_l (X.alloc (.cells #[.slice a n cap] 66)) (.int .i64 (j : Int)) 3).1
      rw [World.size_alloc] at this
      exact this
    have zV : ((X.alloc (.cells #[.slice a n cap] 66)).alloc (.cells #[.int .i64 (j : Int)] 3)).heap.size = X.heap.size + 2 := by simp
    obtain ⟨V, hV⟩ : ∃ V, (X.alloc (.cells #[.slice a n cap] 66)).alloc (.cells #[.int .i64 (j : Int)] 3) = V := ⟨_, rfl⟩
    rw [hV] at hg2 bt2 bk2 zV ⊢
    clear hV
    have hBX : w0.heap.size ≤ X.heap.size ∧ Bt < X.heap.size ∧ W.heap.size < X.heap.size := by omega
    have hAV := hAX.grown (by omega) hBX hg2 (fun r e => by cases e)
    have hMV := hMK.grown hg2 (fun r e => by cases e)
    have hpl := partsTo_len h6 hw.2 (j - 1)
    refine rangeF (F := Fence.wide) (n := f) rfl (by omega) (gf := 148) (lb := #[.pointer (some ⟨X.heap.size, 0, none⟩), .pointer (some ⟨X.heap.size + 1, 0, none⟩)]) rfl trivial (enters_of Try.func148 (by kernel_rfl) rfl)
      (HSEQ.out (f - 1) (by omega) X.heap.size (X.heap.size + 1) j V hAV.old (by omega) (by omega) (by omega) bt2 bk2) (fun _ => rfl) own (fun q hq => ⟨by have := hso q hq; omega, by have := hso q hq; omega⟩) (fun q hq => by omega)
      (fun (ps : List (Nat × Nat)) Y => (J (partsTo n m (j - 1) ++ ps) Y ∧ AB w0.heap.size w0 Bt W.heap.size lp a n cap Y ∧ MK W.heap.size X.heap.size Ds Y) ∧ V.heap.size ≤ Y.heap.size)
      (fun c _ Y => c = .ret ∧ (∃ q, Jx q Y) ∧ MK W.heap.size X.heap.size Ds Y)
      (fun ps Y Z row hs hg hr => ⟨⟨hJ _ Y Z row hs.1.1 hg (fun r e => by have := hr r e; omega), hs.1.2.1.grown (by have := hs.2; omega) hBX hg (fun r e => by have := hr r e; omega), hs.1.2.2.grown hg (fun r e => by have := hr r e; omega)⟩, Nat.le_trans hs.2 hg.size⟩)
      (fun c ps Y Z row hs hg hr => ⟨hs.1, by
        obtain ⟨q, hq⟩ := hs.2.1
        exact ⟨q, hJx _ Y Z row hq hg (fun r e => by have := hr r e; omega)⟩, hs.2.2.grown hg (fun r e => by have := hr r e; omega)⟩)
      ⟨⟨by rw [List.append_nil]; exact hJ _ X V none hjx hg2 (fun r e => by cases e), hAV, hMV⟩, Nat.le_refl _⟩
      (fun x a'' _ => a'' = { tmps := #[.func (.yield lp) #[] #[], .pointer (some ⟨Bt, 0, none⟩), .pointer (some ⟨W.heap.size, 0, none⟩), .int .i64 (j : Int), .int .i64 (x.1 : Int), .int .i64 (x.2 : Int), .slice a n cap, .int .i64 (j : Int), .bool true, u9, u10, .slice a n cap, .int .i64 (j : Int), .func (.func 148) #[] #[.pointer (some ⟨X.heap.size, 0, none⟩), .pointer (some ⟨X.heap.size + 1, 0, none⟩)], .int .i64 (x.1 : Int), .int .i64 (x.2 : Int), undef, undef, undef, undef, undef], defers := [] })
      (fun _ _ _ _ _ _ hA _ _ => hA)
      ?assign ?body ?done ?stop
    case assign =>
      rintro lq ps x Y K _ hi _ hK
      simp only [encP]
      gi_wp2
      exact hK _ _ (Keeps.refl _ _) hi rfl
    case body =>
      rintro lq ps x a'' Y hlq hzY _ ⟨⟨hjy, hAY, hMY⟩, _⟩ hpx rfl hlen
      have cY := hAY.yb
      have hxA : x ∈ partsA n m := by
        obtain ⟨⟨g1, g2⟩, g3, g4⟩ := partsK_mem.1 hpx
        exact (partsTo_mem _).2 ⟨by omega, by omega, by omega, g1, g3⟩
      have hl4 : (partsTo n m (j - 1) ++ ps).length < 32768 := by
        rw [List.length_append]
        omega
      obtain ⟨fn, tmps, assign, body, hy, hR⟩ := yieldAt_any (m' := f - 1 - 1 - 1) (hY _ x Y hjy hxA hl4)
      dsimp only [encP] at hy
      have HKEEP := Lib.hid (show ∀ Z, Keeps own Y Z → AB w0.heap.size w0 Bt W.heap.size lp a n cap Z ∧ MK W.heap.size X.heap.size Ds Z ∧ V.heap.size ≤ Z.heap.size from fun Z hk =>
        ⟨hAY.keeps (by omega) hk hso3, hMY.keeps hk (fun q hq => (hso q hq).2.2), by have := hk.size; omega⟩)
      clear hjy hAY hMY hxA
      obtain ⟨x1, x2⟩ := x
      simp only at hy hR ⊢
      gi_wp2
      refine ⟨fun h => by omega, ?_⟩
      refine RoundIn.mono (F := Fence.wide.inRound lq) hR ?_
      rintro e W3 (⟨rfl, hJ3, hk3⟩ | ⟨rfl, hx3, hk3⟩)
      · obtain ⟨q1, q2, q3⟩ := HKEEP.out _ hk3
        gi_wp2
        exact ⟨hk3, ⟨by rw [← List.append_assoc]; exact hJ3, q1, q2⟩, q3⟩
      · obtain ⟨q1, q2, q3⟩ := HKEEP.out _ hk3
        gi_wp2
        exact ⟨hk3, rfl, ⟨_, hx3⟩, q2⟩
    case done =>
      rintro D ps Y hD rfl ⟨⟨hjy, hAY, hMY⟩, hzY⟩ hK
      have hDY := (Array.getElem?_eq_some_iff.1 hK).1
      have hMC := hMY.cons (C' := Y.heap.size) (by omega) (by omega) hDY hK
      have hwj : IntKind.i64.wrap ((j : Int) + 1) = ((j + 1 : Nat) : Int) := by rw [IntWalk.i64_in _ ⟨by omega, by omega⟩]; omega
      have hnext : partsTo n m j = partsTo n m (j - 1) ++ partsK j n m := by
        obtain ⟨i, rfl⟩ : ∃ i, j = i + 1 := ⟨j - 1, by omega⟩
        rfl
      gi_wp2
      exact ⟨⟨j + 1, D :: Ds, _, _, _, _, _, _, _, _, by omega, by omega, rfl, by rw [Nat.add_sub_cancel, hnext]; exact hjy, hAY, hMC, by omega⟩, by simp [intOf]; omega⟩
    case stop =>
      rintro D c ps Y hD _ ⟨rfl, ⟨q, hq⟩, hMY⟩ hK
      have hDY := (Array.getElem?_eq_some_iff.1 hK).1
      have hMC := hMY.cons (C' := Y.heap.size) (by omega) (by omega) hDY hK
      gi_wp2
      refine leaves_marks (B := W.heap.size) (fun Z => Jx q Z) (fun Z E h hE => hJx.put _ h hE) (fun Z h => ?_) (D :: Ds) Y hMC hq
      refine ⟨.tuple #[], ?_, ⟨_, rfl⟩, .inr ⟨q, trivial, h⟩⟩
      simp [results, Try.f139, go_sem]
  · have hin : inB (j : Int) 0 (min n m : Nat) = false := by simp [inB]; omega
    rw [hin] at EKj
    obtain rfl : j = min n m + 1 := by omega
    gi_wp2_with (refine ⟨trivial, fun _ => by omega, ?_⟩; gi_at_call 140; refine (callsIn_wide.2 EKj.out).mono ?_; rintro e w' ⟨rfl, rfl⟩)
    refine leaves_marks (B := W.heap.size) (fun Z => J (partsA n m) Z) (fun Z E h hE => hJ.put _ h hE) (fun Z h => ?_) Ds _ hMK hjx
    refine ⟨.tuple #[], ?_, ⟨_, rfl⟩, .inl ⟨_, rfl, h⟩⟩
    simp [results, Try.f139, go_sem]

end Go.Proofs.Ytbclpbgomkfabaa
end

section
namespace Go.Proofs.Ytbclpbgomkfabaa
open Go.RowKit Go.Deep Go.Shelf

attribute [local go_sem] Oper.semAt_some

def hasR (l : List (List Int)) (k M2 : Nat) (r : Nat) : Bool := (setsTo k M2).any fun c => decide (dt k (at2 (partL l r c)) ≠ 0)
def hasB (l : List (List Int)) (k M1 M2 : Nat) : Bool := (setsTo k M1).any (hasR l k M2)
theorem hasB_yes {l : List (List Int)} {k n m : Nat} {x : Nat × Nat} (hx : x ∈ partsK k n m) (h : mnP l x ≠ 0) : hasB l k (2 ^ n) (2 ^ m) = true := by
  obtain ⟨⟨g1, g2⟩, g3⟩ := partsK_mem.1 hx
  refine List.any_eq_true.2 ⟨x.1, (setsTo_mem k).2 ⟨g1, g2⟩, List.any_eq_true.2 ⟨x.2, (setsTo_mem k).2 g3, ?_⟩⟩
  unfold mnP at h
  rw [g2] at h
  simpa using h
theorem hasB_no {l : List (List Int)} {k n m : Nat} (h : ∀ x ∈ partsK k n m, mnP l x = 0) : hasB l k (2 ^ n) (2 ^ m) = false := by
  cases e : hasB l k (2 ^ n) (2 ^ m) with
  | false => rfl
  | true =>
    obtain ⟨r, hr, e2⟩ := List.any_eq_true.1 e
    obtain ⟨c, hc, e3⟩ := List.any_eq_true.1 e2
    have g1 := (setsTo_mem k).1 hr
    have g2 := (setsTo_mem k).1 hc
    have := h (r, c) (partsK_mem.2 ⟨g1, g2⟩)
    unfold mnP at this
    rw [show popcS (r, c).1 = k from g1.2] at this
    exact absurd this (of_decide_eq_true e3)

theorem oldT_since {w W : World} (h : w.Since w.heap.size W) : OldT w.heap.size w W := fun k hk => h.block k hk
theorem grownSH {w w' : World} (h : w.Since w.heap.size w') : w.grownBy w' none := ⟨h.os, h.tape, h.output, h.size, fun k hk _ => h.block k hk⟩
structure HS (w : World) (tv : Value) (W : World) : Prop where
  bt : Boxed W w.heap.size 66 tv
  br : Boxed W (w.heap.size + 1) 4 (.bool false)
  sn : w.Since w.heap.size W
theorem since_row {lo : Nat} {w W W' : World} {row : Option Nat} (h : w.Since lo W) (hlo : lo ≤ w.heap.size) (hg : W.grownBy W' row) (hr : ∀ r, row = some r → lo ≤ r) : w.Since lo W' :=
  ⟨hg.os.trans h.os, hg.tape.trans h.tape, hg.output.trans h.output, Nat.le_trans h.size hg.size, fun k hk => (hg.block k (by have := h.size; omega) (fun e => by have := hr k e.symm; omega)).trans (h.block k hk)⟩
theorem HS.kept {w W W' : World} {tv : Value} {row : Option Nat} (h : HS w tv W) (hg : W.grownBy W' row) (hr : ∀ r, row = some r → w.heap.size + 2 ≤ r) : HS w tv W' :=
  ⟨h.bt.kept hg (fun e => by have := hr _ e.symm; omega), h.br.kept hg (fun e => by have := hr _ e.symm; omega), since_row h.sn (Nat.le_refl _) hg (fun r e => by have := hr r e; omega)⟩

set_option maxRecDepth 100000 in
set_option maxHeartbeats 2000000 in
theorem hasMinor_any (a : Option Addr) (cap n m k : Nat) (l : List (List Int)) (w : World) (hn : l.length = n) (hmm : (l.getD 0 []).length = m) (hT : TabIn l) (hm : MatR w a l) :
    Calls Try.prog 118 #[.slice a n cap, .int .i64 k] w fun e w' => e = .returned (.bool (hasB l k (2 ^ n) (2 ^ m))) ∧ w.Since w.heap.size w' := by
  have HSEQ := Lib.hid (fun (g : Nat) (hg : 12 ≤ g) (Bt' Bk' : Nat) (V : World) => kth_seqE g hg Bt' Bk' n m cap k a l w V hn hT hmm hm)
  have EM := Lib.hid (fun (x : Nat × Nat) (hx : x ∈ partsK k n m) (V : World) (h : w.Since w.heap.size V) => minor_any a cap n m x.1 x.2 l V hn hmm hT (partsK_mem.1 hx).1.1 (partsK_mem.1 hx).2.1 ((partsK_mem.1 hx).1.2.trans (partsK_mem.1 hx).2.2.symm) (hm.since h))
  clear hn hmm hT hm
  refine (callsIn_wide (n := 20)).1 ?_
  refine callsIn_of_wp_marks Try.func118 rfl trivial ?_ rfl
  simp only [Try.ntmps118, List.size_toArray, List.length_cons, List.length_nil, Nat.reduceAdd, Nat.reduceSub, Array.replicate_succ, Array.replicate_zero, List.push_toArray, List.append_toArray, List.nil_append, List.cons_append]
  gi_wp2_with (refine ⟨trivial, ?_⟩; gi_at_call 135; refine (kthParts_in _ _ _ _ _ _).mono ?_; rintro e w' ⟨rfl, rfl⟩)
  have hb0 := Boxed.new w 66 (.slice a n cap)
  have hr0 := Boxed.new (w.alloc (.cells #[.slice a n cap] 66)) 4 (.bool false)
  rw [World.size_alloc] at hr0
  have hS0 : HS w (.slice a n cap) ((w.alloc (.cells #[.slice a n cap] 66)).alloc (.cells #[.bool false] 4)) := ⟨hb0.alloc _, hr0, ((World.Since.refl _ w).alloc (Nat.le_refl _) _).alloc (by simp) _⟩
  obtain ⟨w2, hw2⟩ : ∃ W, (w.alloc (.cells #[.slice a n cap] 66)).alloc (.cells #[.bool false] 4) = W := ⟨_, rfl⟩
  have z2 : w2.heap.size = w.heap.size + 1 + 1 := by rw [← hw2]; simp
  rw [hw2] at hS0 ⊢
  clear hw2 hb0 hr0
  have bt := cell_alloc_l (.cells #[.int .i64 (k : Int)] 3) (cell_new_l w2 (.slice a n cap) 66).1
  have bk := (cell_new_l (w2.alloc (.cells #[.slice a n cap] 66)) (.int .i64 (k : Int)) 3).1
  have hg := (World.grownBy_alloc w2 (.cells #[.slice a n cap] 66) none).trans (World.grownBy_alloc _ (.cells #[.int .i64 (k : Int)] 3) none)
  have hS1 := hS0.kept hg (fun r e => by cases e)
  have zV : ((w2.alloc (.cells #[.slice a n cap] 66)).alloc (.cells #[.int .i64 (k : Int)] 3)).heap.size = w.heap.size + 4 := by simp [z2]
  simp only [World.size_alloc] at bk
  rw [z2] at bt bk
  obtain ⟨V, hV⟩ : ∃ V, (w2.alloc (.cells #[.slice a n cap] 66)).alloc (.cells #[.int .i64 (k : Int)] 3) = V := ⟨_, rfl⟩
  rw [hV] at bt bk hS1 zV ⊢
  clear hV hS0 hg z2
  refine rangeF (F := Fence.wide) (n := 20) rfl (by omega) (gf := 148) (lb := #[.pointer (some ⟨w.heap.size + 1 + 1, 0, none⟩), .pointer (some ⟨w.heap.size + 1 + 1 + 1, 0, none⟩)]) rfl trivial (enters_of Try.func148 (by kernel_rfl) rfl)
    (HSEQ.out 19 (by omega) (w.heap.size + 1 + 1) (w.heap.size + 1 + 1 + 1) V (oldT_since hS1.sn) (by omega) (by omega) (by omega) bt bk) (fun _ => rfl) (fun q => q = w.heap.size + 1) (fun q hq => ⟨by omega, by omega⟩) (fun q hq => by omega)
    (fun (ps : List (Nat × Nat)) X => (HS w (.slice a n cap) X ∧ V.heap.size ≤ X.heap.size) ∧ ∀ x ∈ ps, mnP l x = 0)
    (fun c _ X => c = .ret ∧ Boxed X (w.heap.size + 1) 4 (.bool true) ∧ w.Since w.heap.size X ∧ hasB l k (2 ^ n) (2 ^ m) = true)
    (fun ps X Y row hs hg hr => ⟨⟨hs.1.1.kept hg (fun r e => by have := hr r e; omega), Nat.le_trans hs.1.2 hg.size⟩, hs.2⟩)
    (fun c ps X Y row hs hg hr => ⟨hs.1, hs.2.1.kept hg (fun e => by have := hr _ e.symm; omega), since_row hs.2.2.1 (Nat.le_refl _) hg (fun r e => by have := hr r e; omega), hs.2.2.2⟩)
    ⟨⟨hS1, Nat.le_refl _⟩, fun x hx => by cases hx⟩
    (fun x a'' _ => a'' = { tmps := #[.slice a n cap, .int .i64 k, .pointer (some ⟨w.heap.size, 0, none⟩), undef, .pointer (some ⟨w.heap.size + 1, 0, none⟩), .int .i64 (x.1 : Int), .int .i64 (x.2 : Int), .slice a n cap, .int .i64 k, .func (.func 148) #[] #[.pointer (some ⟨w.heap.size + 1 + 1, 0, none⟩), .pointer (some ⟨w.heap.size + 1 + 1 + 1, 0, none⟩)], .int .i64 (x.1 : Int), .int .i64 (x.2 : Int), undef, undef, undef, undef, undef], defers := [] })
    (fun _ _ _ _ _ _ hA _ _ => hA)
    ?assign ?body ?done ?stop
  case assign =>
    rintro lq ps x Y K _ hi _ hK
    simp only [encP]
    gi_wp2
    exact hK _ _ (Keeps.refl _ _) hi rfl
  case body =>
    rintro lq ps x a'' Y hlq hzY _ ⟨⟨hS, hz⟩, hp⟩ hpx rfl hlen
    have cT := hS.bt.cell
    have E := Lib.hid (EM.out x hpx Y hS.sn)
    have HSS := Lib.hid hS
    have HY := Lib.hid (show mnP l x ≠ 0 → hasB l k (2 ^ n) (2 ^ m) = true from fun h => hasB_yes hpx h)
    have HP := Lib.hid hp
    clear hS hp hpx
    obtain ⟨x1, x2⟩ := x
    simp only at E HY ⊢
    obtain ⟨v, hv⟩ : ∃ v, mnP l (x1, x2) = v := ⟨_, rfl⟩
    rw [hv] at E HY
    have HV := Lib.hid hv
    clear hv
    by_cases hv0 : v = 0
    · have hvb : (v != 0) = false := by simp [hv0]
      gi_wp2_with (refine ⟨trivial, ?_⟩; gi_at_call 69; refine (CallsIn.inRound lq (callsIn_wide.2 E.out)).mono ?_; rintro e Z ⟨rfl, hs2⟩; have HS2 := Lib.hid hs2; clear hs2)
      have hg := grownSH HS2.out
      exact ⟨Keeps.grown hg (fun r e => by cases e), ⟨HSS.out.kept hg (fun r e => by cases e), by have := hg.size; omega⟩, fun p hp => by
        rcases List.mem_append.1 hp with h | h
        · exact HP.out _ h
        · simp only [List.mem_singleton] at h
          rw [h, HV.out, hv0]⟩
    · have hvb : (v != 0) = true := by simp [hv0]
      gi_wp2_with (refine ⟨trivial, ?_⟩; gi_at_call 69; refine (CallsIn.inRound lq (callsIn_wide.2 E.out)).mono ?_; rintro e Z ⟨rfl, hs2⟩; have HS2 := Lib.hid hs2; have hrB := HSS.out.br.kept (grownSH HS2.out) (by simp); have cR := hrB.cell; have fR := hrB.frozen; clear hs2)
      have hg := grownSH HS2.out
      exact ⟨(Keeps.grown hg (fun r e => by cases e)).trans (Keeps.grown (grownBy_setCell' Z (w.heap.size + 1) _) (fun r e => by cases e; rfl)), rfl, hrB.set _, (HSS.out.kept hg (fun r e => by cases e)).sn.setCell (by simp) _, HY.out hv0⟩
  case done =>
    rintro D ps X hD rfl ⟨⟨hS, hz⟩, hp⟩ hK
    have cS := hS.br.cell
    have fS := hS.br.frozen
    have hb : hasB l k (2 ^ n) (2 ^ m) = false := hasB_no hp
    have hlt := (Array.getElem?_eq_some_iff.1 hK).1
    have hK2 : (X.setCell ⟨w.heap.size + 1, 0, none⟩ (.bool false)).heap[D]? = some (.deferred (some [])) := ((grownBy_setCell' X (w.heap.size + 1) (.bool false)).block D hlt (fun e => by injection e; omega)).trans hK
    have hB3 := (hS.br.set (.bool false)).kept (grownBy_putObj' (X.setCell ⟨w.heap.size + 1, 0, none⟩ (.bool false)) D (.deferred none)) (fun e => by injection e; omega)
    have cB := hB3.cell
    have hsn := since_row (hS.sn.setCell (a := ⟨w.heap.size + 1, 0, none⟩) (by simp) (.bool false)) (Nat.le_refl _) (grownBy_putObj' (X.setCell ⟨w.heap.size + 1, 0, none⟩ (.bool false)) D (.deferred none)) (fun r e => by cases e; omega)
    gi_wp2
    refine ⟨by simp, .inl ⟨_, _, rfl, run_takeDeferred hK2, ?_⟩⟩
    refine ⟨.bool false, ?_, by rw [hb], hsn⟩
    have cB' := cB
    simp [results, Try.f118, go_sem, cB']
  case stop =>
    rintro D c ps X hD _ ⟨rfl, bR, hs, hb⟩ hK
    have hB3 := bR.kept (grownBy_putObj' X D (.deferred none)) (fun e => by injection e; omega)
    have cB := hB3.cell
    have hsn := since_row hs (Nat.le_refl _) (grownBy_putObj' X D (.deferred none)) (fun r e => by cases e; omega)
    gi_wp2
    refine ⟨by simp, .inl ⟨_, _, rfl, run_takeDeferred hK, ?_⟩⟩
    refine ⟨.bool true, ?_, by rw [hb], hsn⟩
    have cB' := cB
    simp [results, Try.f118, go_sem, cB']

end Go.Proofs.Ytbclpbgomkfabaa
end

section
namespace Go.Proofs.Ytbclpbgomkfabaa
open Go.RowKit Go.Deep Go.Shelf
attribute [local go_sem] Oper.semAt_some

def posV (a : Option Addr) (n cap g : Nat) (lb : Array Value) : Value := .agg #[.slice a n cap, .func (.func g) #[] lb]
structure QS (w : World) (tv gv qv : Value) (b : Bool) (W : World) : Prop where
  b0 : W.heap[w.heap.size]? = some (.cells #[tv, gv] 78)
  bq : Boxed W (w.heap.size + 1) 3 qv
  br : Boxed W (w.heap.size + 2) 4 (.bool b)
  sn : w.Since w.heap.size W
theorem QS.kept {w W W' : World} {tv gv qv : Value} {b : Bool} {row : Option Nat} (h : QS w tv gv qv b W) (hg : W.grownBy W' row) (hr : ∀ r, row = some r → w.heap.size + 3 ≤ r) : QS w tv gv qv b W' :=
  ⟨(hg.block _ (Array.getElem?_eq_some_iff.1 h.b0).1 (fun e => by have := hr _ e.symm; omega)).trans h.b0, h.bq.kept hg (fun e => by have := hr _ e.symm; omega), h.br.kept hg (fun e => by have := hr _ e.symm; omega), since_row h.sn (Nat.le_refl _) hg (fun r e => by have := hr r e; omega)⟩
theorem cells2 {W : World} {b : Nat} {s g : Value} {t : TypeId} (h : W.heap[b]? = some (.cells #[s, g] t)) : W.cell? ⟨b, 0, none⟩ = some s ∧ W.cell? ⟨b, 1, none⟩ = some g := by
  simp [World.cell?, h]

theorem round_region_heldP {lp n id : Nat} {P : Program} {ops : Array Oper} {Q : Exit → Act → World → Prop} {a : Act} {w : World} {S : World → Prop} (hm : P.follows .mixedOrders = true) (hd : noDefer ops = true) (hno : ¬ LetsOut Q) (hS : S w.drew)
    (h : S w.drew → wpAnyH P .any ops Q S ops.size (Array.replicate ops.size false) a w.drew) : (Code.region id ops true).wpIn (Fence.wide.inRound lp) n P Q a w :=
  wpIn_region_any hm (wpAnyIn_of_wpAny hno (noDefer_of hd) _ _ _ _ (wpAny_of_held _ _ _ _ (h hS)))

set_option maxRecDepth 100000 in
set_option maxHeartbeats 2000000 in
theorem minorsFrom_any (a : Option Addr) (cap n m : Nat) (q : Int) (g : Nat) (lb : Array Value) (ps : List (Nat × Nat)) (N : Nat) (need : Nat → Prop) (l : List (List Int)) (w : World) (hn : l.length = n) (hmm : (l.getD 0 []).length = m) (hT : TabIn l) (hm : MatR w a l)
    (hps : ∀ x ∈ ps, popcS x.1 = popcS x.2 ∧ x.1 < 2 ^ n ∧ x.2 < 2 ^ m) (hneed : ∀ k, need k → k < w.heap.size)
    (hseq : ∀ V : World, OldT w.heap.size w V → w.heap.size ≤ V.heap.size → SeqE Fence.wide 29 Try.prog g lb encP (fun x _ => x ∈ ps) need (fun ys => ys = ps) (fun _ => True) N V)
    (eg : ∀ args w, (callFunc g args).run Try.prog w = .ok (.enter g args) w) :
    Calls Try.prog 89 #[posV a n cap g lb, .int .i64 q] w fun e w' => e = .returned (.bool (leastB l q ps)) ∧ w.Since w.heap.size w' := by
  have EM := Lib.hid (fun (x : Nat × Nat) (hx : x ∈ ps) (V : World) (h : w.Since w.heap.size V) => minor_any a cap n m x.1 x.2 l V hn hmm hT (hps x hx).2.1 (hps x hx).2.2 (hps x hx).1 (hm.since h))
  have HSEQ := Lib.hid hseq
  have EG := Lib.hid eg
  clear hn hmm hT hm hps hseq eg
  unfold posV
  refine (callsIn_wide (n := 30)).1 ?_
  refine callsIn_of_wp_marks Try.func89 rfl trivial ?_ rfl
  simp only [Try.ntmps89, List.size_toArray, List.length_cons, List.length_nil, Nat.reduceAdd, Nat.reduceSub, Array.replicate_succ, Array.replicate_zero, List.push_toArray, List.append_toArray, List.nil_append, List.cons_append]
  have hS0 : QS w (.slice a n cap) (.func (.func g) #[] lb) (.int .i64 q) false (((w.alloc (.cells #[.slice a n cap, .func (.func g) #[] lb] 78)).alloc (.cells #[.int .i64 q] 3)).alloc (.cells #[.bool false] 4)) := by
    have b1 := Boxed.new (w.alloc (.cells #[.slice a n cap, .func (.func g) #[] lb] 78)) 3 (.int .i64 q)
    have b2 := Boxed.new ((w.alloc (.cells #[.slice a n cap, .func (.func g) #[] lb] 78)).alloc (.cells #[.int .i64 q] 3)) 4 (.bool false)
    simp only [World.size_alloc] at b1 b2
    exact ⟨(Below.heap_alloc _ _ _ (by simp; omega)).trans ((Below.heap_alloc _ _ _ (by simp)).trans (World.alloc_heap_new w _)), b1.alloc _, b2, (((World.Since.refl _ w).alloc (Nat.le_refl _) _).alloc (by simp) _).alloc (by simp; omega) _⟩
  gi_wp2
  obtain ⟨V, hV⟩ : ∃ V, (((w.alloc (.cells #[.slice a n cap, .func (.func g) #[] lb] 78)).alloc (.cells #[.int .i64 q] 3)).alloc (.cells #[.bool false] 4)) = V := ⟨_, rfl⟩
  have zV : V.heap.size = w.heap.size + 3 := by rw [← hV]; simp
  rw [hV] at hS0 ⊢
  clear hV
  refine rangeF (F := Fence.wide) (n := 30) rfl (by omega) (gf := g) (lb := lb) rfl trivial EG.out
    (HSEQ.out V (oldT_since hS0.sn) (by omega)) (fun _ => rfl) (fun k => k = w.heap.size + 2) (fun k hk => ⟨by omega, fun h => by have := hneed _ h; omega⟩) (fun k hk => by have := hneed _ hk; omega)
    (fun (qs : List (Nat × Nat)) X => (QS w (.slice a n cap) (.func (.func g) #[] lb) (.int .i64 q) false X ∧ V.heap.size ≤ X.heap.size) ∧ leastB l q qs = true)
    (fun c _ X => c = .ret ∧ (Boxed X (w.heap.size + 2) 4 (.bool false) ∧ w.Since w.heap.size X) ∧ leastB l q ps = false)
    (fun qs X Y row hs hg hr => ⟨⟨hs.1.1.kept hg (fun r e => by have := hr r e; omega), Nat.le_trans hs.1.2 hg.size⟩, hs.2⟩)
    (fun c qs X Y row hs hg hr => ⟨hs.1, ⟨hs.2.1.1.kept hg (fun e => by have := hr _ e.symm; omega), since_row hs.2.1.2 (Nat.le_refl _) hg (fun r e => by have := hr r e; omega)⟩, hs.2.2⟩)
    ⟨⟨hS0, Nat.le_refl _⟩, rfl⟩
    (fun x a'' _ => a'' = { tmps := #[.agg #[.slice a n cap, .func (.func g) #[] lb], .int .i64 q, .pointer (some ⟨w.heap.size, 0, none⟩), .pointer (some ⟨w.heap.size + 1, 0, none⟩), .pointer (some ⟨w.heap.size + 1 + 1, 0, none⟩), .int .i64 (x.1 : Int), .int .i64 (x.2 : Int), .pointer (some ⟨w.heap.size, 1, none⟩), .func (.func g) #[] lb, .int .i64 (x.1 : Int), .int .i64 (x.2 : Int), undef, undef, undef, undef, undef, undef, undef], defers := [] })
    (fun _ _ _ _ _ _ hA _ _ => hA)
    ?assign ?body ?done ?stop
  case assign =>
    rintro lq qs x Y K _ hi _ hK
    simp only [encP]
    gi_wp2
    exact hK _ _ (Keeps.refl _ _) hi rfl
  case body =>
    rintro lq qs x a'' Y hlq hzY _ ⟨⟨hS, hz⟩, hp⟩ hpx rfl hlen
    have hmix : Try.prog.follows .mixedOrders = true := by kernel_rfl
    have cT : Y.drew.cell? ⟨w.heap.size, 0, none⟩ = _ := (cells2 hS.b0).1
    have cQ : Y.drew.cell? ⟨w.heap.size + 1, 0, none⟩ = _ := hS.bq.cell
    have E := Lib.hid (EM.out x hpx Y.drew (show w.Since w.heap.size Y.drew from hS.sn.drew))
    have HSS := Lib.hid hS
    have HY := Lib.hid (show mnP l x < q → leastB l q ps = false from fun h => leastB_no hpx h)
    have HP := Lib.hid (leastB_snoc l q qs x)
    have HPP := Lib.hid hp
    clear hS hp hpx
    obtain ⟨x1, x2⟩ := x
    simp only at E HY HP ⊢
    obtain ⟨v, hv⟩ : ∃ v, mnP l (x1, x2) = v := ⟨_, rfl⟩
    rw [hv] at E HY HP
    clear hv
    have HK2 := Lib.hid (show ∀ Z, Y.drew.Since Y.drew.heap.size Z → Y.grownBy Z none from fun Z h => (grown_drewP (World.grownBy.refl Y none)).trans (grownSH h))
    gi_wp2
    refine round_region_heldP (S := fun W' : World => W'.cell? ⟨w.heap.size, 0, none⟩ = some (.slice a n cap) ∧ W'.cell? ⟨w.heap.size + 1, 0, none⟩ = some (.int .i64 q)) hmix (by kernel_rfl) (by rintro ⟨a, w, h⟩; exact h) ⟨cT, cQ⟩ (fun hS => ?_)
    refine wpAnyH_take (i := 0) (v := .pointer (some ⟨w.heap.size, 0, none⟩)) rfl (by kernel_rfl) (by kernel_rfl) (by kernel_rfl) (fun _ _ _ h => h) (Or.inl ⟨by rfl, fun W' h => by go_simp⟩) hS ?_
    simp only [Act.put, List.setIfInBounds_toArray]
    refine wpAnyH_take (i := 1) (v := .slice a n cap) rfl (by kernel_rfl) (by kernel_rfl) (by kernel_rfl) (fun _ _ _ h => h) (Or.inl ⟨by rfl, fun W' h => by have hc := h.1; go_simp⟩) hS ?_
    simp only [Act.put]
    refine wpAnyH_take (i := 2) (v := .int .i64 x1) rfl (by kernel_rfl) (by kernel_rfl) (by kernel_rfl) (fun _ _ _ h => h) (Or.inl ⟨by rfl, fun W' h => by go_simp⟩) hS ?_
    simp only [Act.put]
    refine wpAnyH_take (i := 3) (v := .int .i64 x2) rfl (by kernel_rfl) (by kernel_rfl) (by kernel_rfl) (fun _ _ _ h => h) (Or.inl ⟨by rfl, fun W' h => by go_simp⟩) hS ?_
    simp only [Act.put]
    refine wpAnyH_take (i := 5) (v := .int .i64 q) rfl (by kernel_rfl) (by kernel_rfl) (by kernel_rfl) (fun _ _ _ h => h) (Or.inl ⟨by rfl, fun W' h => by have hc := h.2; go_simp⟩) hS ?_
    simp only [Act.put]
    refine wpAnyH_ready (rs := [4]) (by kernel_rfl) (by simp) (AllReadyH.cons rfl (fun K hK => ?_) AllReadyH.nil)
    go_simp
    refine E.out.mono ?_
    rintro e Z ⟨rfl, hs2⟩
    have HG := Lib.hid (HK2.out Z hs2)
    have hQZ := HSS.out.kept HG.out (fun r e => by cases e)
    refine hK.out _ _ ⟨(cells2 hQZ.b0).1, hQZ.bq.cell⟩ (fun hS1 => ?_)
    clear hK K hs2
    refine wpAnyH_take (i := 6) (v := .bool (decide (v < q))) rfl (by kernel_rfl) (by kernel_rfl) (by kernel_rfl) (fun _ _ _ h => h) (Or.inl ⟨by rfl, fun W' h => by go_simp⟩) hS1 ?_
    simp only [Act.put]
    refine wpAnyH_done (by kernel_rfl) ?_ _
    by_cases hv0 : v < q
    · have hvb : decide (v < q) = true := by simpa using hv0
      have cR := hQZ.br.cell
      have fR := hQZ.br.frozen
      gi_wp2
      exact ⟨(Keeps.grown HG.out (fun r e => by cases e)).trans (Keeps.grown (grownBy_setCell' Z (w.heap.size + 2) _) (fun r e => by cases e; rfl)), rfl, ⟨hQZ.br.set _, hQZ.sn.setCell (by simp; omega) _⟩, HY.out hv0⟩
    · have hvb : decide (v < q) = false := by simpa using hv0
      gi_wp2
      exact ⟨Keeps.grown HG.out (fun r e => by cases e), ⟨hQZ, by have := HG.out.size; omega⟩, by rw [HP.out, HPP.out]; simp; omega⟩
  case done =>
    rintro D qs X hD rfl ⟨⟨hS, hz⟩, hp⟩ hK
    have cS := hS.br.cell
    have fS := hS.br.frozen
    have hlt := (Array.getElem?_eq_some_iff.1 hK).1
    have hK2 : (X.setCell ⟨w.heap.size + 2, 0, none⟩ (.bool true)).heap[D]? = some (.deferred (some [])) := ((grownBy_setCell' X (w.heap.size + 2) (.bool true)).block D hlt (fun e => by injection e; omega)).trans hK
    have hB3 := (hS.br.set (.bool true)).kept (grownBy_putObj' (X.setCell ⟨w.heap.size + 2, 0, none⟩ (.bool true)) D (.deferred none)) (fun e => by injection e; omega)
    have cB := hB3.cell
    have hsn := since_row (hS.sn.setCell (a := ⟨w.heap.size + 2, 0, none⟩) (by simp) (.bool true)) (Nat.le_refl _) (grownBy_putObj' (X.setCell ⟨w.heap.size + 2, 0, none⟩ (.bool true)) D (.deferred none)) (fun r e => by cases e; omega)
    gi_wp2
    refine ⟨by simp, .inl ⟨_, _, rfl, run_takeDeferred hK2, ?_⟩⟩
    refine ⟨.bool true, ?_, by rw [hp], hsn⟩
    have cB' := cB
    simp [results, Try.f89, go_sem, cB']
  case stop =>
    rintro D c qs X hD _ ⟨rfl, ⟨bR, hs⟩, hb⟩ hK
    have hB3 := bR.kept (grownBy_putObj' X D (.deferred none)) (fun e => by injection e; omega)
    have cB := hB3.cell
    have hsn := since_row hs (Nat.le_refl _) (grownBy_putObj' X D (.deferred none)) (fun r e => by cases e; omega)
    gi_wp2
    refine ⟨by simp, .inl ⟨_, _, rfl, run_takeDeferred hK, ?_⟩⟩
    refine ⟨.bool false, ?_, by rw [hb], hsn⟩
    have cB' := cB
    simp [results, Try.f89, go_sem, cB']

structure QC (w : World) (tv gv : Value) (c : Int) (W : World) : Prop where
  b0 : W.heap[w.heap.size]? = some (.cells #[tv, gv] 78)
  bn : Boxed W (w.heap.size + 1) 3 (.int .i64 c)
  sn : w.Since w.heap.size W
theorem QC.kept {w W W' : World} {tv gv : Value} {c : Int} {row : Option Nat} (h : QC w tv gv c W) (hg : W.grownBy W' row) (hr : ∀ r, row = some r → w.heap.size + 2 ≤ r) : QC w tv gv c W' :=
  ⟨(hg.block _ (Array.getElem?_eq_some_iff.1 h.b0).1 (fun e => by have := hr _ e.symm; omega)).trans h.b0, h.bn.kept hg (fun e => by have := hr _ e.symm; omega), since_row h.sn (Nat.le_refl _) hg (fun r e => by have := hr r e; omega)⟩

set_option maxRecDepth 100000 in
set_option maxHeartbeats 2000000 in
theorem countParts_any (a : Option Addr) (cap n : Nat) (g : Nat) (lb : Array Value) (ps : List (Nat × Nat)) (N : Nat) (hN : N ≤ 32768) (need : Nat → Prop) (w : World) (hneed : ∀ k, need k → k < w.heap.size)
    (hseq : ∀ V : World, OldT w.heap.size w V → w.heap.size ≤ V.heap.size → SeqE Fence.wide 29 Try.prog g lb encP (fun x _ => x ∈ ps) need (fun ys => ys = ps) (fun _ => True) N V)
    (eg : ∀ args w, (callFunc g args).run Try.prog w = .ok (.enter g args) w) :
    Calls Try.prog 75 #[posV a n cap g lb] w fun e w' => e = .returned (.int .i64 (ps.length : Nat)) ∧ w.Since w.heap.size w' := by
  have HSEQ := Lib.hid hseq
  have EG := Lib.hid eg
  clear hseq eg
  unfold posV
  refine (callsIn_wide (n := 30)).1 ?_
  refine callsIn_of_wp_marks Try.func75 rfl trivial ?_ rfl
  simp only [Try.ntmps75, List.size_toArray, List.length_cons, List.length_nil, Nat.reduceAdd, Nat.reduceSub, Array.replicate_succ, Array.replicate_zero, List.push_toArray, List.append_toArray, List.nil_append, List.cons_append]
  have hS0 : QC w (.slice a n cap) (.func (.func g) #[] lb) 0 ((w.alloc (.cells #[.slice a n cap, .func (.func g) #[] lb] 78)).alloc (.cells #[.int .i64 0] 3)) := by
    have b1 := Boxed.new (w.alloc (.cells #[.slice a n cap, .func (.func g) #[] lb] 78)) 3 (.int .i64 0)
    simp only [World.size_alloc] at b1
    exact ⟨(Below.heap_alloc _ _ _ (by simp)).trans (World.alloc_heap_new w _), b1, ((World.Since.refl _ w).alloc (Nat.le_refl _) _).alloc (by simp) _⟩
  gi_wp2
  obtain ⟨V, hV⟩ : ∃ V, ((w.alloc (.cells #[.slice a n cap, .func (.func g) #[] lb] 78)).alloc (.cells #[.int .i64 0] 3)) = V := ⟨_, rfl⟩
  have zV : V.heap.size = w.heap.size + 2 := by rw [← hV]; simp
  rw [hV] at hS0 ⊢
  clear hV
  refine rangeF (F := Fence.wide) (n := 30) rfl (by omega) (gf := g) (lb := lb) rfl trivial EG.out
    (HSEQ.out V (oldT_since hS0.sn) (by omega)) (fun _ => rfl) (fun k => k = w.heap.size + 1) (fun k hk => ⟨by omega, fun h => by have := hneed _ h; omega⟩) (fun k hk => by have := hneed _ hk; omega)
    (fun (qs : List (Nat × Nat)) X => (QC w (.slice a n cap) (.func (.func g) #[] lb) (qs.length : Nat) X ∧ V.heap.size ≤ X.heap.size))
    (fun _ _ _ => False)
    (fun qs X Y row hs hg hr => ⟨hs.1.kept hg (fun r e => by have := hr r e; omega), Nat.le_trans hs.2 hg.size⟩)
    (fun c qs X Y row hs hg hr => hs)
    ⟨hS0, Nat.le_refl _⟩
    (fun x a'' _ => a'' = { tmps := #[.agg #[.slice a n cap, .func (.func g) #[] lb], .pointer (some ⟨w.heap.size, 0, none⟩), .int .i64 0, .pointer (some ⟨w.heap.size + 1, 0, none⟩), .pointer (some ⟨w.heap.size, 1, none⟩), .func (.func g) #[] lb, .int .i64 (x.1 : Int), .int .i64 (x.2 : Int), undef, undef, undef], defers := [] })
    (fun _ _ _ _ _ _ hA _ _ => hA)
    ?assign ?body ?done ?stop
  case assign =>
    rintro lq qs x Y K _ hi _ hK
    simp only [encP]
    gi_wp2
    exact hK _ _ (Keeps.refl _ _) hi (by simp)
  case body =>
    rintro lq qs x a'' Y hlq hzY _ ⟨hS, hz⟩ hpx rfl hlen
    have cN := hS.bn.cell
    have fN := hS.bn.frozen
    have hwj : IntKind.i64.wrap (((qs.length : Nat) : Int) + 1) = ((qs.length : Nat) : Int) + 1 := IntWalk.i64_in _ ⟨by omega, by omega⟩
    have HSS := Lib.hid hS
    have HL := Lib.hid (show (((qs ++ [x]).length : Nat) : Int) = ((qs.length : Nat) : Int) + 1 by rw [List.length_append, List.length_singleton]; omega)
    clear hS
    gi_wp2
    refine ⟨Keeps.grown (grownBy_setCell' Y (w.heap.size + 1) _) (fun r e => by cases e; rfl), ?_, by simp; omega⟩
    rw [HL.out]
    exact ⟨(Below.heap_setCell _ _ _ _ (by show w.heap.size ≠ w.heap.size + 1; omega)).trans HSS.out.b0, HSS.out.bn.set _, HSS.out.sn.setCell (by simp) _⟩
  case done =>
    rintro D qs X hD rfl ⟨hS, hz⟩ hK
    have cN := hS.bn.cell
    have hsn := since_row hS.sn (Nat.le_refl _) (grownBy_putObj' X D (.deferred none)) (fun r e => by cases e; omega)
    gi_wp2
    refine ⟨by simp, .inl ⟨_, _, rfl, run_takeDeferred hK, ?_⟩⟩
    refine ⟨.int .i64 (qs.length : Nat), ?_, rfl, hsn⟩
    simp [results, Try.f75, go_sem]
  case stop =>
    rintro D c qs X hD _ hF hK
    exact hF.elim

end Go.Proofs.Ytbclpbgomkfabaa
end

section
namespace Go.Proofs.Ytbclpbgomkfabaa
open Go.RowKit Go.Deep Go.Shelf
attribute [local go_sem] Oper.semAt_some

def wstep (l : List (List Int)) (s : Int × Nat × Nat) (x : Nat × Nat) : Int × Nat × Nat := if s.2.1 = 0 ∨ mnP l x < s.1 then (mnP l x, x.1, x.2) else s
def worstS (l : List (List Int)) (qs : List (Nat × Nat)) : Int × Nat × Nat := qs.foldl (wstep l) (0, 0, 0)
theorem worstS_snoc (l : List (List Int)) (qs : List (Nat × Nat)) (x : Nat × Nat) : worstS l (qs ++ [x]) = wstep l (worstS l qs) x := by
  unfold worstS; rw [List.foldl_append]; rfl
structure QW (w : World) (tv gv : Value) (s : Int × Nat × Nat) (W : World) : Prop where
  b0 : W.heap[w.heap.size]? = some (.cells #[tv, gv] 78)
  b1 : Boxed W (w.heap.size + 1) 3 (.int .i64 s.1)
  b2 : Boxed W (w.heap.size + 2) 3 (.int .i64 (s.2.1 : Int))
  b3 : Boxed W (w.heap.size + 3) 3 (.int .i64 (s.2.2 : Int))
  sn : w.Since w.heap.size W
theorem QW.kept {w W W' : World} {tv gv : Value} {s : Int × Nat × Nat} {row : Option Nat} (h : QW w tv gv s W) (hg : W.grownBy W' row) (hr : ∀ r, row = some r → w.heap.size + 4 ≤ r) : QW w tv gv s W' :=
  ⟨(hg.block _ (Array.getElem?_eq_some_iff.1 h.b0).1 (fun e => by have := hr _ e.symm; omega)).trans h.b0, h.b1.kept hg (fun e => by have := hr _ e.symm; omega), h.b2.kept hg (fun e => by have := hr _ e.symm; omega), h.b3.kept hg (fun e => by have := hr _ e.symm; omega), since_row h.sn (Nat.le_refl _) hg (fun r e => by have := hr r e; omega)⟩
theorem QW.set {w W : World} {tv gv : Value} {s : Int × Nat × Nat} (h : QW w tv gv s W) (x : Int) (r c : Nat) :
    QW w tv gv (x, r, c) (((W.setCell ⟨w.heap.size + 1, 0, none⟩ (.int .i64 x)).setCell ⟨w.heap.size + 2, 0, none⟩ (.int .i64 (r : Int))).setCell ⟨w.heap.size + 3, 0, none⟩ (.int .i64 (c : Int))) :=
  ⟨(Below.heap_setCell _ _ _ _ (by show w.heap.size ≠ w.heap.size + 3; omega)).trans ((Below.heap_setCell _ _ _ _ (by show w.heap.size ≠ w.heap.size + 2; omega)).trans ((Below.heap_setCell _ _ _ _ (by show w.heap.size ≠ w.heap.size + 1; omega)).trans h.b0)),
    ((h.b1.set _).other (by omega) _).other (by omega) _, ((h.b2.other (by omega) _).set _).other (by omega) _, ((h.b3.other (by omega) _).other (by omega) _).set _,
    ((h.sn.setCell (by simp) _).setCell (by simp) _).setCell (by simp) _⟩
theorem keeps_set3 {own : Nat → Prop} (W : World) {b1 b2 b3 : Nat} (x y z : Value) (h1 : own b1) (h2 : own b2) (h3 : own b3) : Keeps own W (((W.setCell ⟨b1, 0, none⟩ x).setCell ⟨b2, 0, none⟩ y).setCell ⟨b3, 0, none⟩ z) :=
  ((Keeps.grown (grownBy_setCell' W b1 _) (fun r e => by cases e; exact h1)).trans (Keeps.grown (grownBy_setCell' _ b2 _) (fun r e => by cases e; exact h2))).trans (Keeps.grown (grownBy_setCell' _ b3 _) (fun r e => by cases e; exact h3))

end Go.Proofs.Ytbclpbgomkfabaa
end

section
namespace Go.Proofs.Ytbclpbgomkfabaa
open Go.RowKit Go.Deep Go.Shelf
attribute [local go_sem] Oper.semAt_some

theorem rows_seqE (f : Nat) (hf : 2 ≤ f) (Bt Bs b o m cap s : Nat) (hm : m ≤ 7) (hs : s ≤ 63) (A : Nat → Option Addr) (L C : Nat → Nat) (w : World) (h1 : Bt < w.heap.size) (h2 : Bs < w.heap.size) (h3 : b < w.heap.size)
    (hBt : w.cell? ⟨Bt, 0, none⟩ = some (.slice (some ⟨b, o, none⟩) m cap)) (hBs : w.cell? ⟨Bs, 0, none⟩ = some (.int .i64 s))
    (hc : ∀ k, k < m → w.cell? ⟨b, o + k, none⟩ = some (.slice (A k) (L k) (C k))) :
    SeqE Fence.wide f Try.prog 131 #[.pointer (some ⟨Bt, 0, none⟩), .pointer (some ⟨Bs, 0, none⟩)] (fun x : {i : Nat // i < m} => #[.int .i64 (x.1 : Int), .slice (A x.1) (L x.1) (C x.1)]) (fun _ _ => True) (fun q => q = Bt ∨ q = Bs ∨ q = b) (fun ys => ys = sel s m m) (fun _ => True) m w := by
  intro l J Jx own W hW hown hJ hJx hY hj
  have cs := (hW.cell (p := ⟨Bs, 0, none⟩) h2).trans hBs
  have cr := fun k (hk : k < m) => (hW.cell (p := ⟨b, o + k, none⟩) h3).trans (hc k hk)
  refine CallsIn.mono (rows1_in f hf l Bt Bs b o m cap s hm hs A L C (fun X Y => Y.cell? ⟨Bs, 0, none⟩ = X.cell? ⟨Bs, 0, none⟩ ∧ ∀ k, k < m → Y.cell? ⟨b, o + k, none⟩ = X.cell? ⟨b, o + k, none⟩) (fun _ _ h => h)
    (fun pre W => J pre W ∧ W.cell? ⟨Bs, 0, none⟩ = some (.int .i64 s) ∧ ∀ k, k < m → W.cell? ⟨b, o + k, none⟩ = some (.slice (A k) (L k) (C k))) (fun pre W => Jx pre W) (fun pre x V hV hl => ?_) W
    ((hW.cell (p := ⟨Bt, 0, none⟩) h1).trans hBt) cs cr ⟨hj, cs, cr⟩) ?_
  · obtain ⟨hjv, c1, c2⟩ := hV
    obtain ⟨fn, tmps, assign, body, hy, hR⟩ := hY pre x V hjv trivial hl
    refine ⟨fn, tmps, assign, body, hy, hR.mono ?_⟩
    rintro e W' (⟨r1, r2, r3⟩ | ⟨r1, r2, _⟩)
    · have d1 := r3.cell (a := ⟨Bs, 0, none⟩) (fun h => (hown _ h).2 (.inr (.inl rfl))) c1
      have d2 := fun k (hk : k < m) => r3.cell (a := ⟨b, o + k, none⟩) (fun h => (hown _ h).2 (.inr (.inr rfl))) (c2 k hk)
      exact .inl ⟨r1, ⟨r2, d1, d2⟩, d1.trans c1.symm, fun k hk => (d2 k hk).trans (c2 k hk).symm⟩
    · exact .inr ⟨r1, r2⟩
  · rintro e W' ⟨r1, (⟨zs, rfl, hj2⟩ | ⟨pre, _, hj2⟩)⟩
    · exact ⟨r1, .inl ⟨_, rfl, hj2.1⟩⟩
    · exact ⟨r1, .inr ⟨_, trivial, hj2⟩⟩
theorem opIn_round {lp n : Nat} {P : Program} {Q : Exit → Act → World → Prop} {o : Oper} {a : Act} {w : World} {K : Act → World → Prop} (hd : ∀ c, o.op ≠ .defer c) (h : o.wpIn Fence.wide n P a w K Q) : o.wpIn (Fence.wide.inRound lp) n P a w K Q :=
  ⟨h.1, by
    have h2 := h.2
    rw [Oper.semAt_eq _ _ _ hd] at h2 ⊢
    exact h2⟩
theorem wpAnyIn_round {lp n : Nat} {P : Program} {md : Region.Mode} {ops : Array Oper} {Q : Exit → Act → World → Prop} (hd : ∀ (i : Nat) (o : Oper), ops[i]? = some o → ∀ c, o.op ≠ .defer c) :
    ∀ (fuel : Nat) (listed : Array Bool) (a : Act) (w : World), wpAnyIn Fence.wide n P md ops Q fuel listed a w → wpAnyIn (Fence.wide.inRound lp) n P md ops Q fuel listed a w
  | 0, _, _, _, h => h
  | fuel + 1, listed, a, w, h => ⟨h.1, fun i hi => by
      have h2 := h.2 i hi
      unfold wpOpIn at h2 ⊢
      split
      · rename_i e
        simp only [e] at h2
        exact wpAnyIn_round hd fuel _ _ _ h2
      · rename_i o e
        simp only [e] at h2
        split
        · rename_i hw
          simp only [hw, if_true] at h2
          exact Oper.wpIn_mono (fun a w h => wpAnyIn_round hd fuel _ a w h) (opIn_round (hd i o e) h2)
        · rename_i hw
          simp only [hw] at h2
          exact ⟨h2.1, wpAnyIn_round hd fuel _ _ _ h2.2⟩⟩
theorem sel_fullF (n : Nat) : ∀ k, k ≤ n → (sel (2 ^ n - 1) n k).map (·.1) = List.range k
  | 0, _ => rfl
  | k + 1, h => by
    rw [sel_yes _ n k (by omega) (by rw [Nat.testBit_two_pow_sub_one]; simp; omega), List.map_append, sel_fullF n k (by omega), List.range_succ]
    rfl

theorem runS_shl : ∀ k f : Fin 7, k.val + f.val ≤ 6 → wrap64 (((2 ^ k.val - 1 : Nat) : Int) * 2 ^ f.val) = ((runS f.val k.val : Nat) : Int) := by decide +kernel
theorem setBack_any (last n : Nat) (h1 : 1 ≤ n) (h2 : n ≤ last + 1) (h3 : last ≤ 5) (w : World) :
    Calls Try.prog 138 #[.int .i64 last, .int .i64 n] w fun e w' => e = .returned (.int .i64 (runS (last + 1 - n) n : Nat)) ∧ w = w' := by
  have E := Lib.hid (fullSet_any n (by omega) w)
  have hw1 : IntKind.i64.wrap ((last : Int) + 1) = (last : Int) + 1 := IntWalk.i64_in _ ⟨by omega, by omega⟩
  have hw2 : IntKind.i64.wrap ((last : Int) + 1 - (n : Int)) = ((last + 1 - n : Nat) : Int) := by rw [IntWalk.i64_in _ ⟨by omega, by omega⟩]; omega
  go_enter Try.func138, Try.ntmps138
  go_wp2_with fail
  refine (E.out).mono ?_
  rintro e w2 ⟨rfl, rfl⟩
  go_wp2_with fail
  go_ret
  have e := runS_shl ⟨n, by omega⟩ ⟨last + 1 - n, by omega⟩ (by simp only; omega)
  simp only at e
  exact ⟨by rw [← e]; rfl, rfl⟩

theorem first_len (m : Nat) : ∀ k, ((List.range k).flatMap (firstRow m)).length = k * m
  | 0 => by simp
  | k + 1 => by
    rw [List.range_succ, List.flatMap_append, List.length_append, first_len m k, Nat.succ_mul]
    simp [firstRow]
theorem first_len' (is : List Nat) (m : Nat) : (is.flatMap (firstRow m)).length = is.length * m := by
  induction is with
  | nil => simp
  | cons i is ih => rw [List.flatMap_cons, List.length_append, ih, List.length_cons, Nat.succ_mul]; simp [firstRow]; omega
theorem firstRow_snoc (m i k : Nat) (h : k < m) : (firstRow m i).take (k + 1) = (firstRow m i).take k ++ [(runS (i + 1 - (min i k + 1)) (min i k + 1), runS (k + 1 - (min i k + 1)) (min i k + 1))] := by
  unfold firstRow
  rw [List.take_add_one, List.getElem?_map, List.getElem?_range h]
  rfl

set_option maxRecDepth 100000 in
set_option maxHeartbeats 2000000 in
theorem first_seqE (f : Nat) (hf : 12 ≤ f) (Bt n m cap : Nat) (a : Option Addr) (l : List (List Int)) (w0 w : World) (hn : l.length = n) (hT : TabIn l) (hmm : (l.getD 0 []).length = m) (hm : MatR w0 a l) (hold : OldT w0.heap.size w0 w) (_hz0 : w0.heap.size ≤ w.heap.size) (hBt : w0.heap.size ≤ Bt) (ct : w.cell? ⟨Bt, 0, none⟩ = some (.slice a n cap)) :
    SeqE Fence.wide f Try.prog 137 #[.pointer (some ⟨Bt, 0, none⟩)] encP (fun x _ => x ∈ partsF n m) (fun q => q < w0.heap.size ∨ q = Bt) (fun ys => ys = partsF n m) (fun _ => True) 64 w := by
  intro lp J Jx own W hW hown hJ hJx hY hj
  have h6 := hT.2.1
  have h1 := hT.1
  have hw := hT.width
  rw [hn] at h6 h1
  rw [hmm] at hw
  have lt := World.block_lt_of_cell? _ _ ct
  simp only at lt
  have c1 := (hW.cell (p := ⟨Bt, 0, none⟩) lt).trans ct
  have hWz := hW.size
  have hOW : OldT w0.heap.size w0 W := fun q hq => (hW.block q (by omega)).trans (hold q hq)
  have hso : ∀ q, own q → w0.heap.size ≤ q ∧ q ≠ Bt ∧ q < W.heap.size := fun q hq => by
    obtain ⟨g1, g2⟩ := hown q hq
    exact ⟨by
      by_cases e : q < w0.heap.size
      · exact absurd (.inl e) g2
      · omega, fun e => g2 (.inr e), g1⟩
  obtain ⟨b, o, A, C, rfl, hc0⟩ := hm (by omega)
  have hc : ∀ k, k < n → w0.cell? ⟨b, o + k, none⟩ = some (.slice (A k) m (C k)) := fun k hk => by
    have := (hc0 k (by omega)).1
    rw [hT.row (by omega), hmm] at this
    exact this
  have hbl := World.block_lt_of_cell? _ _ (hc 0 (by omega))
  simp only at hbl
  have p63 : 2 ^ n ≤ 2 ^ 6 := Nat.pow_le_pow_right (by omega) h6
  have EA := Lib.hid (fun (V : World) => allRows_any (some ⟨b, o, none⟩) cap n V h6)
  have EB := Lib.hid (fun (x y : Nat) (h1 : 1 ≤ y) (h2 : y ≤ x + 1) (h3 : x ≤ 5) (V : World) => setBack_any x y h1 h2 h3 V)
  clear hold ct hm hmm hT hn hc0
  refine callsIn_of_wp_marks Try.func137 rfl trivial ?_ rfl
  simp only [Try.ntmps137, List.size_toArray, List.length_cons, List.length_nil, Nat.reduceAdd, Nat.reduceSub, Array.replicate_succ, Array.replicate_zero, List.push_toArray, List.append_toArray, List.nil_append, List.cons_append]
  have c2 : (W.alloc (.cells #[.func (.yield lp) #[] #[]] 54)).cell? ⟨Bt, 0, none⟩ = _ := cell_alloc_l _ c1
  have y0 : (W.alloc (.cells #[.func (.yield lp) #[] #[]] 54)).cell? ⟨W.heap.size, 0, none⟩ = _ := (cell_new_l W _ _).1
  have hso3 : ∀ q, own q → w0.heap.size ≤ q ∧ q ≠ Bt ∧ q ≠ W.heap.size := fun q hq => by have := hso q hq; omega
  have c2d : (W.alloc (.cells #[.func (.yield lp) #[] #[]] 54)).drew.cell? ⟨Bt, 0, none⟩ = _ := c2
  gi_wp2
  refine wpIn_wide.2 ?_
  go_region_held3 (fun W' : World => W'.cell? ⟨Bt, 0, none⟩ = some (.slice (some ⟨b, o, none⟩) n cap)) (first | exact c2d | exact cell_alloc_l _ (cell_alloc_l _ c2d))
    (first
      | (go_at_call 113; refine (EA.out _).mono ?_; rintro e w' ⟨rfl, rfl⟩)
      | (go_at_call 112; refine (rows_any _ _ _ _ _).mono ?_; rintro e w' ⟨rfl, rfl⟩))
  gi_wp2
  have c3 := cell_alloc_l (.cells #[.int .i64 ((2 ^ n - 1 : Nat) : Int)] 3) (cell_alloc_l (.cells #[.slice (some ⟨b, o, none⟩) n cap] 66) c2)
  have y3 := cell_alloc_l (.cells #[.int .i64 ((2 ^ n - 1 : Nat) : Int)] 3) (cell_alloc_l (.cells #[.slice (some ⟨b, o, none⟩) n cap] 66) y0)
  have hbt := cell_alloc_l (.cells #[.int .i64 ((2 ^ n - 1 : Nat) : Int)] 3) (cell_new_l (W.alloc (.cells #[.func (.yield lp) #[] #[]] 54)) (.slice (some ⟨b, o, none⟩) n cap) 66).1
  have hbs := (cell_new_l ((W.alloc (.cells #[.func (.yield lp) #[] #[]] 54)).alloc (.cells #[.slice (some ⟨b, o, none⟩) n cap] 66)) (.int .i64 ((2 ^ n - 1 : Nat) : Int)) 3).1
  have hg2 := ((World.grownBy_alloc W (.cells #[.func (.yield lp) #[] #[]] 54) none).trans (World.grownBy_alloc _ (.cells #[.slice (some ⟨b, o, none⟩) n cap] 66) none)).trans (World.grownBy_alloc _ (.cells #[.int .i64 ((2 ^ n - 1 : Nat) : Int)] 3) none)
  have hjV := hJ.alloc (.cells #[.int .i64 ((2 ^ n - 1 : Nat) : Int)] 3) (hJ.alloc (.cells #[.slice (some ⟨b, o, none⟩) n cap] 66) (hJ.alloc (.cells #[.func (.yield lp) #[] #[]] 54) hj))
  have zV : (((W.alloc (.cells #[.func (.yield lp) #[] #[]] 54)).alloc (.cells #[.slice (some ⟨b, o, none⟩) n cap] 66)).alloc (.cells #[.int .i64 ((2 ^ n - 1 : Nat) : Int)] 3)).heap.size = W.heap.size + 3 := by simp
  simp only [World.size_alloc] at hbt hbs
  obtain ⟨V0, hV0⟩ : ∃ V, ((W.alloc (.cells #[.func (.yield lp) #[] #[]] 54)).alloc (.cells #[.slice (some ⟨b, o, none⟩) n cap] 66)).alloc (.cells #[.int .i64 ((2 ^ n - 1 : Nat) : Int)] 3) = V := ⟨_, rfl⟩
  rw [hV0] at hbt hbs c3 y3 hg2 hjV zV ⊢
  clear hV0 c1 c2 c2d y0
  have hbt : V0.drew.cell? _ = _ := hbt
  have hbs : V0.drew.cell? _ = _ := hbs
  have c3 : V0.drew.cell? _ = _ := c3
  have y3 : V0.drew.cell? _ = _ := y3
  have hjV := hJ _ V0 V0.drew none hjV (grown_drewP (World.grownBy.refl _ none)) (fun r e => by cases e)
  have hg2 := grown_drewP hg2
  have zV : V0.drew.heap.size = _ := zV
  obtain ⟨V, hV⟩ : ∃ V, V0.drew = V := ⟨_, rfl⟩
  rw [hV] at hbt hbs c3 y3 hg2 hjV zV ⊢
  clear hV
  have hAV : AB w0.heap.size w0 Bt W.heap.size lp (some ⟨b, o, none⟩) n cap V := ⟨c3, y3, hOW.grown (by omega) hg2 (fun r e => by cases e)⟩
  have hBX : w0.heap.size ≤ V.heap.size ∧ Bt < V.heap.size ∧ W.heap.size < V.heap.size := by omega
  have hcV : ∀ k, k < n → V.cell? ⟨b, o + k, none⟩ = some (.slice (A k) m (C k)) := fun k hk => (hAV.old.cell (by exact hbl)).trans (hc k hk)
  refine rangeF (F := Fence.wide) (n := f) rfl (by omega) (gf := 131) (lb := #[.pointer (some ⟨W.heap.size + 1, 0, none⟩), .pointer (some ⟨W.heap.size + 1 + 1, 0, none⟩)]) rfl trivial (enters_of Try.func131 (by kernel_rfl) rfl)
    (rows_seqE (f - 1) (by omega) (W.heap.size + 1) (W.heap.size + 1 + 1) b o n cap (2 ^ n - 1) (by omega) (by omega) A (fun _ => m) C V (by omega) (by omega) (by omega) hbt hbs hcV) (fun _ => rfl) own (fun q hq => ⟨by have := hso q hq; omega, by have := hso q hq; omega⟩) (fun q hq => by omega)
    (fun (rs : List {i : Nat // i < n}) X => J ((rs.map (fun x : {i : Nat // i < n} => x.1)).flatMap (firstRow m)) X ∧ AB w0.heap.size w0 Bt W.heap.size lp (some ⟨b, o, none⟩) n cap X ∧ V.heap.size ≤ X.heap.size)
    (fun c _ X => c = .ret ∧ ∃ q, Jx q X)
    (fun rs X Y row hs hg hr => ⟨hJ _ X Y row hs.1 hg (fun r e => by have := hr r e; omega), hs.2.1.grown (by have := hs.2.2; omega) hBX hg hr, Nat.le_trans hs.2.2 hg.size⟩)
    (fun c rs X Y row hs hg hr => ⟨hs.1, by
      obtain ⟨q, hq⟩ := hs.2
      exact ⟨q, hJx _ X Y row hq hg (fun r e => by have := hr r e; omega)⟩⟩)
    ⟨hjV, hAV, Nat.le_refl _⟩
    (fun x a' _ => a' = { tmps := #[.func (.yield lp) #[] #[], .pointer (some ⟨Bt, 0, none⟩), .pointer (some ⟨W.heap.size, 0, none⟩), .int .i64 (x.1 : Int), .slice (A x.1) m (C x.1), undef, undef, .slice (some ⟨b, o, none⟩) n cap, .slice (some ⟨b, o, none⟩) n cap, .int .i64 ((2 ^ n - 1 : Nat) : Int), .func (.func 131) #[] #[.pointer (some ⟨W.heap.size + 1, 0, none⟩), .pointer (some ⟨W.heap.size + 1 + 1, 0, none⟩)], .int .i64 (x.1 : Int), .slice (A x.1) m (C x.1), undef, undef, undef, undef, undef, undef, undef, undef, undef, undef, undef, undef, undef, undef, undef, undef, undef, undef, undef], defers := [] })
    (fun _ _ _ _ _ _ hA _ _ => hA)
    ?assign ?body ?done ?stop
  case assign =>
    rintro lq rs x X K hzX hi _ hK
    gi_wp2
    exact hK _ _ (Keeps.refl _ _) hi rfl
  case body =>
    rintro lq rs x a' X hlq hzX _ ⟨hjx, hAX, _⟩ _ rfl hlen
    obtain ⟨i, hi⟩ := x
    have hmix : Try.prog.follows .mixedOrders = true := by kernel_rfl
    have HJX := Lib.hid hjx
    have HAX := Lib.hid hAX
    have hrl := first_len' (rs.map (fun x : {i : Nat // i < n} => x.1)) m
    rw [List.length_map] at hrl
    have hrl2 : rs.length * m ≤ 5 * 6 := Nat.mul_le_mul (by omega) hw.2
    simp only
    clear hjx hAX
    gi_wp2
    gi_loopw [15] (fun kv wr => ∃ k : Nat, k ≤ m ∧ kv = .int .i64 k ∧ J ((rs.map (fun x : {i : Nat // i < n} => x.1)).flatMap (firstRow m) ++ (firstRow m i).take k) wr ∧ AB w0.heap.size w0 Bt W.heap.size lp (some ⟨b, o, none⟩) n cap wr ∧ Keeps own X wr ∧ V.heap.size ≤ wr.heap.size) (fun kv _ => m - (intOf kv).toNat)
    case atStart => exact ⟨0, Nat.zero_le _, rfl, by rw [List.take_zero, List.append_nil]; exact HJX.out, HAX.out, Keeps.refl _ _, hzX⟩
    case round =>
      obtain ⟨k, hk, rfl, hjr, hAr, hkr, hzr⟩ := hrel
      by_cases hlt : k < m
      · obtain ⟨e, he⟩ : ∃ e, min i k + 1 = e := ⟨_, rfl⟩
        have hfs := firstRow_snoc m i k hlt
        have hmem : (runS (i + 1 - (min i k + 1)) (min i k + 1), runS (k + 1 - (min i k + 1)) (min i k + 1)) ∈ partsF n m := partsF_mem.2 ⟨i, k, hi, hlt, rfl⟩
        simp only [he] at hfs hmem
        have ES1 := EB.out i e (by omega) (by omega) (by omega)
        have ES2 := EB.out k e (by omega) (by omega) (by omega)
        obtain ⟨s1, hs1⟩ : ∃ s, runS (i + 1 - e) e = s := ⟨_, rfl⟩
        obtain ⟨s2, hs2⟩ : ∃ s, runS (k + 1 - e) e = s := ⟨_, rfl⟩
        simp only [hs1, hs2] at hfs hmem ES1 ES2
        have hl4 : ((rs.map (fun x : {i : Nat // i < n} => x.1)).flatMap (firstRow m) ++ (firstRow m i).take k).length < 64 := by
          rw [List.length_append, List.length_take]; omega
        obtain ⟨fn, tmps, assign, body, hy, hR⟩ := yieldAt_any (m' := f - 1 - 1 - 1) (hY _ (s1, s2) wr.drew (hJ _ wr wr.drew none hjr (grown_drewP (World.grownBy.refl _ none)) (fun r e => by cases e)) hmem hl4)
        dsimp only [encP] at hy
        have cY : wr.drew.cell? ⟨W.heap.size, 0, none⟩ = _ := hAr.yb
        have HKEEP := Lib.hid (show ∀ Z, Keeps own wr.drew Z → AB w0.heap.size w0 Bt W.heap.size lp (some ⟨b, o, none⟩) n cap Z ∧ Keeps own X Z ∧ V.heap.size ≤ Z.heap.size from fun Z hk => by
          have hk2 : Keeps own wr Z := (Keeps.grown (grown_drewP (World.grownBy.refl _ none)) (fun r e => by cases e)).trans hk
          exact ⟨hAr.keeps (by omega) hk2 hso3, hkr.trans hk2, by have := hk2.size; omega⟩)
        replace ES1 := Lib.hid (fun (V : World) => ES1 V)
        replace ES2 := Lib.hid (fun (V : World) => ES2 V)
        have HFS := Lib.hid hfs
        have hwe : IntKind.i64.wrap (((min i k : Nat) : Int) + 1) = (e : Int) := by rw [IntWalk.i64_in _ ⟨by omega, by omega⟩]; omega
        have hwk : IntKind.i64.wrap ((k : Int) + 1) = ((k + 1 : Nat) : Int) := by rw [IntWalk.i64_in _ ⟨by omega, by omega⟩]; omega
        clear hjr hAr hkr hfs hmem hs1 hs2 hl4 hc hcV hAV hbt hbs c3 y3 hg2 hjV
        have hii : (0:Int) ≤ (i:Int) := by omega
        by_cases hik : k < i
        · rw [show ((min i k : Nat) : Int) = (k : Int) by omega] at hwe
          gi_wp2
          refine wpIn_region_any hmix (wpAnyIn_round (noDefer_of (by kernel_rfl)) _ _ _ _ ?_)
          change wpAnyIn _ _ _ _ _ _ _ _ _ (World.drew _)
          refine wpAnyIn_take (i := 1) (v := .int .i64 i) rfl rfl (by kernel_rfl) (by kernel_rfl) (by kernel_rfl) (fun _ _ _ h => h) ⟨Or.inl ⟨by rfl, fun w => by go_simp⟩, fun _ => rfl⟩ ?_
          simp only [Act.put]
          refine wpAnyIn_take (i := 2) (v := .int .i64 e) rfl rfl (by kernel_rfl) (by kernel_rfl) (by kernel_rfl) (fun _ _ _ h => h) ⟨Or.inl ⟨by rfl, fun w => by go_simp⟩, fun _ => rfl⟩ ?_
          simp only [Act.put]
          refine wpAnyIn_take (i := 4) (v := .int .i64 k) rfl rfl (by kernel_rfl) (by kernel_rfl) (by kernel_rfl) (fun _ _ _ h => h) ⟨Or.inl ⟨by rfl, fun w => by go_simp⟩, fun _ => rfl⟩ ?_
          simp only [Act.put]
          refine wpAnyIn_take (i := 5) (v := .int .i64 e) rfl rfl (by kernel_rfl) (by kernel_rfl) (by kernel_rfl) (fun _ _ _ h => h) ⟨Or.inl ⟨by rfl, fun w => by go_simp⟩, fun _ => rfl⟩ ?_
          simp only [Act.put]
          refine wpAnyIn_ready (rs := [0, 3]) (by kernel_rfl) (by simp) (AllReadyIn.cons rfl (fun K hK => ?pA) (AllReadyIn.cons rfl (fun K hK => ?pB) AllReadyIn.nil))
          case pA =>
            go_simp
            refine hK _ _ ?_
            clear hK K
            refine wpAnyIn_ready (rs := [3]) (by kernel_rfl) (by simp) (AllReadyIn.cons rfl (fun K hK => ?_) AllReadyIn.nil)
            go_simp
            refine ⟨trivial, fun _ => by omega, ?_⟩
            gi_at_call 138
            refine (callsIn_wide.2 (ES1.out _)).mono ?_
            rintro e w' ⟨rfl, rfl⟩
            refine hK _ _ ?_
            clear hK K
            refine wpAnyIn_ready (rs := [6]) (by kernel_rfl) (by simp) (AllReadyIn.cons rfl (fun K hK => ?_) AllReadyIn.nil)
            go_simp
            refine ⟨trivial, fun _ => by omega, ?_⟩
            gi_at_call 138
            refine (callsIn_wide.2 (ES2.out _)).mono ?_
            rintro e w' ⟨rfl, rfl⟩
            refine hK _ _ ?_
            clear hK K
            refine wpAnyIn_ready (rs := [7]) (by kernel_rfl) (by simp) (AllReadyIn.cons rfl (fun K hK => ?_) AllReadyIn.nil)
            go_simp
            refine ⟨fun _ => by omega, hR.mono ?_⟩
            rintro e W3 (⟨rfl, hJ3, hk3⟩ | ⟨rfl, hx3, hk3⟩)
            · obtain ⟨q1, q2, q3⟩ := HKEEP.out _ hk3
              refine hK _ _ ?_
              clear hK K
              refine wpAnyIn_ready (rs := [8]) (by kernel_rfl) (by simp) (AllReadyIn.cons rfl (fun K hK => ?_) AllReadyIn.nil)
              go_simp
              refine hK _ _ ?_
              clear hK K
              refine wpAnyIn_done (by kernel_rfl) ?_ _
              gi_wp2
              go_roundw
              case rel => exact ⟨k + 1, by omega, by (first | rfl | (simp only [Value.int.injEq, true_and]; omega)), by rw [HFS.out, ← List.append_assoc]; exact hJ3, q1, q2, q3⟩
              case measure => simp [intOf]; omega
            · obtain ⟨q1, q2, q3⟩ := HKEEP.out _ hk3
              refine hK _ _ ?_
              clear hK K
              refine wpAnyIn_ready (rs := [8]) (by kernel_rfl) (by simp) (AllReadyIn.cons rfl (fun K hK => ?_) AllReadyIn.nil)
              go_simp
              refine hK _ _ ?_
              clear hK K
              refine wpAnyIn_done (by kernel_rfl) ?_ _
              gi_wp2
              exact ⟨q2, rfl, _, hx3⟩
          case pB =>
            go_simp
            refine ⟨trivial, fun _ => by omega, ?_⟩
            gi_at_call 138
            refine (callsIn_wide.2 (ES1.out _)).mono ?_
            rintro e w' ⟨rfl, rfl⟩
            refine hK _ _ ?_
            clear hK K
            refine wpAnyIn_ready (rs := [0, 6]) (by kernel_rfl) (by simp) (AllReadyIn.cons rfl (fun K hK => ?pC) (AllReadyIn.cons rfl (fun K hK => ?pD) AllReadyIn.nil))
            case pC =>
              go_simp
              refine hK _ _ ?_
              clear hK K
              refine wpAnyIn_ready (rs := [6]) (by kernel_rfl) (by simp) (AllReadyIn.cons rfl (fun K hK => ?_) AllReadyIn.nil)
              go_simp
              refine ⟨trivial, fun _ => by omega, ?_⟩
              gi_at_call 138
              refine (callsIn_wide.2 (ES2.out _)).mono ?_
              rintro e w' ⟨rfl, rfl⟩
              refine hK _ _ ?_
              clear hK K
              refine wpAnyIn_ready (rs := [7]) (by kernel_rfl) (by simp) (AllReadyIn.cons rfl (fun K hK => ?_) AllReadyIn.nil)
              go_simp
              refine ⟨fun _ => by omega, hR.mono ?_⟩
              rintro e W3 (⟨rfl, hJ3, hk3⟩ | ⟨rfl, hx3, hk3⟩)
              · obtain ⟨q1, q2, q3⟩ := HKEEP.out _ hk3
                refine hK _ _ ?_
                clear hK K
                refine wpAnyIn_ready (rs := [8]) (by kernel_rfl) (by simp) (AllReadyIn.cons rfl (fun K hK => ?_) AllReadyIn.nil)
                go_simp
                refine hK _ _ ?_
                clear hK K
                refine wpAnyIn_done (by kernel_rfl) ?_ _
                gi_wp2
                go_roundw
                case rel => exact ⟨k + 1, by omega, by (first | rfl | (simp only [Value.int.injEq, true_and]; omega)), by rw [HFS.out, ← List.append_assoc]; exact hJ3, q1, q2, q3⟩
                case measure => simp [intOf]; omega
              · obtain ⟨q1, q2, q3⟩ := HKEEP.out _ hk3
                refine hK _ _ ?_
                clear hK K
                refine wpAnyIn_ready (rs := [8]) (by kernel_rfl) (by simp) (AllReadyIn.cons rfl (fun K hK => ?_) AllReadyIn.nil)
                go_simp
                refine hK _ _ ?_
                clear hK K
                refine wpAnyIn_done (by kernel_rfl) ?_ _
                gi_wp2
                exact ⟨q2, rfl, _, hx3⟩
            case pD =>
              go_simp
              refine ⟨trivial, fun _ => by omega, ?_⟩
              gi_at_call 138
              refine (callsIn_wide.2 (ES2.out _)).mono ?_
              rintro e w' ⟨rfl, rfl⟩
              refine hK _ _ ?_
              clear hK K
              refine wpAnyIn_ready (rs := [0]) (by kernel_rfl) (by simp) (AllReadyIn.cons rfl (fun K hK => ?_) AllReadyIn.nil)
              go_simp
              refine hK _ _ ?_
              clear hK K
              refine wpAnyIn_ready (rs := [7]) (by kernel_rfl) (by simp) (AllReadyIn.cons rfl (fun K hK => ?_) AllReadyIn.nil)
              go_simp
              refine ⟨fun _ => by omega, hR.mono ?_⟩
              rintro e W3 (⟨rfl, hJ3, hk3⟩ | ⟨rfl, hx3, hk3⟩)
              · obtain ⟨q1, q2, q3⟩ := HKEEP.out _ hk3
                refine hK _ _ ?_
                clear hK K
                refine wpAnyIn_ready (rs := [8]) (by kernel_rfl) (by simp) (AllReadyIn.cons rfl (fun K hK => ?_) AllReadyIn.nil)
                go_simp
                refine hK _ _ ?_
                clear hK K
                refine wpAnyIn_done (by kernel_rfl) ?_ _
                gi_wp2
                go_roundw
                case rel => exact ⟨k + 1, by omega, by (first | rfl | (simp only [Value.int.injEq, true_and]; omega)), by rw [HFS.out, ← List.append_assoc]; exact hJ3, q1, q2, q3⟩
                case measure => simp [intOf]; omega
              · obtain ⟨q1, q2, q3⟩ := HKEEP.out _ hk3
                refine hK _ _ ?_
                clear hK K
                refine wpAnyIn_ready (rs := [8]) (by kernel_rfl) (by simp) (AllReadyIn.cons rfl (fun K hK => ?_) AllReadyIn.nil)
                go_simp
                refine hK _ _ ?_
                clear hK K
                refine wpAnyIn_done (by kernel_rfl) ?_ _
                gi_wp2
                exact ⟨q2, rfl, _, hx3⟩
        · rw [show ((min i k : Nat) : Int) = (i : Int) by omega] at hwe
          gi_wp2
          refine wpIn_region_any hmix (wpAnyIn_round (noDefer_of (by kernel_rfl)) _ _ _ _ ?_)
          change wpAnyIn _ _ _ _ _ _ _ _ _ (World.drew _)
          refine wpAnyIn_take (i := 1) (v := .int .i64 i) rfl rfl (by kernel_rfl) (by kernel_rfl) (by kernel_rfl) (fun _ _ _ h => h) ⟨Or.inl ⟨by rfl, fun w => by go_simp⟩, fun _ => rfl⟩ ?_
          simp only [Act.put]
          refine wpAnyIn_take (i := 2) (v := .int .i64 e) rfl rfl (by kernel_rfl) (by kernel_rfl) (by kernel_rfl) (fun _ _ _ h => h) ⟨Or.inl ⟨by rfl, fun w => by go_simp⟩, fun _ => rfl⟩ ?_
          simp only [Act.put]
          refine wpAnyIn_take (i := 4) (v := .int .i64 k) rfl rfl (by kernel_rfl) (by kernel_rfl) (by kernel_rfl) (fun _ _ _ h => h) ⟨Or.inl ⟨by rfl, fun w => by go_simp⟩, fun _ => rfl⟩ ?_
          simp only [Act.put]
          refine wpAnyIn_take (i := 5) (v := .int .i64 e) rfl rfl (by kernel_rfl) (by kernel_rfl) (by kernel_rfl) (fun _ _ _ h => h) ⟨Or.inl ⟨by rfl, fun w => by go_simp⟩, fun _ => rfl⟩ ?_
          simp only [Act.put]
          refine wpAnyIn_ready (rs := [0, 3]) (by kernel_rfl) (by simp) (AllReadyIn.cons rfl (fun K hK => ?pA) (AllReadyIn.cons rfl (fun K hK => ?pB) AllReadyIn.nil))
          case pA =>
            go_simp
            refine hK _ _ ?_
            clear hK K
            refine wpAnyIn_ready (rs := [3]) (by kernel_rfl) (by simp) (AllReadyIn.cons rfl (fun K hK => ?_) AllReadyIn.nil)
            go_simp
            refine ⟨trivial, fun _ => by omega, ?_⟩
            gi_at_call 138
            refine (callsIn_wide.2 (ES1.out _)).mono ?_
            rintro e w' ⟨rfl, rfl⟩
            refine hK _ _ ?_
            clear hK K
            refine wpAnyIn_ready (rs := [6]) (by kernel_rfl) (by simp) (AllReadyIn.cons rfl (fun K hK => ?_) AllReadyIn.nil)
            go_simp
            refine ⟨trivial, fun _ => by omega, ?_⟩
            gi_at_call 138
            refine (callsIn_wide.2 (ES2.out _)).mono ?_
            rintro e w' ⟨rfl, rfl⟩
            refine hK _ _ ?_
            clear hK K
            refine wpAnyIn_ready (rs := [7]) (by kernel_rfl) (by simp) (AllReadyIn.cons rfl (fun K hK => ?_) AllReadyIn.nil)
            go_simp
            refine ⟨fun _ => by omega, hR.mono ?_⟩
            rintro e W3 (⟨rfl, hJ3, hk3⟩ | ⟨rfl, hx3, hk3⟩)
            · obtain ⟨q1, q2, q3⟩ := HKEEP.out _ hk3
              refine hK _ _ ?_
              clear hK K
              refine wpAnyIn_ready (rs := [8]) (by kernel_rfl) (by simp) (AllReadyIn.cons rfl (fun K hK => ?_) AllReadyIn.nil)
              go_simp
              refine hK _ _ ?_
              clear hK K
              refine wpAnyIn_done (by kernel_rfl) ?_ _
              gi_wp2
              go_roundw
              case rel => exact ⟨k + 1, by omega, by (first | rfl | (simp only [Value.int.injEq, true_and]; omega)), by rw [HFS.out, ← List.append_assoc]; exact hJ3, q1, q2, q3⟩
              case measure => simp [intOf]; omega
            · obtain ⟨q1, q2, q3⟩ := HKEEP.out _ hk3
              refine hK _ _ ?_
              clear hK K
              refine wpAnyIn_ready (rs := [8]) (by kernel_rfl) (by simp) (AllReadyIn.cons rfl (fun K hK => ?_) AllReadyIn.nil)
              go_simp
              refine hK _ _ ?_
              clear hK K
              refine wpAnyIn_done (by kernel_rfl) ?_ _
              gi_wp2
              exact ⟨q2, rfl, _, hx3⟩
          case pB =>
            go_simp
            refine ⟨trivial, fun _ => by omega, ?_⟩
            gi_at_call 138
            refine (callsIn_wide.2 (ES1.out _)).mono ?_
            rintro e w' ⟨rfl, rfl⟩
            refine hK _ _ ?_
            clear hK K
            refine wpAnyIn_ready (rs := [0, 6]) (by kernel_rfl) (by simp) (AllReadyIn.cons rfl (fun K hK => ?pC) (AllReadyIn.cons rfl (fun K hK => ?pD) AllReadyIn.nil))
            case pC =>
              go_simp
              refine hK _ _ ?_
              clear hK K
              refine wpAnyIn_ready (rs := [6]) (by kernel_rfl) (by simp) (AllReadyIn.cons rfl (fun K hK => ?_) AllReadyIn.nil)
              go_simp
              refine ⟨trivial, fun _ => by omega, ?_⟩
              gi_at_call 138
              refine (callsIn_wide.2 (ES2.out _)).mono ?_
              rintro e w' ⟨rfl, rfl⟩
              refine hK _ _ ?_
              clear hK K
              refine wpAnyIn_ready (rs := [7]) (by kernel_rfl) (by simp) (AllReadyIn.cons rfl (fun K hK => ?_) AllReadyIn.nil)
              go_simp
              refine ⟨fun _ => by omega, hR.mono ?_⟩
              rintro e W3 (⟨rfl, hJ3, hk3⟩ | ⟨rfl, hx3, hk3⟩)
              · obtain ⟨q1, q2, q3⟩ := HKEEP.out _ hk3
                refine hK _ _ ?_
                clear hK K
                refine wpAnyIn_ready (rs := [8]) (by kernel_rfl) (by simp) (AllReadyIn.cons rfl (fun K hK => ?_) AllReadyIn.nil)
                go_simp
                refine hK _ _ ?_
                clear hK K
                refine wpAnyIn_done (by kernel_rfl) ?_ _
                gi_wp2
                go_roundw
                case rel => exact ⟨k + 1, by omega, by (first | rfl | (simp only [Value.int.injEq, true_and]; omega)), by rw [HFS.out, ← List.append_assoc]; exact hJ3, q1, q2, q3⟩
                case measure => simp [intOf]; omega
              · obtain ⟨q1, q2, q3⟩ := HKEEP.out _ hk3
                refine hK _ _ ?_
                clear hK K
                refine wpAnyIn_ready (rs := [8]) (by kernel_rfl) (by simp) (AllReadyIn.cons rfl (fun K hK => ?_) AllReadyIn.nil)
                go_simp
                refine hK _ _ ?_
                clear hK K
                refine wpAnyIn_done (by kernel_rfl) ?_ _
                gi_wp2
                exact ⟨q2, rfl, _, hx3⟩
            case pD =>
              go_simp
              refine ⟨trivial, fun _ => by omega, ?_⟩
              gi_at_call 138
              refine (callsIn_wide.2 (ES2.out _)).mono ?_
              rintro e w' ⟨rfl, rfl⟩
              refine hK _ _ ?_
              clear hK K
              refine wpAnyIn_ready (rs := [0]) (by kernel_rfl) (by simp) (AllReadyIn.cons rfl (fun K hK => ?_) AllReadyIn.nil)
              go_simp
              refine hK _ _ ?_
              clear hK K
              refine wpAnyIn_ready (rs := [7]) (by kernel_rfl) (by simp) (AllReadyIn.cons rfl (fun K hK => ?_) AllReadyIn.nil)
              go_simp
              refine ⟨fun _ => by omega, hR.mono ?_⟩
              rintro e W3 (⟨rfl, hJ3, hk3⟩ | ⟨rfl, hx3, hk3⟩)
              · obtain ⟨q1, q2, q3⟩ := HKEEP.out _ hk3
                refine hK _ _ ?_
                clear hK K
                refine wpAnyIn_ready (rs := [8]) (by kernel_rfl) (by simp) (AllReadyIn.cons rfl (fun K hK => ?_) AllReadyIn.nil)
                go_simp
                refine hK _ _ ?_
                clear hK K
                refine wpAnyIn_done (by kernel_rfl) ?_ _
                gi_wp2
                go_roundw
                case rel => exact ⟨k + 1, by omega, by (first | rfl | (simp only [Value.int.injEq, true_and]; omega)), by rw [HFS.out, ← List.append_assoc]; exact hJ3, q1, q2, q3⟩
                case measure => simp [intOf]; omega
              · obtain ⟨q1, q2, q3⟩ := HKEEP.out _ hk3
                refine hK _ _ ?_
                clear hK K
                refine wpAnyIn_ready (rs := [8]) (by kernel_rfl) (by simp) (AllReadyIn.cons rfl (fun K hK => ?_) AllReadyIn.nil)
                go_simp
                refine hK _ _ ?_
                clear hK K
                refine wpAnyIn_done (by kernel_rfl) ?_ _
                gi_wp2
                exact ⟨q2, rfl, _, hx3⟩
      · obtain rfl : k = m := by omega
        gi_wp2
        refine ⟨hkr, ?_, hAr, hzr⟩
        rw [List.map_append, List.flatMap_append]
        have e : (firstRow k i).take k = firstRow k i := List.take_of_length_le (by simp [firstRow])
        rw [e] at hjr
        simpa using hjr
  case done =>
    rintro D rs X hD rfl ⟨hjx, _, _⟩ hK
    have hjz := hJ.put (.deferred none) hjx (show W.heap.size ≤ D by omega)
    gi_wp2
    show LeavesInM _ _ _ _ _ _ _ _ _
    refine ⟨by simp, .inl ⟨_, _, rfl, run_takeDeferred hK, ?_⟩⟩
    refine ⟨.tuple #[], ?_, ⟨_, rfl⟩, .inl ⟨_, rfl, by rw [sel_fullF n n (Nat.le_refl n)] at hjz; exact hjz⟩⟩
    simp [results, Try.f137, go_sem]
  case stop =>
    rintro D c rs X hD _ ⟨rfl, q, hq⟩ hK
    have hjz := hJx.put (.deferred none) hq (show W.heap.size ≤ D by omega)
    gi_wp2
    show LeavesInM _ _ _ _ _ _ _ _ _
    refine ⟨by simp, .inl ⟨_, _, rfl, run_takeDeferred hK, ?_⟩⟩
    refine ⟨.tuple #[], ?_, ⟨_, rfl⟩, .inr ⟨q, trivial, hjz⟩⟩
    simp [results, Try.f137, go_sem]

end Go.Proofs.Ytbclpbgomkfabaa
end

section
namespace Go.Proofs.Ytbclpbgomkfabaa
open Go.RowKit Go.Deep Go.Shelf
attribute [local go_sem] Oper.semAt_some

theorem allParts_any (a : Option Addr) (n cap : Nat) (w : World) :
    Calls Try.prog 121 #[.slice a n cap] w fun e w' => e = .returned (.func (.func 139) #[] #[.pointer (some ⟨w.heap.size, 0, none⟩)]) ∧ w' = w.alloc (.cells #[.slice a n cap] 66) := by
  go_enter Try.func121, Try.ntmps121
  go_wp2
  go_ret
  exact ⟨rfl, rfl⟩

theorem withAll_any (a : Option Addr) (n cap : Nat) (w : World) :
    Calls Try.prog 88 #[.slice a n cap] w fun e w' => e = .returned (posV a n cap 139 #[.pointer (some ⟨w.heap.size + 1, 0, none⟩)]) ∧ w.Since w.heap.size w' ∧ w'.cell? ⟨w.heap.size + 1, 0, none⟩ = some (.slice a n cap) := by
  have EA := Lib.hid (fun (W : World) => allParts_any a n cap W)
  go_enter Try.func88, Try.ntmps88
  go_wp2_with fail
  refine (EA.out _).mono ?_
  rintro e w2 ⟨rfl, rfl⟩
  have hB : ((w.alloc (.cells #[.slice none 0 0, Value.nilFunc] 78)).alloc (.cells #[.slice a n cap] 66)).heap[w.heap.size]? = some (.cells #[.slice none 0 0, Value.nilFunc] 78) := (Below.heap_alloc _ _ _ (by simp)).trans (World.alloc_heap_new w _)
  have hc := (cells2 hB)
  obtain ⟨hc0, hc1⟩ := hc
  go_wp2_with fail
  refine bodyPost_ret (v := posV a n cap 139 #[.pointer (some ⟨w.heap.size + 1, 0, none⟩)]) ?_ rfl ?_
  · have hB2 : ((w.alloc (.cells #[.slice a n cap, .func (.func 139) #[] #[.pointer (some ⟨w.heap.size + 1, 0, none⟩)]] 78)).alloc (.cells #[.slice a n cap] 66)).heap[w.heap.size]? = some (.cells #[.slice a n cap, .func (.func 139) #[] #[.pointer (some ⟨w.heap.size + 1, 0, none⟩)]] 78) := (Below.heap_alloc _ _ _ (by simp)).trans (World.alloc_heap_new w _)
    obtain ⟨d0, d1⟩ := cells2 hB2
    simp [results, Try.f88, go_sem, d0, d1, posV]
  · have h := (cell_new_l (w.alloc (.cells #[.slice a n cap, .func (.func 139) #[] #[.pointer (some ⟨w.heap.size + 1, 0, none⟩)]] 78)) (.slice a n cap) 66).1
    rw [World.size_alloc] at h
    exact ⟨rfl, ((World.Since.refl _ w).alloc (Nat.le_refl _) _).alloc (by simp) _, h⟩

theorem firstParts_any (a : Option Addr) (n cap : Nat) (w : World) :
    Calls Try.prog 120 #[.slice a n cap] w fun e w' => e = .returned (.func (.func 137) #[] #[.pointer (some ⟨w.heap.size, 0, none⟩)]) ∧ w' = w.alloc (.cells #[.slice a n cap] 66) := by
  go_enter Try.func120, Try.ntmps120
  go_wp2
  go_ret
  exact ⟨rfl, rfl⟩

theorem withFirst_any (a : Option Addr) (n cap : Nat) (w : World) :
    Calls Try.prog 74 #[.slice a n cap] w fun e w' => e = .returned (posV a n cap 137 #[.pointer (some ⟨w.heap.size + 1, 0, none⟩)]) ∧ w.Since w.heap.size w' ∧ w'.cell? ⟨w.heap.size + 1, 0, none⟩ = some (.slice a n cap) := by
  have EA := Lib.hid (fun (W : World) => firstParts_any a n cap W)
  go_enter Try.func74, Try.ntmps74
  go_wp2_with fail
  refine (EA.out _).mono ?_
  rintro e w2 ⟨rfl, rfl⟩
  have hB : ((w.alloc (.cells #[.slice none 0 0, Value.nilFunc] 78)).alloc (.cells #[.slice a n cap] 66)).heap[w.heap.size]? = some (.cells #[.slice none 0 0, Value.nilFunc] 78) := (Below.heap_alloc _ _ _ (by simp)).trans (World.alloc_heap_new w _)
  have hc := (cells2 hB)
  obtain ⟨hc0, hc1⟩ := hc
  go_wp2_with fail
  refine bodyPost_ret (v := posV a n cap 137 #[.pointer (some ⟨w.heap.size + 1, 0, none⟩)]) ?_ rfl ?_
  · have hB2 : ((w.alloc (.cells #[.slice a n cap, .func (.func 137) #[] #[.pointer (some ⟨w.heap.size + 1, 0, none⟩)]] 78)).alloc (.cells #[.slice a n cap] 66)).heap[w.heap.size]? = some (.cells #[.slice a n cap, .func (.func 137) #[] #[.pointer (some ⟨w.heap.size + 1, 0, none⟩)]] 78) := (Below.heap_alloc _ _ _ (by simp)).trans (World.alloc_heap_new w _)
    obtain ⟨d0, d1⟩ := cells2 hB2
    simp [results, Try.f74, go_sem, d0, d1, posV]
  · have h := (cell_new_l (w.alloc (.cells #[.slice a n cap, .func (.func 137) #[] #[.pointer (some ⟨w.heap.size + 1, 0, none⟩)]] 78)) (.slice a n cap) 66).1
    rw [World.size_alloc] at h
    exact ⟨rfl, ((World.Since.refl _ w).alloc (Nat.le_refl _) _).alloc (by simp) _, h⟩

theorem oldT_two {w w3 V : World} (hs : w.Since w.heap.size w3) (ho : OldT w3.heap.size w3 V) : OldT w.heap.size w V := fun k hk => (ho k (by have := hs.size; omega)).trans (hs.block k hk)
theorem partsA_ok {n m : Nat} (hn : n ≤ 6) (hm : m ≤ 6) {x : Nat × Nat} (hx : x ∈ partsA n m) : popcS x.1 = popcS x.2 ∧ x.1 < 2 ^ n ∧ x.2 < 2 ^ m := ((partsA_mem hn hm).1 hx).2

theorem allMinors_any (a : Option Addr) (cap n m : Nat) (q : Int) (l : List (List Int)) (w w3 : World) (hn : l.length = n) (hmm : (l.getD 0 []).length = m) (hT : TabIn l) (hm : MatR w a l) (hs : w.Since w.heap.size w3) (hc : w3.cell? ⟨w.heap.size + 1, 0, none⟩ = some (.slice a n cap)) :
    Calls Try.prog 89 #[posV a n cap 139 #[.pointer (some ⟨w.heap.size + 1, 0, none⟩)], .int .i64 q] w3 fun e w' => e = .returned (.bool (leastB l q (partsA n m))) ∧ w3.Since w3.heap.size w' := by
  have h6 := hT.2.1
  have hw := hT.width
  rw [hn] at h6
  rw [hmm] at hw
  have hlt := World.block_lt_of_cell? _ _ hc
  simp only at hlt
  have hz := hs.size
  exact minorsFrom_any a cap n m q _ _ (partsA n m) 32768 (fun k => k < w.heap.size ∨ k = w.heap.size + 1) l w3 hn hmm hT (hm.since hs) (fun x hx => partsA_ok h6 hw.2 hx) (fun k hk => by omega)
    (fun V ho hzV => all_seqE 29 (by omega) (w.heap.size + 1) n m cap a l w V hn hT hmm hm (oldT_two hs ho) (by omega) (by omega) ((ho.cell (by exact hlt)).trans hc)) (enters_of Try.func139 (by kernel_rfl) rfl)

theorem firstMinors_any (a : Option Addr) (cap n m : Nat) (q : Int) (l : List (List Int)) (w w3 : World) (hn : l.length = n) (hmm : (l.getD 0 []).length = m) (hT : TabIn l) (hm : MatR w a l) (hs : w.Since w.heap.size w3) (hc : w3.cell? ⟨w.heap.size + 1, 0, none⟩ = some (.slice a n cap)) :
    Calls Try.prog 89 #[posV a n cap 137 #[.pointer (some ⟨w.heap.size + 1, 0, none⟩)], .int .i64 q] w3 fun e w' => e = .returned (.bool (leastB l q (partsF n m))) ∧ w3.Since w3.heap.size w' := by
  have h6 := hT.2.1
  have hw := hT.width
  rw [hn] at h6
  rw [hmm] at hw
  have hlt := World.block_lt_of_cell? _ _ hc
  simp only at hlt
  have hz := hs.size
  exact minorsFrom_any a cap n m q _ _ (partsF n m) 64 (fun k => k < w.heap.size ∨ k = w.heap.size + 1) l w3 hn hmm hT (hm.since hs) (fun x hx => ⟨(partsF_ok h6 hw.2 hx).1, (partsF_ok h6 hw.2 hx).2.1, (partsF_ok h6 hw.2 hx).2.2.1⟩) (fun k hk => by omega)
    (fun V ho hzV => first_seqE 29 (by omega) (w.heap.size + 1) n m cap a l w V hn hT hmm hm (oldT_two hs ho) (by omega) (by omega) ((ho.cell (by exact hlt)).trans hc)) (enters_of Try.func137 (by kernel_rfl) rfl)

theorem firstCount_any (a : Option Addr) (cap n m : Nat) (l : List (List Int)) (w w3 : World) (hn : l.length = n) (hmm : (l.getD 0 []).length = m) (hT : TabIn l) (hm : MatR w a l) (hs : w.Since w.heap.size w3) (hc : w3.cell? ⟨w.heap.size + 1, 0, none⟩ = some (.slice a n cap)) :
    Calls Try.prog 75 #[posV a n cap 137 #[.pointer (some ⟨w.heap.size + 1, 0, none⟩)]] w3 fun e w' => e = .returned (.int .i64 (n * m : Nat)) ∧ w3.Since w3.heap.size w' := by
  have hlt := World.block_lt_of_cell? _ _ hc
  simp only at hlt
  have hz := hs.size
  rw [← partsF_len]
  exact countParts_any a cap n _ _ (partsF n m) 64 (by omega) (fun k => k < w.heap.size ∨ k = w.heap.size + 1) w3 (fun k hk => by omega)
    (fun V ho hzV => first_seqE 29 (by omega) (w.heap.size + 1) n m cap a l w V hn hT hmm hm (oldT_two hs ho) (by omega) (by omega) ((ho.cell (by exact hlt)).trans hc)) (enters_of Try.func137 (by kernel_rfl) rfl)

set_option maxHeartbeats 1000000 in
theorem implPosLasting_any (a : Option Addr) (cap n : Nat) (l : List (List Int)) (w : World) (hn : l.length = n) (hsz : szL l ≤ 1048576) (hm : MatR w a l) :
    Calls Try.prog 35 #[.slice a n cap] w fun e w' => e = .returned (.bool (tabIn l && leastB l 0 (partsA n (l.getD 0 []).length))) ∧ w.Since w.heap.size w' := by
  have E := Lib.hid (implTableIn_any a cap n l w hn hsz hm)
  cases hT : tabIn l with
  | false =>
    rw [hT] at E
    clear hT hsz hm hn
    go_enter Try.func35, Try.ntmps35
    go_wp2_with fail
    refine (E.out).mono ?_
    rintro e w1 ⟨rfl, hd⟩
    have HS := Lib.hid hd
    clear hd
    go_wp2
    go_ret
    exact ⟨rfl, HS.out⟩
  | true =>
    rw [hT] at E
    have EC := Lib.hid (fun (W w3 : World) (h : w.Since w.heap.size W) (hs : W.Since W.heap.size w3) (hc : w3.cell? ⟨W.heap.size + 1, 0, none⟩ = some (.slice a n cap)) => allMinors_any a cap n (l.getD 0 []).length 0 l W w3 hn rfl (tabIn_of hT) (hm.since h) hs hc)
    have EW := Lib.hid (fun (W : World) => withAll_any a n cap W)
    obtain ⟨B, hB⟩ : ∃ B, leastB l 0 (partsA n (l.getD 0 []).length) = B := ⟨_, rfl⟩
    rw [hB] at EC ⊢
    clear hT hsz hm hn hB
    go_enter Try.func35, Try.ntmps35
    go_wp2_with fail
    refine (E.out).mono ?_
    rintro e w1 ⟨rfl, hd⟩
    have HS := Lib.hid hd
    clear hd
    go_wp2_with fail
    refine (EW.out w1).mono ?_
    rintro e w2 ⟨rfl, hs2, hc2⟩
    have HS2 := Lib.hid (HS.out.trans (since_mono hs2 HS.out.size))
    have EC2 := Lib.hid (EC.out w1 w2 HS.out hs2 hc2)
    clear hs2 hc2
    go_wp2_with fail
    refine (EC2.out).mono ?_
    rintro e w3 ⟨rfl, hs3⟩
    have HS3 := Lib.hid (HS2.out.trans (since_mono hs3 HS2.out.size))
    clear hs3
    cases B
    · go_wp2
      go_ret
      exact ⟨rfl, HS3.out⟩
    · go_wp2
      go_ret
      exact ⟨rfl, HS3.out⟩

end Go.Proofs.Ytbclpbgomkfabaa
end

section
namespace Go.Proofs.Ytbclpbgomkfabaa
open Go.RowKit Go.Deep

set_option maxHeartbeats 1000000 in
theorem specPosFirstCount_any (a : Option Addr) (cap n : Nat) (l : List (List Int)) (w : World) (hn : l.length = n) (hsz : szL l ≤ 1048576) (hm : MatR w a l) :
    Calls Try.prog 28 #[.slice a n cap] w (SpecW w (tabIn l) (n * (l.getD 0 []).length : Nat)) := by
  have E := Lib.hid (specTableIn_any a cap n l w hn hsz hm)
  cases hTb : tabIn l with
  | false =>
    rw [hTb] at E
    clear hTb hsz hm hn
    go_enter Try.func28, Try.ntmps28
    go_wp2_with fail
    refine (E.out).mono ?_
    rintro e w1 ⟨rfl, hd⟩
    have HS := Lib.hid (hd.since w.heap.size)
    clear hd
    go_wp2
    go_ret2
    exact ⟨rfl, HS.out⟩
  | true =>
    rw [hTb] at E
    have hT := tabIn_of hTb
    obtain ⟨m, hmm⟩ : ∃ m, (l.getD 0 []).length = m := ⟨_, rfl⟩
    rw [hmm]
    have h6 := hT.2.1
    have h1 := hT.1
    have hw := hT.width
    rw [hn] at h6 h1
    rw [hmm] at hw
    obtain ⟨b, o, A, C, rfl, hc⟩ := hm (by omega)
    have c0 := (hc 0 (by omega)).1
    rw [Nat.add_zero, hmm] at c0
    have hpr : n * m ≤ 6 * 6 := Nat.mul_le_mul h6 hw.2
    obtain ⟨p, hp⟩ : ∃ p, n * m = p := ⟨_, rfl⟩
    have hpi : (n : Int) * (m : Int) = (p : Int) := by rw [← hp]; simp
    rw [hp] at hpr ⊢
    have hwp : IntKind.i64.wrap ((n : Int) * (m : Int)) = (p : Int) := by rw [hpi]; exact IntWalk.i64_in _ ⟨by omega, by omega⟩
    have hn1 : 0 < n := by omega
    clear hn hT hTb hmm hm hc hsz hp
    go_enter Try.func28, Try.ntmps28
    go_wp2_with fail
    refine (E.out).mono ?_
    rintro e w1 ⟨rfl, hd⟩
    have hs := hd.since w.heap.size
    have c1 := (hs.cell (a := ⟨b, o, none⟩) (World.block_lt_of_cell? _ _ c0)).trans c0
    have HS := Lib.hid hs
    clear hd hs c0
    go_wp2
    go_ret2
    exact ⟨by rw [← hwp]; rfl, HS.out⟩

set_option maxHeartbeats 1000000 in
theorem implPosFirstCount_any (a : Option Addr) (cap n : Nat) (l : List (List Int)) (w : World) (hn : l.length = n) (hsz : szL l ≤ 1048576) (hm : MatR w a l) :
    Calls Try.prog 27 #[.slice a n cap] w (SpecW w (tabIn l) (n * (l.getD 0 []).length : Nat)) := by
  have E := Lib.hid (implTableIn_any a cap n l w hn hsz hm)
  cases hT : tabIn l with
  | false =>
    rw [hT] at E
    clear hT hsz hm hn
    go_enter Try.func27, Try.ntmps27
    go_wp2_with fail
    refine (E.out).mono ?_
    rintro e w1 ⟨rfl, hd⟩
    have HS := Lib.hid hd
    clear hd
    go_wp2
    go_ret2
    exact ⟨rfl, HS.out⟩
  | true =>
    rw [hT] at E
    have EC := Lib.hid (fun (W w3 : World) (h : w.Since w.heap.size W) (hs : W.Since W.heap.size w3) (hc : w3.cell? ⟨W.heap.size + 1, 0, none⟩ = some (.slice a n cap)) => firstCount_any a cap n (l.getD 0 []).length l W w3 hn rfl (tabIn_of hT) (hm.since h) hs hc)
    have EW := Lib.hid (fun (W : World) => withFirst_any a n cap W)
    obtain ⟨B, hB⟩ : ∃ B, n * (l.getD 0 []).length = B := ⟨_, rfl⟩
    rw [hB] at EC ⊢
    clear hT hsz hm hn hB
    go_enter Try.func27, Try.ntmps27
    go_wp2_with fail
    refine (E.out).mono ?_
    rintro e w1 ⟨rfl, hd⟩
    have HS := Lib.hid hd
    clear hd
    go_wp2_with fail
    refine (EW.out w1).mono ?_
    rintro e w2 ⟨rfl, hs2, hc2⟩
    have HS2 := Lib.hid (HS.out.trans (since_mono hs2 HS.out.size))
    have EC2 := Lib.hid (EC.out w1 w2 HS.out hs2 hc2)
    clear hs2 hc2
    go_wp2_with fail
    refine (EC2.out).mono ?_
    rintro e w3 ⟨rfl, hs3⟩
    have HS3 := Lib.hid (HS2.out.trans (since_mono hs3 HS2.out.size))
    clear hs3
    go_wp2
    go_ret2
    exact ⟨rfl, HS3.out⟩

def WorstW (w : World) (ok : Bool) (s : Int × Nat × Nat) : Ending → World → Prop := fun e w' => e = .returned (.tuple #[.int .i64 (if ok = true then s.1 else 0), .int .i64 (if ok = true then (s.2.1 : Int) else 0), .int .i64 (if ok = true then (s.2.2 : Int) else 0), .bool ok]) ∧ w.Since w.heap.size w'

end Go.Proofs.Ytbclpbgomkfabaa
end

section
namespace Go.Proofs.Ytbclpbgomkfabaa
open Go.RowKit Go.Deep

set_option maxRecDepth 100000 in
set_option maxHeartbeats 1000000 in
theorem fnFirstCount (a : Option Addr) (cap n : Nat) (w : World) (hc : n ≤ cap) (h63 : cap ≤ 9223372036854775807) (hb : BytR w a n) :
    Calls Try.prog 7 #[.slice a n cap] w fun e w' => e = .returned (.bool true) ∧ w.Since w.heap.size w' := by
  by_cases hlen : 1048576 < n
  · have hl' : decide ((1048576 : Int) < (n : Int)) = true := by simp; omega
    clear hb
    go_enter Try.func7, Try.ntmps7
    go_wp2
    go_ret
    exact ⟨rfl, World.Since.refl _ _⟩
  · have hl' : decide ((1048576 : Int) < (n : Int)) = false := by simp; omega
    have ED := Lib.hid (drawPosFirstCount_any a n cap w hc h63 hb)
    clear hb
    go_enter Try.func7, Try.ntmps7
    go_wp2_with fail
    refine (ED.out).mono ?_
    rintro e w1 ⟨a1, c1, l, rfl, hs1, h1, h5, hlens, hit⟩
    have hsz : szL l ≤ 1048576 := szL_of h5 (fun j hj => (hlens j hj).2) (by decide)
    obtain ⟨nn, hn⟩ : ∃ nn, l.length = nn := ⟨_, rfl⟩
    rw [hn]
    have HM := Lib.hid (fun (W : World) (h : w1.Since w1.heap.size W) => hit.matR.since h)
    have HS1 := Lib.hid hs1
    obtain ⟨m, hmm⟩ : ∃ m, (l.getD 0 []).length = m := ⟨_, rfl⟩
    have E1 := implPosFirstCount_any a1 c1 nn l w1 hn hsz hit.matR
    have E2 := fun (W : World) (h : w1.Since w1.heap.size W) => specPosFirstCount_any a1 c1 nn l W hn hsz (hit.matR.since h)
    unfold SpecW at E1
    unfold SpecW at E2
    rw [hmm] at E1
    simp only [hmm] at E2
    cases hok : tabIn l with
    | false =>
      rw [hok] at E1
      simp only [hok] at E2
      replace E1 := Lib.hid E1
      replace E2 := Lib.hid E2
      clear hn hsz hit hs1 h1 h5 hlens hok hmm
      go_wp2_with fail
      refine (E1.out).mono ?_
      rintro e w2 ⟨rfl, hs2⟩
      have HS2 := Lib.hid hs2
      clear hs2
      go_wp2_with fail
      refine (E2.out w2 HS2.out).mono ?_
      rintro e w3 ⟨rfl, hd3⟩
      have HS3 := Lib.hid (HS2.out.trans (since_mono (hd3) HS2.out.size))
      clear hd3
      go_wp2
      go_ret
      exact ⟨rfl, HS1.out.trans (since_mono HS3.out HS1.out.size)⟩
    | true =>
      have hT := tabIn_of hok
      have g1 := hT.1
      have g6 := hT.2.1
      have gw := hT.width
      rw [hn] at g1 g6
      rw [hmm] at gw
      obtain ⟨b, o, A, C, rfl, hc0⟩ := hit.matR (by omega)
      have c0 := (hc0 0 (by omega)).1
      rw [Nat.add_zero, hmm] at c0
      have hpr : nn * m ≤ 6 * 6 := Nat.mul_le_mul g6 gw.2
      obtain ⟨p, hp⟩ : ∃ p, nn * m = p := ⟨_, rfl⟩
      have hpi : (nn : Int) * (m : Int) = (p : Int) := by rw [← hp]; simp
      have hwp : IntKind.i64.wrap ((nn : Int) * (m : Int)) = (p : Int) := by rw [hpi]; exact IntWalk.i64_in _ ⟨by omega, by omega⟩
      have hnn : 0 < nn := by omega
      rw [hp] at E1
      simp only [hp] at E2
      rw [hok, if_pos rfl] at E1
      simp only [hok, if_true] at E2
      replace E1 := Lib.hid E1
      replace E2 := Lib.hid E2
      clear hn hsz hit hs1 h1 h5 hlens hok hmm hp hc0 hT hpi
      go_wp2_with fail
      refine (E1.out).mono ?_
      rintro e w2 ⟨rfl, hs2⟩
      have HS2 := Lib.hid hs2
      clear hs2
      go_wp2_with fail
      refine (E2.out w2 HS2.out).mono ?_
      rintro e w3 ⟨rfl, hd3⟩
      have HS3 := Lib.hid (HS2.out.trans (since_mono (hd3) HS2.out.size))
      have c3 := (HS3.out.cell (a := ⟨b, o, none⟩) (World.block_lt_of_cell? _ _ c0)).trans c0
      clear hd3 c0
      have hbb : ((p : Int) == IntKind.i64.wrap ((nn : Int) * (m : Int))) = true := by rw [hwp]; simp
      go_wp2
      go_ret
      exact ⟨rfl, HS1.out.trans (since_mono HS3.out HS1.out.size)⟩

end Go.Proofs.Ytbclpbgomkfabaa
end

section
namespace Go.Proofs.Ytbclpbgomkfabaa
open Go.ChangeShapes Go.WideShapes Go.ChangeAt Go.RowKit Go.Deep

theorem below_since' {B : Nat} {w w' : World} (h : Below B w w') : w.Since B w' := ⟨h.os, h.tape, h.output, h.size, h.block⟩
theorem since_below' {B : Nat} {w w' : World} (h : w.Since B w') : Below B w w' := ⟨h.os, h.tape, h.output, h.size, h.block⟩

section
variable {H : Type} {enc : TypeId × Value → H} {P : Program}
theorem post_of_below {f : Func} {s : ChangeSpec} {apart fresh handsOn again : Bool} {W W' : World} {args : Array Value} {v : Value} {ds gs : List (DataW H)} {before pa pv : List MemPlace}
    (hW : DataW.Whole enc P f.params.toList s.vars apart W args.toList ds gs before)
    (hres : ∀ (b : Nat) (sp : Nat → Bool) (hd : Bool), DataW.TrodAll enc P W' b sp hd f.resultTypes.toList (v.resultList f.resultTypes.size) (s.fn H (ds ++ gs)).results [])
    (hargs : ∀ sp : Nat → Bool, (∀ p ∈ before, sp p.block = true) → DataW.TrodAll enc P W' 0 sp true f.params.toList args.toList (s.fn H (ds ++ gs)).args pa)
    (hvars : ∀ sp : Nat → Bool, (∀ p ∈ before, sp p.block = true) → DataW.TrodVars enc P W' sp s.vars (s.fn H (ds ++ gs)).vars pv)
    (hps : before = pa ++ pv) (hb : Below W.heap.size W W') (hag : again = false) :
    s.post enc P f apart fresh handsOn again W args v W' := by
  have hlt : ∀ p ∈ before, p.block < W.heap.size := fun p hp => hW.lt p hp
  have hold : ∀ p ∈ before, (fun b => decide (b < W.heap.size)) p.block = true := fun p hp => by simpa using hlt p hp
  refine ⟨ds, gs, before, [], pa, pv, hW, hres _ _ _, hargs _ hold, hvars _ hold, World.keptBut_mono (fun p hp => ⟨hp, ?_⟩) (hb.frame (· ∈ before)), fun h => ?_⟩
  · rw [hps, List.mem_append] at hp
    exact Or.inr hp
  · rw [hag] at h; cases h

theorem open_mat {W : World} {t e q : TypeId} {a : Option Addr} {n cap : Nat} {d : DataW H} {p : List MemPlace} (ht : P.underlying t = some (.slice e)) (he : P.underlying e = some (.slice q)) (hq : P.underlying q = some (.int .i64))
    (ce : P.cellsOf e = 1) (cq : P.cellsOf q = 1) (h : DataW.Trod enc P W 0 (fun _ => true) true t (.slice a n cap) d p) :
    ∃ l : List (List Int), l.length = n ∧ MatR W a l ∧ n ≤ 9223372036854775807 ∧ ∀ r, r < l.length → (l.getD r []).length ≤ 9223372036854775807 := by
  obtain ⟨fuel, hf⟩ := h
  rcases open_int_rows ht he hq ce cq hf with ⟨hcs, _⟩ | ⟨a', len', cap', A, L, C, Z, hcs, _, hl, hm, _, hrows⟩
  · simp [Value.cells] at hcs
    obtain ⟨rfl, rfl, rfl⟩ := hcs
    exact ⟨[], rfl, (fun h => by simp at h), by omega, fun r hr => by simp at hr⟩
  · simp [Value.cells] at hcs
    obtain ⟨rfl, rfl, rfl⟩ := hcs
    have hmx : maxLen = 9223372036854775807 := rfl
    have hlen : ∀ r, r < n → ((Z r).take (L r)).length = L r := fun r hr => by
      obtain ⟨_, h1, _, h2, _⟩ := hrows r (by omega)
      rw [List.length_take]; omega
    have hget : ∀ r, r < n → ((List.range n).map fun r => (Z r).take (L r)).getD r [] = (Z r).take (L r) := fun r hr => by simp [List.getD, hr]
    refine ⟨(List.range n).map fun r => (Z r).take (L r), by simp, fun h => ?_, by omega, fun r hr => ?_⟩
    · obtain ⟨b, o, spot⟩ := a'
      simp at h
      have hspot : spot = none := by simpa [Addr.add] using World.cell?_spot (hrows 0 (by omega)).1
      subst hspot
      refine ⟨b, o, A, C, rfl, fun r hr => ?_⟩
      simp at hr
      rw [hget r hr, hlen r hr]
      obtain ⟨g1, g2, g3, g4, g5, g6, g7⟩ := hrows r (by omega)
      refine ⟨by rw [← add_plain]; exact g1, fun h0 => ?_⟩
      rw [hlen r hr] at h0
      cases hA : A r with
      | none => have := g6 hA; omega
      | some a'' =>
        obtain ⟨_, hcell⟩ := g7 a'' hA
        obtain ⟨b', o', sp⟩ := a''
        have hs : sp = none := by simpa [Addr.add] using World.cell?_spot (hcell 0 (by omega))
        subst hs
        refine ⟨b', o', rfl, fun i hi => ?_⟩
        rw [hlen r hr] at hi
        rw [← add_plain, hcell i (by omega)]
        congr 2
        simp [List.getD, hi]
    · simp at hr
      rw [hget r hr, hlen r hr]
      obtain ⟨_, h1, h2, _⟩ := hrows r (by omega)
      omega
end

theorem Try.own : ownKnob Try.prog.godebug = none := by kernel_rfl
theorem Try.laidOut : laidOutB Try.prog = true := by kernel_rfl
theorem Try.cellsR : Try.prog.cellsOf 43 = 1 := by kernel_rfl
theorem Try.cellsI : Try.prog.cellsOf 3 = 1 := by kernel_rfl

end Go.Proofs.Ytbclpbgomkfabaa
end

section
namespace Go.Proofs.Ytbclpbgomkfabaa
open Go.ChangeShapes Go.WideShapes Go.ChangeAt Go.RowKit Go.Deep

theorem wf_u8_of {n : Int} (h : (Lit.int .u8 n).wf = true) : 0 ≤ n ∧ n ≤ 255 := by
  have h2 : (0 : Int) ≤ n ∧ n ≤ 255 := by simpa [Lit.wf, IntKind.min, IntKind.max, IntKind.signed, IntKind.bits] using h
  exact h2

theorem open_bytes {H : Type} {enc : TypeId × Value → H} {P : Program} {W : World} {t e : TypeId} {a : Option Addr} {n cap : Nat} {d : DataW H} {p : List MemPlace} (ht : P.underlying t = some (.slice e)) (he : P.underlying e = some (.int .u8)) (ce : P.cellsOf e = 1)
    (h : DataW.Trod enc P W 0 (fun _ => true) true t (.slice a n cap) d p) : BytR W a n ∧ n ≤ cap ∧ cap ≤ 9223372036854775807 := by
  obtain ⟨fuel, hf⟩ := h
  rcases open_ints ht he ce hf with ⟨hcs, _⟩ | ⟨a', len, cap', zs, hcs, _, hl, hm, hlen, _, hcell, hwf⟩
  · simp [Value.cells] at hcs
    obtain ⟨rfl, rfl, rfl⟩ := hcs
    exact ⟨fun h => absurd h (by omega), by omega, by omega⟩
  · simp [Value.cells] at hcs
    obtain ⟨rfl, rfl, rfl⟩ := hcs
    have hmx : maxLen = 9223372036854775807 := rfl
    have hzl : zs.length = cap := by simpa using hlen
    refine ⟨fun h0 => ?_, by omega, by omega⟩
    obtain ⟨b, o, spot⟩ := a'
    have hspot : spot = none := by simpa [Addr.add] using World.cell?_spot (hcell 0 (by omega))
    subst hspot
    refine ⟨b, o, rfl, fun i hi => ?_⟩
    have hi' : i < zs.length := by omega
    have hw := wf_u8_of (hwf (zs.getD i 0) (by simp [List.getD, hi']))
    obtain ⟨z, hz⟩ := Int.eq_ofNat_of_zero_le hw.1
    refine ⟨z, by omega, ?_⟩
    rw [← add_plain, hcell i hi', hz]

theorem Try.cellsB : Try.prog.cellsOf 5 = 1 := by kernel_rfl

end Go.Proofs.Ytbclpbgomkfabaa
end
