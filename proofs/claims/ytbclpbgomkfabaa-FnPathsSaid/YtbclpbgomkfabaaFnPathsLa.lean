import Derived.Test.YtbclpbgomkfabaaTurnSpec
import Derived.Deep.QuietTactic
import Derived.Deep.AppendLies
import Derived.Deep.RegionHeld3
import Derived.Test.YtbclpbgomkfabaaChipR
import Derived.OwnWalk
import Derived.Test.YtbclpbgomkfabaaNetU
import Derived.Test.YtbclpbgomkfabaaIter
import Derived.RangeFuncFrom
import Derived.RangeFuncBox
import Derived.RangeFuncNested
import Derived.Test.YtbclpbgomkfabaaNetV
import Derived.Test.YtbclpbgomkfabaaUnitImpl
import Derived.Test.YtbclpbgomkfabaaNetG
import Derived.BigQuiet
import Derived.LaidEqlPtr
import Derived.Laws.AppendOwn
import Derived.Lib.SliceRun
import Derived.Test.YtbclpbgomkfabaaRound
import Derived.OrdersHeld

section
namespace Go.Proofs.Ytbclpbgomkfabaa
open Go.RowKit Go.Deep

theorem World.grownBy_refl (w : World) (row : Option Nat) : w.grownBy w row := ⟨rfl, rfl, rfl, Nat.le_refl _, fun _ _ _ => rfl⟩
theorem grown_trans {a b c : World} {row : Option Nat} (h : a.grownBy b row) (k : b.grownBy c row) : a.grownBy c row :=
  ⟨k.os.trans h.os, k.tape.trans h.tape, k.output.trans h.output, Nat.le_trans h.size k.size, fun i hi hn => (k.block i (Nat.lt_of_lt_of_le hi h.size) hn).trans (h.block i hi hn)⟩
theorem grown_since {a b : World} (row : Option Nat) (h : a.Since a.heap.size b) : a.grownBy b row := ⟨h.os, h.tape, h.output, h.size, fun i hi _ => h.block i hi⟩
theorem grown_of {a b : World} {row row' : Option Nat} (h : a.grownBy b row) (hr : ∀ k, row = some k → a.heap.size ≤ k ∨ some k = row') : a.grownBy b row' :=
  ⟨h.os, h.tape, h.output, h.size, fun i hi hn => h.block i hi (fun e => by
    rcases hr i e.symm with h1 | h1
    · omega
    · exact hn h1)⟩
theorem since_grown {a b : World} {G B : Nat} (h : a.grownBy b (some G)) (hG : B ≤ G) (hB : B ≤ a.heap.size) : a.Since B b :=
  ⟨h.os, h.tape, h.output, h.size, fun i hi => h.block i (by omega) (fun e => by injection e with e; omega)⟩

def BytR (w : World) (a : Option Addr) (n : Nat) : Prop :=
  0 < n → ∃ b o, a = some ⟨b, o, none⟩ ∧ ∀ i, i < n → ∃ z : Nat, z ≤ 255 ∧ w.cell? ⟨b, o + i, none⟩ = some (.int .u8 z)
theorem BytR.since {w w' : World} {a : Option Addr} {n : Nat} (h : BytR w a n) (hs : w.Since w.heap.size w') : BytR w' a n := by
  intro h0
  obtain ⟨b, o, e, hc⟩ := h h0
  refine ⟨b, o, e, fun i hi => ?_⟩
  obtain ⟨z, h1, h2⟩ := hc i hi
  exact ⟨z, h1, (hs.cell (a := ⟨b, o + i, none⟩) (World.block_lt_of_cell? _ _ h2)).trans h2⟩

structure RD (w0 w : World) (G : Nat) (a : Option Addr) (n c : Nat) (tr : TypeId) (p : Nat) : Prop where
  blk : w.heap[G]? = some (.cells #[.slice a n c, .int .i64 p] tr (0, 0))
  base : w0.heap.size ≤ G
  since : w0.Since w0.heap.size w
  bytes : BytR w0 a n
  small : n ≤ 2000
theorem RD.lt {w0 w : World} {G : Nat} {a : Option Addr} {n c : Nat} {tr : TypeId} {p : Nat} (h : RD w0 w G a n c tr p) : G < w.heap.size := (Array.getElem?_eq_some_iff.1 h.blk).1
theorem RD.cell0 {w0 w : World} {G : Nat} {a : Option Addr} {n c : Nat} {tr : TypeId} {p : Nat} (h : RD w0 w G a n c tr p) : w.cell? ⟨G, 0, none⟩ = some (.slice a n c) := by simp [World.cell?, h.blk]
theorem RD.cell1 {w0 w : World} {G : Nat} {a : Option Addr} {n c : Nat} {tr : TypeId} {p : Nat} (h : RD w0 w G a n c tr p) : w.cell? ⟨G, 1, none⟩ = some (.int .i64 p) := by simp [World.cell?, h.blk]
theorem RD.free1 {w0 w : World} {G : Nat} {a : Option Addr} {n c : Nat} {tr : TypeId} {p : Nat} (h : RD w0 w G a n c tr p) : w.frozen? ⟨G, 1, none⟩ = false := by simp [World.frozen?, h.blk]
theorem RD.set {w0 w : World} {G : Nat} {a : Option Addr} {n c : Nat} {tr : TypeId} {p : Nat} (h : RD w0 w G a n c tr p) (q : Nat) : RD w0 (w.setCell ⟨G, 1, none⟩ (.int .i64 q)) G a n c tr q :=
  ⟨by simp [World.setCell, Array.getElem?_modify, h.blk], h.base, h.since.setCell h.base _, h.bytes, h.small⟩
theorem RD.later {w0 w w' : World} {G : Nat} {a : Option Addr} {n c : Nat} {tr : TypeId} {p : Nat} (h : RD w0 w G a n c tr p) (hs : w.Since w.heap.size w') : RD w0 w' G a n c tr p :=
  ⟨(hs.block G h.lt).trans h.blk, h.base, h.since.trans (since_mono hs h.since.size), h.bytes, h.small⟩
theorem RD.grown {w0 w w' : World} {G : Nat} {a : Option Addr} {n c : Nat} {tr : TypeId} {p : Nat} {row : Option Nat} (h : RD w0 w G a n c tr p) (hg : w.grownBy w' row) (hr : ∀ k, row = some k → G < k) : RD w0 w' G a n c tr p :=
  ⟨(hg.block G h.lt (fun e => by have := hr G e.symm; omega)).trans h.blk, h.base, h.since.grown hg h.since.size (fun k e => by have := hr k e; have := h.base; omega), h.bytes, h.small⟩

def RW (B : Nat) (w : World) (v : Value) (x : List Int) : Prop := w.ownsRow B 3 1 v x.length (x.map (Value.int .i64))
theorem RW.kept {B : Nat} {w w' : World} {v : Value} {x : List Int} {G : Nat} (h : RW B w v x) (hg : w.grownBy w' (some G)) (hG : G < B) : RW B w' v x :=
  World.ownsRow.kept h hg (by
    cases hv : v.ownBlock with
    | none => exact .inl rfl
    | some k => exact .inr (fun e => by injection e with e; have := (World.ownsRow.lt h k hv).1; omega))
theorem RW.base {B B' : Nat} {w : World} {v : Value} {x : List Int} (h : RW B w v x) (hB : B' ≤ B) : RW B' w v x := by
  refine ⟨h.1, ?_⟩
  rcases h.2 with h1 | ⟨g, cap, cur, e, hb, hr⟩
  · exact .inl h1
  · exact .inr ⟨g, cap, cur, e, by omega, hr⟩
theorem RW.form {B : Nat} {w : World} {v : Value} {x : List Int} (h : RW B w v x) (h0 : 0 < x.length) : ∃ g cap, v = .slice (some ⟨g, 0, none⟩) x.length cap ∧ B ≤ g ∧ RowB w g x := RowB.of_owns h h0
theorem RW.set {B : Nat} {w : World} {g cap k : Nat} {x : List Int} (h : RW B w (.slice (some ⟨g, 0, none⟩) x.length cap) x) (_hk : k < x.length) (y : Int) : RW B (w.setCell ⟨g, k, none⟩ (.int .i64 y)) (.slice (some ⟨g, 0, none⟩) x.length cap) (x.set k y) := by
  rcases h.2 with ⟨e, _⟩ | ⟨g', cap', cur, e, hb, hg, hn, hm, hs, ht⟩
  · cases e
  · injection e with e1 e2 e3
    injection e1 with e1
    injection e1 with e1
    subst e1; subst e3
    refine ⟨by simp, .inr ⟨g, cap, cur.setIfInBounds k (.int .i64 y), by rw [List.length_set], hb, ?_, by rw [List.length_set]; exact hn, hm, by simpa using hs, ?_⟩⟩
    · simp [World.setCell, Array.getElem?_modify, hg]
    · rw [List.length_set, Nat.mul_one]
      rw [Nat.mul_one] at ht
      rw [List.map_set, ← ht]
      simp [List.take_set]

structure BD (B : Nat) (w : World) (v : Value) (l : List (List Int)) (A : Nat → Option Addr) (C : Nat → Nat) : Prop where
  own : w.ownsRow B 43 1 v l.length ((List.range l.length).map fun r => .slice (A r) (l.getD r []).length (C r))
  rows : ∀ r, r < l.length → 0 < (l.getD r []).length ∧ RW B w (.slice (A r) (l.getD r []).length (C r)) (l.getD r [])
  apart : ∀ r r', r < l.length → r' < l.length → A r = A r' → r = r'
theorem BD.start (w : World) (A : Nat → Option Addr) (C : Nat → Nat) {B : Nat} (hB : B ≤ w.heap.size) : BD B (w.alloc (.cells #[] 43)) (.slice (some ⟨w.heap.size, 0, none⟩) 0 0) [] A C :=
  ⟨World.ownsRow_made w #[] 0 hB (Nat.zero_le _) rfl, fun r hr => by simp at hr, fun r _ hr => by simp at hr⟩
theorem BD.kept {B : Nat} {w w' : World} {v : Value} {l : List (List Int)} {A : Nat → Option Addr} {C : Nat → Nat} {G : Nat} (h : BD B w v l A C) (hg : w.grownBy w' (some G)) (hG : G < B) : BD B w' v l A C :=
  ⟨World.ownsRow.kept h.own hg (by
      cases hv : v.ownBlock with
      | none => exact .inl rfl
      | some k => exact .inr (fun e => by injection e with e; have := (h.own.lt k hv).1; omega)),
    fun r hr => ⟨(h.rows r hr).1, (h.rows r hr).2.kept hg hG⟩, h.apart⟩
theorem BD.later {B : Nat} {w w' : World} {v : Value} {l : List (List Int)} {A : Nat → Option Addr} {C : Nat → Nat} (h : BD B w v l A C) (hs : w.Since w.heap.size w') : BD B w' v l A C := by
  have hg : w.grownBy w' none := grown_since none hs
  refine ⟨World.ownsRow.kept h.own hg ?_, fun r hr => ⟨(h.rows r hr).1, World.ownsRow.kept (h.rows r hr).2 hg ?_⟩, h.apart⟩
  · cases hv : v.ownBlock <;> simp
  · cases hv : (Value.slice (A r) (l.getD r []).length (C r)).ownBlock <;> simp
theorem BD.row {B : Nat} {w : World} {v : Value} {l : List (List Int)} {A : Nat → Option Addr} {C : Nat → Nat} (h : BD B w v l A C) {r : Nat} (hr : r < l.length) : ∃ g, A r = some ⟨g, 0, none⟩ ∧ B ≤ g ∧ RowB w g (l.getD r []) := by
  obtain ⟨g, cap, e, hb, hw⟩ := (h.rows r hr).2.form (h.rows r hr).1
  injection e with e _ _
  exact ⟨g, e, hb, hw⟩
theorem BD.top {B : Nat} {w : World} {v : Value} {l : List (List Int)} {A : Nat → Option Addr} {C : Nat → Nat} (h : BD B w v l A C) (h0 : 0 < l.length) : ∃ b cap cur, v = .slice (some ⟨b, 0, none⟩) l.length cap ∧ B ≤ b ∧ w.heap[b]? = some (.cells cur 43 (0, 0)) ∧ ∀ r, r < l.length → cur[r]? = some (.slice (A r) (l.getD r []).length (C r)) := by
  rcases h.own.2 with ⟨_, hn⟩ | ⟨g, cap, cur, e, hb, hg, hn, _, hs, ht⟩
  · omega
  · refine ⟨g, cap, cur, e, hb, hg, fun r hr => ?_⟩
    have h1 : (cur.toList.take (l.length * 1))[r]? = some (.slice (A r) (l.getD r []).length (C r)) := by rw [ht]; simp [hr]
    rw [List.getElem?_take] at h1
    have h2 : r < l.length ∧ cur[r]? = some (.slice (A r) (l.getD r []).length (C r)) := by simpa using h1
    exact h2.2
theorem BD.push {B : Nat} {w w1 : World} {v v' : Value} {l : List (List Int)} {A : Nat → Option Addr} {C : Nat → Nat} {x : List Int} {a : Option Addr} {cp : Nat} (h : BD B w v l A C) (h0 : 0 < x.length) (hx : RW B w (.slice a x.length cp) x)
    (hfresh : ∀ r, r < l.length → A r ≠ a)
    (hown : w1.ownsRow B 43 1 v' (l.length + 1) (((List.range l.length).map fun r => .slice (A r) (l.getD r []).length (C r)) ++ [.slice a x.length cp])) (hg : (w.alloc (.cells #[.slice a x.length cp] 43)).grownBy w1 v.ownBlock) :
    BD B w1 v' (l ++ [x]) (fun r => if r = l.length then a else A r) (fun r => if r = l.length then cp else C r) := by
  have hkeep : ∀ (u : Value) (y : List Int), 0 < y.length → RW B w u y → RW B w1 u y := by
    intro u y hy hu
    refine World.ownsRow.kept (World.ownsRow.alloc hu _) hg ?_
    obtain ⟨g, cap, e, _, cs, hc, _⟩ := hu.form hy
    subst e
    refine .inr fun e => ?_
    rcases h.own.2 with ⟨rfl, _⟩ | ⟨g', cap', cur, rfl, _, hgg, _⟩
    · cases e
    · injection e with e
      have e : g = g' := e
      rw [← e, hc] at hgg
      injection hgg with hgg
      injection hgg with _ e2 _
      exact absurd e2 (by decide)
  have e4 : ∀ q, q < l.length → (l ++ [x]).getD q [] = l.getD q [] := fun q hq => by simp [List.getD, List.getElem?_append_left hq]
  have e5 : (l ++ [x]).getD l.length [] = x := by simp [List.getD]
  have e6 : (l ++ [x]).length = l.length + 1 := by simp
  refine ⟨?_, fun r hr => ?_, fun r r' hr hr' e => ?_⟩
  · rw [e6, List.range_succ, List.map_append]
    have e2 : (List.range l.length).map (fun r => Value.slice (if r = l.length then a else A r) ((l ++ [x]).getD r []).length (if r = l.length then cp else C r)) = (List.range l.length).map fun r => .slice (A r) (l.getD r []).length (C r) := by
      refine List.map_congr_left fun r hr => ?_
      have hr' := List.mem_range.1 hr
      rw [if_neg (by omega), if_neg (by omega), e4 r hr']
    rw [e2]
    simpa [e5] using hown
  · by_cases e : r = l.length
    · subst e
      rw [e5, if_pos rfl, if_pos rfl]
      exact ⟨h0, hkeep _ _ h0 hx⟩
    · rw [e6] at hr
      rw [e4 r (by omega), if_neg e, if_neg e]
      exact ⟨(h.rows r (by omega)).1, hkeep _ _ (h.rows r (by omega)).1 (h.rows r (by omega)).2⟩
  · rw [e6] at hr hr'
    by_cases e1 : r = l.length <;> by_cases e2 : r' = l.length
    · omega
    · rw [if_pos e1, if_neg e2] at e
      exact absurd e.symm (hfresh r' (by omega))
    · rw [if_neg e1, if_pos e2] at e
      exact absurd e (hfresh r (by omega))
    · rw [if_neg e1, if_neg e2] at e
      exact h.apart r r' (by omega) (by omega) e
theorem BD.fresh {B : Nat} {w : World} {v : Value} {l : List (List Int)} {A : Nat → Option Addr} {C : Nat → Nat} (h : BD B w v l A C) {a : Option Addr} {g : Nat} (ha : a = some ⟨g, 0, none⟩) (hg : w.heap.size ≤ g) : ∀ r, r < l.length → A r ≠ a := by
  intro r hr e
  obtain ⟨g', e', _, hw⟩ := h.row hr
  have := hw.lt
  rw [e', ha] at e
  injection e with e; injection e with e
  omega
theorem BD.matR {B : Nat} {w : World} {v : Value} {l : List (List Int)} {A : Nat → Option Addr} {C : Nat → Nat} (h : BD B w v l A C) : ∃ a cap, v = .slice a l.length cap ∧ MatR w a l := by
  by_cases h0 : 0 < l.length
  · obtain ⟨b, cap, cur, e, _, hg, hc⟩ := h.top h0
    refine ⟨_, cap, e, fun _ => ⟨b, 0, A, C, rfl, fun r hr => ⟨?_, fun h1 => ?_⟩⟩⟩
    · rw [Nat.zero_add]; simp [World.cell?, hg, hc r hr]
    · obtain ⟨g, e, _, hw⟩ := h.row hr
      exact ⟨g, 0, e, fun i hi => by rw [Nat.zero_add]; exact hw.cell hi⟩
  · rcases h.own.2 with ⟨hv, hn⟩ | ⟨g, cap, cur, e, _⟩
    · exact ⟨none, 0, by rw [hv, hn], fun h => absurd h h0⟩
    · exact ⟨_, cap, e, fun h => absurd h h0⟩

end Go.Proofs.Ytbclpbgomkfabaa
end

section
namespace Go.Proofs.Ytbclpbgomkfabaa
open Go.RowKit Go.Deep

theorem grown_drewN {a b : World} {row : Option Nat} (h : a.grownBy b row) (q : Nat) : a.grownBy (b.drewN q) row := ⟨h.os, h.tape, h.output, h.size, h.block⟩
theorem xor_i64_nat (a b : Nat) (ha : a < 2 ^ 62) (hb : b < 2 ^ 62) : bits .xor .i64 (a : Int) (b : Int) = ((a ^^^ b : Nat) : Int) := by
  have hx : a ^^^ b < 2 ^ 62 := Nat.xor_lt_two_pow ha hb
  have h1 : (BitVec.ofInt 64 (a : Int)).toNat = a := by
    rw [BitVec.ofInt_natCast, BitVec.toNat_ofNat]; exact Nat.mod_eq_of_lt (by omega)
  have h2 : (BitVec.ofInt 64 (b : Int)).toNat = b := by
    rw [BitVec.ofInt_natCast, BitVec.toNat_ofNat]; exact Nat.mod_eq_of_lt (by omega)
  show IntKind.i64.wrap ((BitVec.ofInt 64 (a : Int) ^^^ BitVec.ofInt 64 (b : Int)).toNat : Int) = _
  rw [BitVec.toNat_xor, h1, h2]
  exact IntWalk.i64_in _ ⟨by omega, by omega⟩

set_option maxRecDepth 100000 in
set_option maxHeartbeats 2000000 in
theorem pick_any (w0 w : World) (G n c p : Nat) (a : Option Addr) (m : Int) (h : RD w0 w G a n c 103 p) (hp : p ≤ 100000) :
    Calls Try.prog 57 #[.pointer (some ⟨G, 0, none⟩), .int .i64 m] w fun e w' => ∃ x : Nat, e = .returned (.int .i64 x) ∧ ((x : Int) < m ∨ x = 0) ∧ w.grownBy w' (some G) ∧ RD w0 w' G a n c 103 (p + 1) := by
  have e0 := h.cell0
  have e1 := h.cell1
  have e2 := h.free1
  have hs := h.set (p + 1)
  have hwp : IntKind.i64.wrap ((p : Int) + 1) = (p : Int) + 1 := IntWalk.i64_in _ ⟨by omega, by omega⟩
  have hc : ((p + 1 : Nat) : Int) = (p : Int) + 1 := by omega
  have hgr : w.grownBy (w.setCell ⟨G, 1, none⟩ (.int .i64 (p + 1 : Nat))) (some G) := ⟨rfl, rfl, rfl, by simp, fun k _ hk => Below.heap_setCell _ _ _ _ (fun e => hk (by rw [e]))⟩
  rw [hc] at hs hgr
  have s0 := hs.cell0
  have s1 := hs.cell1
  rw [hc] at s1
  have hsm := hs.small
  have hbb := hs.bytes.since hs.since
  have HS := Lib.hid hs
  have HG := Lib.hid hgr
  have HB := Lib.hid hbb
  clear hs hgr h hbb hc
  by_cases hm : m < 1
  · go_enter Try.func57, Try.ntmps57
    go_wp2
    go_wp2
    go_ret
    exact ⟨0, rfl, .inr rfl, HG.out, HS.out⟩
  · obtain ⟨M, rfl⟩ := Int.eq_ofNat_of_zero_le (show 0 ≤ m by omega)
    have hM1 : 1 ≤ M := by omega
    have hd : decide ((M : Int) < 1) = false := by simp; omega
    by_cases hn : n = 0
    · subst hn
      go_enter Try.func57, Try.ntmps57
      go_wp2
      go_wp2
      go_ret
      exact ⟨0, rfl, .inr rfl, HG.out, HS.out⟩
    · have hn1 : 1 ≤ n := by omega
      have hnb : ((n : Int) == 0) = false := by simp; omega
      obtain ⟨b, o, rfl, hb⟩ := HB.out (by omega)
      have hwm : IntKind.i64.wrap ((p : Int) + 1 - 1) = (p : Int) := by rw [show (p : Int) + 1 - 1 = p by omega]; exact IntWalk.i64_in _ ⟨by omega, by omega⟩
      by_cases hlt : p < n
      · obtain ⟨z, hz, hzc⟩ := hb p hlt
        have hl : decide ((p : Int) < n) = true := by simp; omega
        clear hb
        go_enter Try.func57, Try.ntmps57
        go_wp2
        go_ret
        exact ⟨z % M, rfl, .inl (by have := Nat.mod_lt z hM1; omega), HG.out, HS.out⟩
      · have hl : decide ((p : Int) < n) = false := by simp; omega
        obtain ⟨q1, hq1, hql1⟩ : ∃ q : Nat, (p : Int) % (n : Int) = q ∧ q < n := ⟨p % n, (Int.natCast_emod p n).symm, Nat.mod_lt _ (by omega)⟩
        obtain ⟨q2, hq2, hql2⟩ : ∃ q : Nat, ((p : Int) * 7 + 3) % (n : Int) = q ∧ q < n := ⟨(p * 7 + 3) % n, by rw [Int.natCast_emod]; simp, Nat.mod_lt _ (by omega)⟩
        obtain ⟨dd, hdd, hdl⟩ : ∃ q : Nat, (p : Int) / (n : Int) = q ∧ q ≤ p := ⟨p / n, (Int.natCast_ediv p n).symm, Nat.div_le_self _ _⟩
        obtain ⟨z1, hz1, hzc1⟩ := hb q1 hql1
        obtain ⟨z2, hz2, hzc2⟩ := hb q2 hql2
        clear hb
        have w1 : IntKind.i64.wrap ((p : Int) * 7) = (p : Int) * 7 := IntWalk.i64_in _ ⟨by omega, by omega⟩
        have w2 : IntKind.i64.wrap ((p : Int) * 7 + 3) = (p : Int) * 7 + 3 := IntWalk.i64_in _ ⟨by omega, by omega⟩
        have w3 : IntKind.i64.wrap ((z1 : Int) * 131) = (z1 : Int) * 131 := IntWalk.i64_in _ ⟨by omega, by omega⟩
        have w4 : IntKind.i64.wrap ((z2 : Int) * 1117) = (z2 : Int) * 1117 := IntWalk.i64_in _ ⟨by omega, by omega⟩
        have w5 : IntKind.i64.wrap ((z1 : Int) * 131 + (z2 : Int) * 1117) = (z1 : Int) * 131 + (z2 : Int) * 1117 := IntWalk.i64_in _ ⟨by omega, by omega⟩
        have w6 : IntKind.i64.wrap ((p : Int) * 29) = (p : Int) * 29 := IntWalk.i64_in _ ⟨by omega, by omega⟩
        have w7 : IntKind.i64.wrap ((z1 : Int) * 131 + (z2 : Int) * 1117 + (p : Int) * 29) = (z1 : Int) * 131 + (z2 : Int) * 1117 + (p : Int) * 29 := IntWalk.i64_in _ ⟨by omega, by omega⟩
        have w8 : IntKind.i64.wrap ((dd : Int) * 53) = (dd : Int) * 53 := IntWalk.i64_in _ ⟨by omega, by omega⟩
        have w9 : IntKind.i64.wrap ((z1 : Int) * 131 + (z2 : Int) * 1117 + (p : Int) * 29 + (dd : Int) * 53) = (z1 : Int) * 131 + (z2 : Int) * 1117 + (p : Int) * 29 + (dd : Int) * 53 := IntWalk.i64_in _ ⟨by omega, by omega⟩
        go_enter Try.func57, Try.ntmps57
        go_wp2
        go_quiet (fail)
        obtain ⟨X, hX⟩ : ∃ X : Nat, (z1 : Int) * 131 + (z2 : Int) * 1117 + (p : Int) * 29 + (dd : Int) * 53 = X := ⟨z1 * 131 + z2 * 1117 + p * 29 + dd * 53, by omega⟩
        have hx : bits .xor .i64 (X : Int) ((X : Int) / 64) = ((X ^^^ X / 64 : Nat) : Int) := by
          rw [show ((X : Int) / 64) = ((X / 64 : Nat) : Int) by omega]
          exact xor_i64_nat _ _ (by omega) (by omega)
        obtain ⟨y, hy⟩ : ∃ y : Nat, bits .xor .i64 (X : Int) ((X : Int) / 64) = y := ⟨_, hx⟩
        clear hx
        go_wp2
        go_ret
        exact ⟨y % M, rfl, .inl (by have := Nat.mod_lt y hM1; omega), grown_drewN HG.out nq, HS.out.later (since_drewN (World.Since.refl _ _) nq)⟩

end Go.Proofs.Ytbclpbgomkfabaa
end

section
namespace Go.Proofs.Ytbclpbgomkfabaa
open Go.RowKit Go.Deep

theorem grown_new {a b c : World} {G : Nat} {row : Option Nat} (h : a.grownBy b (some G)) (k : b.grownBy c row) (hr : ∀ i, row = some i → a.heap.size ≤ i) : a.grownBy c (some G) :=
  ⟨k.os.trans h.os, k.tape.trans h.tape, k.output.trans h.output, Nat.le_trans h.size k.size, fun i hi hn => (k.block i (Nat.lt_of_lt_of_le hi h.size) (fun e => by have := hr i e.symm; omega)).trans (h.block i hi hn)⟩
theorem grown_alloc {a b : World} {G : Nat} (h : a.grownBy b (some G)) (o : Obj) : a.grownBy (b.alloc o) (some G) := grown_new h (World.grownBy_alloc b o none) (fun i e => by cases e)
theorem grown_set {a b : World} {G : Nat} (h : a.grownBy b (some G)) {g k : Nat} (hg : a.heap.size ≤ g) (v : Value) : a.grownBy (b.setCell ⟨g, k, none⟩ v) (some G) :=
  grown_new h (row := some g) ⟨rfl, rfl, rfl, by simp, fun i _ hi => Below.heap_setCell _ _ _ _ (fun e => hi (by rw [e]))⟩ (fun i e => by cases e; exact hg)
theorem cell_grown {a b : World} {G : Nat} {p : Addr} {v : Value} (h : a.cell? p = some v) (hg : a.grownBy b (some G)) (hp : p.block ≠ G) : b.cell? p = some v := hg.cell h (fun e => hp (by injection e))
theorem cell_set_far {w : World} {g j : Nat} {v : Value} {p : Addr} {u : Value} (h : w.cell? p = some u) (hne : p.block ≠ g) : (w.setCell ⟨g, j, none⟩ v).cell? p = some u := by
  rw [World.cell?_setCell_other _ _ _ _ (fun e => hne (by rw [← e]))]; exact h

theorem wpList_append_int {P : Program} (w : World) {ops : Array Oper} {rest : List Oper} {o : Oper} {a : Act} {Q : Exit → Act → World → Prop} (hgd : o.guard = none) (s x : Operand) (t : TypeId)
    (ho : o.op = .call { callee := .builtin .append, args := #[s, x], argTypes := #[t, t] }) (B : Nat) (i : TypeInfo) (ht : P.underlying t = some (.slice 3)) (hi : P.info? 3 = some i) (hz : i.zero = some (.int .i64 0)) (hsz : i.size = 1) (hby : i.bytes = 8)
    (v : Value) (xs : List Int) (hs : a.eval s = v) (h : RW B w v xs) (y : Int) (hx : a.eval x = .slice (some ⟨w.heap.size, 0, none⟩) 1 1) (hlen : xs.length ≤ 1000) (hB : B ≤ w.heap.size)
    (hK : ∀ v' w', RW B w' v' (xs ++ [y]) → w.grownBy w' v.ownBlock → wpList P ops Q rest (a.put o.dst v') w') : wpList P ops Q (o :: rest) a (w.alloc (.cells #[.int .i64 y] 3)) := by
  refine wpList_append_own _ hgd s x t ho B 3 i (.int .i64 0) 1 8 ht hi hz hsz hby rfl (by decide) v xs.length (xs.map (Value.int .i64)) hs (World.ownsRow.alloc h _) ⟨w.heap.size, 0, none⟩ 1 1 [.int .i64 y] hx rfl (cell_one_at _ _ _ rfl) (fun u hu => by simp at hu; subst hu; rfl) (by unfold maxLen; omega) (by omega) (by simp; omega) ?_
  intro v' w' hown hg _
  refine hK v' w' ?_ ⟨hg.os, hg.tape, hg.output, by have := hg.size; simp at this; omega, fun j hj hn => (hg.block j (by simp; omega) hn).trans (Below.heap_alloc _ _ _ hj)⟩
  unfold RW
  rw [List.length_append, List.map_append]
  exact hown

theorem wpList_append_row {P : Program} (w : World) {ops : Array Oper} {rest : List Oper} {o : Oper} {a : Act} {Q : Exit → Act → World → Prop} (hgd : o.guard = none) (s x : Operand) (t : TypeId)
    (ho : o.op = .call { callee := .builtin .append, args := #[s, x], argTypes := #[t, t] }) (B B' : Nat) (i : TypeInfo) (ht : P.underlying t = some (.slice 43)) (hi : P.info? 43 = some i) (hz : i.zero = some (.slice none 0 0)) (hsz : i.size = 1) (hby : i.bytes = 24)
    (v : Value) (l : List (List Int)) (A : Nat → Option Addr) (C : Nat → Nat) (hs : a.eval s = v) (h : BD B w v l A C) (g cp m : Nat) (y : List Int) (hy : y.length = m) (h0 : 0 < m) (hr : RW B' w (.slice (some ⟨g, 0, none⟩) m cp) y) (hfresh : ∀ r, r < l.length → A r ≠ some ⟨g, 0, none⟩)
    (hBB : B ≤ B') (hx : a.eval x = .slice (some ⟨w.heap.size, 0, none⟩) 1 1) (hlen : l.length ≤ 1000) (hB : B ≤ w.heap.size)
    (hK : ∀ v' w' A' C', BD B w' v' (l ++ [y]) A' C' → w.grownBy w' v.ownBlock → wpList P ops Q rest (a.put o.dst v') w') : wpList P ops Q (o :: rest) a (w.alloc (.cells #[.slice (some ⟨g, 0, none⟩) m cp] 43)) := by
  subst hy
  refine wpList_append_own _ hgd s x t ho B 43 i (.slice none 0 0) 1 24 ht hi hz hsz hby rfl (by decide) v l.length _ hs (h.own.alloc _) ⟨w.heap.size, 0, none⟩ 1 1 [.slice (some ⟨g, 0, none⟩) y.length cp] hx rfl (cell_one_at _ _ _ rfl) (fun u hu => by simp at hu; subst hu; rfl) (by unfold maxLen; omega) (by omega) (by simp; omega) ?_
  intro v' w' hown hg _
  refine hK v' w' _ _ (h.push h0 (hr.base hBB) hfresh hown hg) ⟨hg.os, hg.tape, hg.output, by have := hg.size; simp at this; omega, fun j hj hn => (hg.block j (by simp; omega) hn).trans (Below.heap_alloc _ _ _ hj)⟩

end Go.Proofs.Ytbclpbgomkfabaa
end

section
namespace Go.Proofs.Ytbclpbgomkfabaa
open Go.RowKit Go.Deep

theorem RW.set' {B : Nat} {w : World} {g cap k m : Nat} {x : List Int} (hm : x.length = m) (h : RW B w (.slice (some ⟨g, 0, none⟩) m cap) x) (hk : k < m) (y : Int) : RW B (w.setCell ⟨g, k, none⟩ (.int .i64 y)) (.slice (some ⟨g, 0, none⟩) m cap) (x.set k y) := by
  subst hm; exact h.set hk y
theorem RW.rowB {B : Nat} {w : World} {g k cap : Nat} {x : List Int} (h : RW B w (.slice (some ⟨g, 0, none⟩) k cap) x) (h0 : 0 < x.length) : B ≤ g ∧ RowB w g x := by
  obtain ⟨g', cap', e, h1, h2⟩ := h.form h0
  injection e with e
  injection e with e
  injection e with e
  subst e
  exact ⟨h1, h2⟩
theorem grown_set_any (w : World) (g k : Nat) (v : Value) : w.grownBy (w.setCell ⟨g, k, none⟩ v) (some g) := ⟨rfl, rfl, rfl, by simp, fun i _ hi => Below.heap_setCell _ _ _ _ (fun e => hi (by rw [e]))⟩
theorem grown_undrew' {W w' : World} {row : Option Nat} (h : W.drew.grownBy w' row) : W.grownBy w' row := ⟨h.os, h.tape, h.output, h.size, h.block⟩
theorem lens_snoc {l : List (List Int)} {x : List Int} {r m : Nat} (hl : l.length = r) (h : ∀ j, j < r → (l.getD j []).length = m) (hx : x.length = m) : ∀ j, j < r + 1 → ((l ++ [x]).getD j []).length = m := by
  intro j hj
  by_cases e : j = r
  · subst e; subst hl; simpa [List.getD] using hx
  · rw [show (l ++ [x]).getD j [] = l.getD j [] by simp [List.getD, List.getElem?_append_left (show j < l.length by omega)]]
    exact h j (by omega)

set_option maxRecDepth 100000 in
set_option maxHeartbeats 8000000 in
theorem l91Table_any (w0 w : World) (G nb c p n m : Nat) (a : Option Addr) (h : RD w0 w G a nb c 103 p) (hn : n ≤ 10) (hm1 : 1 ≤ m) (hm : m ≤ 10) (hp : p ≤ 50000) :
    Calls Try.prog 136 #[.pointer (some ⟨G, 0, none⟩), .int .i64 n, .int .i64 m] w fun e w' => ∃ v l A C p', e = .returned v ∧ l.length = n ∧ (∀ j, j < n → (l.getD j []).length = m) ∧ w.grownBy w' (some G) ∧ RD w0 w' G a nb c 103 p' ∧ p' ≤ p + 500 ∧ BD w.heap.size w' v l A C := by
  obtain ⟨i42, hi42⟩ := info42_parts
  obtain ⟨i3, hi3⟩ := info3_parts
  have HI := Lib.hid hi42
  have HJ := Lib.hid hi3
  have hG := h.lt
  have HRD := Lib.hid h
  clear h hi42 hi3
  go_enter Try.func136, Try.ntmps136
  go_wp2_with fail
  refine (pick_any w0 _ G nb c _ a _ (HRD.out.grown (World.grownBy_alloc w _ none) (fun k e => by cases e)) (by omega)).mono ?_
  rintro e w1 ⟨κ, rfl, hκ, hg, hd⟩
  have hk : κ = 0 ∨ κ = 1 ∨ κ = 2 ∨ κ = 3 := by omega
  have HST := Lib.hid ((BD.start w (fun _ => none) (fun _ => 0) (Nat.le_refl _)).kept hg hG)
  have HG1 := Lib.hid (grown_trans (World.grownBy_alloc w _ _) hg)
  have HD1 := Lib.hid hd
  clear hg hd hκ HRD
  go_wp2
  go_loopg [7, 9, 10, 11, 12, 13] n (fun g v i _ _ _ _ wr => ∃ r A C p' l, r ≤ n ∧ g = n - r ∧ i = .int .i64 (r : Nat) ∧ List.length l = r ∧ (∀ j, j < r → (List.getD l j []).length = m) ∧ w.grownBy wr (some G) ∧ RD w0 wr G a nb c 103 p' ∧ p' ≤ p + 1 + 40 * r ∧ BD w.heap.size wr v l A C)
  case atStart => exact ⟨0, _, _, _, [], Nat.zero_le _, rfl, rfl, rfl, fun j hj => by omega, HG1.out, HD1.out, by omega, HST.out⟩
  case round =>
    obtain ⟨r, A, C, p', l, hr, rfl, rfl, hl, hlm, hgw, hd, hp', hB⟩ := hrel
    clear HST HG1 HD1
    by_cases hlt : r < n
    · have HB := Lib.hid hB
      have HGW := Lib.hid hgw
      have HD := Lib.hid hd
      have hzw := hgw.size
      obtain ⟨wo, hwo⟩ : ∃ wo : World, wo = wr := ⟨_, rfl⟩
      clear hB hgw hd
      go_wp2
      subst hwo
      go_loopg [10, 11, 12] m (fun g v k _ wi => ∃ q x p'', q ≤ m ∧ g = m - q ∧ k = .int .i64 (q : Nat) ∧ List.length x = q ∧ wo.grownBy wi (some G) ∧ RD w0 wi G a nb c 103 p'' ∧ p'' ≤ p' + 2 * q ∧ RW wo.heap.size wi v x)
      case atStart => exact ⟨0, [], p', Nat.zero_le _, rfl, rfl, rfl, World.grownBy_alloc _ _ _, HD.out.grown (World.grownBy_alloc _ _ none) (fun k e => by cases e), by omega, World.ownsRow_made wo #[] 0 (Nat.le_refl _) (Nat.zero_le _) rfl⟩
      case round =>
        obtain ⟨q, x, p'', hq, rfl, rfl, hxl, hgi, hdi, hp'', hW⟩ := hrel
        clear HD
        have HD := Lib.hid hdi
        have HG := Lib.hid hgi
        have HW := Lib.hid hW
        have hz1 := hgi.size
        clear hdi hgi hW
        by_cases hlq : q < m
        · rcases hk with rfl | rfl | rfl | rfl
          all_goals
            go_wp2_with (first
              | (go_at_call 57; refine (pick_any w0 _ G nb c _ a _ HD.out (by omega)).mono ?_; rintro e w2 ⟨y, rfl, _, hg, hd⟩; have HW := Lib.hid (HW.out.kept hg (by omega)); have HG := Lib.hid (grown_trans HG.out hg); have HD := Lib.hid hd; have hz2 := HG.out.size; clear hd hg)
              | (at_builtin; (refine wpList_append_int _ rfl (.tmp 42) (.tmp 44) 43 rfl wo.heap.size i3 Try.underlying43 HJ.out.1 HJ.out.2.1 HJ.out.2.2.1 HJ.out.2.2.2 _ x rfl HW.out _ rfl (by omega) (by omega) ?_); intro v' w3 hrw hgr; have hge := fun i e => (World.ownsRow.lt HW.out i e).1; have HD := Lib.hid (HD.out.grown hgr (fun i e => by have := hge i e; omega)); have HG := Lib.hid (grown_new HG.out hgr hge); have HW := Lib.hid hrw; clear hgr hrw hge))
            go_roundg (m - (q + 1))
            case measure => omega
            case rel => exact ⟨q + 1, x ++ [_], _, by omega, rfl, by go_num, by rw [List.length_append, hxl]; rfl, HG.out, HD.out, by omega, HW.out⟩
        · have hqm : m = q := by omega
          subst hqm
          obtain ⟨g1, cp1, hv, hge, hrb⟩ := HW.out.form (by omega)
          rw [hxl] at hv
          subst hv
          clear hrb
          rcases hk with rfl | rfl | rfl | rfl
          · go_wp2_with (first
              | (at_builtin; (refine wpList_append_row _ rfl (.tmp 77) (.tmp 79) 31 rfl w.heap.size wo.heap.size i42 Try.underlying31 HI.out.1 HI.out.2.1 HI.out.2.2.1 HI.out.2.2.2 _ l A C rfl (HB.out.kept HG.out hG) g1 cp1 m x hxl (by omega) HW.out (HB.out.fresh rfl hge) hzw rfl (by omega) (by omega) ?_); intro v' w3 A' C' hbd hgr; have hbge := fun i e => (World.ownsRow.lt (HB.out.kept HG.out hG).own i e).1; have HD := Lib.hid (HD.out.grown hgr (fun i e => by have := hbge i e; omega)); have HGG := Lib.hid (grown_new (grown_trans HGW.out HG.out) hgr hbge); have HBD := Lib.hid hbd; clear hgr hbd hbge))
            go_roundg (n - (r + 1))
            case measure => omega
            case rel => exact ⟨r + 1, A', C', _, l ++ [x], by omega, rfl, by go_num, by rw [List.length_append, hl]; rfl, lens_snoc hl hlm hxl, HGG.out, HD.out, by omega, HBD.out⟩
          · go_wp2_with (first
              | (at_builtin; (refine wpList_append_row _ rfl (.tmp 77) (.tmp 79) 31 rfl w.heap.size wo.heap.size i42 Try.underlying31 HI.out.1 HI.out.2.1 HI.out.2.2.1 HI.out.2.2.2 _ l A C rfl (HB.out.kept HG.out hG) g1 cp1 m x hxl (by omega) HW.out (HB.out.fresh rfl hge) hzw rfl (by omega) (by omega) ?_); intro v' w3 A' C' hbd hgr; have hbge := fun i e => (World.ownsRow.lt (HB.out.kept HG.out hG).own i e).1; have HD := Lib.hid (HD.out.grown hgr (fun i e => by have := hbge i e; omega)); have HGG := Lib.hid (grown_new (grown_trans HGW.out HG.out) hgr hbge); have HBD := Lib.hid hbd; clear hgr hbd hbge))
            go_roundg (n - (r + 1))
            case measure => omega
            case rel => exact ⟨r + 1, A', C', _, l ++ [x], by omega, rfl, by go_num, by rw [List.length_append, hl]; rfl, lens_snoc hl hlm hxl, HGG.out, HD.out, by omega, HBD.out⟩
          · go_wp2_with (first
              | (at_builtin; (refine wpList_append_row _ rfl (.tmp 77) (.tmp 79) 31 rfl w.heap.size wo.heap.size i42 Try.underlying31 HI.out.1 HI.out.2.1 HI.out.2.2.1 HI.out.2.2.2 _ l A C rfl (HB.out.kept HG.out hG) g1 cp1 m x hxl (by omega) HW.out (HB.out.fresh rfl hge) hzw rfl (by omega) (by omega) ?_); intro v' w3 A' C' hbd hgr; have hbge := fun i e => (World.ownsRow.lt (HB.out.kept HG.out hG).own i e).1; have HD := Lib.hid (HD.out.grown hgr (fun i e => by have := hbge i e; omega)); have HGG := Lib.hid (grown_new (grown_trans HGW.out HG.out) hgr hbge); have HBD := Lib.hid hbd; clear hgr hbd hbge))
            go_roundg (n - (r + 1))
            case measure => omega
            case rel => exact ⟨r + 1, A', C', _, l ++ [x], by omega, rfl, by go_num, by rw [List.length_append, hl]; rfl, lens_snoc hl hlm hxl, HGG.out, HD.out, by omega, HBD.out⟩
          · by_cases hr0 : r = 0
            · have hr0' : decide ((0 : Int) < (r : Int)) = false := by simp; omega
              go_wp2_with (first
                | (at_builtin; (refine wpList_append_row _ rfl (.tmp 77) (.tmp 79) 31 rfl w.heap.size wo.heap.size i42 Try.underlying31 HI.out.1 HI.out.2.1 HI.out.2.2.1 HI.out.2.2.2 _ l A C rfl (HB.out.kept HG.out hG) g1 cp1 m x hxl (by omega) HW.out (HB.out.fresh rfl hge) hzw rfl (by omega) (by omega) ?_); intro v' w3 A' C' hbd hgr; have hbge := fun i e => (World.ownsRow.lt (HB.out.kept HG.out hG).own i e).1; have HD := Lib.hid (HD.out.grown hgr (fun i e => by have := hbge i e; omega)); have HGG := Lib.hid (grown_new (grown_trans HGW.out HG.out) hgr hbge); have HBD := Lib.hid hbd; clear hgr hbd hbge))
              go_roundg (n - (r + 1))
              case measure => omega
              case rel => exact ⟨r + 1, A', C', _, l ++ [x], by omega, rfl, by go_num, by rw [List.length_append, hl]; rfl, lens_snoc hl hlm hxl, HGG.out, HD.out, by omega, HBD.out⟩
            · have hr0' : decide ((0 : Int) < (r : Int)) = true := by simp; omega
              go_wp2_with fail
              refine (pick_any w0 _ G nb c _ a _ HD.out (by omega)).mono ?_
              rintro e w2 ⟨y, rfl, hy3, hg, hd⟩
              have HW := Lib.hid (HW.out.kept hg (by omega))
              have HG := Lib.hid (grown_trans HG.out hg)
              have HD := Lib.hid hd
              have hz2 := HG.out.size
              clear hd hg
              by_cases hy0 : y = 0
              · subst hy0
                obtain ⟨s, hs⟩ : ∃ s, r = s + 1 := ⟨r - 1, by omega⟩
                have hr1 : IntKind.i64.wrap ((r : Int) - 1) = (s : Int) := by rw [show (r : Int) - 1 = s by omega]; exact IntWalk.i64_in _ ⟨by omega, by omega⟩
                have hsr : s < r := by omega
                have HSS := Lib.hid hs
                clear hs
                obtain ⟨bb, cpp, cur, hv, hbb, hcur, hc⟩ := HB.out.top (by omega)
                rw [hl] at hv
                subst hv
                have ct := hc s (by omega)
                obtain ⟨g2, hA, hg2, hrb⟩ := HB.out.row (r := s) (by omega)
                rw [hlm s hsr, hA] at ct
                have t1 : wo.cell? ⟨bb, s, none⟩ = some (.slice (some ⟨g2, 0, none⟩) m (C s)) := by simp [World.cell?, hcur, ct]
                have lb : bb < wo.heap.size := (Array.getElem?_eq_some_iff.1 hcur).1
                have lg : g2 < wo.heap.size := hrb.lt
                have HT1 := Lib.hid t1
                have HRB := Lib.hid hrb
                have HA := Lib.hid hA
                have hls := hlm s hsr
                clear t1 hcur hc ct hrb hA
                go_wp2
                go_loopg [13] m (fun g k wi => ∃ q x p'', q ≤ m ∧ g = m - q ∧ k = .int .i64 (q : Nat) ∧ List.length x = m ∧ wo.grownBy wi (some G) ∧ RD w0 wi G a nb c 103 p'' ∧ p'' ≤ p' + 2 * m + 1 + q ∧ RW wo.heap.size wi (.slice (some ⟨g1, 0, none⟩) m cp1) x)
                case atStart => exact ⟨0, x, _, Nat.zero_le _, rfl, rfl, hxl, HG.out, HD.out, by omega, HW.out⟩
                case round =>
                  obtain ⟨q, x, p'', hq, rfl, rfl, hxl, hgi, hdi, hp'', hW⟩ := hrel
                  clear HD HG HW
                  have HD := Lib.hid hdi
                  have HG := Lib.hid hgi
                  have HW := Lib.hid hW
                  have hz1 := hgi.size
                  clear hdi hgi hW
                  by_cases hlq : q < m
                  · obtain ⟨z, hz⟩ : ∃ z, z = (l.getD s []).getD q 0 := ⟨_, rfl⟩
                    have q2 := HRB.out.cell (i := q) (by rw [hls]; exact hlq)
                    rw [← hz] at q2
                    have d1 := cell_grown HT1.out HG.out (show bb ≠ G by omega)
                    have d0 := cell_grown q2 HG.out (show g2 ≠ G by omega)
                    obtain ⟨hge2, hrw⟩ := HW.out.rowB (by omega)
                    have s1 := hrw.cell (i := q) (by omega)
                    have s2 := hrw.frozen q
                    clear q2 hz hrw
                    go_wp2
                    go_region_held3 (fun w' => w'.cell? ⟨bb, s, none⟩ = some (.slice (some ⟨g2, 0, none⟩) m (C s)) ∧ w'.cell? ⟨g2, q, none⟩ = some (.int .i64 z))
                      (first | exact ⟨d1, d0⟩ | exact ⟨q1, q0⟩ | exact ⟨cell_set_far q1 (by show bb ≠ g1; omega), cell_set_far q0 (by show g2 ≠ g1; omega)⟩)
                      (first
                        | (go_at_call 57; refine (pick_any w0 _ G nb c _ a _ (HD.out.later (World.Since.refl _ _).drew) (by omega)).mono ?_; rintro e w3 ⟨y3, rfl, _, hg, hd⟩; have hg := grown_undrew' hg; have HW := Lib.hid (HW.out.kept hg (by omega)); have HG := Lib.hid (grown_trans HG.out hg); have HD := Lib.hid hd; have q1 := cell_grown d1 hg (show bb ≠ G by omega); have q0 := cell_grown d0 hg (show g2 ≠ G by omega); have k1 := cell_grown s1 hg (show g1 ≠ G by omega); have k2 : w3.frozen? ⟨g1, q, none⟩ = false := (World.frozen?_of_block (hg.block g1 (World.block_lt_of_cell? _ _ s1) (fun e => by injection e with e; omega))).trans s2; clear hg hd))
                    clear d1 d0 q1 q0 k1 k2 s1 s2
                    go_wp2
                    go_roundg (m - (q + 1))
                    case measure => omega
                    case rel => exact ⟨q + 1, x.set q _, _, by omega, rfl, by go_num, by rw [List.length_set]; exact hxl, grown_set HG.out hge2 _, HD.out.grown (row := some g1) (grown_set_any _ _ _ _) (fun i e => by cases e; omega), by omega, RW.set' hxl HW.out hlq _⟩
                  · have hqm : m = q := by omega
                    subst hqm
                    go_wp2_with (first
                      | (at_builtin; (refine wpList_append_row _ rfl (.tmp 77) (.tmp 79) 31 rfl w.heap.size wo.heap.size i42 Try.underlying31 HI.out.1 HI.out.2.1 HI.out.2.2.1 HI.out.2.2.2 _ l A C rfl (HB.out.kept HG.out hG) g1 cp1 m x hxl (by omega) HW.out (HB.out.fresh rfl hge) hzw rfl (by omega) (by omega) ?_); intro v' w3 A' C' hbd hgr; have hbge := fun i e => (World.ownsRow.lt (HB.out.kept HG.out hG).own i e).1; have HD := Lib.hid (HD.out.grown hgr (fun i e => by have := hbge i e; omega)); have HGG := Lib.hid (grown_new (grown_trans HGW.out HG.out) hgr hbge); have HBD := Lib.hid hbd; clear hgr hbd hbge))
                    go_roundg (n - (r + 1))
                    case measure => omega
                    case rel => exact ⟨r + 1, A', C', _, l ++ [x], by omega, rfl, by go_num, by rw [List.length_append, hl]; rfl, lens_snoc hl hlm hxl, HGG.out, HD.out, by omega, HBD.out⟩
              · have hy0' : ((y : Int) == 0) = false := by simp; omega
                go_wp2_with (first
                  | (at_builtin; (refine wpList_append_row _ rfl (.tmp 77) (.tmp 79) 31 rfl w.heap.size wo.heap.size i42 Try.underlying31 HI.out.1 HI.out.2.1 HI.out.2.2.1 HI.out.2.2.2 _ l A C rfl (HB.out.kept HG.out hG) g1 cp1 m x hxl (by omega) HW.out (HB.out.fresh rfl hge) hzw rfl (by omega) (by omega) ?_); intro v' w3 A' C' hbd hgr; have hbge := fun i e => (World.ownsRow.lt (HB.out.kept HG.out hG).own i e).1; have HD := Lib.hid (HD.out.grown hgr (fun i e => by have := hbge i e; omega)); have HGG := Lib.hid (grown_new (grown_trans HGW.out HG.out) hgr hbge); have HBD := Lib.hid hbd; clear hgr hbd hbge))
                go_roundg (n - (r + 1))
                case measure => omega
                case rel => exact ⟨r + 1, A', C', _, l ++ [x], by omega, rfl, by go_num, by rw [List.length_append, hl]; rfl, lens_snoc hl hlm hxl, HGG.out, HD.out, by omega, HBD.out⟩
    · have : r = n := by omega
      subst this
      go_wp2
      go_ret
      exact ⟨_, l, A, C, p', rfl, hl, hlm, hgw, hd, by omega, hB⟩

end Go.Proofs.Ytbclpbgomkfabaa
end

section
namespace Go.Proofs.Ytbclpbgomkfabaa
open Go.RowKit Go.Deep

theorem BD.inT {B : Nat} {w : World} {v : Value} {l : List (List Int)} {A : Nat → Option Addr} {C : Nat → Nat} (h : BD B w v l A C) : ∃ a cap, v = .slice a l.length cap ∧ InT B w.heap.size w a l := by
  by_cases h0 : 0 < l.length
  · obtain ⟨b, cap, cur, e, hb, hg, hc⟩ := h.top h0
    refine ⟨_, cap, e, fun _ => ⟨b, 0, A, fun r => ((A r).getD default).block, fun _ => 0, C, rfl, ⟨hb, (Array.getElem?_eq_some_iff.1 hg).1⟩, fun r hr => ⟨?_, fun h1 => ?_⟩⟩⟩
    · rw [Nat.zero_add]; simp [World.cell?, hg, hc r hr]
    · obtain ⟨g, e, hB, hw⟩ := h.row hr
      have e' : ((A r).getD default).block = g := by rw [e]; rfl
      dsimp only
      rw [e']
      exact ⟨e, ⟨hB, hw.lt⟩, fun i hi => by rw [Nat.zero_add]; exact hw.cell hi⟩
  · rcases h.own.2 with ⟨hv, hn⟩ | ⟨g, cap, cur, e, _⟩
    · exact ⟨none, 0, by rw [hv, hn], fun h => absurd h h0⟩
    · exact ⟨_, cap, e, fun h => absurd h h0⟩

theorem BD.row_ne {B : Nat} {w : World} {l : List (List Int)} {A : Nat → Option Addr} {C : Nat → Nat} {b cap n : Nat} (h : BD B w (.slice (some ⟨b, 0, none⟩) n cap) l A C) {g : Nat} {x : List Int} (hw : RowB w g x) : g ≠ b := by
  rintro rfl
  obtain ⟨cs, hc, _⟩ := hw
  rcases h.own.2 with ⟨e, _⟩ | ⟨g', cap', cur, e, _, hgg, _⟩
  · cases e
  · injection e with e
    injection e with e
    injection e with e
    rw [← e, hc] at hgg
    injection hgg with hgg
    injection hgg with _ e2 _
    exact absurd e2 (by decide)

theorem BD.addr_ne {B : Nat} {w : World} {v : Value} {l : List (List Int)} {A : Nat → Option Addr} {C : Nat → Nat} (h : BD B w v l A C) {r j g g' : Nat} (hr : r < l.length) (hj : j < l.length) (hA : A r = some ⟨g, 0, none⟩) (hA' : A j = some ⟨g', 0, none⟩) (hne : j ≠ r) : g' ≠ g := by
  rintro rfl
  exact hne (h.apart j r hj hr (by rw [hA, hA']))

theorem BD.cellTop {B : Nat} {w : World} {l : List (List Int)} {A : Nat → Option Addr} {C : Nat → Nat} {b cap n : Nat} (h : BD B w (.slice (some ⟨b, 0, none⟩) n cap) l A C) {r : Nat} (hr : r < l.length) :
    w.cell? ⟨b, r, none⟩ = some (.slice (A r) (l.getD r []).length (C r)) ∧ w.frozen? ⟨b, r, none⟩ = false ∧ b < w.heap.size := by
  obtain ⟨b', cp', cur, hv, _, hcur, hc⟩ := h.top (by omega)
  injection hv with hv _ _
  injection hv with hv
  injection hv with hv
  subst hv
  exact ⟨by simp [World.cell?, hcur, hc r hr], by simp [World.frozen?, hcur], (Array.getElem?_eq_some_iff.1 hcur).1⟩

theorem BD.setRow {B : Nat} {w w5 : World} {l : List (List Int)} {A : Nat → Option Addr} {C : Nat → Nat} {b cap n : Nat} (h : BD B w (.slice (some ⟨b, 0, none⟩) n cap) l A C) {r g : Nat} (hr : r < l.length) (hA : A r = some ⟨g, 0, none⟩) (hg : w.grownBy w5 (some g)) {g2 cp k : Nat} {y : List Int}
    (hy : RW B w5 (.slice (some ⟨g2, 0, none⟩) k cp) y) (hk : y.length = k) (h0 : 0 < k) : InT B w5.heap.size (w5.setCell ⟨b, r, none⟩ (.slice (some ⟨g2, 0, none⟩) k cp)) (some ⟨b, 0, none⟩) (l.set r y) := by
  subst hk
  obtain ⟨b', cap', cur, e, hb, hcur, hc⟩ := h.top (by omega)
  injection e with e en _
  injection e with e
  injection e with e
  subst e
  obtain ⟨g', hA', hBg, hrb⟩ := h.row hr
  rw [hA] at hA'
  injection hA' with hA'
  injection hA' with hA'
  subst hA'
  have hgb := h.row_ne hrb
  have hbl : b < w.heap.size := (Array.getElem?_eq_some_iff.1 hcur).1
  have hcur5 : w5.heap[b]? = some (.cells cur 43 (0, 0)) := (hg.block b hbl (fun e => by injection e with e; omega)).trans hcur
  obtain ⟨hB2, hrb2⟩ := hy.rowB h0
  have hg2b : g2 ≠ b := by
    rintro rfl
    obtain ⟨cs, h1, _⟩ := hrb2
    rw [h1] at hcur5
    injection hcur5 with h2
    injection h2 with _ h2 _
    exact absurd h2 (by decide)
  have hbl5 : b < w5.heap.size := (Array.getElem?_eq_some_iff.1 hcur5).1
  intro _
  refine ⟨b, 0, fun j => if j = r then some ⟨g2, 0, none⟩ else A j, fun j => if j = r then g2 else ((A j).getD default).block, fun _ => 0, fun j => if j = r then cp else C j, rfl, ⟨hb, hbl5⟩, fun j hj => ?_⟩
  rw [List.length_set] at hj
  show (w5.setCell ⟨b, r, none⟩ _).cell? ⟨b, 0 + j, none⟩ = _ ∧ _
  rw [Nat.zero_add]
  by_cases ej : j = r
  · subst ej
    have e1 : (l.set j y).getD j [] = y := by simp [List.getD, hj]
    rw [e1]
    simp only [↓reduceIte]
    refine ⟨World.cell?_setCell_same' _ _ _ (by simp [World.cell?, hcur5, hc j hj]), fun _ => ⟨trivial, ⟨hB2, hrb2.lt⟩, fun i hi => ?_⟩⟩
    rw [Nat.zero_add]
    exact cell_set_far (hrb2.cell hi) hg2b
  · have e1 : (l.set r y).getD j [] = l.getD j [] := by simp [List.getD, List.getElem?_set_ne (Ne.symm ej)]
    rw [e1]
    simp only [if_neg ej]
    obtain ⟨gj, hAj, hBj, hrbj⟩ := h.row hj
    have hgj := h.addr_ne hr hj hA hAj ej
    have hrb5 : RowB w5 gj (l.getD j []) := hrbj.of_block (hg.block gj hrbj.lt (fun e => by injection e with e; omega))
    have hgjb := h.row_ne hrbj
    refine ⟨?_, fun _ => ?_⟩
    · rw [World.cell?_setCell_other _ _ _ _ (fun e => ej (by injection e with _ e; exact e.symm))]
      simp [World.cell?, hcur5, hc j hj]
    · have e' : ((A j).getD default).block = gj := by rw [hAj]; rfl
      rw [e']
      exact ⟨hAj, ⟨hBj, hrb5.lt⟩, fun i hi => by rw [Nat.zero_add]; exact cell_set_far (hrb5.cell hi) hgjb⟩

theorem BD.setNum {B : Nat} {w : World} {l : List (List Int)} {A : Nat → Option Addr} {C : Nat → Nat} {b cap n : Nat} (h : BD B w (.slice (some ⟨b, 0, none⟩) n cap) l A C) {r g k : Nat} (hr : r < l.length) (hA : A r = some ⟨g, 0, none⟩) (hk : k < (l.getD r []).length) (z : Int) :
    InT B w.heap.size (w.setCell ⟨g, k, none⟩ (.int .i64 z)) (some ⟨b, 0, none⟩) (l.set r ((l.getD r []).set k z)) := by
  obtain ⟨b', cap', cur, e, hb, hcur, hc⟩ := h.top (by omega)
  injection e with e en _
  injection e with e
  injection e with e
  subst e
  obtain ⟨g', hA', hBg, hrb⟩ := h.row hr
  rw [hA] at hA'
  injection hA' with hA'
  injection hA' with hA'
  subst hA'
  have hgb := h.row_ne hrb
  intro _
  refine ⟨b, 0, A, fun j => ((A j).getD default).block, fun _ => 0, C, rfl, ⟨hb, (Array.getElem?_eq_some_iff.1 hcur).1⟩, fun j hj => ?_⟩
  rw [List.length_set] at hj
  show (w.setCell ⟨g, k, none⟩ _).cell? ⟨b, 0 + j, none⟩ = _ ∧ _
  rw [Nat.zero_add]
  have hlen : ((l.set r ((l.getD r []).set k z)).getD j []).length = (l.getD j []).length := by
    by_cases ej : j = r
    · subst ej; simp [List.getD, hj]
    · simp [List.getD, List.getElem?_set_ne (Ne.symm ej)]
  rw [hlen]
  refine ⟨cell_set_far (by simp [World.cell?, hcur, hc j hj]) (Ne.symm hgb), fun _ => ?_⟩
  obtain ⟨gj, hAj, hBj, hrbj⟩ := h.row hj
  have e' : ((A j).getD default).block = gj := by rw [hAj]; rfl
  dsimp only
  rw [e']
  refine ⟨hAj, ⟨hBj, hrbj.lt⟩, fun i hi => ?_⟩
  rw [Nat.zero_add]
  by_cases ej : j = r
  · subst ej
    rw [hA] at hAj
    injection hAj with hAj
    injection hAj with hAj
    subst hAj
    have e1 : (l.set j ((l.getD j []).set k z)).getD j [] = (l.getD j []).set k z := by simp [List.getD, hj]
    rw [e1]
    by_cases ei : i = k
    · subst ei
      rw [World.cell?_setCell_same' _ _ _ (by rw [hrbj.cell hi]; rfl)]
      simp [List.getD] at hi ⊢
      simp [hi]
    · rw [World.cell?_setCell_other _ _ _ _ (fun e => ei (by injection e with _ e; exact e.symm)), hrbj.cell hi]
      simp [List.getD, List.getElem?_set_ne (Ne.symm ei)]
  · have hgj := h.addr_ne hr hj hA hAj ej
    have e1 : (l.set r ((l.getD r []).set k z)).getD j [] = l.getD j [] := by simp [List.getD, List.getElem?_set_ne (Ne.symm ej)]
    rw [e1]
    exact cell_set_far (hrbj.cell hi) hgj

theorem InT.kept {lo hi : Nat} {w w' : World} {a : Option Addr} {l : List (List Int)} {G : Nat} (h : InT lo hi w a l) (hg : w.grownBy w' (some G)) (hG : G < lo) : InT lo hi w' a l :=
  h.frame (lo' := G) (hi' := G + 1) ⟨hg.os, hg.tape, hg.output, hg.size, fun k hk ho => hg.block k hk (fun e => by injection e with e; omega)⟩ (.inr (by omega))

end Go.Proofs.Ytbclpbgomkfabaa
end

section
namespace Go.Proofs.Ytbclpbgomkfabaa
open Go.RowKit Go.Deep

def Drawn0 (w w' : World) (R K : Nat) (a : Option Addr) (l : List (List Int)) : Prop :=
  1 ≤ l.length ∧ l.length ≤ R ∧ (∀ j, j < l.length → 1 ≤ (l.getD j []).length ∧ (l.getD j []).length ≤ K + 1) ∧ InT w.heap.size w'.heap.size w' a l

theorem lens_set {l : List (List Int)} {r : Nat} {y : List Int} {n m K : Nat} (hl : l.length = n) (h : ∀ j, j < n → (l.getD j []).length = m) (hm : 1 ≤ m ∧ m ≤ K) (hy : 1 ≤ y.length ∧ y.length ≤ K + 1) : ∀ j, j < (l.set r y).length → 1 ≤ ((l.set r y).getD j []).length ∧ ((l.set r y).getD j []).length ≤ K + 1 := by
  intro j hj
  rw [List.length_set] at hj
  by_cases e : j = r
  · subst e
    rw [show (l.set j y).getD j [] = y by simp [List.getD, hj]]
    exact hy
  · rw [show (l.set r y).getD j [] = l.getD j [] by simp [List.getD, List.getElem?_set_ne (Ne.symm e)], h j (by omega)]
    omega

set_option maxRecDepth 100000 in
set_option maxHeartbeats 4000000 in
theorem l91Some_any (w0 w : World) (G nb c p R K : Nat) (a : Option Addr) (h : RD w0 w G a nb c 103 p) (hR1 : 1 ≤ R) (hR : R ≤ 8) (hK1 : 1 ≤ K) (hK : K ≤ 8) (hp : p ≤ 40000) :
    Calls Try.prog 119 #[.pointer (some ⟨G, 0, none⟩), .int .i64 R, .int .i64 K] w fun e w' => ∃ a' cap l p', e = .returned (.slice a' l.length cap) ∧ w.grownBy w' (some G) ∧ RD w0 w' G a nb c 103 p' ∧ p' ≤ p + 600 ∧ Drawn0 w w' R K a' l := by
  obtain ⟨i3, hi3⟩ := info3_parts
  have HJ := Lib.hid hi3
  have hG := h.lt
  have HRD := Lib.hid h
  clear h hi3
  go_enter Try.func119, Try.ntmps119
  go_wp2_with fail
  refine (pick_any w0 _ G nb c _ a _ HRD.out (by omega)).mono ?_
  rintro e w1 ⟨y1, rfl, hy1, hg1, hd1⟩
  obtain ⟨n, hn, hnn⟩ : ∃ n : Nat, IntKind.i64.wrap (1 + (y1 : Int)) = n ∧ n = y1 + 1 := ⟨y1 + 1, (IntWalk.i64_in _ ⟨by omega, by omega⟩).trans (by omega), rfl⟩
  have hn1 : 1 ≤ n ∧ n ≤ R := by omega
  have HD1 := Lib.hid hd1
  have HG1 := Lib.hid hg1
  clear hd1 hg1 hnn hy1 HRD
  go_wp2_with fail
  refine (pick_any w0 _ G nb c _ a _ HD1.out (by omega)).mono ?_
  rintro e w2 ⟨y2, rfl, hy2, hg2, hd2⟩
  obtain ⟨m, hm, hmm⟩ : ∃ m : Nat, IntKind.i64.wrap (1 + (y2 : Int)) = m ∧ m = y2 + 1 := ⟨y2 + 1, (IntWalk.i64_in _ ⟨by omega, by omega⟩).trans (by omega), rfl⟩
  have hm1 : 1 ≤ m ∧ m ≤ K := by omega
  have HD2 := Lib.hid hd2
  have HG2 := Lib.hid (grown_trans HG1.out hg2)
  clear hd2 hg2 hmm hy2 HD1 HG1
  go_wp2_with fail
  refine (l91Table_any w0 _ G nb c _ n m a HD2.out (by omega) (by omega) (by omega) (by omega)).mono ?_
  rintro e w3 ⟨v, l, A, C, p3, rfl, hl, hlm, hg3, hd3, hp3, hB⟩
  obtain ⟨b, cp, cur, hv, hbb, hcur, hc⟩ := hB.top (by omega)
  rw [hl] at hv
  subst hv
  have hG2 := HG2.out.size
  have HD3 := Lib.hid hd3
  have HG3 := Lib.hid (grown_trans HG2.out hg3)
  have HB := Lib.hid hB
  clear hd3 hg3 hcur hc hB HD2
  go_wp2_with fail
  refine (pick_any w0 _ G nb c _ a _ HD3.out (by omega)).mono ?_
  rintro e w4 ⟨y4, rfl, hy4, hg4, hd4⟩
  have HG4 := Lib.hid (grown_trans HG3.out hg4)
  have HB4 := Lib.hid (HB.out.kept hg4 (by omega))
  have HD4 := Lib.hid hd4
  have hz4 := HG4.out.size
  clear hd4 hg4 HB HG3 HD3 hy4
  obtain ⟨g0, hA0, hg0, hrb0⟩ := HB4.out.row (r := 0) (by omega)
  by_cases hy0 : y4 = 0
  · subst hy0
    obtain ⟨t1, _, _⟩ := HB4.out.cellTop (r := 0) (by omega)
    rw [hlm 0 (by omega), hA0] at t1
    have t2 := hrb0.cell (i := 0) (by rw [hlm 0 (by omega)]; omega)
    have t3 := hrb0.frozen 0
    have hIT := HB4.out.setNum (r := 0) (k := 0) (by omega) hA0 (by rw [hlm 0 (by omega)]; omega) 31
    have hll : (l.set 0 ((l.getD 0 []).set 0 31)).length = n := by rw [List.length_set]; exact hl
    have hlens := lens_set (r := 0) (y := (l.getD 0 []).set 0 31) hl hlm hm1 (by rw [List.length_set, hlm 0 (by omega)]; omega)
    have HIT := Lib.hid hIT
    have HLL := Lib.hid hll
    have HLENS := Lib.hid hlens
    have HGS := Lib.hid (grown_set HG4.out (show w.heap.size ≤ g0 by omega) (k := 0) (.int .i64 31))
    have HDS := Lib.hid (HD4.out.grown (grown_set_any w4 g0 0 (.int .i64 31)) (fun i e => by cases e; omega))
    have p1 : 0 < n := by omega
    have p2 : 0 < m := by omega
    clear hrb0 hIT hll hlens hA0 hlm hl
    go_wp2
    go_ret
    exact ⟨_, _, l.set 0 ((l.getD 0 []).set 0 31), _, by rw [HLL.out]; rfl, HGS.out, HDS.out, by omega, by rw [HLL.out]; omega, by rw [HLL.out]; omega, HLENS.out, HIT.out.mono hG2 (by simp)⟩
  · clear hrb0 hA0 hg0
    by_cases hy1 : y4 = 1
    · subst hy1
      obtain ⟨s, hs⟩ : ∃ s, n = s + 1 := ⟨n - 1, by omega⟩
      have hr1 : IntKind.i64.wrap ((n : Int) - 1) = (s : Int) := by rw [show (n : Int) - 1 = s by omega]; exact IntWalk.i64_in _ ⟨by omega, by omega⟩
      have hsr : s < n := by omega
      clear hs
      obtain ⟨g1, hA, hg1, hrb⟩ := HB4.out.row (r := s) (by omega)
      obtain ⟨t1, t2, lb⟩ := HB4.out.cellTop (r := s) (by omega)
      have hRW := (HB4.out.rows s (by omega)).2
      have hls := hlm s hsr
      rw [hls, hA] at t1 hRW
      have hgb := HB4.out.row_ne hrb
      obtain ⟨x, hx⟩ : ∃ x, x = l.getD s [] := ⟨_, rfl⟩
      rw [← hx] at hRW hls
      have HRW := Lib.hid hRW
      have HA := Lib.hid hA
      have HL := Lib.hid hl
      have HLM := Lib.hid hlm
      have t1a := fun ob => cell_alloc_l ob t1
      clear hRW hrb hA hl hlm hx
      go_wp2_with (first
        | (at_builtin; (refine wpList_append_int _ rfl (.tmp 37) (.tmp 38) 43 rfl w2.heap.size i3 Try.underlying43 HJ.out.1 HJ.out.2.1 HJ.out.2.2.1 HJ.out.2.2.2 _ x rfl HRW.out 0 rfl (by omega) (by omega) ?_); intro v' w5 hrw hgr; have hgr : w4.grownBy w5 (some g1) := hgr; obtain ⟨g2, cp2, hv2, hg2b, hrb2⟩ := hrw.form (by simp); rw [show (x ++ [(0 : Int)]).length = m + 1 by rw [List.length_append, hls]; rfl] at hv2; subst hv2; have k1 := hgr.cell t1 (fun e => hgb (by injection e with e; exact e.symm)); have k2 : w5.frozen? ⟨b, s, none⟩ = false := (World.frozen?_of_block (hgr.block b lb (fun e => hgb (by injection e with e; exact e.symm)))).trans t2; have HRW2 := Lib.hid hrw; have HGR := Lib.hid hgr; clear hrw hgr hrb2))
      have hl2 : (x ++ [(0 : Int)]).length = m + 1 := by rw [List.length_append, hls]; rfl
      have hIT := HB4.out.setRow (r := s) (by rw [HL.out]; exact hsr) HA.out HGR.out HRW2.out hl2 (by omega)
      have hll : (l.set s (x ++ [0])).length = n := by rw [List.length_set]; exact HL.out
      have hlens := lens_set (r := s) (y := x ++ [0]) HL.out HLM.out hm1 (by rw [hl2]; omega)
      have hgs := grown_set (grown_new HG4.out HGR.out (fun i e => by cases e; omega)) (show w.heap.size ≤ b by omega) (k := s) (.slice (some ⟨g2, 0, none⟩) (m + 1) cp2)
      have hds := (HD4.out.grown HGR.out (fun i e => by cases e; omega)).grown (grown_set_any w5 b s (.slice (some ⟨g2, 0, none⟩) (m + 1) cp2)) (fun i e => by cases e; omega)
      go_ret
      exact ⟨_, _, l.set s (x ++ [0]), _, by rw [hll]; rfl, hgs, hds, by omega, by rw [hll]; omega, by rw [hll]; omega, hlens, hIT.mono hG2 (by simp)⟩
    · have h1 : ((y4 : Int) == 0) = false := by simp; omega
      have h2 : ((y4 : Int) == 1) = false := by simp; omega
      obtain ⟨a', cap', hv, hIT⟩ := HB4.out.inT
      rw [hl] at hv
      injection hv with hv _ _
      subst hv
      have HL := Lib.hid hl
      have HLM := Lib.hid hlm
      have HIT := Lib.hid hIT
      clear hl hlm hIT
      go_wp2
      go_ret
      exact ⟨_, _, l, _, by rw [HL.out]; rfl, HG4.out, HD4.out, by omega, by rw [HL.out]; omega, by rw [HL.out]; omega, fun j hj => by rw [HLM.out j (by rw [← HL.out]; exact hj)]; omega, HIT.out.mono hG2 (Nat.le_refl _)⟩

end Go.Proofs.Ytbclpbgomkfabaa
end

section
namespace Go.Proofs.Ytbclpbgomkfabaa
open Go.RowKit Go.Deep

set_option maxHeartbeats 1000000 in
theorem l6Open_any (a : Option Addr) (nb cb : Nat) (w : World) (hc : nb ≤ cb) (h63 : cb ≤ 9223372036854775807) (hb : BytR w a nb) :
    Calls Try.prog 56 #[.slice a nb cb] w fun e w' => ∃ n' c', e = .returned (.pointer (some ⟨w.heap.size, 0, none⟩)) ∧ w.Since w.heap.size w' ∧ w'.heap.size = w.heap.size + 1 ∧ RD w w' w.heap.size a n' c' 103 0 := by
  by_cases hl : 2000 < nb
  · have hl' : decide ((2000 : Int) < (nb : Int)) = true := by simp; omega
    have h2 : (2000 : Int) ≤ (cb : Int) := by omega
    obtain ⟨b, o, rfl, hcell⟩ := hb (by omega)
    go_enter Try.func56, Try.ntmps56
    go_wp2
    go_ret
    exact ⟨_, _, rfl, (World.Since.refl _ _).alloc (Nat.le_refl _) _, by simp, ⟨heap_alloc_new _ _, Nat.le_refl _, (World.Since.refl _ _).alloc (Nat.le_refl _) _, fun _ => ⟨b, o, rfl, fun i hi => hcell i (by omega)⟩, by omega⟩⟩
  · have hl' : decide ((2000 : Int) < (nb : Int)) = false := by simp; omega
    go_enter Try.func56, Try.ntmps56
    go_wp2
    go_ret
    exact ⟨_, _, rfl, (World.Since.refl _ _).alloc (Nat.le_refl _) _, by simp, ⟨heap_alloc_new _ _, Nat.le_refl _, (World.Since.refl _ _).alloc (Nat.le_refl _) _, hb, by omega⟩⟩

def DrawnT (w w' : World) (R K : Nat) (a : Option Addr) (l : List (List Int)) : Prop :=
  1 ≤ l.length ∧ l.length ≤ R ∧ (∀ j, j < l.length → 1 ≤ (l.getD j []).length ∧ (l.getD j []).length ≤ K + 1) ∧ InT w.heap.size w'.heap.size w' a l

set_option maxHeartbeats 1000000 in
theorem l91One_any (a : Option Addr) (nb cb : Nat) (w : World) (hc : nb ≤ cb) (h63 : cb ≤ 9223372036854775807) (hb : BytR w a nb) :
    Calls Try.prog 73 #[.slice a nb cb] w fun e w' => ∃ a' cap l, e = .returned (.slice a' l.length cap) ∧ w.Since w.heap.size w' ∧ DrawnT w w' 5 5 a' l := by
  have E := Lib.hid (l6Open_any a nb cb w hc h63 hb)
  clear hb
  go_enter Try.func73, Try.ntmps73
  go_wp2_with fail
  refine (E.out).mono ?_
  rintro e w1 ⟨n', c', rfl, hs, hz, hd⟩
  have HD := Lib.hid hd
  clear hd
  go_wp2_with fail
  refine (l91Some_any w w1 w.heap.size n' c' 0 5 5 a HD.out (by omega) (by omega) (by omega) (by omega) (by omega)).mono ?_
  rintro e w2 ⟨a', cap', l, p', rfl, hg, hd2, hp, h1, h5, hl, hit⟩
  go_wp2
  go_ret
  exact ⟨a', cap', l, rfl, hs.trans (since_grown hg (Nat.le_refl _) hs.size), h1, h5, hl, hit.mono hs.size (Nat.le_refl _)⟩

end Go.Proofs.Ytbclpbgomkfabaa
end

section
namespace Go.Proofs.Ytbclpbgomkfabaa
open Go.RowKit Go.Deep

def CW (B : Nat) (w : World) (v : Value) (cs : List RC) : Prop := w.ownsRow B 36 3 v cs.length (ch3 cs)
theorem CW.kept {B : Nat} {w w' : World} {v : Value} {cs : List RC} {G : Nat} (h : CW B w v cs) (hg : w.grownBy w' (some G)) (hG : G < B) : CW B w' v cs :=
  World.ownsRow.kept h hg (by
    cases hv : v.ownBlock with
    | none => exact .inl rfl
    | some k => exact .inr (fun e => by injection e with e; have := (World.ownsRow.lt h k hv).1; omega))
theorem CW.alloc {B : Nat} {w : World} {v : Value} {cs : List RC} (h : CW B w v cs) (o : Obj) : CW B (w.alloc o) v cs :=
  World.ownsRow.kept h (row := none) (World.grownBy_alloc w o none) (by
    cases hv : v.ownBlock with
    | none => exact .inl rfl
    | some k => exact .inr (by simp))
theorem CW.snoc {B : Nat} {w : World} {v : Value} {cs : List RC} {c : RC} {n : Nat} (hn : n = cs.length + 1) (h : w.ownsRow B 36 3 v n (ch3 cs ++ ch3 [c])) : CW B w v (cs ++ [c]) := by
  subst hn
  unfold CW
  rw [ch3_app, List.length_append]
  exact h

set_option maxHeartbeats 1000000 in
theorem of_any (w0 w : World) (G nb c p q c5 : Nat) (a : Option Addr) (h : RD w0 w G a nb c 103 p) (hp : p ≤ 100000) (hq : ∀ x, x < 5 → ∃ s, w.cell? ⟨q, x, none⟩ = some (.string s)) (hqG : q ≠ G) :
    Calls Try.prog 108 #[.pointer (some ⟨G, 0, none⟩), .slice (some ⟨q, 0, none⟩) 5 c5] w fun e w' => ∃ s, e = .returned (.string s) ∧ w.grownBy w' (some G) ∧ RD w0 w' G a nb c 103 (p + 1) := by
  have E := Lib.hid (pick_any w0 w G nb c p a 5 h hp)
  have HQ := Lib.hid hq
  clear h hq
  go_enter Try.func108, Try.ntmps108
  go_wp2_with fail
  refine (E.out).mono ?_
  rintro e w1 ⟨x, rfl, hx, hg, hd⟩
  obtain ⟨s, hs⟩ := HQ.out x (by omega)
  have hs1 := cell_grown hs hg hqG
  have hx5 : x < 5 := by omega
  have HG := Lib.hid hg
  have HD := Lib.hid hd
  clear hx hs hg hd
  go_wp2_with fail
  go_ret
  exact ⟨s, rfl, HG.out, HD.out⟩

set_option maxRecDepth 100000 in
set_option maxHeartbeats 1000000 in
theorem l91Chips_any (w0 w : World) (G nb c p n most : Nat) (a : Option Addr) (h : RD w0 w G a nb c 103 p) (hn : n ≤ 10) (hm : most ≤ 10) (hp : p ≤ 50000) :
    Calls Try.prog 58 #[.pointer (some ⟨G, 0, none⟩), .int .i64 n, .int .i64 most] w fun e w' => ∃ v cs p', e = .returned v ∧ cs.length ≤ 12 ∧ v ≠ .slice none 0 0 ∧ w.grownBy w' (some G) ∧ RD w0 w' G a nb c 103 p' ∧ p' ≤ p + 100 ∧ CW w.heap.size w' v cs := by
  obtain ⟨iC, hiC⟩ := infoChip_parts
  have HI := Lib.hid hiC
  have hGW := h.lt
  have HRD := Lib.hid h
  have hST : CW w.heap.size (w.alloc (.cells #[] 36)) (.slice (some ⟨w.heap.size, 0, none⟩) 0 0) [] := World.ownsRow_made w #[] 0 (Nat.le_refl _) (Nat.zero_le _) rfl
  have HST := Lib.hid hST
  clear h hiC hST
  go_enter Try.func58, Try.ntmps58
  go_wp2_with fail
  refine (pick_any w0 _ G nb c _ a _ (HRD.out.grown (World.grownBy_alloc w _ none) (fun k e => by cases e)) (by omega)).mono ?_
  rintro e w1 ⟨κ, rfl, hκ, hg, hd⟩
  have hk : κ ≤ 10 := by omega
  have HW1 := Lib.hid (HST.out.kept hg hGW)
  have HG1 := Lib.hid (grown_trans (World.grownBy_alloc w _ _) hg)
  have HD1 := Lib.hid hd
  clear hg hd hκ HRD HST
  go_wp2_with fail
  go_loopg [7, 9, 10, 11] κ (fun g v i _ _ wr => ∃ (r p' : Nat) (cs : List RC), r ≤ κ ∧ g = κ - r ∧ i = .int .i64 (r : Nat) ∧ cs.length = r ∧ v ≠ .slice none 0 0 ∧ w.grownBy wr (some G) ∧ RD w0 wr G a nb c 103 p' ∧ p' ≤ p + 1 + 7 * r ∧ CW w.heap.size wr v cs)
  case atStart => exact ⟨0, _, [], Nat.zero_le _, rfl, rfl, rfl, by simp, HG1.out, HD1.out, by omega, HW1.out⟩
  case round =>
    obtain ⟨r, p', cs, hr, rfl, rfl, hl, hnv, hgw, hd, hp', hW⟩ := hrel
    clear HW1 HG1 HD1
    have HW := Lib.hid hW
    have HG := Lib.hid hgw
    have HD := Lib.hid hd
    have HL := Lib.hid hl
    have HNV := Lib.hid hnv
    have hzw := hgw.size
    clear hW hgw hd hl hnv
    by_cases hlt : r < κ
    · go_wp2_with fail
      refine (of_any w0 _ G nb c _ _ _ a (HD.out.grown (World.grownBy_alloc _ _ none) (fun k e => by cases e)) (by omega) (fun x hx => ?_) (by omega)).mono ?_
      · rcases show x = 0 ∨ x = 1 ∨ x = 2 ∨ x = 3 ∨ x = 4 by omega with rfl | rfl | rfl | rfl | rfl
        all_goals exact ⟨_, by rw [World.cell?_alloc_new]; rfl⟩
      rintro e w2 ⟨K, rfl, hg2, hd2⟩
      have HW := Lib.hid ((HW.out.alloc _).kept hg2 hGW)
      have HG := Lib.hid (grown_trans (grown_alloc HG.out _) hg2)
      have HD := Lib.hid hd2
      clear hg2 hd2
      go_wp2_with fail
      refine (pick_any w0 _ G nb c _ a _ HD.out (by omega)).mono ?_
      rintro e w3 ⟨L, rfl, _, hg3, hd3⟩
      have HW := Lib.hid (HW.out.kept hg3 hGW)
      have HG := Lib.hid (grown_trans HG.out hg3)
      have HD := Lib.hid hd3
      clear hg3 hd3
      by_cases hb : K.toList = [104]
      · have hbt : (K.toList == [104]) = true := by simpa using hb
        clear hb
        go_wp2_with (first
          | (go_at_call 57; refine (pick_any w0 _ G nb c _ a _ HD.out (by omega)).mono ?_; rintro e w2 ⟨y, rfl, hy, hg, hd⟩; have HW := Lib.hid (HW.out.kept hg hGW); have HG := Lib.hid (grown_trans HG.out hg); have HD := Lib.hid hd; clear hd hg hy)
          | (at_builtin; (refine wpList_append_own _ rfl _ _ 23 rfl w.heap.size 36 iC (.agg #[.string ⟨#[]⟩, .int .i64 0, .int .i64 0]) 3 32 Try.underlying23 HI.out.1 HI.out.2.1 HI.out.2.2.1 HI.out.2.2.2 rfl (by decide) _ _ _ rfl (HW.out.alloc _) _ 1 1 (ch3 [⟨_, _, _⟩]) rfl rfl (by exact news3 _ ⟨_, _, _⟩ _) (ch3_one _) (by have := HL.out; unfold maxLen; omega) (by have := HL.out; omega) (by have := HG.out.size; simp; omega) ?_); intro v' w3 hown' hgr hnn; have hne := fun i e => (World.ownsRow.lt (HW.out.alloc (.cells #[] 0)) i e).1; have HW3 := Lib.hid (CW.snoc rfl hown'); have HG3 := Lib.hid (grown_new (grown_alloc HG.out _) hgr hne); have HD3 := Lib.hid ((HD.out.grown (World.grownBy_alloc _ _ none) (fun k e => by cases e)).grown hgr (fun i e => by have := hne i e; omega)); have HNN := Lib.hid hnn; clear hown' hgr hnn hne))
        go_roundg (κ - (r + 1))
        case measure => omega
        case rel => exact ⟨r + 1, _, _, by omega, rfl, by go_num, by rw [List.length_append, HL.out]; rfl, fun e => HNV.out (HNN.out.1 e).1, HG3.out, HD3.out, by omega, HW3.out⟩
      · have hbt : (K.toList == [104]) = false := by simpa using hb
        clear hb
        go_wp2_with (first
          | (go_at_call 57; refine (pick_any w0 _ G nb c _ a _ HD.out (by omega)).mono ?_; rintro e w2 ⟨y, rfl, hy, hg, hd⟩; have HW := Lib.hid (HW.out.kept hg hGW); have HG := Lib.hid (grown_trans HG.out hg); have HD := Lib.hid hd; clear hd hg hy)
          | (at_builtin; (refine wpList_append_own _ rfl _ _ 23 rfl w.heap.size 36 iC (.agg #[.string ⟨#[]⟩, .int .i64 0, .int .i64 0]) 3 32 Try.underlying23 HI.out.1 HI.out.2.1 HI.out.2.2.1 HI.out.2.2.2 rfl (by decide) _ _ _ rfl (HW.out.alloc _) _ 1 1 (ch3 [⟨_, _, _⟩]) rfl rfl (by exact news3 _ ⟨_, _, _⟩ _) (ch3_one _) (by have := HL.out; unfold maxLen; omega) (by have := HL.out; omega) (by have := HG.out.size; simp; omega) ?_); intro v' w3 hown' hgr hnn; have hne := fun i e => (World.ownsRow.lt (HW.out.alloc (.cells #[] 0)) i e).1; have HW3 := Lib.hid (CW.snoc rfl hown'); have HG3 := Lib.hid (grown_new (grown_alloc HG.out _) hgr hne); have HD3 := Lib.hid ((HD.out.grown (World.grownBy_alloc _ _ none) (fun k e => by cases e)).grown hgr (fun i e => by have := hne i e; omega)); have HNN := Lib.hid hnn; clear hown' hgr hnn hne))
        go_roundg (κ - (r + 1))
        case measure => omega
        case rel => exact ⟨r + 1, _, _, by omega, rfl, by go_num, by rw [List.length_append, HL.out]; rfl, fun e => HNV.out (HNN.out.1 e).1, HG3.out, HD3.out, by omega, HW3.out⟩
    · obtain rfl : r = κ := by omega
      go_wp2_with fail
      refine (pick_any w0 _ G nb c _ a _ HD.out (by omega)).mono ?_
      rintro e w2 ⟨y, rfl, _, hg2, hd2⟩
      have HW := Lib.hid (HW.out.kept hg2 hGW)
      have HG := Lib.hid (grown_trans HG.out hg2)
      have HD := Lib.hid hd2
      clear hg2 hd2
      by_cases hy : y = 0
      · subst hy
        go_wp2_with (at_builtin; (refine wpList_append_own _ rfl _ _ 23 rfl w.heap.size 36 iC (.agg #[.string ⟨#[]⟩, .int .i64 0, .int .i64 0]) 3 32 Try.underlying23 HI.out.1 HI.out.2.1 HI.out.2.2.1 HI.out.2.2.2 rfl (by decide) _ _ _ rfl (HW.out.alloc _) _ 1 1 (ch3 [⟨_, _, _⟩]) rfl rfl (by exact news3 _ ⟨_, _, _⟩ _) (ch3_one _) (by have := HL.out; unfold maxLen; omega) (by have := HL.out; omega) (by have := HG.out.size; simp; omega) ?_); intro v' w3 hown' hgr hnn; have hne := fun i e => (World.ownsRow.lt (HW.out.alloc (.cells #[] 0)) i e).1; have HW3 := Lib.hid (CW.snoc rfl hown'); have HG3 := Lib.hid (grown_new (grown_alloc HG.out _) hgr hne); have HD3 := Lib.hid ((HD.out.grown (World.grownBy_alloc _ _ none) (fun k e => by cases e)).grown hgr (fun i e => by have := hne i e; omega)); have HNN := Lib.hid hnn; clear hown' hgr hnn hne)
        go_ret
        exact ⟨_, _, _, rfl, by rw [List.length_append, HL.out]; simp; omega, fun e => HNV.out (HNN.out.1 e).1, HG3.out, HD3.out, by omega, HW3.out⟩
      · have hyb : ((y : Int) == 0) = false := by simp; omega
        go_wp2_with fail
        go_ret
        exact ⟨_, _, _, rfl, by rw [HL.out]; omega, HNV.out, HG.out, HD.out, by omega, HW.out⟩

def DrawnC (w w' : World) (a : Option Addr) (cap : Nat) (cs : List RC) : Prop :=
  cs.length ≤ 12 ∧ (∃ g, a = some ⟨g, 0, none⟩) ∧ cs.length ≤ cap ∧ cap ≤ 9223372036854775807 ∧ OwnC w.heap.size w'.heap.size w' a cs
theorem CW.drawn {w w1 w' : World} {v : Value} {cs : List RC} (h : CW w1.heap.size w' v cs) (hw : w.heap.size ≤ w1.heap.size) (hl : cs.length ≤ 12) (hv : v ≠ .slice none 0 0) : ∃ a cap, v = .slice a cs.length cap ∧ DrawnC w w' a cap cs := by
  have hm : maxLen = 9223372036854775807 := rfl
  have h' : w'.ownsRow w1.heap.size 36 3 v cs.length (ch3 cs) := h
  rcases h'.2 with ⟨hv', h0⟩ | ⟨g, cap, cur, rfl, hb, hg, hn, hmx, hs, ht⟩
  · exact absurd hv' hv
  · refine ⟨_, cap, rfl, hl, ⟨g, rfl⟩, hn, by omega, fun _ => ⟨g, rfl, ⟨by omega, (Array.getElem?_eq_some_iff.1 hg).1⟩, fun i hi => ?_⟩⟩
    obtain ⟨e1, e2, e3⟩ := ch3_get cs i hi
    have hf : ∀ j, w'.frozen? ⟨g, j, none⟩ = false := fun j => by simp [World.frozen?, hg]
    exact ⟨⟨(World.ownsRow.cellAt h' (i * 3) (by omega)).trans e1, (World.ownsRow.cellAt h' (i * 3 + 1) (by omega)).trans e2, (World.ownsRow.cellAt h' (i * 3 + 2) (by omega)).trans e3⟩, hf _, hf _, hf _⟩

set_option maxHeartbeats 1000000 in
theorem l92Net_any (a : Option Addr) (nb cb : Nat) (w : World) (hc : nb ≤ cb) (h63 : cb ≤ 9223372036854775807) (hb : BytR w a nb) :
    Calls Try.prog 81 #[.slice a nb cb] w fun e w' => ∃ (n : Nat) (a' : Option Addr) (cap : Nat) (cs : List RC), e = .returned (.tuple #[.int .i64 n, .slice a' cs.length cap]) ∧ w.Since w.heap.size w' ∧ (2 ≤ n ∧ n ≤ 5) ∧ DrawnC w w' a' cap cs := by
  have E := Lib.hid (l6Open_any a nb cb w hc h63 hb)
  clear hb
  go_enter Try.func81, Try.ntmps81
  go_wp2_with fail
  refine (E.out).mono ?_
  rintro e w1 ⟨n', c', rfl, hs, hz, hd⟩
  have HD1 := Lib.hid hd
  have HS := Lib.hid hs
  have hz1 : w.heap.size < w1.heap.size := by omega
  clear hd hs hz
  go_wp2_with fail
  refine (pick_any w _ w.heap.size n' c' _ a _ HD1.out (by omega)).mono ?_
  rintro e w2 ⟨y2, rfl, hy2, hg2, hd2⟩
  have HD2 := Lib.hid hd2
  have HG2 := Lib.hid hg2
  clear hd2 hg2
  obtain ⟨n, hn, hhn⟩ : ∃ n : Nat, IntKind.i64.wrap (2 + (y2 : Int)) = n ∧ n = y2 + 2 := ⟨y2 + 2, (IntWalk.i64_in _ ⟨by omega, by omega⟩).trans (by omega), rfl⟩
  have hbn : 2 ≤ n ∧ n ≤ 5 := by omega
  clear hhn hy2
  go_wp2_with fail
  refine (l91Chips_any w _ w.heap.size n' c' _ n 8 a HD2.out (by omega) (by omega) (by omega)).mono ?_
  rintro e w3 ⟨v, cs, p', rfl, hl, hnv, hg3, hd3, hp', hW⟩
  have hz2 := HG2.out.size
  obtain ⟨a', cap, rfl, hD⟩ := hW.drawn (w := w) (by omega) hl hnv
  have HD := Lib.hid hD
  have HS3 := Lib.hid (HS.out.trans (since_grown (grown_trans HG2.out hg3) (Nat.le_refl _) (by omega)))
  clear hl hnv hg3 hd3 hW hD
  go_wp2_with fail
  go_ret2
  exact ⟨_, _, _, _, rfl, HS3.out, hbn, HD.out⟩

end Go.Proofs.Ytbclpbgomkfabaa
end

section
namespace Go.Proofs.Ytbclpbgomkfabaa
open Go.RowKit Go.Deep

theorem results_four {fn : Func} {a b c d : Tmp} (h : fn.results = #[.tmp a, .tmp b, .tmp c, .tmp d]) (tmps : Array Value) (P : Program) (w : World) :
    (results fn tmps).run P w = .ok (.tuple #[tmps.getD a undef, tmps.getD b undef, tmps.getD c undef, tmps.getD d undef]) w := by
  simp [results, h]

end Go.Proofs.Ytbclpbgomkfabaa
end

section
namespace Go.Proofs.Ytbclpbgomkfabaa
open Go.RowKit Go.Deep

set_option maxRecDepth 100000 in
set_option maxHeartbeats 1000000 in
theorem l92Lines_any (a : Option Addr) (nb cb : Nat) (w : World) (hc : nb ≤ cb) (h63 : cb ≤ 9223372036854775807) (hb : BytR w a nb) :
    Calls Try.prog 45 #[.slice a nb cb] w fun e w' => ∃ (n : Nat) (a' : Option Addr) (cap : Nat) (cs : List RC) (i k : Int), e = .returned (.tuple #[.int .i64 n, .slice a' cs.length cap, .int .i64 i, .int .i64 k]) ∧ w.Since w.heap.size w' ∧ (2 ≤ n ∧ n ≤ 5) ∧ DrawnC w w' a' cap cs := by
  have E := Lib.hid (l6Open_any a nb cb w hc h63 hb)
  clear hb
  go_enter Try.func45, Try.ntmps45
  go_wp2_with fail
  refine (E.out).mono ?_
  rintro e w1 ⟨n', c', rfl, hs, hz, hd⟩
  have HD1 := Lib.hid hd
  have HS := Lib.hid hs
  have hz1 : w.heap.size < w1.heap.size := by omega
  clear hd hs hz
  go_wp2_with fail
  refine (pick_any w _ w.heap.size n' c' _ a _ HD1.out (by omega)).mono ?_
  rintro e w2 ⟨y2, rfl, hy2, hg2, hd2⟩
  have HD2 := Lib.hid hd2
  have HG2 := Lib.hid hg2
  clear hd2 hg2
  obtain ⟨n, hn, hhn⟩ : ∃ n : Nat, IntKind.i64.wrap (2 + (y2 : Int)) = n ∧ n = y2 + 2 := ⟨y2 + 2, (IntWalk.i64_in _ ⟨by omega, by omega⟩).trans (by omega), rfl⟩
  have hbn : 2 ≤ n ∧ n ≤ 5 := by omega
  clear hhn hy2
  go_wp2_with fail
  refine (l91Chips_any w _ w.heap.size n' c' _ n 8 a HD2.out (by omega) (by omega) (by omega)).mono ?_
  rintro e w3 ⟨v, cs, p', rfl, hl, hnv, hg3, hd3, hp', hW⟩
  have HD := Lib.hid hd3
  have HW := Lib.hid hW
  have HG := Lib.hid (grown_trans HG2.out hg3)
  have hz2 := HG2.out.size
  have hGW : w.heap.size < w2.heap.size := by omega
  clear hg3 hd3 hW HD2 HD1
  go_wp2_with (go_at_call 57; refine (pick_any w _ w.heap.size n' c' _ a _ HD.out (by omega)).mono ?_; rintro e w4 ⟨y, rfl, hy, hg, hd⟩; have HW := Lib.hid (HW.out.kept hg hGW); have HG := Lib.hid (grown_trans HG.out hg); have HD := Lib.hid hd; clear hd hg hy)
  obtain ⟨a', cap, rfl, hD⟩ := HW.out.drawn (w := w) (by omega) hl hnv
  have HDD := Lib.hid hD
  have HS3 := Lib.hid (HS.out.trans (since_grown HG.out (Nat.le_refl _) (by omega)))
  clear hD hl hnv
  refine bodyPost_ret (results_four rfl _ _ _) rfl ?_
  exact ⟨_, _, _, _, _, _, rfl, HS3.out, hbn, HDD.out⟩

end Go.Proofs.Ytbclpbgomkfabaa
end

section
namespace Go.Proofs.Ytbclpbgomkfabaa
open Go.RowKit Go.Deep

theorem drawNetPaths_any (a : Option Addr) (nb cb : Nat) (w : World) (hc : nb ≤ cb) (h63 : cb ≤ 9223372036854775807) (hb : BytR w a nb) :
    Calls Try.prog 12 #[.slice a nb cb] w fun e w' => ∃ (n : Nat) (a' : Option Addr) (cap : Nat) (cs : List RC) (i k : Int), e = .returned (.tuple #[.int .i64 n, .slice a' cs.length cap, .int .i64 i, .int .i64 k]) ∧ w.Since w.heap.size w' ∧ (2 ≤ n ∧ n ≤ 5) ∧ DrawnC w w' a' cap cs := by
  have E := Lib.hid (l92Lines_any a nb cb w hc h63 hb)
  clear hb
  go_enter Try.func12, Try.ntmps12
  go_wp2_with fail
  refine (E.out).mono ?_
  rintro e w1 ⟨n, a', cap, cs, i, k, rfl, hs, hn, hd⟩
  have HS := Lib.hid hs
  have HD := Lib.hid hd
  clear hs hd
  go_wp2_with fail
  refine bodyPost_ret (results_four rfl _ _ _) rfl ?_
  exact ⟨_, _, _, _, _, _, rfl, HS.out, hn, HD.out⟩

end Go.Proofs.Ytbclpbgomkfabaa
end

section
namespace Go.Proofs.Ytbclpbgomkfabaa
open Go.RowKit Go.Deep Go.Shelf
attribute [local go_sem] Oper.semAt_some

abbrev kH : ByteArray := ⟨#[104]⟩
def kS (k : Nat) : ByteArray := if k = 0 then kU else if k = 1 then kD else kH
def posTo (n : Nat) : Nat → List (Nat × Nat)
  | 0 => []
  | k + 1 => if k + 1 = n then posTo n k ++ [(2, k)] else posTo n k ++ [(2, k), (0, k), (1, k)]
theorem posTo_len (n : Nat) : ∀ k, (posTo n k).length ≤ 3 * k
  | 0 => by simp [posTo]
  | k + 1 => by
    have := posTo_len n k
    unfold posTo
    split <;> simp <;> omega
theorem posTo_sub {n : Nat} {x : Nat × Nat} : ∀ {k m : Nat}, k ≤ m → x ∈ posTo n k → x ∈ posTo n m
  | k, 0, h, hx => by
    obtain rfl : k = 0 := by omega
    exact hx
  | k, m + 1, h, hx => by
    by_cases e : k = m + 1
    · subst e; exact hx
    · have := posTo_sub (n := n) (show k ≤ m by omega) hx
      unfold posTo
      split <;> simp [this]
theorem posTo_mem {n : Nat} {k i : Nat} : ∀ {m : Nat}, m ≤ n → ((k, i) ∈ posTo n m ↔ i < m ∧ ((k = 2) ∨ ((k = 0 ∨ k = 1) ∧ i + 1 ≠ n)))
  | 0, _ => by simp [posTo]
  | m + 1, hm => by
    have ih := posTo_mem (k := k) (i := i) (show m ≤ n by omega)
    unfold posTo
    by_cases e : m + 1 = n
    · rw [if_pos e, List.mem_append, ih]
      simp only [List.mem_singleton, Prod.mk.injEq]
      constructor
      · rintro (⟨h1, h2⟩ | ⟨h1, h2⟩)
        · exact ⟨by omega, h2⟩
        · exact ⟨by omega, .inl h1⟩
      · rintro ⟨h1, h2⟩
        by_cases h3 : i = m
        · rcases h2 with h2 | ⟨_, h2⟩
          · exact .inr ⟨h2, h3⟩
          · omega
        · exact .inl ⟨by omega, h2⟩
    · rw [if_neg e, List.mem_append, ih]
      simp only [List.mem_cons, List.not_mem_nil, or_false, Prod.mk.injEq]
      constructor
      · rintro (⟨h1, h2⟩ | ⟨h1, h2⟩ | ⟨h1, h2⟩ | ⟨h1, h2⟩)
        · exact ⟨by omega, h2⟩
        · exact ⟨by omega, .inl h1⟩
        · exact ⟨by omega, .inr ⟨.inl h1, by omega⟩⟩
        · exact ⟨by omega, .inr ⟨.inr h1, by omega⟩⟩
      · rintro ⟨h1, h2⟩
        by_cases h3 : i = m
        · rcases h2 with h2 | ⟨h2 | h2, _⟩
          · exact .inr (.inl ⟨h2, h3⟩)
          · exact .inr (.inr (.inl ⟨h2, h3⟩))
          · exact .inr (.inr (.inr ⟨h2, h3⟩))
        · exact .inl ⟨by omega, h2⟩

def encC (V : Int) (x : Nat × Nat) : Array Value := #[.agg #[.string (kS x.1), .int .i64 (x.2 : Int), .int .i64 V]]

set_option maxRecDepth 100000 in
set_option maxHeartbeats 1000000 in
theorem possible_in (q : Nat) (hq : 2 ≤ q) (l Bn Bw n : Nat) (V : Int) (hn : 1 ≤ n ∧ n ≤ 5) (Kp : World → World → Prop)
    (hK : ∀ X Y, Kp X Y → Y.cell? ⟨Bn, 0, none⟩ = X.cell? ⟨Bn, 0, none⟩ ∧ Y.cell? ⟨Bw, 0, none⟩ = X.cell? ⟨Bw, 0, none⟩) (J Jx : List (Nat × Nat) → World → Prop)
    (hY : ∀ pre x W, J pre W → pre.length < 15 → YieldAt Fence.wide (q - 1) Try.prog l (encC V x) W fun e W' =>
      (e = .returned (.bool true) ∧ J (pre ++ [x]) W' ∧ Kp W W') ∨ (e = .returned (.bool false) ∧ Jx (pre ++ [x]) W'))
    (W : World) (hBn : W.cell? ⟨Bn, 0, none⟩ = some (.int .i64 n)) (hBw : W.cell? ⟨Bw, 0, none⟩ = some (.int .i64 V)) (h0 : J [] W) :
    CallsIn Fence.wide q Try.prog 141 #[.func (.yield l) #[] #[], .pointer (some ⟨Bn, 0, none⟩), .pointer (some ⟨Bw, 0, none⟩)] W fun e W' => (∃ v, e = .returned v) ∧
      ((∃ ys, ys = posTo n n ∧ J ys W') ∨ (∃ pre, (∀ x ∈ pre, x ∈ posTo n n) ∧ Jx pre W')) := by
  obtain ⟨hn1, hn5⟩ := hn
  have hw1 : IntKind.i64.wrap ((n : Int) - 1) = (n : Int) - 1 := IntWalk.i64_in _ ⟨by omega, by omega⟩
  refine callsIn_of_wp Try.func141 rfl trivial ?_ rfl
  simp only [Try.ntmps141, List.size_toArray, List.length_cons, List.length_nil, Nat.reduceAdd, Nat.reduceSub, Array.replicate_succ, Array.replicate_zero, List.push_toArray, List.append_toArray, List.nil_append, List.cons_append]
  gi_wp2
  gi_loopw [4, 5, 7] (fun _ _ i wr => ∃ k : Nat, k ≤ n ∧ i = .int .i64 k ∧ J (posTo n k) wr ∧ wr.cell? ⟨Bn, 0, none⟩ = some (.int .i64 n) ∧ wr.cell? ⟨Bw, 0, none⟩ = some (.int .i64 V))
    (fun _ _ i _ => n - (intOf i).toNat)
  case atStart => exact ⟨0, Nat.zero_le _, rfl, h0, hBn, hBw⟩
  case round =>
    obtain ⟨k, hk, rfl, hJs, hcn, hcw⟩ := hrel
    by_cases hlt : k < n
    · have hpl := posTo_len n k
      obtain ⟨fn, tmps, assign, body, hy, hR⟩ := hY _ (2, k) wr hJs (by omega)
      dsimp only [encC, kS] at hy
      rw [if_neg (by simp), if_neg (by simp)] at hy
      have hm0 : ∀ x ∈ posTo n k, x ∈ posTo n n := fun x hx => posTo_sub (by omega) hx
      have hm2 : (2, k) ∈ posTo n n := (posTo_mem (Nat.le_refl n)).2 ⟨hlt, .inl rfl⟩
      have HM2 := Lib.hid (And.intro hm0 hm2)
      have HY := Lib.hid hY
      clear hBn hBw hY hm2 hm0
      gi_wp2
      refine ⟨fun _ => by omega, hR.mono ?_⟩
      rintro e W3 (⟨rfl, hJ3, hk3⟩ | ⟨rfl, hJx3⟩)
      · obtain ⟨g1, g2⟩ := hK _ _ hk3
        have hcn3 := g1.trans hcn
        have hcw3 := g2.trans hcw
        clear hy hR hk3 g1 g2 hcn hcw hJs
        by_cases hl : k + 1 = n
        · have hlb : ((k : Int) == (n : Int) - 1) = true := by simp; omega
          have hst : posTo n (k + 1) = posTo n k ++ [(2, k)] := by show (if k + 1 = n then _ else _) = _; rw [if_pos hl]
          rw [← hst] at hJ3
          clear hst hl
          gi_wp2
          repeat (refine ⟨fun _ h => (by cases h), ?_⟩; gi_wp2)
          case isFalse =>
            rename_i b h1 _
            exact absurd h1 (fun h => by cases h)
          all_goals
            go_roundw
            case rel => exact ⟨k + 1, by omega, by simp, hJ3, hcn3, hcw3⟩
            case measure => simp [intOf]; omega
        · have hlb : ((k : Int) == (n : Int) - 1) = false := by simp; omega
          have hst : posTo n (k + 1) = posTo n k ++ [(2, k), (0, k), (1, k)] := by show (if k + 1 = n then _ else _) = _; rw [if_neg hl]
          have HST := Lib.hid hst
          have HL := Lib.hid hl
          obtain ⟨fn, tmps, assign, body, hy, hR⟩ := HY.out _ (0, k) W3 hJ3 (by simp; omega)
          dsimp only [encC, kS] at hy
          rw [if_pos rfl] at hy
          clear hst hl hJ3
          gi_wp2
          refine ⟨fun _ => by omega, hR.mono ?_⟩
          rintro e W4 (⟨rfl, hJ4, hk4⟩ | ⟨rfl, hJx4⟩)
          · obtain ⟨g1, g2⟩ := hK _ _ hk4
            have hcn4 := g1.trans hcn3
            have hcw4 := g2.trans hcw3
            obtain ⟨fn, tmps, assign, body, hy, hR⟩ := HY.out _ (1, k) W4 hJ4 (by simp; omega)
            dsimp only [encC, kS] at hy
            rw [if_neg (by simp), if_pos rfl] at hy
            clear hk4 g1 g2 hcn3 hcw3 hJ4
            gi_wp2
            refine ⟨fun _ => by omega, hR.mono ?_⟩
            rintro e W5 (⟨rfl, hJ5, hk5⟩ | ⟨rfl, hJx5⟩)
            · obtain ⟨g1, g2⟩ := hK _ _ hk5
              have hcn5 := g1.trans hcn4
              have hcw5 := g2.trans hcw4
              gi_wp2
              go_roundw
              case rel => exact ⟨k + 1, by omega, by simp, by rw [HST.out]; simpa using hJ5, hcn5, hcw5⟩
              case measure => simp [intOf]; omega
            · gi_wp2
              refine bodyPost_ret (results_none rfl _ _ _) rfl ?_
              refine ⟨⟨_, rfl⟩, .inr ⟨_, fun x hx => ?_, hJx5⟩⟩
              simp only [List.append_assoc, List.mem_append, List.mem_cons, List.not_mem_nil, or_false] at hx
              rcases hx with hx | rfl | rfl | rfl
              · exact HM2.out.1 x hx
              · exact HM2.out.2
              · exact (posTo_mem (Nat.le_refl n)).2 ⟨hlt, .inr ⟨.inl rfl, HL.out⟩⟩
              · exact (posTo_mem (Nat.le_refl n)).2 ⟨hlt, .inr ⟨.inr rfl, HL.out⟩⟩
          · gi_wp2
            repeat (refine ⟨fun _ h => (by cases h), ?_⟩; gi_wp2)
            refine bodyPost_ret (results_none rfl _ _ _) rfl ?_
            refine ⟨⟨_, rfl⟩, .inr ⟨_, fun x hx => ?_, hJx4⟩⟩
            simp only [List.append_assoc, List.mem_append, List.mem_cons, List.not_mem_nil, or_false] at hx
            rcases hx with hx | rfl | rfl
            · exact HM2.out.1 x hx
            · exact HM2.out.2
            · exact (posTo_mem (Nat.le_refl n)).2 ⟨hlt, .inr ⟨.inl rfl, HL.out⟩⟩
      · gi_wp2
        refine bodyPost_ret (results_none rfl _ _ _) rfl ?_
        refine ⟨⟨_, rfl⟩, .inr ⟨_, fun x hx => ?_, hJx3⟩⟩
        simp only [List.mem_append, List.mem_singleton] at hx
        rcases hx with hx | rfl
        · exact HM2.out.1 x hx
        · exact HM2.out.2
    · obtain rfl : k = n := by omega
      gi_wp2
      go_end0
      exact ⟨⟨_, rfl⟩, .inl ⟨_, rfl, hJs⟩⟩

theorem possible_stops (q : Nat) (hq : 2 ≤ q) (Bn Bw n n₀ : Nat) (V : Int) (hn : 1 ≤ n ∧ n ≤ 5) (w : World) (h0 : n₀ ≤ w.heap.size) (h1 : Bn < n₀) (h2 : Bw < n₀) (hBn : w.cell? ⟨Bn, 0, none⟩ = some (.int .i64 n)) (hBw : w.cell? ⟨Bw, 0, none⟩ = some (.int .i64 V)) :
    SeqStopsK Fence.wide q Try.prog 141 #[.pointer (some ⟨Bn, 0, none⟩), .pointer (some ⟨Bw, 0, none⟩)] (encC V) (Below n₀) (fun ys => ys = posTo n n) (fun pre => ∀ x ∈ pre, x ∈ posTo n n) 15 w := fun l J Jx W hW _ _ hY hJ =>
  possible_in q hq l Bn Bw n V hn (Below n₀) (fun X Y h => ⟨h.cell (p := ⟨Bn, 0, none⟩) h1, h.cell (p := ⟨Bw, 0, none⟩) h2⟩) J Jx hY W
    ((hW.cell (p := ⟨Bn, 0, none⟩) (by show Bn < _; omega)).trans hBn) ((hW.cell (p := ⟨Bw, 0, none⟩) (by show Bw < _; omega)).trans hBw) hJ

theorem possibleChips_any (n V : Int) (w : World) :
    Calls Try.prog 124 #[.int .i64 n, .int .i64 V] w fun e w' => e = .returned (.func (.func 141) #[] #[.pointer (some ⟨w.heap.size, 0, none⟩), .pointer (some ⟨w.heap.size + 1, 0, none⟩)])
      ∧ w' = (w.alloc (.cells #[.int .i64 n] 3)).alloc (.cells #[.int .i64 V] 3) := by
  go_enter Try.func124, Try.ntmps124
  go_wp2
  go_ret
  exact ⟨rfl, rfl⟩

end Go.Proofs.Ytbclpbgomkfabaa
end

section
namespace Go.Proofs.Ytbclpbgomkfabaa
open Go.RowKit Go.Deep Go.Shelf
attribute [local go_sem] Oper.semAt_some

def Box3 (W : World) (B : Nat) (K : ByteArray) (L V : Int) : Prop := W.heap[B]? = some (.cells #[.string K, .int .i64 L, .int .i64 V] 36 (0, 0))
theorem Box3.lt {W : World} {B : Nat} {K : ByteArray} {L V : Int} (h : Box3 W B K L V) : B < W.heap.size := (Array.getElem?_eq_some_iff.1 h).1
theorem Box3.cells {W : World} {B : Nat} {K : ByteArray} {L V : Int} (h : Box3 W B K L V) : W.cell? ⟨B, 0, none⟩ = some (.string K) ∧ W.cell? ⟨B, 1, none⟩ = some (.int .i64 L) ∧ W.cell? ⟨B, 2, none⟩ = some (.int .i64 V) := by
  have h' : W.heap[B]? = _ := h
  refine ⟨?_, ?_, ?_⟩ <;> (unfold World.cell?; rw [h']; rfl)
theorem Box3.new (W : World) (K : ByteArray) (L V : Int) : Box3 (W.alloc (.cells #[.string K, .int .i64 L, .int .i64 V] 36)) W.heap.size K L V := World.alloc_heap_new W _
theorem Box3.kept {W W' : World} {row : Option Nat} {B : Nat} {K : ByteArray} {L V : Int} (h : Box3 W B K L V) (hg : W.grownBy W' row) (hne : some B ≠ row) : Box3 W' B K L V := (hg.block B h.lt hne).trans h
theorem Box3.alloc {W : World} {B : Nat} {K : ByteArray} {L V : Int} (h : Box3 W B K L V) (o : Obj) : Box3 (W.alloc o) B K L V := h.kept (World.grownBy_alloc W o none) (by simp)
theorem Box3.own {W W' : World} {row : Option Nat} {B : Nat} {K : ByteArray} {L V : Int} (h : Box3 W B K L V) (hg : W.grownBy W' row) (hr : ∀ r, row = some r → ∃ o : Obj, W.heap[r]? = some o ∧ o.isCells = false) : Box3 W' B K L V := h.kept hg (fun e => by
  obtain ⟨o, ho, hc⟩ := hr B e.symm
  have h' : W.heap[B]? = _ := h
  rw [h'] at ho; cases ho; cases hc)
def isC (K : ByteArray) (L : Int) (x : Nat × Nat) : Prop := K.toList = (kS x.1).toList ∧ L = x.2
theorem kS_list : (kS 0).toList = [117] ∧ (kS 1).toList = [100] ∧ (kS 2).toList = [104] := by decide +kernel
theorem kind_some {n : Nat} {K : ByteArray} {L V : Int} {x : Nat × Nat} (hx : x ∈ posTo n n) (h : isC K L x) : kindB n ⟨K, L, V⟩ = true := by
  obtain ⟨k, i⟩ := x
  obtain ⟨h1, h2⟩ := h
  simp only at h1 h2
  subst h2
  obtain ⟨h3, h4⟩ := (posTo_mem (Nat.le_refl n)).1 hx
  obtain ⟨s0, s1, s2⟩ := kS_list
  unfold kindB inB
  simp only
  rcases h4 with rfl | ⟨rfl | rfl, h5⟩
  · rw [s2] at h1
    rw [if_pos h1]
    exact decide_eq_true ⟨by omega, by omega⟩
  · rw [s0] at h1
    rw [if_neg (by rw [h1]; decide), if_pos (.inl h1)]
    exact decide_eq_true ⟨by omega, by omega⟩
  · rw [s1] at h1
    rw [if_neg (by rw [h1]; decide), if_pos (.inr h1)]
    exact decide_eq_true ⟨by omega, by omega⟩
theorem kind_none {n : Nat} {K : ByteArray} {L V : Int} (h : ∀ x ∈ posTo n n, ¬ isC K L x) : kindB n ⟨K, L, V⟩ = false := by
  obtain ⟨s0, s1, s2⟩ := kS_list
  cases e : kindB n ⟨K, L, V⟩ with
  | false => rfl
  | true =>
    exfalso
    unfold kindB inB at e
    simp only at e
    by_cases hH : K.toList = [104]
    · rw [if_pos hH] at e
      have e := of_decide_eq_true e
      exact h (2, L.toNat) ((posTo_mem (Nat.le_refl n)).2 ⟨by omega, .inl rfl⟩) ⟨by rw [s2]; exact hH, by show L = ((L.toNat : Nat) : Int); omega⟩
    · rw [if_neg hH] at e
      by_cases hu : K.toList = [117]
      · rw [if_pos (.inl hu)] at e
        have e := of_decide_eq_true e
        exact h (0, L.toNat) ((posTo_mem (Nat.le_refl n)).2 ⟨by omega, .inr ⟨.inl rfl, by omega⟩⟩) ⟨by rw [s0]; exact hu, by show L = ((L.toNat : Nat) : Int); omega⟩
      · by_cases hd : K.toList = [100]
        · rw [if_pos (.inr hd)] at e
          have e := of_decide_eq_true e
          exact h (1, L.toNat) ((posTo_mem (Nat.le_refl n)).2 ⟨by omega, .inr ⟨.inr rfl, by omega⟩⟩) ⟨by rw [s1]; exact hd, by show L = ((L.toNat : Nat) : Int); omega⟩
        · rw [if_neg (fun h => h.elim hu hd)] at e
          cases e

set_option maxRecDepth 100000 in
set_option maxHeartbeats 1000000 in
theorem isIn_any (K : ByteArray) (L V : Int) (n : Nat) (hn2 : 2 ≤ n) (hn5 : n ≤ 5) (w : World) :
    Calls Try.prog 100 #[.agg #[.string K, .int .i64 L, .int .i64 V], .int .i64 n] w fun e w' => e = .returned (.bool (chipB n ⟨K, L, V⟩)) ∧ w.Since w.heap.size w' := by
  refine (callsIn_wide (n := 9)).1 ?_
  refine callsIn_of_wp_marks Try.func100 rfl trivial ?_ rfl
  simp only [Try.ntmps100, List.size_toArray, List.length_cons, List.length_nil, Nat.reduceAdd, Nat.reduceSub, Array.replicate_succ, Array.replicate_zero, List.push_toArray, List.append_toArray, List.nil_append, List.cons_append]
  obtain ⟨d1, d2, d3⟩ := chip_box w K L V 36
  gi_wp2_with (first
    | (refine ⟨trivial, ?_⟩; gi_at_call 124; refine (callsIn_wide.2 (possibleChips_any _ _ _)).mono ?_; rintro e w' ⟨rfl, rfl⟩))
  obtain ⟨W0, hW0⟩ : ∃ W0, W0 = ((((w.alloc (.cells #[.string K, .int .i64 L, .int .i64 V] 36)).alloc (.cells #[.bool false] 4)).alloc (.cells #[.int .i64 n] 3)).alloc (.cells #[.int .i64 V] 3)) := ⟨_, rfl⟩
  rw [← hW0]
  have hsz0 : W0.heap.size = w.heap.size + 4 := by rw [hW0]; simp
  have hB0 : Below w.heap.size w W0 := by rw [hW0]; exact ((((Below.refl _ w).alloc (Nat.le_refl _) _).alloc (by simp) _).alloc (by simp; omega) _).alloc (by simp; omega) _
  have b3 : Box3 W0 w.heap.size K L V := by rw [hW0]; exact (((Box3.new w K L V).alloc _).alloc _).alloc _
  have bR : Boxed W0 (w.heap.size + 1) 4 (.bool false) := by
    have h := Boxed.new (w.alloc (.cells #[.string K, .int .i64 L, .int .i64 V] 36)) 4 (.bool false)
    rw [World.size_alloc] at h
    rw [hW0]; exact (h.alloc _).alloc _
  have bN : Boxed W0 (w.heap.size + 1 + 1) 3 (.int .i64 n) := by
    have h := Boxed.new ((w.alloc (.cells #[.string K, .int .i64 L, .int .i64 V] 36)).alloc (.cells #[.bool false] 4)) 3 (.int .i64 n)
    rw [World.size_alloc, World.size_alloc] at h
    rw [hW0]; exact h.alloc _
  have bV : Boxed W0 (w.heap.size + 1 + 1 + 1) 3 (.int .i64 V) := by
    have h := Boxed.new (((w.alloc (.cells #[.string K, .int .i64 L, .int .i64 V] 36)).alloc (.cells #[.bool false] 4)).alloc (.cells #[.int .i64 n] 3)) 3 (.int .i64 V)
    rw [World.size_alloc, World.size_alloc, World.size_alloc] at h
    rw [hW0]; exact h
  clear hW0 d1 d2 d3
  refine wpIn_rangeFunc_ownH (F := Fence.wide) (n := 9) rfl (by omega) (gf := 141) (lb := #[.pointer (some ⟨w.heap.size + 1 + 1, 0, none⟩), .pointer (some ⟨w.heap.size + 1 + 1 + 1, 0, none⟩)]) rfl trivial (enters_of Try.func141 (by kernel_rfl) rfl)
    (possible_stops 8 (by omega) (w.heap.size + 1 + 1) (w.heap.size + 1 + 1 + 1) n W0.heap.size V ⟨by omega, hn5⟩ W0 (Nat.le_refl _) (by omega) (by omega) bN.cell bV.cell)
    (fun h k => h.trans k) (belowK_b (Nat.le_refl _)) (Below.refl _ _) (fun _ => rfl)
    (fun pre W => (Box3 W w.heap.size K L V ∧ Boxed W (w.heap.size + 1) 4 (.bool false) ∧ w.heap.size + 4 ≤ W.heap.size ∧ ∀ x ∈ pre, ¬ isC K L x) ∧ Below w.heap.size w W)
    (fun c pre W => (c = .ret ∧ Boxed W (w.heap.size + 1) 4 (.bool (inB V (-9) 9)) ∧ ∃ x ∈ pre, isC K L x) ∧ Below w.heap.size w W)
    (OwnFrom.and (Own.from (fun s A B row hs hg hr => ⟨hs.1.own hg hr, boxed_own (w.heap.size + 1) 4 (fun (_ : Unit) => Value.bool false) () A B row hs.2.1 hg hr, Nat.le_trans hs.2.2.1 hg.size, hs.2.2.2⟩) _) (ownFrom_below (Nat.le_refl _) (by omega)))
    (fun c => OwnFrom.and (Own.from (fun s A B row hs hg hr => ⟨hs.1, boxed_own (w.heap.size + 1) 4 (fun (_ : Unit) => Value.bool (inB V (-9) 9)) () A B row hs.2.1 hg hr, hs.2.2⟩) _) (ownFrom_below (Nat.le_refl _) (by omega)))
    ⟨⟨b3, bR, by omega, by simp⟩, hB0⟩
    (fun x a' W => ∃ Bx, w.heap.size + 4 ≤ Bx ∧ Box3 W Bx (kS x.1) (x.2 : Int) V ∧ a' = { tmps := #[.agg #[.string K, .int .i64 L, .int .i64 V], .int .i64 n, .pointer (some ⟨w.heap.size, 0, none⟩), undef, .pointer (some ⟨w.heap.size + 1, 0, none⟩), .pointer (some ⟨Bx, 0, none⟩), .int .i64 n, .pointer (some ⟨w.heap.size, 2, none⟩), .int .i64 V, .func (.func 141) #[] #[.pointer (some ⟨w.heap.size + 1 + 1, 0, none⟩), .pointer (some ⟨w.heap.size + 1 + 1 + 1, 0, none⟩)], .agg #[.string (kS x.1), .int .i64 (x.2 : Int), .int .i64 V], undef, undef, undef, undef, undef, undef], defers := [] })
    (fun x a' _ X Y row hs hg hr => by obtain ⟨Bx, h1, h2, h3⟩ := hs; exact ⟨Bx, h1, h2.own hg (fun r e => (hr r e).2), h3⟩)
    ?assign ?body ?done ?stop
  case assign =>
    rintro l2 pre x W Kq ⟨⟨h1, h2, h3, h4⟩, hb⟩ hK
    simp only [encC]
    gi_wp2
    exact hK _ _ ((KeepsOthers.alloc _ _).from _) ((Below.refl _ _).alloc (by omega) _) ⟨⟨h1.alloc _, h2.alloc _, by simp; omega, h4⟩, hb.alloc (by omega) _⟩ ⟨W.heap.size, h3, Box3.new W _ _ _, rfl⟩
  case body =>
    rintro l2 pre x a' W hl ⟨r, hr⟩ ⟨⟨h1, h2, h3, h4⟩, hb⟩ ⟨Bx, hBx, bX, rfl⟩ hlt
    obtain ⟨c1, c2, c3⟩ := h1.cells
    obtain ⟨e1, e2, e3⟩ := bX.cells
    have cR := h2.cell
    have fR := h2.frozen
    have HF := Lib.hid (fun (h : ¬ isC K L x) => show ∀ y ∈ pre ++ [x], ¬ isC K L y from fun y hy => by
      rcases List.mem_append.1 hy with hy | hy
      · exact h4 y hy
      · simp at hy; subst hy; exact h)
    have HT := Lib.hid (fun (h : isC K L x) => show ∃ y ∈ pre ++ [x], isC K L y from ⟨x, by simp, h⟩)
    have H1 := Lib.hid h1
    have H2 := Lib.hid h2
    have HB := Lib.hid hb
    clear h1 h2 h4 hb
    by_cases hk : K.toList = (kS x.1).toList
    · by_cases hL : L = x.2
      · have HC := Lib.hid (HT.out ⟨hk, hL⟩)
        have hL' : (L == (x.2 : Int)) = true := by simpa using hL
        have HLL := Lib.hid hL
        clear hL
        gi_wp2_with (first
          | (refine ⟨trivial, ?_⟩; gi_at_call 97; refine (CallsIn.inRound l2 (callsIn_wide.2 (inRange_any _ _ _ _))).mono ?_; rintro e w' ⟨rfl, rfl⟩))
        exact ⟨(KeepsOthers.setCell _ _ _).from _, ⟨rfl, H2.out.set _, HC.out⟩, HB.out.setCell (p := ⟨w.heap.size + 1, 0, none⟩) (by simp) _⟩
      · have HC := Lib.hid (HF.out (fun h => hL h.2))
        have hL' : (L == (x.2 : Int)) = false := by simpa using hL
        gi_wp2_with fail
        exact ⟨(KeepsOthers.refl _).from _, Below.refl _ _, ⟨H1.out, H2.out, h3, HC.out⟩, HB.out⟩
    · have HC := Lib.hid (HF.out (fun h => hk h.1))
      have hk' : (K.toList == (kS x.1).toList) = false := by simpa using hk
      gi_wp2_with fail
      exact ⟨(KeepsOthers.refl _).from _, Below.refl _ _, ⟨H1.out, H2.out, h3, HC.out⟩, HB.out⟩
  case done =>
    rintro D ys W hD rfl ⟨⟨h1, h2, h3, h4⟩, hb⟩ hK
    have hv : chipB n ⟨K, L, V⟩ = false := by unfold chipB; rw [kind_none h4, Bool.false_and]
    have HV := Lib.hid hv
    have cR := h2.cell
    have fR := h2.frozen
    have H2 := Lib.hid (h2.set (.bool false))
    have HB := Lib.hid hb
    clear h1 h2 h4 hv hb b3 bR bN bV hB0
    gi_wp2
    have hK' := (KeepsOthers.setCell W ⟨w.heap.size + 1, 0, none⟩ (.bool false)).same D _ hK rfl
    refine ⟨by simp, .inl ⟨_, _, rfl, run_takeDeferred hK', ?_⟩⟩
    have hc5 := (H2.out.kept (grownBy_putObj' _ D (.deferred none)) (fun e => by injection e; omega)).cell
    refine ⟨.bool false, ?_, ret_bool HV.out.symm, below_since ((HB.out.setCell (p := ⟨w.heap.size + 1, 0, none⟩) (by simp) _).trans (belowK_b (w := w) (Nat.le_refl _) _ D _ _ (by omega) hK' rfl rfl))⟩
    simp [results, Try.f100, go_sem, hc5]
  case stop =>
    rintro D c pre W hD hpre ⟨⟨rfl, h2, x, hx, hc⟩, hb⟩ hK
    have hv : chipB n ⟨K, L, V⟩ = inB V (-9) 9 := by unfold chipB; rw [kind_some (hpre x hx) hc, Bool.true_and]
    have HV := Lib.hid hv
    have H2 := Lib.hid h2
    have HB := Lib.hid hb
    clear h2 hv hb b3 bR bN bV hB0
    gi_wp2
    refine ⟨by simp, .inl ⟨_, _, rfl, run_takeDeferred hK, ?_⟩⟩
    have hc5 := (H2.out.kept (grownBy_putObj' _ D (.deferred none)) (fun e => by injection e; omega)).cell
    refine ⟨.bool (inB V (-9) 9), ?_, ret_bool HV.out.symm, below_since (HB.out.trans (belowK_b (w := w) (Nat.le_refl _) W D _ _ (by omega) hK rfl rfl))⟩
    simp [results, Try.f100, go_sem, hc5]

end Go.Proofs.Ytbclpbgomkfabaa
end

section
namespace Go.Proofs.Ytbclpbgomkfabaa
open Go.RowKit Go.Deep

set_option maxRecDepth 100000 in
set_option maxHeartbeats 400000 in
theorem ends_h (K : ByteArray) (L : Nat) (V : Int) (w : World) (hK : K.toList = [104]) :
    Calls Try.prog 114 #[.agg #[.string K, .int .i64 L, .int .i64 V]] w fun e w' => e = .returned (.tuple #[.int .i64 ((L : Nat) : Int), .int .i64 ((L : Nat) : Int)]) ∧ w.Since w.heap.size w' := by
  obtain ⟨d1, d2, d3⟩ := chip_box w K L V 36
  have HS := Lib.hid ((World.Since.refl w.heap.size w).alloc (Nat.le_refl _) (.cells #[.string K, .int .i64 L, .int .i64 V] 36))
  have hq1 : (K.toList == [117]) = false := by rw [hK]; decide
  have hq2 : (K.toList == [100]) = false := by rw [hK]; decide
  go_enter Try.func114, Try.ntmps114
  go_wp2
  go_region
  all_goals
    go_wp2
    go_ret2
    exact ⟨rfl, HS.out.drew⟩

set_option maxRecDepth 100000 in
set_option maxHeartbeats 400000 in
theorem ends_u (K : ByteArray) (L : Nat) (V : Int) (w : World) (hL : L ≤ 10) (hK : K.toList = [117]) :
    Calls Try.prog 114 #[.agg #[.string K, .int .i64 L, .int .i64 V]] w fun e w' => e = .returned (.tuple #[.int .i64 ((L : Nat) : Int), .int .i64 (((L + 1) : Nat) : Int)]) ∧ w.Since w.heap.size w' := by
  obtain ⟨d1, d2, d3⟩ := chip_box w K L V 36
  have HS := Lib.hid ((World.Since.refl w.heap.size w).alloc (Nat.le_refl _) (.cells #[.string K, .int .i64 L, .int .i64 V] 36))
  have hw1 : IntKind.i64.wrap ((L : Int) + 1) = (L : Int) + 1 := IntWalk.i64_in _ ⟨by omega, by omega⟩
  go_enter Try.func114, Try.ntmps114
  go_wp2
  go_region
  all_goals
    go_wp2
    go_ret2
    exact ⟨rfl, HS.out.drew⟩

set_option maxRecDepth 100000 in
set_option maxHeartbeats 400000 in
theorem ends_d (K : ByteArray) (L : Nat) (V : Int) (w : World) (hL : L ≤ 10) (hK : K.toList = [100]) :
    Calls Try.prog 114 #[.agg #[.string K, .int .i64 L, .int .i64 V]] w fun e w' => e = .returned (.tuple #[.int .i64 (((L + 1) : Nat) : Int), .int .i64 ((L : Nat) : Int)]) ∧ w.Since w.heap.size w' := by
  obtain ⟨d1, d2, d3⟩ := chip_box w K L V 36
  have HS := Lib.hid ((World.Since.refl w.heap.size w).alloc (Nat.le_refl _) (.cells #[.string K, .int .i64 L, .int .i64 V] 36))
  have hq1 : (K.toList == [117]) = false := by rw [hK]; decide
  have hw1 : IntKind.i64.wrap ((L : Int) + 1) = (L : Int) + 1 := IntWalk.i64_in _ ⟨by omega, by omega⟩
  go_enter Try.func114, Try.ntmps114
  go_wp2
  go_region
  all_goals
    go_wp2
    go_ret2
    exact ⟨rfl, HS.out.drew⟩

theorem ends_any (c : RC) (w : World) (hok : RCok c) :
    Calls Try.prog 114 #[.agg #[.string c.k, .int .i64 c.l, .int .i64 c.w]] w fun e w' => e = .returned (.tuple #[.int .i64 (chR (toC c) : Nat), .int .i64 (chK (toC c) : Nat)]) ∧ w.Since w.heap.size w' := by
  obtain ⟨K, l, V⟩ := c
  obtain ⟨hk, hl, hv⟩ := hok
  simp only at hk hl hv
  obtain ⟨L, rfl⟩ : ∃ L : Nat, l = L := ⟨l.toNat, by omega⟩
  rcases hk with h | h | h
  · rw [toC_h h]
    exact ends_h K L V w h
  · have e : toC ⟨K, (L : Int), V⟩ = (0, L, V) := by unfold toC; simp [h]
    rw [e]
    exact ends_u K L V w (by omega) h
  · have e : toC ⟨K, (L : Int), V⟩ = (1, L, V) := by unfold toC; simp [h]
    rw [e]
    exact ends_d K L V w (by omega) h

set_option maxHeartbeats 400000 in
theorem chipTurned_any (c : RC) (w : World) :
    Calls Try.prog 55 #[.agg #[.string c.k, .int .i64 c.l, .int .i64 c.w]] w fun e w' => e = .returned (.agg #[.string (trC c).k, .int .i64 (trC c).l, .int .i64 (trC c).w]) ∧ w.Since w.heap.size w' := by
  obtain ⟨K, L, V⟩ := c
  obtain ⟨d1, d2, d3⟩ := chip_box w K L V 36
  have HS := Lib.hid (fun (Y : ByteArray) (Z : Obj) => (((World.Since.refl w.heap.size w).alloc (Nat.le_refl _) (.cells #[.string Y, .int .i64 L, .int .i64 V] 36)).alloc (by simp) Z))
  unfold trC
  simp only
  by_cases hu : K.toList = [117]
  · rw [if_pos hu]
    go_enter Try.func55, Try.ntmps55
    go_wp2
    exact bodyPost_ret (v := .agg #[.string kD, .int .i64 L, .int .i64 V]) (by simp [results, Try.f55, go_sem]) rfl ⟨rfl, HS.out _ _⟩
  · rw [if_neg hu]
    have hub : (K.toList == [117]) = false := by simpa using hu
    by_cases hd : K.toList = [100]
    · rw [if_pos hd]
      clear hu
      go_enter Try.func55, Try.ntmps55
      go_wp2
      exact bodyPost_ret (v := .agg #[.string kU, .int .i64 L, .int .i64 V]) (by simp [results, Try.f55, go_sem]) rfl ⟨rfl, HS.out _ _⟩
    · rw [if_neg hd]
      have hdb : (K.toList == [100]) = false := by simpa using hd
      clear hu hd
      go_enter Try.func55, Try.ntmps55
      go_wp2
      exact bodyPost_ret (v := .agg #[.string K, .int .i64 L, .int .i64 V]) (by simp [results, Try.f55, go_sem]) rfl ⟨rfl, HS.out _ _⟩

set_option maxRecDepth 100000 in
set_option maxHeartbeats 400000 in
theorem chipTable_any (c : RC) (n : Nat) (w : World) (h1 : 1 ≤ n) (h5 : n ≤ 5) (hok : RCok c ∧ chOk n (toC c)) :
    Calls Try.prog 65 #[.agg #[.string c.k, .int .i64 c.l, .int .i64 c.w], .int .i64 n] w fun e w' => ∃ a cap, e = .returned (.slice a n cap) ∧ w.Since w.heap.size w' ∧ MatR w' a (chT n (chR (toC c)) (chK (toC c)) (toC c).2.2) := by
  have EE := fun (W : World) => ends_any c W hok.1
  obtain ⟨hr, hk⟩ := chRK hok.2
  rw [toC_w]
  obtain ⟨r, hrr⟩ : ∃ r, chR (toC c) = r := ⟨_, rfl⟩
  obtain ⟨k, hkk⟩ : ∃ k, chK (toC c) = k := ⟨_, rfl⟩
  rw [hrr] at hr ⊢
  rw [hkk] at hk ⊢
  simp only [hrr, hkk] at EE
  obtain ⟨K, L, V⟩ := c
  simp only at EE ⊢
  replace EE := Lib.hid EE
  obtain ⟨d1, d2, d3⟩ := chip_box w K L V 36
  have HS := Lib.hid ((World.Since.refl w.heap.size w).alloc (Nat.le_refl _) (.cells #[.string K, .int .i64 L, .int .i64 V] 36))
  have E := Lib.hid (fun (W : World) => unitTable_any n (by omega) W)
  have HUL := Lib.hid (unitL_length n n)
  have HUR := Lib.hid (unit_row hr)
  have hmix : Try.prog.follows .mixedOrders = true := by kernel_rfl
  clear hrr hkk hok
  go_enter Try.func65, Try.ntmps65
  go_wp2_with (first
    | (go_at_call 63; refine (E.out _).mono ?_; rintro e w1 ⟨rfl, hs1, ho1⟩; have e2 := (hs1.cell (a := ⟨w.heap.size, 1, none⟩) (by simp)).trans d2; have e3 := (hs1.cell (a := ⟨w.heap.size, 2, none⟩) (by simp)).trans d3; have e1 := (hs1.cell (a := ⟨w.heap.size, 0, none⟩) (by simp)).trans d1; have HSA := Lib.hid (HS.out.trans (since_mono hs1 HS.out.size)); have HO1 := Lib.hid ho1; clear hs1 ho1)
    | (go_at_call 114; refine (EE.out _).mono ?_; rintro e w2 ⟨rfl, hs2⟩; obtain ⟨b, g, c, hbq, t1, t2, t3, t4, t5⟩ := (HO1.out.since hs2).put (r := r) (k := k) (by rw [HUL.out]; exact hr) (by rw [HUR.out]; exact hk); rw [HUR.out] at t1; simp only [Option.some.injEq, Addr.mk.injEq, and_true, World.size_alloc] at hbq; subst hbq; rw [World.size_alloc] at t5; have HT5 := Lib.hid t5; have f3 := (hs2.cell (a := ⟨w.heap.size, 2, none⟩) (World.block_lt_of_cell? _ _ e3)).trans e3; have HSB := Lib.hid (HSA.out.trans (since_mono hs2 HSA.out.size)); have HG := Lib.hid t4; clear hs2 t5 t4 e1 e2 e3))
  go_still_tail 8, hmix
  go_wp2
  go_ret
  exact ⟨_, _, rfl, (HSB.out.setCell (a := ⟨g, k, none⟩) (by have := HG.out.1; simp at this; show w.heap.size ≤ g; omega) _).drew, HT5.out V⟩

end Go.Proofs.Ytbclpbgomkfabaa
end

section
namespace Go.Proofs.Ytbclpbgomkfabaa
open Go.RowKit Go.Deep

def StC (W : World) (p : Nat) (A B : Option Addr) (x y : Int) : Prop := W.heap[p]? = some (.cells #[.pointer A, .pointer B, .int .i64 x, .int .i64 y] 123 (0, 0))
theorem StC.cells {W : World} {p : Nat} {A B : Option Addr} {x y : Int} (h : StC W p A B x y) : W.cell? ⟨p, 0, none⟩ = some (.pointer A) ∧ W.cell? ⟨p, 1, none⟩ = some (.pointer B) ∧ W.cell? ⟨p, 2, none⟩ = some (.int .i64 x) ∧ W.cell? ⟨p, 3, none⟩ = some (.int .i64 y) := by
  have h' : W.heap[p]? = _ := h
  refine ⟨?_, ?_, ?_, ?_⟩ <;> (unfold World.cell?; rw [h']; rfl)
theorem StC.lt {W : World} {p : Nat} {A B : Option Addr} {x y : Int} (h : StC W p A B x y) : p < W.heap.size := (Array.getElem?_eq_some_iff.1 h).1
theorem StC.since {W V : World} {p : Nat} {A B : Option Addr} {x y : Int} (h : StC W p A B x y) (hs : W.Since W.heap.size V) : StC V p A B x y := (hs.block p h.lt).trans h
def Lies (W : World) (E : Nat → Nat) (n : Nat) : List CH → Nat → Nat → Prop
  | [], i, p => p = E i ∧ StC W p none none 0 0
  | c :: cs, i, p => if i = chR c then (∀ k, k < n → p ≠ E k) ∧ ∃ q, Lies W E n cs i q ∧
      (if c.1 = 2 then StC W p (some ⟨q, 0, none⟩) none c.2.2 0 else ∃ r, Lies W E n cs (chK c) r ∧ StC W p (some ⟨q, 0, none⟩) (some ⟨r, 0, none⟩) 1 c.2.2) else Lies W E n cs i p
theorem Lies.since {W V : World} {E : Nat → Nat} {n : Nat} (hs : W.Since W.heap.size V) : ∀ {cs : List CH} {i p : Nat}, Lies W E n cs i p → Lies V E n cs i p
  | [], _, _, h => ⟨h.1, h.2.since hs⟩
  | c :: cs, i, p, h => by
    unfold Lies at h ⊢
    by_cases e : i = chR c
    · rw [if_pos e] at h ⊢
      obtain ⟨h1, q, h2, h3⟩ := h
      refine ⟨h1, q, h2.since hs, ?_⟩
      by_cases e2 : c.1 = 2
      · rw [if_pos e2] at h3 ⊢
        exact h3.since hs
      · rw [if_neg e2] at h3 ⊢
        obtain ⟨r, h4, h5⟩ := h3
        exact ⟨r, h4.since hs, h5.since hs⟩
    · rw [if_neg e] at h ⊢
      exact h.since hs
theorem Lies.drawn {W V : World} {E : Nat → Nat} {n : Nat} (hs : Drawn W V) {cs : List CH} {i p : Nat} (h : Lies W E n cs i p) : Lies V E n cs i p := h.since (hs.since _)
theorem Lies.lt {W : World} {E : Nat → Nat} {n : Nat} : ∀ {cs : List CH} {i p : Nat}, Lies W E n cs i p → p < W.heap.size
  | [], _, _, h => h.2.lt
  | c :: cs, i, p, h => by
    unfold Lies at h
    by_cases e : i = chR c
    · rw [if_pos e] at h
      obtain ⟨_, q, _, h3⟩ := h
      by_cases e2 : c.1 = 2
      · rw [if_pos e2] at h3
        exact h3.lt
      · rw [if_neg e2] at h3
        obtain ⟨r, _, h5⟩ := h3
        exact h5.lt
    · rw [if_neg e] at h
      exact h.lt

theorem infoSt : (Try.prog.info? 123).map (fun i => (i.size, i.bytes)) = some (4, 32) := by kernel_rfl
theorem infoSt_parts : ∃ i, Try.prog.info? 123 = some i ∧ i.size = 4 ∧ i.bytes = 32 := by
  have h := infoSt
  cases e : Try.prog.info? 123 with
  | none => rw [e] at h; cases h
  | some i =>
    rw [e] at h
    simp only [Option.map_some, Option.some.injEq, Prod.mk.injEq] at h
    exact ⟨i, rfl, h.1, h.2⟩
theorem ptr_same (p : Nat) (w : World) : (binOp .eql 95 (.pointer (some ⟨p, 0, none⟩)) (.pointer (some ⟨p, 0, none⟩))).run Try.prog w = .ok (.bool true) w := by
  obtain ⟨i, hi, _⟩ := infoSt_parts
  exact run_eql_ptr_same w _ Try.underlying95 hi
theorem ptr_other {p t : Nat} {w : World} {A B C D : Option Addr} {x y z v : Int} (hp : StC w p A B x y) (ht : StC w t C D z v) (hne : ¬ p = t) : (binOp .eql 95 (.pointer (some ⟨p, 0, none⟩)) (.pointer (some ⟨t, 0, none⟩))).run Try.prog w = .ok (.bool false) w := by
  obtain ⟨i, hi, hs, _⟩ := infoSt_parts
  exact run_eql_ptr_other w Try.underlying95 hi (by rw [hs]; decide) (fun e => hne (by injection e)) hp ht

set_option maxRecDepth 100000 in
theorem pathsTo_nil (e : Option Addr) (w : World) :
    Calls Try.prog 102 #[.pointer none, .pointer e] w fun r w' => r = .returned (.int .i64 0) ∧ ∃ m, w' = w.drewN m := by
  go_enter Try.func102, Try.ntmps102
  go_wp2_with fail
  go_ret
  exact ⟨rfl, 0, rfl⟩
set_option maxRecDepth 100000 in
theorem pathsTo_end (p : Nat) (w : World) :
    Calls Try.prog 102 #[.pointer (some ⟨p, 0, none⟩), .pointer (some ⟨p, 0, none⟩)] w fun r w' => r = .returned (.int .i64 1) ∧ ∃ m, w' = w.drewN m := by
  have hq := ptr_same p w
  go_enter Try.func102, Try.ntmps102
  go_wp2_with fail
  go_ret
  exact ⟨rfl, 0, rfl⟩

set_option maxRecDepth 100000 in
set_option maxHeartbeats 400000 in
theorem pathsTo_step (p t : Nat) (A B : Option Addr) (x y P R : Int) (w : World) (hq : (binOp .eql 95 (.pointer (some ⟨p, 0, none⟩)) (.pointer (some ⟨t, 0, none⟩))).run Try.prog w = .ok (.bool false) w) (hc : StC w p A B x y) (hw1 : IntKind.i64.wrap (x * P) = x * P) (hw2 : IntKind.i64.wrap (y * R) = y * R) (hw3 : IntKind.i64.wrap (x * P + y * R) = x * P + y * R)
    (hA : ∀ q, Calls Try.prog 102 #[.pointer A, .pointer (some ⟨t, 0, none⟩)] (w.drewN q) fun r w' => r = .returned (.int .i64 P) ∧ ∃ m, w' = (w.drewN q).drewN m)
    (hB : ∀ q, Calls Try.prog 102 #[.pointer B, .pointer (some ⟨t, 0, none⟩)] (w.drewN q) fun r w' => r = .returned (.int .i64 R) ∧ ∃ m, w' = (w.drewN q).drewN m) :
    Calls Try.prog 102 #[.pointer (some ⟨p, 0, none⟩), .pointer (some ⟨t, 0, none⟩)] w fun r w' => r = .returned (.int .i64 (x * P + y * R)) ∧ ∃ m, w' = w.drewN m := by
  obtain ⟨c1, c2, c3, c4⟩ := hc.cells
  clear hc
  replace hA := Lib.hid hA
  replace hB := Lib.hid hB
  go_enter Try.func102, Try.ntmps102
  go_wp2_with fail
  go_quiet ((first
    | (go_at_call 102; with_reducible exact Calls.quiet_of (hA.out _))
    | (go_at_call 102; with_reducible exact Calls.quiet_of (hB.out _))))
  go_wp2_with fail
  go_ret
  exact ⟨rfl, _, rfl⟩

end Go.Proofs.Ytbclpbgomkfabaa
end

section
namespace Go.Proofs.Ytbclpbgomkfabaa
open Go.RowKit Go.Deep

theorem infoPt : (Try.prog.info? 95).map (fun i => (i.size, i.bytes)) = some (1, 8) := by kernel_rfl
theorem zeroPt : ((Try.prog.info? 95).bind (·.zero)) = some (.pointer none) := by kernel_rfl
theorem infoPt_parts : ∃ i, Try.prog.info? 95 = some i ∧ i.zero = some (.pointer none) ∧ i.size = 1 ∧ i.bytes = 8 := by
  have h := infoPt
  have hz := zeroPt
  cases e : Try.prog.info? 95 with
  | none => rw [e] at h; cases h
  | some i =>
    rw [e] at h hz
    simp only [Option.map_some, Option.some.injEq, Prod.mk.injEq] at h
    exact ⟨i, rfl, hz, h.1, h.2⟩
def ptrV (p : Nat) : Value := .pointer (some ⟨p, 0, none⟩)
def ptrs (P : Nat → Nat) (k : Nat) : List Value := (List.range k).map fun j => ptrV (P j)
theorem ptrs_len (P : Nat → Nat) (k : Nat) : (ptrs P k).length = k := by simp [ptrs]
theorem ptrs_get (P : Nat → Nat) {k j : Nat} (h : j < k) : (ptrs P k)[j]? = some (ptrV (P j)) := by simp [ptrs, h]
theorem ptrs_succ (P : Nat → Nat) (k : Nat) : ptrs P (k + 1) = ptrs P k ++ [ptrV (P k)] := by simp [ptrs, List.range_succ]
theorem ptrs_congr {P Q : Nat → Nat} {k : Nat} (h : ∀ j, j < k → P j = Q j) : ptrs P k = ptrs Q k := List.map_congr_left fun j hj => by rw [h j (List.mem_range.1 hj)]
def PR (W : World) (b n : Nat) (P : Nat → Nat) : Prop := ∃ cur, W.heap[b]? = some (.cells cur 95 (0, 0)) ∧ ∀ j, j < n → cur[j]? = some (ptrV (P j))
theorem PR.cell {W : World} {b n : Nat} {P : Nat → Nat} (h : PR W b n P) {j : Nat} (hj : j < n) : W.cell? ⟨b, j, none⟩ = some (.pointer (some ⟨P j, 0, none⟩)) ∧ W.frozen? ⟨b, j, none⟩ = false := by
  obtain ⟨cur, h1, h2⟩ := h
  refine ⟨?_, ?_⟩
  · simp only [World.cell?, h1]
    exact h2 j hj
  · simp [World.frozen?, h1]
theorem PR.lt {W : World} {b n : Nat} {P : Nat → Nat} (h : PR W b n P) : b < W.heap.size := by
  obtain ⟨cur, h1, _⟩ := h
  exact (Array.getElem?_eq_some_iff.1 h1).1
theorem PR.block {W V : World} {b n : Nat} {P : Nat → Nat} (h : PR W b n P) (e : V.heap[b]? = W.heap[b]?) : PR V b n P := by
  obtain ⟨cur, h1, h2⟩ := h
  exact ⟨cur, e.trans h1, h2⟩
theorem PR.since {W V : World} {b n : Nat} {P : Nat → Nat} (h : PR W b n P) (hs : W.Since W.heap.size V) : PR V b n P := h.block (hs.block _ h.lt)
theorem PR.of_own {W : World} {base n : Nat} {v : Value} {P : Nat → Nat} (h : W.ownsRow base 95 1 v n (ptrs P n)) (h0 : 0 < n) : ∃ g cap, v = .slice (some ⟨g, 0, none⟩) n cap ∧ base ≤ g ∧ PR W g n P := by
  rcases h.2 with ⟨_, rfl⟩ | ⟨g, cap, cur, rfl, hb, hg, hn, _, hs, ht⟩
  · omega
  · refine ⟨g, cap, rfl, hb, cur, hg, fun j hj => ?_⟩
    have h1 : (cur.toList.take (n * 1))[j]? = some (ptrV (P j)) := by rw [ht]; exact ptrs_get P hj
    rw [List.getElem?_take] at h1
    have h2 : j < n ∧ cur[j]? = some (ptrV (P j)) := by simpa using h1
    exact h2.2
theorem PR.ne {W : World} {b n : Nat} {P : Nat → Nat} (h : PR W b n P) {p : Nat} {A B : Option Addr} {x y : Int} (hp : StC W p A B x y) : p ≠ b := by
  rintro rfl
  obtain ⟨cur, h1, _⟩ := h
  have h2 : W.heap[p]? = _ := hp
  rw [h1] at h2
  simp at h2
theorem PR.set {W : World} {b n : Nat} {P : Nat → Nat} (h : PR W b n P) {f : Nat} (p : Nat) : PR (W.setCell ⟨b, f, none⟩ (.pointer (some ⟨p, 0, none⟩))) b n (fun j => if j = f then p else P j) := by
  obtain ⟨cur, h1, h2⟩ := h
  obtain ⟨hlt, hk⟩ := Array.getElem?_eq_some_iff.1 h1
  refine ⟨cur.setIfInBounds f (.pointer (some ⟨p, 0, none⟩)), ?_, fun j hj => ?_⟩
  · show (W.heap.modify b _)[b]? = _
    rw [Array.getElem?_eq_getElem (by rw [Array.size_modify]; exact hlt), Array.getElem_modify_self, hk]
    rfl
  · have h3 := h2 j hj
    have h4 := (Array.getElem?_eq_some_iff.1 h3).1
    rw [Array.getElem?_setIfInBounds]
    by_cases e : f = j
    · subst e
      simp [h4, ptrV]
    · simp [e, Ne.symm e, h3]

set_option maxRecDepth 100000 in
set_option maxHeartbeats 400000 in
theorem clonePtr_any (b n cap : Nat) (P : Nat → Nat) (w : World) (hn : 1 ≤ n) (hn10 : n ≤ 10) (hP : PR w b n P) :
    Calls Try.prog 125 #[.slice (some ⟨b, 0, none⟩) n cap] w fun e w' => ∃ g c, e = .returned (.slice (some ⟨g, 0, none⟩) n c) ∧ w.Since w.heap.size w' ∧ w.heap.size ≤ g ∧ PR w' g n P := by
  obtain ⟨iP, hiP⟩ := infoPt_parts
  have HI := Lib.hid hiP
  have HP := Lib.hid hP
  have hq := Lib.run_eql_slice_nil (P := Try.prog) w 92 95 (some ⟨b, 0, none⟩) n cap 0 0 Try.underlying92
  simp only [Option.isNone_some] at hq
  clear hiP hP
  go_enter Try.func125, Try.ntmps125
  go_wp2_with (at_builtin; (refine wpList_append_own _ rfl _ _ 92 rfl w.heap.size 95 iP (.pointer none) 1 8 Try.underlying92 HI.out.1 HI.out.2.1 HI.out.2.2.1 HI.out.2.2.2 rfl (by decide) (.slice (some ⟨w.heap.size, 0, none⟩) 0 0) 0 [] rfl (World.ownsRow_made w #[] 0 (Nat.le_refl _) (Nat.zero_le _) (by simp)) ⟨b, 0, none⟩ n cap (ptrs P n) rfl (by rw [ptrs_len]; omega) (fun j u hj => by have hl : j < n := (by have := (List.getElem?_eq_some_iff.1 hj).1; rw [ptrs_len] at this; exact this); rw [ptrs_get P hl] at hj; cases hj; rw [addr_add, Nat.zero_add]; exact ((HP.out.since ((World.Since.refl _ _).alloc (Nat.le_refl _) _)).cell hl).1) (fun u hu => by obtain ⟨j, _, rfl⟩ := List.mem_map.1 hu; rfl) (by unfold maxLen; omega) (by omega) (by simp) ?_); intro v' w1 hown' hgrow _)
  rw [Nat.zero_add, List.nil_append] at hown'
  obtain ⟨g, c, rfl, hg, hpr⟩ := PR.of_own hown' (by omega)
  have HS := Lib.hid (((World.Since.refl w.heap.size w).alloc (Nat.le_refl _) (.cells #[] 95)).grown hgrow (by simp) (fun k e => by simp [Value.ownBlock] at e; omega))
  have HPR := Lib.hid hpr
  clear hown' hgrow hpr
  go_wp2_with fail
  go_ret
  exact ⟨_, _, rfl, HS.out, hg, HPR.out⟩

end Go.Proofs.Ytbclpbgomkfabaa
end

section
namespace Go.Proofs.Ytbclpbgomkfabaa
open Go.RowKit Go.Deep

theorem path_skip {c : CH} {cs : List CH} {i t : Nat} (h : ¬ i = chR c) : pathN (c :: cs) i t = pathN cs i t := by
  unfold chR at h
  show (if c.1 = 2 then (if i = c.2.1 then c.2.2 * pathN cs i t else pathN cs i t) else pathN cs i t + (if i = cFrom c then c.2.2 * pathN cs (cTo c) t else 0)) = _
  by_cases e : c.1 = 2
  · rw [if_pos e] at h ⊢
    rw [if_neg h]
  · rw [if_neg e] at h ⊢
    rw [if_neg h, Int.add_zero]
theorem path_here {c : CH} {cs : List CH} {t : Nat} (e : c.1 = 2) : pathN (c :: cs) (chR c) t = c.2.2 * pathN cs (chR c) t := by
  unfold chR
  rw [if_pos e]
  show (if c.1 = 2 then (if c.2.1 = c.2.1 then _ else _) else _) = _
  rw [if_pos e, if_pos rfl]
theorem path_over {c : CH} {cs : List CH} {t : Nat} (e : ¬ c.1 = 2) : pathN (c :: cs) (chR c) t = 1 * pathN cs (chR c) t + c.2.2 * pathN cs (chK c) t := by
  unfold chR chK
  rw [if_neg e, if_neg e]
  show (if c.1 = 2 then _ else pathN cs (cFrom c) t + (if cFrom c = cFrom c then c.2.2 * pathN cs (cTo c) t else 0)) = _
  rw [if_neg e, if_pos rfl, Int.one_mul]

theorem pathsTo_any {E : Nat → Nat} {n t : Nat} (hinj : ∀ i k, i < n → k < n → E i = E k → i = k) (ht : t < n) : ∀ (cs : List CH) (i p : Nat) (w : World), (∀ c ∈ cs, chOk n c ∧ -9 ≤ c.2.2 ∧ c.2.2 ≤ 9) → cs.length ≤ 10 → i < n → Lies w E n cs i p → StC w (E t) none none 0 0 →
    Calls Try.prog 102 #[.pointer (some ⟨p, 0, none⟩), .pointer (some ⟨E t, 0, none⟩)] w fun r w' => r = .returned (.int .i64 (pathN cs i t)) ∧ ∃ m, w' = w.drewN m
  | [], i, p, w, _, _, hi, hl, hE => by
    obtain ⟨rfl, hs⟩ := hl
    by_cases e : i = t
    · subst e
      have hp : pathN [] i i = 1 := by show (if i = i then (1 : Int) else 0) = 1; rw [if_pos rfl]
      rw [hp]
      exact pathsTo_end (E i) w
    · have hp : pathN [] i t = 0 * 0 + 0 * 0 := by show (if i = t then (1 : Int) else 0) = 0; rw [if_neg e]
      rw [hp]
      exact pathsTo_step (E i) (E t) none none 0 0 0 0 w (ptr_other hs hE (fun h => e (hinj i t hi ht h))) hs (by decide) (by decide) (by decide) (fun q => pathsTo_nil _ _) (fun q => pathsTo_nil _ _)
  | c :: cs, i, p, w, hc, h10, hi, hl, hE => by
    have hcc := hc c (by simp)
    have hc' : ∀ d ∈ cs, chOk n d ∧ -9 ≤ d.2.2 ∧ d.2.2 ≤ 9 := fun d hd => hc d (by simp [hd])
    have h10' : cs.length ≤ 10 := by simp at h10; omega
    have hbd : ∀ j, -10000000000 ≤ pathN cs j t ∧ pathN cs j t ≤ 10000000000 := fun j => by
      have h1 := path_bd cs (fun d hd => (hc' d hd).2) j t
      have h2 := p10_le h10'
      omega
    by_cases e : i = chR c
    · subst e
      unfold Lies at hl
      rw [if_pos rfl] at hl
      obtain ⟨hne, q, hq, h3⟩ := hl
      have hnet := hne t ht
      obtain ⟨hw1, hb1, hb2⟩ := wrap_mul9 hcc.2 (hbd (chR c))
      obtain ⟨hw2, hb3, hb4⟩ := wrap_mul9 hcc.2 (hbd (chK c))
      have hb5 := hbd (chR c)
      have hA := fun (m : Nat) => pathsTo_any hinj ht cs (chR c) q (w.drewN m) hc' h10' hi (hq.drawn (Drawn.mk w m)) hE
      by_cases e2 : c.1 = 2
      · rw [if_pos e2] at h3
        rw [path_here e2, show c.2.2 * pathN cs (chR c) t = c.2.2 * pathN cs (chR c) t + 0 * 0 by omega]
        exact pathsTo_step p (E t) _ none c.2.2 0 _ 0 w (ptr_other h3 hE hnet) h3 hw1 (by decide) (by rw [Int.zero_mul, Int.add_zero]; exact hw1) hA (fun q => pathsTo_nil _ _)
      · rw [if_neg e2] at h3
        obtain ⟨r, hr, h5⟩ := h3
        rw [path_over e2]
        have hk := (chRK hcc.1).2
        exact pathsTo_step p (E t) _ _ 1 c.2.2 _ _ w (ptr_other h5 hE hnet) h5 (by rw [Int.one_mul]; exact IntWalk.i64_in _ ⟨by omega, by omega⟩) hw2 (IntWalk.i64_in _ ⟨by omega, by omega⟩) hA
          (fun m => pathsTo_any hinj ht cs (chK c) r (w.drewN m) hc' h10' hk (hr.drawn (Drawn.mk w m)) hE)
    · unfold Lies at hl
      rw [if_neg e] at hl
      rw [path_skip e]
      exact pathsTo_any hinj ht cs i p w hc' h10' hi hl hE

theorem Lies.mono {W V : World} {E : Nat → Nat} {n : Nat} (hs : ∀ p A B x y, StC W p A B x y → StC V p A B x y) : ∀ {cs : List CH} {i p : Nat}, Lies W E n cs i p → Lies V E n cs i p
  | [], _, _, h => ⟨h.1, hs _ _ _ _ _ h.2⟩
  | c :: cs, i, p, h => by
    unfold Lies at h ⊢
    by_cases e : i = chR c
    · rw [if_pos e] at h ⊢
      obtain ⟨h1, q, h2, h3⟩ := h
      refine ⟨h1, q, h2.mono hs, ?_⟩
      by_cases e2 : c.1 = 2
      · rw [if_pos e2] at h3 ⊢
        exact hs _ _ _ _ _ h3
      · rw [if_neg e2] at h3 ⊢
        obtain ⟨r, h4, h5⟩ := h3
        exact ⟨r, h4.mono hs, hs _ _ _ _ _ h5⟩
    · rw [if_neg e] at h ⊢
      exact h.mono hs
theorem Lies.more {V : World} {E : Nat → Nat} {n : Nat} {cs : List CH} {c : CH} {P : Nat → Nat} {p : Nat} (hL : ∀ i, i < n → Lies V E n cs i (P i)) (hc : chOk n c) (hne : ∀ k, k < n → p ≠ E k)
    (hp : if c.1 = 2 then StC V p (some ⟨P (chR c), 0, none⟩) none c.2.2 0 else StC V p (some ⟨P (chR c), 0, none⟩) (some ⟨P (chK c), 0, none⟩) 1 c.2.2) :
    ∀ i, i < n → Lies V E n (c :: cs) i (if i = chR c then p else P i) := fun i hi => by
  obtain ⟨h1, h2⟩ := chRK hc
  unfold Lies
  by_cases e : i = chR c
  · rw [if_pos e, if_pos e]
    refine ⟨hne, P (chR c), by rw [e]; exact hL _ h1, ?_⟩
    by_cases e2 : c.1 = 2
    · rw [if_pos e2] at hp ⊢
      exact hp
    · rw [if_neg e2] at hp ⊢
      exact ⟨P (chK c), hL _ h2, hp⟩
  · rw [if_neg e, if_neg e]
    exact hL i hi

end Go.Proofs.Ytbclpbgomkfabaa
end

section
namespace Go.Proofs.Ytbclpbgomkfabaa
open Go.RowKit Go.Deep Go.Shelf
attribute [local go_sem] Oper.semAt_some

def backL (N : Nat) : Nat → List {i : Nat // i < N}
  | 0 => []
  | k + 1 => if h : k < N then backL N k ++ [⟨N - 1 - k, by omega⟩] else backL N k
theorem backL_len (N k : Nat) (h : k ≤ N) : (backL N k).length = k := by
  induction k with
  | zero => rfl
  | succ k ih =>
    unfold backL
    rw [dif_pos (by omega), List.length_append, ih (by omega)]
    rfl
theorem backL_step {N k : Nat} (h : k < N) : backL N (k + 1) = backL N k ++ [⟨N - 1 - k, by omega⟩] := by
  show (if h : k < N then _ else _) = _
  rw [dif_pos h]
def cameL (cs : List RC) {N : Nat} (pre : List {i : Nat // i < N}) : List RC := pre.map fun x => cs.getD x.1 rc0
theorem came_all {cs : List RC} {N : Nat} (hN : cs.length = N) : ∀ k, k ≤ N → cameL cs (backL N k) = (cs.drop (N - k)).reverse
  | 0, _ => by
    rw [Nat.sub_zero, List.drop_of_length_le (by omega)]
    rfl
  | k + 1, h => by
    rw [backL_step (show k < N by omega)]
    unfold cameL
    rw [List.map_append]
    have ih := came_all hN k (by omega)
    unfold cameL at ih
    rw [ih, show N - k = (N - (k + 1)) + 1 by omega]
    have hlt : N - (k + 1) < cs.length := by omega
    rw [List.drop_eq_getElem_cons hlt, List.reverse_cons]
    congr 1
    show [cs.getD (N - 1 - k) rc0] = _
    rw [show N - 1 - k = N - (k + 1) by omega]
    simp [List.getD, hlt]
theorem came_whole {cs : List RC} {N : Nat} (hN : cs.length = N) : cameL cs (backL N N) = cs.reverse := by
  rw [came_all hN N (Nat.le_refl _), Nat.sub_self, List.drop_zero]

def encB (cs : List RC) {N : Nat} (x : {i : Nat // i < N}) : Array Value := #[.int .i64 (x.1 : Int), .agg #[.string (cs.getD x.1 rc0).k, .int .i64 (cs.getD x.1 rc0).l, .int .i64 (cs.getD x.1 rc0).w]]
def KpC (B b : Nat) (X Y : World) : Prop := Y.heap[B]? = X.heap[B]? ∧ Y.heap[b]? = X.heap[b]?
theorem KpC.refl (B b : Nat) (X : World) : KpC B b X X := ⟨rfl, rfl⟩
theorem KpC.trans {B b : Nat} {X Y Z : World} (h : KpC B b X Y) (k : KpC B b Y Z) : KpC B b X Z := ⟨k.1.trans h.1, k.2.trans h.2⟩
theorem KpC.grown {B b : Nat} {X Y : World} {row : Option Nat} (h : X.grownBy Y row) (h1 : B < X.heap.size) (h2 : b < X.heap.size) (h3 : row ≠ some B) (h4 : row ≠ some b) : KpC B b X Y := ⟨h.block B h1 (fun e => h3 e.symm), h.block b h2 (fun e => h4 e.symm)⟩
theorem kpC_b {B b : Nat} {w : World} (h1 : B < w.heap.size) (h2 : b < w.heap.size) (W : World) (l : Nat) (o o' : Obj) (hl : w.heap.size ≤ l) (h : W.heap[l]? = some o) (_ : o.isCells = false) (_ : o.isWalk = false) : KpC B b W (W.putObj l o') := by
  have := (Array.getElem?_eq_some_iff.1 h).1
  exact KpC.grown (grownBy_putObj' W l o') (by omega) (by omega) (fun e => by cases e; omega) (fun e => by cases e; omega)

set_option maxRecDepth 100000 in
set_option maxHeartbeats 1000000 in
theorem back_in (q : Nat) (hq : 2 ≤ q) (l B b o N cap : Nat) (a : Option Addr) (cs : List RC) (hN : N ≤ 10) (ha : 0 < N → a = some ⟨b, o, none⟩) (J Jx : List {i : Nat // i < N} → World → Prop)
    (hY : ∀ pre x W, J pre W → pre.length < 11 → YieldAt Fence.wide (q - 1) Try.prog l (encB cs x) W fun e W' =>
      (e = .returned (.bool true) ∧ J (pre ++ [x]) W' ∧ KpC B b W W') ∨ (e = .returned (.bool false) ∧ Jx (pre ++ [x]) W'))
    (W : World) (hB : W.cell? ⟨B, 0, none⟩ = some (.slice a N cap))
    (hc : ∀ k, k < N → W.cell? ⟨b, o + k * 3, none⟩ = some (.string (cs.getD k rc0).k) ∧ W.cell? ⟨b, o + k * 3 + 1, none⟩ = some (.int .i64 (cs.getD k rc0).l) ∧ W.cell? ⟨b, o + k * 3 + 2, none⟩ = some (.int .i64 (cs.getD k rc0).w)) (h0 : J [] W) :
    CallsIn Fence.wide q Try.prog 107 #[.func (.yield l) #[] #[], .pointer (some ⟨B, 0, none⟩)] W fun e W' => (∃ v, e = .returned v) ∧
      ((∃ ys, ys = backL N N ∧ J ys W') ∨ (∃ pre, (∃ k, k ≤ N ∧ pre = backL N k) ∧ Jx pre W')) := by
  have hw1 : IntKind.i64.wrap ((N : Int) - 1) = (N : Int) - 1 := IntWalk.i64_in _ ⟨by omega, by omega⟩
  refine callsIn_of_wp Try.func107 rfl trivial ?_ rfl
  simp only [Try.ntmps107, List.size_toArray, List.length_cons, List.length_nil, Nat.reduceAdd, Nat.reduceSub, Array.replicate_succ, Array.replicate_zero, List.push_toArray, List.append_toArray, List.nil_append, List.cons_append]
  gi_wp2
  gi_loopw [3] (fun i wr => ∃ (k : Nat) (z : Int), k ≤ N ∧ i = .int .i64 z ∧ z + 1 = ((N - k : Nat) : Int) ∧ J (backL N k) wr ∧ wr.cell? ⟨B, 0, none⟩ = some (.slice a N cap) ∧ (∀ k, k < N → wr.cell? ⟨b, o + k * 3, none⟩ = some (.string (cs.getD k rc0).k) ∧ wr.cell? ⟨b, o + k * 3 + 1, none⟩ = some (.int .i64 (cs.getD k rc0).l) ∧ wr.cell? ⟨b, o + k * 3 + 2, none⟩ = some (.int .i64 (cs.getD k rc0).w)))
    (fun i _ => (intOf i + 1).toNat)
  case atStart => exact ⟨0, _, Nat.zero_le _, rfl, by omega, h0, hB, hc⟩
  case round =>
    obtain ⟨k, z, hk, rfl, hz, hJs, hB', hc'⟩ := hrel
    by_cases hlt : k < N
    · obtain ⟨j, rfl⟩ : ∃ j : Nat, z = j := ⟨N - 1 - k, by omega⟩
      have hj : j = N - 1 - k := by omega
      have hjN : j < N := by omega
      obtain rfl := ha (by omega)
      obtain ⟨c1, c2, c3⟩ := hc' j hjN
      have hst := backL_step hlt
      have hpl := backL_len N k hk
      obtain ⟨fn, tmps, assign, body, hy, hR⟩ := hY _ ⟨j, hjN⟩ wr hJs (by omega)
      have hw2 : IntKind.i64.wrap ((j : Int) - 1) = (j : Int) - 1 := IntWalk.i64_in _ ⟨by omega, by omega⟩
      dsimp only [encB] at hy
      have hx : (⟨N - 1 - k, by omega⟩ : {i : Nat // i < N}) = ⟨j, hjN⟩ := Subtype.ext hj.symm
      rw [hx] at hst
      obtain ⟨K, hK⟩ : ∃ K, (cs.getD j rc0).k = K := ⟨_, rfl⟩
      obtain ⟨L, hL⟩ : ∃ L, (cs.getD j rc0).l = L := ⟨_, rfl⟩
      obtain ⟨V, hV⟩ : ∃ V, (cs.getD j rc0).w = V := ⟨_, rfl⟩
      rw [hK] at c1 hy; rw [hL] at c2 hy; rw [hV] at c3 hy
      have HST := Lib.hid hst
      have HC := Lib.hid hc'
      have HJ := Lib.hid hj
      clear hB hc hst hc' hK hL hV hpl hx hj ha hz
      gi_wp2
      refine ⟨fun _ => by omega, hR.mono ?_⟩
      rintro e W3 (⟨rfl, hJ3, hk3⟩ | ⟨rfl, hJx3⟩)
      · have HJ3 := Lib.hid hJ3
        have hB3 := (World.cell?_of_block hk3.1).trans hB'
        have HK := Lib.hid hk3
        have HJ' := HJ.out
        clear hy hR hk3 hB' hJs hJ3
        gi_wp2
        go_roundw
        case rel => exact ⟨k + 1, _, by omega, rfl, by have := HJ.out; omega, by rw [HST.out]; exact HJ3.out, hB3, fun i hi => ⟨(World.cell?_of_block HK.out.2).trans (HC.out i hi).1, (World.cell?_of_block HK.out.2).trans (HC.out i hi).2.1, (World.cell?_of_block HK.out.2).trans (HC.out i hi).2.2⟩⟩
        case measure => simp [intOf]; omega
      · gi_wp2
        refine bodyPost_ret (results_none rfl _ _ _) rfl ?_
        exact ⟨⟨_, rfl⟩, .inr ⟨_, ⟨k + 1, by omega, HST.out.symm⟩, hJx3⟩⟩
    · obtain rfl : k = N := by omega
      obtain rfl : z = -1 := by omega
      gi_wp2
      go_end0
      exact ⟨⟨_, rfl⟩, .inl ⟨_, rfl, hJs⟩⟩

theorem back_stops (q : Nat) (hq : 2 ≤ q) (B b o N cap : Nat) (a : Option Addr) (cs : List RC) (hN : N ≤ 10) (ha : 0 < N → a = some ⟨b, o, none⟩) (w : World) (h1 : B < w.heap.size) (h2 : b < w.heap.size) (hB : w.cell? ⟨B, 0, none⟩ = some (.slice a N cap))
    (hc : ∀ k, k < N → w.cell? ⟨b, o + k * 3, none⟩ = some (.string (cs.getD k rc0).k) ∧ w.cell? ⟨b, o + k * 3 + 1, none⟩ = some (.int .i64 (cs.getD k rc0).l) ∧ w.cell? ⟨b, o + k * 3 + 2, none⟩ = some (.int .i64 (cs.getD k rc0).w)) :
    SeqStopsK Fence.wide q Try.prog 107 #[.pointer (some ⟨B, 0, none⟩)] (encB cs) (KpC B b) (fun ys => ys = backL N N) (fun pre => ∃ k, k ≤ N ∧ pre = backL N k) 11 w := fun l J Jx W hW _ _ hY hJ =>
  back_in q hq l B b o N cap a cs hN ha J Jx hY W ((hW.cell (p := ⟨B, 0, none⟩) h1).trans hB)
    (fun k hk => ⟨(hW.cell (p := ⟨b, o + k * 3, none⟩) h2).trans (hc k hk).1, (hW.cell (p := ⟨b, o + k * 3 + 1, none⟩) h2).trans (hc k hk).2.1, (hW.cell (p := ⟨b, o + k * 3 + 2, none⟩) h2).trans (hc k hk).2.2⟩) hJ

theorem backward_any (a : Option Addr) (N cap : Nat) (w : World) :
    Calls Try.prog 54 #[.slice a N cap] w fun e w' => e = .returned (.func (.func 107) #[] #[.pointer (some ⟨w.heap.size, 0, none⟩)]) ∧ w' = w.alloc (.cells #[.slice a N cap] 23) := by
  go_enter Try.func54, Try.ntmps54
  go_wp2
  go_ret
  exact ⟨rfl, rfl⟩

end Go.Proofs.Ytbclpbgomkfabaa
end

section
namespace Go.Proofs.Ytbclpbgomkfabaa
open Go.RowKit Go.Deep Go.Shelf
attribute [local go_sem] Oper.semAt_some

theorem round_region_heldL {lp n id : Nat} {P : Program} {ops : Array Oper} {Q : Exit → Act → World → Prop} {a : Act} {w : World} {S : World → Prop} (hm : P.follows .mixedOrders = true) (hd : noDefer ops = true) (hno : ¬ LetsOut Q) (hS : S w.drew)
    (h : S w.drew → wpAnyH P .any ops Q S ops.size (Array.replicate ops.size false) a w.drew) : (Code.region id ops true).wpIn (Fence.wide.inRound lp) n P Q a w :=
  wpIn_region_any hm (wpAnyIn_of_wpAny hno (noDefer_of hd) _ _ _ _ (wpAny_of_held _ _ _ _ (h hS)))

structure EndsAt (w wr : World) (v : Value) (k : Nat) (E : Nat → Nat) : Prop where
  since : w.Since w.heap.size wr
  box : Boxed wr w.heap.size 92 (.slice none 0 0)
  own : wr.ownsRow (w.heap.size + 1) 95 1 v k (ptrs E k)
  st : ∀ j, j < k → StC wr (E j) none none 0 0
  inj : ∀ i j, i < k → j < k → E i = E j → i = j

theorem EndsAt.push {w wr w1 : World} {v v' : Value} {k : Nat} {E : Nat → Nat} (h : EndsAt w wr v k E)
    (hown : w1.ownsRow (w.heap.size + 1) 95 1 v' (k + 1) (ptrs E k ++ [ptrV wr.heap.size])) (hg : ((wr.alloc (.cells #[.pointer none, .pointer none, .int .i64 0, .int .i64 0] 123)).alloc (.cells #[ptrV wr.heap.size] 95)).grownBy w1 v.ownBlock) :
    EndsAt w w1 v' (k + 1) (fun j => if j = k then wr.heap.size else E j) := by
  have hz := h.since.size
  have hzb := h.box.lt
  have hlt := fun j hj => (h.st j hj).lt
  have hnew : StC ((wr.alloc (.cells #[.pointer none, .pointer none, .int .i64 0, .int .i64 0] 123)).alloc (.cells #[ptrV wr.heap.size] 95)) wr.heap.size none none 0 0 :=
    (Below.heap_alloc _ _ _ (by simp)).trans (World.alloc_heap_new wr _)
  have hold : ∀ j, j < k → StC ((wr.alloc (.cells #[.pointer none, .pointer none, .int .i64 0, .int .i64 0] 123)).alloc (.cells #[ptrV wr.heap.size] 95)) (E j) none none 0 0 := fun j hj =>
    (h.st j hj).since (((World.Since.refl _ _).alloc (Nat.le_refl _) _).alloc (by simp) _)
  have hrow : ∀ p A B x y, StC ((wr.alloc (.cells #[.pointer none, .pointer none, .int .i64 0, .int .i64 0] 123)).alloc (.cells #[ptrV wr.heap.size] 95)) p A B x y → StC w1 p A B x y := fun p A B x y hp => by
    refine (hg.block p hp.lt fun e => ?_).trans hp
    rcases h.own.2 with ⟨rfl, _⟩ | ⟨g, cap, cur, rfl, _, hgg, _⟩
    · simp [Value.ownBlock] at e
    · simp [Value.ownBlock] at e
      subst e
      have h1 : ((wr.alloc (.cells #[.pointer none, .pointer none, .int .i64 0, .int .i64 0] 123)).alloc (.cells #[ptrV wr.heap.size] 95)).heap[p]? = wr.heap[p]? := (Below.heap_alloc _ _ _ (by have := (Array.getElem?_eq_some_iff.1 hgg).1; simp; omega)).trans (Below.heap_alloc _ _ _ (Array.getElem?_eq_some_iff.1 hgg).1)
      have h2 : (_ : World).heap[p]? = _ := hp
      rw [h1, hgg] at h2
      simp at h2
  refine ⟨((h.since.alloc hz _).alloc (by simp; omega) _).grown hg (by simp; omega) (fun b e => by have := (h.own.lt b e).1; omega), ?_, ?_, fun j hj => ?_, fun i j hi hj e => ?_⟩
  · refine ((h.box.alloc _).alloc _).kept hg fun e => ?_
    have := (h.own.lt _ e.symm).1
    omega
  · rw [ptrs_succ, if_pos rfl, ptrs_congr (Q := E) (fun j hj => by rw [if_neg (by omega)])]
    exact hown
  · by_cases e : j = k
    · rw [if_pos e]; exact hrow _ _ _ _ _ hnew
    · rw [if_neg e]; exact hrow _ _ _ _ _ (hold j (by omega))
  · by_cases e1 : i = k <;> by_cases e2 : j = k
    · omega
    · rw [if_pos e1, if_neg e2] at e; have := hlt j (by omega); omega
    · rw [if_neg e1, if_pos e2] at e; have := hlt i (by omega); omega
    · rw [if_neg e1, if_neg e2] at e; exact h.inj i j (by omega) (by omega) e

structure LinkI (w W0 : World) (sb eb n sc : Nat) (E : Nat → Nat) (L : List CH) (W : World) : Prop where
  since : w.Since w.heap.size W
  size : W0.heap.size ≤ W.heap.size
  box : Boxed W w.heap.size 92 (.slice (some ⟨sb, 0, none⟩) n sc)
  ends : PR W eb n E
  st : ∀ i, i < n → StC W (E i) none none 0 0
  lies : ∃ P, PR W sb n P ∧ ∀ i, i < n → Lies W E n L i (P i)
theorem StC.frz {W : World} {p : Nat} {A B : Option Addr} {x y : Int} (h : StC W p A B x y) (j : Nat) : W.frozen? ⟨p, j, none⟩ = false := by
  have h' : W.heap[p]? = _ := h
  simp [World.frozen?, h']
theorem StC.set1 {W : World} {p : Nat} {A B : Option Addr} {x y : Int} (h : StC W p A B x y) (C : Option Addr) : StC (W.setCell ⟨p, 1, none⟩ (.pointer C)) p A C x y := by
  obtain ⟨hlt, hk⟩ := Array.getElem?_eq_some_iff.1 h
  show (W.heap.modify p _)[p]? = _
  rw [Array.getElem?_eq_getElem (by rw [Array.size_modify]; exact hlt), Array.getElem_modify_self, hk]
  rfl
theorem StC.set3 {W : World} {p : Nat} {A B : Option Addr} {x y : Int} (h : StC W p A B x y) (z : Int) : StC (W.setCell ⟨p, 3, none⟩ (.int .i64 z)) p A B x z := by
  obtain ⟨hlt, hk⟩ := Array.getElem?_eq_some_iff.1 h
  show (W.heap.modify p _)[p]? = _
  rw [Array.getElem?_eq_getElem (by rw [Array.size_modify]; exact hlt), Array.getElem_modify_self, hk]
  rfl
theorem StC.kept {W V : World} {row : Option Nat} {p : Nat} {A B : Option Addr} {x y : Int} (h : StC W p A B x y) (hg : W.grownBy V row) (hr : ∀ r, row = some r → ∃ o : Obj, W.heap[r]? = some o ∧ o.isCells = false) : StC V p A B x y := (hg.block p h.lt (fun e => by
  obtain ⟨o, ho, hc⟩ := hr p e.symm
  have h' : W.heap[p]? = _ := h
  rw [h'] at ho; cases ho; cases hc)).trans h
theorem PR.kept {W V : World} {row : Option Nat} {b n : Nat} {P : Nat → Nat} (h : PR W b n P) (hg : W.grownBy V row) (hr : ∀ r, row = some r → ∃ o : Obj, W.heap[r]? = some o ∧ o.isCells = false) : PR V b n P := h.block (hg.block b h.lt (fun e => by
  obtain ⟨o, ho, hc⟩ := hr b e.symm
  obtain ⟨cur, h', _⟩ := h
  rw [h'] at ho; cases ho; cases hc))
theorem since_rowL {w X Y : World} {row : Option Nat} {B : Nat} (h : w.Since w.heap.size X) (hB : w.heap.size ≤ B) (hg : X.grownBy Y row) (hr : ∀ r, row = some r → B ≤ r) : w.Since w.heap.size Y :=
  ⟨hg.os.trans h.os, hg.tape.trans h.tape, hg.output.trans h.output, Nat.le_trans h.size hg.size, fun k hk => (hg.block k (by have := h.size; omega) (fun e => by have := hr k e.symm; omega)).trans (h.block k hk)⟩
theorem LinkI.own {w W0 : World} {sb eb n sc : Nat} {E : Nat → Nat} {L : List CH} {X Y : World} {row : Option Nat} (h : LinkI w W0 sb eb n sc E L X) (hg : X.grownBy Y row) (hr : ∀ r, row = some r → W0.heap.size ≤ r ∧ ∃ o : Obj, X.heap[r]? = some o ∧ o.isCells = false) (hw : w.heap.size ≤ W0.heap.size) : LinkI w W0 sb eb n sc E L Y :=
  ⟨since_rowL h.since hw hg (fun r e => (hr r e).1), Nat.le_trans h.size hg.size, boxed_own w.heap.size _ (fun (_ : Unit) => .slice (some ⟨sb, 0, none⟩) n sc) () X Y row h.box hg (fun r e => (hr r e).2), h.ends.kept hg (fun r e => (hr r e).2), fun i hi => (h.st i hi).kept hg (fun r e => (hr r e).2), by
    obtain ⟨P, h1, h2⟩ := h.lies
    exact ⟨P, h1.kept hg (fun r e => (hr r e).2), fun i hi => (h2 i hi).mono fun p A B x y hp => hp.kept hg (fun r e => (hr r e).2)⟩⟩

theorem link_end {w W0 W w4 V : World} {sb eb n sc B b : Nat} {E : Nat → Nat} {L : List CH} {CC : CH} {P : Nat → Nat} (hI : LinkI w W0 sb eb n sc E L W) (hP : PR W sb n P) (hL : ∀ i, i < n → Lies W E n L i (P i)) (hs4 : W.Since W.heap.size w4) (hV : w4.Since w4.heap.size V) (hok : chOk n CC)
    (hst : if CC.1 = 2 then StC V w4.heap.size (some ⟨P (chR CC), 0, none⟩) none CC.2.2 0 else StC V w4.heap.size (some ⟨P (chR CC), 0, none⟩) (some ⟨P (chK CC), 0, none⟩) 1 CC.2.2)
    (h1 : w.heap.size < sb) (h2 : sb < W0.heap.size) (h3 : eb ≠ sb) (h4 : B < W0.heap.size) (h5 : b < W0.heap.size) (h6 : B ≠ sb) (h7 : b ≠ sb) :
    KeepsFrom W0.heap.size W (V.setCell ⟨sb, chR CC, none⟩ (.pointer (some ⟨w4.heap.size, 0, none⟩))) ∧ KpC B b W (V.setCell ⟨sb, chR CC, none⟩ (.pointer (some ⟨w4.heap.size, 0, none⟩))) ∧ LinkI w W0 sb eb n sc E (CC :: L) (V.setCell ⟨sb, chR CC, none⟩ (.pointer (some ⟨w4.heap.size, 0, none⟩))) := by
  have hz4 := hs4.size
  have hzV := hV.size
  have hzW := hI.size
  have hsV : W.Since W.heap.size V := hs4.trans (since_mono hV hz4)
  have hblk : ∀ q, q < W.heap.size → q ≠ sb → (V.setCell ⟨sb, chR CC, none⟩ (.pointer (some ⟨w4.heap.size, 0, none⟩))).heap[q]? = W.heap[q]? := fun q hq hne => (Below.heap_setCell _ _ _ _ (by exact hne)).trans (hsV.block q hq)
  have hzS : (V.setCell ⟨sb, chR CC, none⟩ (.pointer (some ⟨w4.heap.size, 0, none⟩))).heap.size = V.heap.size := by simp
  have hPV := hP.since hsV
  have hstC : ∀ p A B x y, StC V p A B x y → StC (V.setCell ⟨sb, chR CC, none⟩ (.pointer (some ⟨w4.heap.size, 0, none⟩))) p A B x y := fun p A B x y hp => (Below.heap_setCell _ _ _ _ (by exact hPV.ne hp)).trans hp
  refine ⟨⟨by rw [hzS]; omega, fun q o hq hk _ => (hblk q (Array.getElem?_eq_some_iff.1 hk).1 (by omega)).trans hk⟩, ⟨hblk B (by omega) h6, hblk b (by omega) h7⟩, ⟨(hI.since.trans (since_mono hsV hI.since.size)).setCell (by show w.heap.size ≤ sb; omega) _, by rw [hzS]; omega, (hblk _ hI.box.lt (by omega)).trans hI.box, hI.ends.block (hblk _ hI.ends.lt h3), fun i hi => hstC _ _ _ _ _ ((hI.st i hi).since hsV), ?_⟩⟩
  refine ⟨_, hPV.set w4.heap.size, fun i hi => ?_⟩
  refine (Lies.more (fun i hi => (hL i hi).since hsV) hok (fun k hk e => ?_) hst i hi).mono hstC
  have := (hI.st k hk).lt
  omega

set_option maxRecDepth 100000 in
set_option maxHeartbeats 1000000 in
theorem linked_any (a : Option Addr) (cap N n : Nat) (cs : List RC) (w : World) (hN : cs.length = N) (ho : NetOk n cs) (hm : ChipsR w a cs) :
    Calls Try.prog 101 #[.int .i64 n, .slice a N cap] w fun e w' => ∃ (sb eb c1 c2 : Nat) (P E : Nat → Nat), e = .returned (.tuple #[.slice (some ⟨sb, 0, none⟩) n c1, .slice (some ⟨eb, 0, none⟩) n c2]) ∧ w.Since w.heap.size w' ∧
      PR w' sb n P ∧ PR w' eb n E ∧ (∀ i j, i < n → j < n → E i = E j → i = j) ∧ (∀ i, i < n → StC w' (E i) none none 0 0) ∧ ∀ i, i < n → Lies w' E n (cs.map toC) i (P i) := by
  obtain ⟨iP, hiP⟩ := infoPt_parts
  have HI := Lib.hid hiP
  have hn2 := ho.lo
  have hn5 := ho.hi
  have h10 := ho.len
  rw [hN] at h10
  have hst : EndsAt w (w.alloc (.cells #[.slice none 0 0] 92)) (.slice none 0 0) 0 (fun _ => 0) := ⟨(World.Since.refl _ _).alloc (Nat.le_refl _) _, Boxed.new w _ _, World.ownsRow_nil _ _ _ _, fun j hj => by omega, fun i j hi => by omega⟩
  have HST := Lib.hid hst
  have HN := Lib.hid hN
  have HM := Lib.hid hm
  have HO := Lib.hid ho
  clear hiP hst hN hm ho
  refine (callsIn_wide (n := 9)).1 ?_
  refine callsIn_of_wp_marks Try.func101 rfl trivial ?_ rfl
  simp only [Try.ntmps101, List.size_toArray, List.length_cons, List.length_nil, Nat.reduceAdd, Nat.reduceSub, Array.replicate_succ, Array.replicate_zero, List.push_toArray, List.append_toArray, List.nil_append, List.cons_append]
  gi_wp2
  gi_loopw [5, 12] (fun v i wr => ∃ (k : Nat) (E : Nat → Nat), k ≤ n ∧ i = .int .i64 k ∧ EndsAt w wr v k E) (fun _ i _ => n - (intOf i).toNat)
  case atStart => exact ⟨0, _, Nat.zero_le _, rfl, HST.out⟩
  case round =>
    obtain ⟨k, E, hk, rfl, hE⟩ := hrel
    clear HST
    by_cases hlt : k < n
    · have HE := Lib.hid hE
      have hz := hE.since.size
      have hzb := hE.box.lt
      clear hE
      gi_wp2_with (gi_at_builtin; (refine wpListIn_append_own _ rfl _ _ 92 rfl (w.heap.size + 1) 95 iP (.pointer none) 1 8 Try.underlying92 HI.out.1 HI.out.2.1 HI.out.2.2.1 HI.out.2.2.2 rfl (by decide) _ _ _ rfl ((HE.out.own.alloc _).alloc _) ⟨wr.heap.size + 1, 0, none⟩ 1 1 [ptrV wr.heap.size] rfl rfl (cell_one_at _ _ _ (by simp)) (fun x hx => by simp at hx; subst hx; rfl) (by unfold maxLen; omega) (by omega) (by simp; omega) ?_); intro v' w1 hown' hgrow _)
      have HP := Lib.hid (HE.out.push hown' hgrow)
      clear hown' hgrow
      go_roundw
      case rel => exact ⟨k + 1, _, by omega, by simp, HP.out⟩
      case measure => simp [intOf]; omega
    · obtain rfl : k = n := by omega
      obtain ⟨eb, ec, rfl, heb, hpr⟩ := PR.of_own hE.own (by omega)
      have HC := Lib.hid (clonePtr_any eb k ec E wr (by omega) (by omega) hpr)
      have HE := Lib.hid hE
      have HPR := Lib.hid hpr
      have hbx := hE.box.cell
      clear hE hpr
      gi_wp2_with (first
        | (refine ⟨trivial, ?_⟩; gi_at_call 125; refine (callsIn_wide.2 (HC.out)).mono ?_; rintro e w2 ⟨sb, sc, rfl, hs2, hsb, hpr2⟩; have HS2 := Lib.hid hs2; have HPR2 := Lib.hid hpr2; have bx2 := (HE.out.box.kept (row := none) ⟨hs2.os, hs2.tape, hs2.output, hs2.size, fun b hb _ => hs2.block b hb⟩ (by simp)); have cb2 := bx2.cell; have fb2 := bx2.frozen; clear hs2 hpr2)
        | (refine ⟨trivial, ?_⟩; gi_at_call 54; refine (callsIn_wide.2 (backward_any _ _ _ _)).mono ?_; rintro e w3 ⟨rfl, rfl⟩))
      obtain ⟨B, hB⟩ : ∃ B, w2.heap.size = B := ⟨_, rfl⟩
      obtain ⟨W0, hW0⟩ : ∃ W0, W0 = (w2.setCell ⟨w.heap.size, 0, none⟩ (.slice (some ⟨sb, 0, none⟩) k sc)).alloc (.cells #[.slice a N cap] 23) := ⟨_, rfl⟩
      rw [hB, ← hW0]
      have hz2 := HS2.out.size
      have hzE := HE.out.since.size
      have hsz0 : W0.heap.size = B + 1 := by rw [hW0, ← hB]; simp
      have hsb2 := HPR2.out.lt
      have hx0 := HE.out.box.lt
      have heb0 := HPR.out.lt
      have hS0 : w.Since w.heap.size W0 := by rw [hW0]; exact (((HE.out.since.trans (since_mono HS2.out hzE)).setCell (Nat.le_refl _) _).alloc (by simp; omega) _)
      have hbox : Boxed W0 w.heap.size 92 (.slice (some ⟨sb, 0, none⟩) k sc) := by rw [hW0]; exact (bx2.set _).alloc _
      have hkeep : ∀ q, q < w2.heap.size → q ≠ w.heap.size → W0.heap[q]? = w2.heap[q]? := fun q h1 h2 => by rw [hW0]; exact (Below.heap_alloc _ _ _ (by simp; omega)).trans (Below.heap_setCell _ _ _ _ (by exact h2))
      have hpr0 : PR W0 sb k E := HPR2.out.block (hkeep _ hsb2 (by omega))
      have hpe0 : PR W0 eb k E := (HPR.out.since HS2.out).block (hkeep _ (by omega) (by omega))
      have hstc0 : ∀ i, i < k → StC W0 (E i) none none 0 0 := fun i hi => by
        have h1 := (HE.out.st i hi).since HS2.out
        refine (hkeep _ h1.lt (fun e => ?_)).trans h1
        have h2 : w2.heap[E i]? = _ := h1
        have h3 : w2.heap[w.heap.size]? = _ := bx2
        rw [e, h3] at h2
        simp at h2
      have hBc : W0.cell? ⟨B, 0, none⟩ = some (.slice a N cap) := by
        have h := Boxed.new (w2.setCell ⟨w.heap.size, 0, none⟩ (.slice (some ⟨sb, 0, none⟩) k sc)) 23 (.slice a N cap)
        rw [← hW0] at h
        have h' := h.cell
        simpa [hB] using h'
      have HIN := Lib.hid HE.out.inj
      have HO5 := Lib.hid (fun (x : {i : Nat // i < N}) => show cs.getD x.1 rc0 ∈ cs from by
        have hx : x.1 < cs.length := by rw [HN.out]; exact x.2
        have : cs.getD x.1 rc0 = cs[x.1] := by simp [List.getD, hx]
        rw [this]; exact List.getElem_mem _)
      -- the chips' block
      obtain ⟨b, o, ha, hb, hc⟩ : ∃ b o, (0 < N → a = some ⟨b, o, none⟩) ∧ (b < w.heap.size ∨ b = B) ∧ ∀ q, q < N → W0.cell? ⟨b, o + q * 3, none⟩ = some (.string (cs.getD q rc0).k) ∧ W0.cell? ⟨b, o + q * 3 + 1, none⟩ = some (.int .i64 (cs.getD q rc0).l) ∧ W0.cell? ⟨b, o + q * 3 + 2, none⟩ = some (.int .i64 (cs.getD q rc0).w) := by
        by_cases h0 : 0 < N
        · obtain ⟨b, o, e, hc⟩ := HM.out (by rw [HN.out]; exact h0)
          have hl := World.block_lt_of_cell? _ _ (hc 0 (by rw [HN.out]; exact h0)).1
          exact ⟨b, o, fun _ => e, .inl hl, fun q hq => ⟨(hS0.cell (by exact hl)).trans (hc q (by rw [HN.out]; exact hq)).1, (hS0.cell (by exact hl)).trans (hc q (by rw [HN.out]; exact hq)).2.1, (hS0.cell (by exact hl)).trans (hc q (by rw [HN.out]; exact hq)).2.2⟩⟩
        · exact ⟨B, 0, fun h => absurd h h0, .inr rfl, fun q hq => by omega⟩
      have hB1 : w2.heap.size ≤ B := by omega
      have hbB : b < W0.heap.size := by omega
      have hne1 : b ≠ sb := by omega
      have hne2 : B ≠ sb := by omega
      clear hW0 hB hkeep bx2 cb2 fb2 hbx
      refine wpIn_rangeFunc_ownH (F := Fence.wide) (n := 9) rfl (by omega) (gf := 107) (lb := #[.pointer (some ⟨B, 0, none⟩)]) rfl trivial (enters_of Try.func107 (by kernel_rfl) rfl)
        (back_stops 8 (by omega) B b o N cap a cs h10 ha W0 (by omega) hbB hBc hc)
        (fun h k => h.trans k) (kpC_b (by omega) hbB) (Below.refl _ _) (fun _ => rfl)
        (fun pre W => LinkI w W0 sb eb k sc E (((cameL cs pre).reverse).map toC) W)
        (fun _ _ _ => False)
        (fun s X Y row hs hg hr => hs.own hg hr hS0.size)
        (fun c s X Y row hs hg hr => hs)
        ⟨hS0, Nat.le_refl _, hbox, hpe0, hstc0, E, hpr0, fun i hi => ⟨rfl, hstc0 i hi⟩⟩
        (fun x a' W => ∃ Bx, W0.heap.size ≤ Bx ∧ Box3 W Bx (cs.getD x.1 rc0).k (cs.getD x.1 rc0).l (cs.getD x.1 rc0).w ∧ a' = { tmps := #[.int .i64 k, .slice a N cap, undef, undef, .pointer (some ⟨w.heap.size, 0, none⟩), .slice (some ⟨eb, 0, none⟩) k ec, undef, .pointer (some ⟨Bx, 0, none⟩), undef, undef, undef, .int .i64 k, .int .i64 k, .bool false, u14, u15, u16, u17, u18, u19, .slice (some ⟨eb, 0, none⟩) k ec, .slice (some ⟨sb, 0, none⟩) k sc, .slice a N cap, .func (.func 107) #[] #[.pointer (some ⟨B, 0, none⟩)], .int .i64 (x.1 : Int), .agg #[.string (cs.getD x.1 rc0).k, .int .i64 (cs.getD x.1 rc0).l, .int .i64 (cs.getD x.1 rc0).w], undef, undef, undef, undef, undef, undef, undef, undef, undef, undef, undef, undef, undef, undef, undef, undef, undef, undef, undef, undef, undef, undef, undef, undef, undef, undef, undef, undef, undef, undef, undef, undef, undef, undef, undef, undef, undef], defers := [] })
        (fun x a' _ X Y row hs hg hr => by obtain ⟨Bx, h1, h2, h3⟩ := hs; exact ⟨Bx, h1, h2.own hg (fun r e => (hr r e).2), h3⟩)
        ?assign ?body ?done ?stop
      case assign =>
        rintro l2 pre x W Kq hI hK
        simp only [encB]
        gi_wp2
        exact hK _ _ ((KeepsOthers.alloc _ _).from _) (KpC.grown (World.grownBy_alloc _ _ none) (by have := hI.size; omega) (by have := hI.size; omega) (by simp) (by simp)) (hI.own (World.grownBy_alloc _ _ none) (fun r e => by cases e) hS0.size) ⟨W.heap.size, hI.size, Box3.new W _ _ _, rfl⟩
      case body =>
        rintro l2 pre x a' W hl ⟨r, hr⟩ hI ⟨Bx, hBx, bX, rfl⟩ hlt
        have hmem := HO5.out x
        have hcam : ((cameL cs (pre ++ [x])).reverse).map toC = toC (cs.getD x.1 rc0) :: ((cameL cs pre).reverse).map toC := by
          unfold cameL
          rw [List.map_append, List.reverse_append, List.map_append]
          rfl
        obtain ⟨L, hL⟩ : ∃ L, ((cameL cs pre).reverse).map toC = L := ⟨_, rfl⟩
        rw [hL] at hI hcam
        have hok := HO.out.ok _ hmem
        obtain ⟨c, hcc⟩ : ∃ c, cs.getD x.1 rc0 = c := ⟨_, rfl⟩
        rw [hcc] at bX hok hcam ⊢
        have hRK := chRK hok.2
        have EE := fun (V : World) => ends_any c V hok.1
        have hmore := fun (w4 V : World) (P : Nat → Nat) (hP : PR W sb k P) (hL : ∀ i, i < k → Lies W E k L i (P i)) (hs4 : W.Since W.heap.size w4) (hV : w4.Since w4.heap.size V) hst => link_end (B := B) (b := b) (CC := toC c) hI hP hL hs4 hV hok.2 hst (by omega) (by omega) (by omega) (by omega) hbB hne2 hne1
        have hkind : chR (toC c) = chK (toC c) ↔ (toC c).1 = 2 := by
          constructor
          · intro e
            by_cases e2 : (toC c).1 = 2
            · exact e2
            · unfold chR chK at e
              rw [if_neg e2, if_neg e2] at e
              exact absurd e (ch_ft hok.2 e2).2.2
          · intro e
            unfold chR chK
            rw [if_pos e, if_pos e]
        rw [toC_w] at hmore
        obtain ⟨f, hf⟩ : ∃ f, chR (toC c) = f := ⟨_, rfl⟩
        obtain ⟨t, ht⟩ : ∃ t, chK (toC c) = t := ⟨_, rfl⟩
        simp only [hf, ht] at EE hmore hRK hkind
        obtain ⟨CC, hCC⟩ : ∃ CC, toC c = CC := ⟨_, rfl⟩
        rw [hCC] at hcam hmore hkind
        obtain ⟨K, Ln, V⟩ := c
        simp only at EE hmore bX ⊢
        obtain ⟨hf5, ht5⟩ := hRK
        obtain ⟨P, hPR, hLie⟩ := hI.lies
        obtain ⟨c1, c2, c3⟩ := bX.cells
        have hI1 := hI.size
        have HII := Lib.hid hI
        have HPRR := Lib.hid hPR
        have HLIE := Lib.hid hLie
        have HMORE := Lib.hid hmore
        have HCAM := Lib.hid hcam
        have HBXX := Lib.hid bX
        have HKIND := Lib.hid hkind
        replace EE := Lib.hid EE
        have hBxl := bX.lt
        clear hI hPR hLie hmore hcam hok hcc hf ht hCC hmem hL hkind bX hr
        by_cases e2 : f = t
        · subst e2
          have HK2 := Lib.hid (HKIND.out.1 rfl)
          clear HKIND
          gi_wp2_with (first
            | (refine ⟨trivial, ?_⟩; gi_at_call 114; refine (CallsIn.inRound l2 (callsIn_wide.2 (EE.out _))).mono ?_; rintro e w4 ⟨rfl, hs4⟩; have hz4 := hs4.size; have cb4 := (hs4.cell (World.block_lt_of_cell? _ _ HII.out.box.cell)).trans HII.out.box.cell; have cp4 := (hs4.cell (World.block_lt_of_cell? _ _ (HPRR.out.cell hf5).1)).trans (HPRR.out.cell hf5).1; have fp4 := (hs4.frozen (World.block_lt_of_cell? _ _ (HPRR.out.cell hf5).1)).trans (HPRR.out.cell hf5).2; have ct4 := (hs4.cell (World.block_lt_of_cell? _ _ (HPRR.out.cell ht5).1)).trans (HPRR.out.cell ht5).1; have cw4 := (hs4.cell (World.block_lt_of_cell? _ _ c3)).trans c3; have cb5 := fun ob => cell_alloc_l ob cb4; have cp5 := fun ob => cell_alloc_l ob cp4; have ct5 := fun ob => cell_alloc_l ob ct4; have cw5 := fun ob => cell_alloc_l ob cw4; have fp5 := fun ob => frozen_alloc_l ob cp4 fp4; have HS4 := Lib.hid hs4; clear hs4 c1 c2 c3))
          have hfin := HMORE.out w4 _ P HPRR.out HLIE.out HS4.out ((World.Since.refl _ _).alloc (Nat.le_refl _) (.cells #[.pointer (some ⟨P f, 0, none⟩), .pointer none, .int .i64 V, .int .i64 0] 123)) (by rw [if_pos HK2.out]; exact World.alloc_heap_new w4 _)
          rw [← HCAM.out] at hfin
          exact hfin
        · have hft : (f == t) = false := by simpa using e2
          have hft' : ((f : Int) == (t : Int)) = false := by simp; omega
          have HK2 := Lib.hid (fun h => e2 (HKIND.out.2 h))
          clear HKIND e2
          gi_wp2_with (first
            | (refine ⟨trivial, ?_⟩; gi_at_call 114; refine (CallsIn.inRound l2 (callsIn_wide.2 (EE.out _))).mono ?_; rintro e w4 ⟨rfl, hs4⟩; have hz4 := hs4.size; have cb4 := (hs4.cell (World.block_lt_of_cell? _ _ HII.out.box.cell)).trans HII.out.box.cell; have cp4 := (hs4.cell (World.block_lt_of_cell? _ _ (HPRR.out.cell hf5).1)).trans (HPRR.out.cell hf5).1; have fp4 := (hs4.frozen (World.block_lt_of_cell? _ _ (HPRR.out.cell hf5).1)).trans (HPRR.out.cell hf5).2; have ct4 := (hs4.cell (World.block_lt_of_cell? _ _ (HPRR.out.cell ht5).1)).trans (HPRR.out.cell ht5).1; have cw4 := (hs4.cell (World.block_lt_of_cell? _ _ c3)).trans c3; have cb5 := fun ob => cell_alloc_l ob cb4; have cp5 := fun ob => cell_alloc_l ob cp4; have ct5 := fun ob => cell_alloc_l ob ct4; have cw5 := fun ob => cell_alloc_l ob cw4; have fp5 := fun ob => frozen_alloc_l ob cp4 fp4; have HS4 := Lib.hid hs4; clear hs4 c1 c2 c3))
          have hmix : Try.prog.follows .mixedOrders = true := by kernel_rfl
          have hX0 : StC (w4.alloc (.cells #[.pointer (some ⟨P f, 0, none⟩), .pointer none, .int .i64 1, .int .i64 0] 123)).drew w4.heap.size (some ⟨P f, 0, none⟩) none 1 0 := World.alloc_heap_new w4 _
          have hsX : w4.Since w4.heap.size (w4.alloc (.cells #[.pointer (some ⟨P f, 0, none⟩), .pointer none, .int .i64 1, .int .i64 0] 123)).drew := ((World.Since.refl _ _).alloc (Nat.le_refl _) _).drew
          have hbl := World.block_lt_of_cell? _ _ cb4
          have hsl := World.block_lt_of_cell? _ _ ct4
          have hxl := World.block_lt_of_cell? _ _ cw4
          simp only at hbl hsl hxl
          have hS : (fun W' : World => W'.cell? ⟨w.heap.size, 0, none⟩ = some (.slice (some ⟨sb, 0, none⟩) k sc) ∧ W'.cell? ⟨sb, t, none⟩ = some (.pointer (some ⟨P t, 0, none⟩)) ∧ W'.cell? ⟨Bx, 2, none⟩ = some (.int .i64 V)) (w4.alloc (.cells #[.pointer (some ⟨P f, 0, none⟩), .pointer none, .int .i64 1, .int .i64 0] 123)).drew := ⟨cb5 _, ct5 _, cw5 _⟩
          refine round_region_heldL (S := fun W' : World => W'.cell? ⟨w.heap.size, 0, none⟩ = some (.slice (some ⟨sb, 0, none⟩) k sc) ∧ W'.cell? ⟨sb, t, none⟩ = some (.pointer (some ⟨P t, 0, none⟩)) ∧ W'.cell? ⟨Bx, 2, none⟩ = some (.int .i64 V)) hmix (by kernel_rfl) (by rintro ⟨a, w, h⟩; exact h) hS (fun hS => ?_)
          obtain ⟨p4, hp4⟩ : ∃ p, w4.heap.size = p := ⟨_, rfl⟩
          obtain ⟨X, hX⟩ : ∃ X, (w4.alloc (.cells #[.pointer (some ⟨P f, 0, none⟩), .pointer none, .int .i64 1, .int .i64 0] 123)).drew = X := ⟨_, rfl⟩
          rw [hX] at hX0 hsX hS ⊢
          rw [hp4] at hX0 hbl hsl hxl ⊢
          have fpX : X.frozen? ⟨sb, f, none⟩ = false := by rw [← hX]; exact fp5 _
          have cpX : X.cell? ⟨sb, f, none⟩ = some (.pointer (some ⟨P f, 0, none⟩)) := by rw [← hX]; exact cp5 _
          have HP4 := Lib.hid hp4
          clear hX hp4 cb5 cp5 ct5 cw5 fp5 cb4 cp4 fp4 ct4 cw4
          refine wpAnyH_take (i := 0) (v := .pointer (some ⟨p4, 0, none⟩)) rfl (by kernel_rfl) (by kernel_rfl) (by kernel_rfl) (fun _ _ _ h => h) (Or.inl ⟨by rfl, fun W' h => by go_simp⟩) hS ?_
          simp only [Act.put, List.setIfInBounds_toArray]
          refine wpAnyH_take (i := 1) (v := .pointer (some ⟨p4, 0, none⟩)) rfl (by kernel_rfl) (by kernel_rfl) (by kernel_rfl) (fun _ _ _ h => h) (Or.inl ⟨by rfl, fun W' h => by go_simp⟩) hS ?_
          simp only [Act.put]
          refine wpAnyH_take (i := 2) (v := .slice (some ⟨sb, 0, none⟩) k sc) rfl (by kernel_rfl) (by kernel_rfl) (by kernel_rfl) (fun _ _ _ h => h) (Or.inl ⟨by rfl, fun W' h => by have hc := h.1; go_simp⟩) hS ?_
          simp only [Act.put]
          refine wpAnyH_take (i := 3) (v := .int .i64 t) rfl (by kernel_rfl) (by kernel_rfl) (by kernel_rfl) (fun _ _ _ h => h) (Or.inl ⟨by rfl, fun W' h => by go_simp⟩) hS ?_
          simp only [Act.put]
          refine wpAnyH_take (i := 4) (v := .pointer (some ⟨sb, t, none⟩)) rfl (by kernel_rfl) (by kernel_rfl) (by kernel_rfl) (fun _ _ _ h => h) (Or.inl ⟨by rfl, fun W' h => by go_simp⟩) hS ?_
          simp only [Act.put]
          refine wpAnyH_take (i := 5) (v := .pointer (some ⟨P t, 0, none⟩)) rfl (by kernel_rfl) (by kernel_rfl) (by kernel_rfl) (fun _ _ _ h => h) (Or.inl ⟨by rfl, fun W' h => by have hc := h.2.1; go_simp⟩) hS ?_
          simp only [Act.put]
          refine wpAnyH_take (i := 6) (v := .pointer (some ⟨Bx, 2, none⟩)) rfl (by kernel_rfl) (by kernel_rfl) (by kernel_rfl) (fun _ _ _ h => h) (Or.inl ⟨by rfl, fun W' h => by go_simp⟩) hS ?_
          simp only [Act.put]
          refine wpAnyH_take (i := 7) (v := .int .i64 V) rfl (by kernel_rfl) (by kernel_rfl) (by kernel_rfl) (fun _ _ _ h => h) (Or.inl ⟨by rfl, fun W' h => by have hc := h.2.2; go_simp⟩) hS ?_
          simp only [Act.put]
          refine wpAnyH_take (i := 8) (v := .pointer (some ⟨p4, 0, none⟩)) rfl (by kernel_rfl) (by kernel_rfl) (by kernel_rfl) (fun _ _ _ h => h) (Or.inl ⟨by rfl, fun W' h => by go_simp⟩) hS ?_
          simp only [Act.put]
          refine wpAnyH_take (i := 9) (v := .pointer (some ⟨p4, 1, none⟩)) rfl (by kernel_rfl) (by kernel_rfl) (by kernel_rfl) (fun _ _ _ h => h) (Or.inl ⟨by rfl, fun W' h => by go_simp⟩) hS ?_
          simp only [Act.put]
          obtain ⟨x1, x2, x3, x4⟩ := hX0.cells
          have f1 := hX0.frz
          refine wpAnyH_ready (rs := [10]) (by kernel_rfl) (by simp) (AllReadyH.cons rfl (fun K hK => ?_) AllReadyH.nil)
          go_simp
          refine hK.out _ _ ⟨cell_set_ne hS.1 (by show w.heap.size ≠ p4; omega), cell_set_ne hS.2.1 (by show sb ≠ p4; omega), cell_set_ne hS.2.2 (by show Bx ≠ p4; omega)⟩ (fun hS1 => ?_)
          clear hK K
          have hX1 := hX0.set1 (some ⟨P t, 0, none⟩)
          have hsX1 := hsX.setCell (a := ⟨p4, 1, none⟩) (by have := HP4.out; show w4.heap.size ≤ p4; omega) (.pointer (some ⟨P t, 0, none⟩))
          have cpX1 := cell_set_ne (g := p4) (j := 1) (v := .pointer (some ⟨P t, 0, none⟩)) cpX (by show sb ≠ p4; omega)
          have fpX1 : (X.setCell ⟨p4, 1, none⟩ (.pointer (some ⟨P t, 0, none⟩))).frozen? ⟨sb, f, none⟩ = false := by rw [World.frozen?_setCell]; exact fpX
          obtain ⟨X1, hX1e⟩ : ∃ X1, X.setCell ⟨p4, 1, none⟩ (.pointer (some ⟨P t, 0, none⟩)) = X1 := ⟨_, rfl⟩
          rw [hX1e] at hS1 hX1 hsX1 cpX1 fpX1 ⊢
          clear hX1e hS hX0 hsX cpX fpX x1 x2 x3 x4 f1
          refine wpAnyH_take (i := 11) (v := .pointer (some ⟨p4, 0, none⟩)) rfl (by kernel_rfl) (by kernel_rfl) (by kernel_rfl) (fun _ _ _ h => h) (Or.inl ⟨by rfl, fun W' h => by go_simp⟩) hS1 ?_
          simp only [Act.put, List.setIfInBounds_toArray]
          refine wpAnyH_take (i := 12) (v := .pointer (some ⟨p4, 3, none⟩)) rfl (by kernel_rfl) (by kernel_rfl) (by kernel_rfl) (fun _ _ _ h => h) (Or.inl ⟨by rfl, fun W' h => by go_simp⟩) hS1 ?_
          simp only [Act.put]
          obtain ⟨x1, x2, x3, x4⟩ := hX1.cells
          have f1 := hX1.frz
          refine wpAnyH_ready (rs := [13]) (by kernel_rfl) (by simp) (AllReadyH.cons rfl (fun K hK => ?_) AllReadyH.nil)
          go_simp
          refine hK.out _ _ ⟨cell_set_ne hS1.1 (by show w.heap.size ≠ p4; omega), cell_set_ne hS1.2.1 (by show sb ≠ p4; omega), cell_set_ne hS1.2.2 (by show Bx ≠ p4; omega)⟩ (fun hS2 => ?_)
          clear hK K
          have hX2 := hX1.set3 V
          have hsX2 := hsX1.setCell (a := ⟨p4, 3, none⟩) (by have := HP4.out; show w4.heap.size ≤ p4; omega) (.int .i64 V)
          have cpX2 := cell_set_ne (g := p4) (j := 3) (v := .int .i64 V) cpX1 (by show sb ≠ p4; omega)
          have fpX2 : (X1.setCell ⟨p4, 3, none⟩ (.int .i64 V)).frozen? ⟨sb, f, none⟩ = false := by rw [World.frozen?_setCell]; exact fpX1
          obtain ⟨X2, hX2e⟩ : ∃ X2, X1.setCell ⟨p4, 3, none⟩ (.int .i64 V) = X2 := ⟨_, rfl⟩
          rw [hX2e] at hS2 hX2 hsX2 cpX2 fpX2 ⊢
          clear hX2e hS1 hX1 hsX1 cpX1 fpX1 x1 x2 x3 x4 f1
          refine wpAnyH_done (by kernel_rfl) ?_ _
          obtain ⟨cb, _, _⟩ := hS2
          have hfin := HMORE.out w4 X2 P HPRR.out HLIE.out HS4.out hsX2 (by rw [if_neg HK2.out, HP4.out]; exact hX2)
          rw [← HCAM.out, HP4.out] at hfin
          have HFIN := Lib.hid hfin
          clear hfin hX2 hsX2
          gi_wp2_with fail
          have h := HFIN.out
          rw [hsz0, List.map_reverse] at h
          exact h
      case done =>
        rintro D ys W hD rfl hI hK
        rw [came_whole HN.out, List.reverse_reverse] at hI
        have cb := hI.box.cell
        have fb := hI.box.frozen
        obtain ⟨P, hPR, hLie⟩ := hI.lies
        have H1 := Lib.hid hI
        have H2 := Lib.hid (And.intro hPR hLie)
        have hzW := hI.size
        clear hI hPR hLie hc hpr0 hpe0 hstc0 hS0 hBc hbox
        gi_wp2
        have hK' := (KeepsOthers.setCell W ⟨w.heap.size, 0, none⟩ (.slice (some ⟨sb, 0, none⟩) k sc)).same D _ hK rfl
        refine ⟨by simp, .inl ⟨_, _, rfl, run_takeDeferred hK', ?_⟩⟩
        have hg := grownBy_putObj' (W.setCell ⟨w.heap.size, 0, none⟩ (.slice (some ⟨sb, 0, none⟩) k sc)) D (.deferred none)
        have hr : ∀ r, some D = some r → ∃ o : Obj, (W.setCell ⟨w.heap.size, 0, none⟩ (.slice (some ⟨sb, 0, none⟩) k sc)).heap[r]? = some o ∧ o.isCells = false := fun r e => by cases e; exact ⟨_, hK', rfl⟩
        have hbk : ∀ q, q ≠ w.heap.size → (W.setCell ⟨w.heap.size, 0, none⟩ (.slice (some ⟨sb, 0, none⟩) k sc)).heap[q]? = W.heap[q]? := fun q hq => Below.heap_setCell _ _ _ _ (by exact hq)
        have hc5 := ((H1.out.box.set (.slice (some ⟨sb, 0, none⟩) k sc)).kept hg (fun e => by injection e; omega)).cell
        have hst : ∀ p A B x y, StC W p A B x y → StC ((W.setCell ⟨w.heap.size, 0, none⟩ (.slice (some ⟨sb, 0, none⟩) k sc)).putObj D (.deferred none)) p A B x y := fun p A B x y hp => StC.kept ((hbk p (fun e => by
          have h1 : W.heap[p]? = _ := hp
          have h2 : W.heap[w.heap.size]? = _ := H1.out.box
          rw [e, h2] at h1
          simp at h1)).trans hp) hg hr
        have hsn := since_rowL ((H1.out.since.setCell (a := ⟨w.heap.size, 0, none⟩) (Nat.le_refl _) (.slice (some ⟨sb, 0, none⟩) k sc))) (Nat.le_refl _) hg (fun r e => by cases e; omega)
        refine ⟨.tuple #[.slice (some ⟨sb, 0, none⟩) k sc, .slice (some ⟨eb, 0, none⟩) k ec], ?_, sb, eb, sc, ec, P, E, rfl, hsn, ?_, ?_, HIN.out, fun i hi => hst _ _ _ _ _ (H1.out.st i hi), fun i hi => (H2.out.2 i hi).mono hst⟩
        · simp [results, Try.f101, go_sem, hc5]
        · exact (H2.out.1.block (hbk sb (by omega))).kept hg hr
        · exact (H1.out.ends.block (hbk eb (by omega))).kept hg hr
      case stop =>
        rintro D c pre W hD hpre hF hK
        exact hF.elim

set_option maxRecDepth 100000 in
set_option maxHeartbeats 400000 in
theorem pathSum_any (a : Option Addr) (cap N n i k : Nat) (cs : List RC) (w : World) (hN : cs.length = N) (ho : NetOk n cs) (hm : ChipsR w a cs) (hi : i < n) (hk : k < n) :
    Calls Try.prog 48 #[.int .i64 n, .slice a N cap, .int .i64 i, .int .i64 k] w fun e w' => e = .returned (.int .i64 (pathN (cs.map toC) i k)) ∧ w.Since w.heap.size w' := by
  have E := Lib.hid (linked_any a cap N n cs w hN ho hm)
  have HO := Lib.hid ho
  obtain ⟨Z, hZ⟩ : ∃ Z, pathN (cs.map toC) i k = Z := ⟨_, rfl⟩
  have HZ := Lib.hid hZ
  rw [hZ]
  have hw5 := ho.hi
  clear hN ho hm hZ
  go_enter Try.func48, Try.ntmps48
  go_wp2_with (go_at_call 101; refine (E.out).mono ?_; rintro e w1 ⟨sb, eb, c1, c2, P, E1, rfl, hs1, hp, he, hin, hst, hl⟩; have HS1 := Lib.hid hs1; have cp := (hp.cell hi).1; have ce := (he.cell hk).1; have EP := Lib.hid (fun (q : Nat) => pathsTo_any hin hk (cs.map toC) i (P i) (w1.drewN q) (fun c hc => by obtain ⟨d, hd, rfl⟩ := List.mem_map.1 hc; exact ⟨(HO.out.ok d hd).2, (HO.out.rc d hd).2.2⟩) (by rw [List.length_map]; exact HO.out.len) hi ((hl i hi).drawn (Drawn.mk w1 q)) (hst k hk)); clear hs1 hp he hin hst hl)
  rw [HZ.out] at EP
  go_quiet ((go_at_call 102; with_reducible exact Calls.quiet_of (EP.out _)))
  go_wp2_with fail
  go_ret
  exact ⟨rfl, since_drewN HS1.out _⟩

end Go.Proofs.Ytbclpbgomkfabaa
end
