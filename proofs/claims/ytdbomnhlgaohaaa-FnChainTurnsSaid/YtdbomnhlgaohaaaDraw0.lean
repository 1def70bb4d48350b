/- Words for drawing: the reader's block, bytes, tables that grow while the reader's block turns. -/
import Derived.Test.YtdbomnhlgaohaaaTurnSpec
namespace Go.Proofs.Ytdbomnhlgaohaaa
open Go.RowKit Go.Deep

theorem World.grownBy_refl (w : World) (row : Option Nat) : w.grownBy w row := ⟨rfl, rfl, rfl, Nat.le_refl _, fun _ _ _ => rfl⟩
theorem grown_trans {a b c : World} {row : Option Nat} (h : a.grownBy b row) (k : b.grownBy c row) : a.grownBy c row :=
  ⟨k.os.trans h.os, k.tape.trans h.tape, k.output.trans h.output, Nat.le_trans h.size k.size, fun i hi hn => (k.block i (Nat.lt_of_lt_of_le hi h.size) hn).trans (h.block i hi hn)⟩
theorem grown_since {a b : World} (row : Option Nat) (h : a.Since a.heap.size b) : a.grownBy b row := ⟨h.os, h.tape, h.output, h.size, fun i hi _ => h.block i hi⟩
/-- What is done to blocks from B on. -/
theorem grown_of {a b : World} {row row' : Option Nat} (h : a.grownBy b row) (hr : ∀ k, row = some k → a.heap.size ≤ k ∨ some k = row') : a.grownBy b row' :=
  ⟨h.os, h.tape, h.output, h.size, fun i hi hn => h.block i hi (fun e => by
    rcases hr i e.symm with h1 | h1
    · omega
    · exact hn h1)⟩
theorem since_grown {a b : World} {G B : Nat} (h : a.grownBy b (some G)) (hG : B ≤ G) (hB : B ≤ a.heap.size) : a.Since B b :=
  ⟨h.os, h.tape, h.output, h.size, fun i hi => h.block i (by omega) (fun e => by injection e with e; omega)⟩

/-- A slice of bytes. -/
def BytR (w : World) (a : Option Addr) (n : Nat) : Prop :=
  0 < n → ∃ b o, a = some ⟨b, o, none⟩ ∧ ∀ i, i < n → ∃ z : Nat, z ≤ 255 ∧ w.cell? ⟨b, o + i, none⟩ = some (.int .u8 z)
theorem BytR.since {w w' : World} {a : Option Addr} {n : Nat} (h : BytR w a n) (hs : w.Since w.heap.size w') : BytR w' a n := by
  intro h0
  obtain ⟨b, o, e, hc⟩ := h h0
  refine ⟨b, o, e, fun i hi => ?_⟩
  obtain ⟨z, h1, h2⟩ := hc i hi
  exact ⟨z, h1, (hs.cell (a := ⟨b, o + i, none⟩) (World.block_lt_of_cell? _ _ h2)).trans h2⟩

/-- The reader at G: its bytes and its place. -/
structure RD (w0 w : World) (G : Nat) (a : Option Addr) (n c : Nat) (tr : TypeId) (p : Nat) : Prop where
  blk : w.heap[G]? = some (.cells #[.slice a n c, .int .i64 p] tr (0, 0))
  base : w0.heap.size ≤ G
  since : w0.Since w0.heap.size w
  bytes : BytR w0 a n
  small : n ≤ 2000
theorem RD.lt {w0 w : World} {G : Nat} {a : Option Addr} {n c : Nat} {tr : TypeId} {p : Nat} (h : RD w0 w G a n c tr p) : G < w.heap.size := (Array.getElem?_eq_some_iff.1 h.blk).1
theorem RD.cell0 {w0 w : World} {G : Nat} {a : Option Addr} {n c : Nat} {tr : TypeId} {p : Nat} (h : RD w0 w G a n c tr p) : w.cell? ⟨G, 0, none⟩ = some (.slice a n c) := by simp [World.cell?, h.blk]
theorem RD.cell1 {w0 w : World} {G : Nat} {a : Option Addr} {n c : Nat} {tr : TypeId} {p : Nat} (h : RD w0 w G a n c tr p) : w.cell? ⟨G, 1, none⟩ = some (.int .i64 p) := by simp [World.cell?, h.blk]
theorem RD.free1 {w0 w : World} {G : Nat} {a : Option Addr} {n c : Nat} {tr : TypeId} {p : Nat} (h : RD w0 w G a n c tr p) : w.frozen? ⟨G, 1, none⟩ = false := by simp [World.frozen?, h.blk]
/-- The place goes on. -/
theorem RD.set {w0 w : World} {G : Nat} {a : Option Addr} {n c : Nat} {tr : TypeId} {p : Nat} (h : RD w0 w G a n c tr p) (q : Nat) : RD w0 (w.setCell ⟨G, 1, none⟩ (.int .i64 q)) G a n c tr q :=
  ⟨by simp [World.setCell, Array.getElem?_modify, h.blk], h.base, h.since.setCell h.base _, h.bytes, h.small⟩
theorem RD.later {w0 w w' : World} {G : Nat} {a : Option Addr} {n c : Nat} {tr : TypeId} {p : Nat} (h : RD w0 w G a n c tr p) (hs : w.Since w.heap.size w') : RD w0 w' G a n c tr p :=
  ⟨(hs.block G h.lt).trans h.blk, h.base, h.since.trans (since_mono hs h.since.size), h.bytes, h.small⟩
theorem RD.grown {w0 w w' : World} {G : Nat} {a : Option Addr} {n c : Nat} {tr : TypeId} {p : Nat} {row : Option Nat} (h : RD w0 w G a n c tr p) (hg : w.grownBy w' row) (hr : ∀ k, row = some k → G < k) : RD w0 w' G a n c tr p :=
  ⟨(hg.block G h.lt (fun e => by have := hr G e.symm; omega)).trans h.blk, h.base, h.since.grown hg h.since.size (fun k e => by have := hr k e; have := h.base; omega), h.bytes, h.small⟩

/-- A row of one's own, in a block from B on. -/
def RW (B : Nat) (w : World) (v : Value) (x : List Int) : Prop := w.ownsRow B 3 1 v x.length (x.map (Value.int .i64))
theorem RW.kept {B : Nat} {w w' : World} {v : Value} {x : List Int} {G : Nat} (h : RW B w v x) (hg : w.grownBy w' (some G)) (hG : G < B) : RW B w' v x :=
  World.ownsRow.kept h hg (by
    cases hv : v.ownBlock with
    | none => exact .inl rfl
    | some k => exact .inr (fun e => by injection e with e; have := (World.ownsRow.lt h k hv).1; omega))
theorem RW.base {B B' : Nat} {w : World} {v : Value} {x : List Int} (h : RW B w v x) (hB : B' ≤ B) : RW B' w v x := by
  refine ⟨h.1, ?_⟩
  rcases h.2 with h1 | ⟨g, cap, cur, e, hb, hr⟩
  · exact .inl h1
  · exact .inr ⟨g, cap, cur, e, by omega, hr⟩
theorem RW.form {B : Nat} {w : World} {v : Value} {x : List Int} (h : RW B w v x) (h0 : 0 < x.length) : ∃ g cap, v = .slice (some ⟨g, 0, none⟩) x.length cap ∧ B ≤ g ∧ RowB w g x := RowB.of_owns h h0
/-- A number of the row is written. -/
theorem RW.set {B : Nat} {w : World} {g cap k : Nat} {x : List Int} (h : RW B w (.slice (some ⟨g, 0, none⟩) x.length cap) x) (_hk : k < x.length) (y : Int) : RW B (w.setCell ⟨g, k, none⟩ (.int .i64 y)) (.slice (some ⟨g, 0, none⟩) x.length cap) (x.set k y) := by
  rcases h.2 with ⟨e, _⟩ | ⟨g', cap', cur, e, hb, hg, hn, hm, hs, ht⟩
  · cases e
  · injection e with e1 e2 e3
    injection e1 with e1
    injection e1 with e1
    subst e1; subst e3
    refine ⟨by simp, .inr ⟨g, cap, cur.setIfInBounds k (.int .i64 y), by rw [List.length_set], hb, ?_, by rw [List.length_set]; exact hn, hm, by simpa using hs, ?_⟩⟩
    · simp [World.setCell, Array.getElem?_modify, hg]
    · rw [List.length_set, Nat.mul_one]
      rw [Nat.mul_one] at ht
      rw [List.map_set, ← ht]
      simp [List.take_set]

/-- A table that is being built of rows of one's own, all in blocks from B on. -/
structure BD (B : Nat) (w : World) (v : Value) (l : List (List Int)) (A : Nat → Option Addr) (C : Nat → Nat) : Prop where
  own : w.ownsRow B 23 1 v l.length ((List.range l.length).map fun r => .slice (A r) (l.getD r []).length (C r))
  rows : ∀ r, r < l.length → 0 < (l.getD r []).length ∧ RW B w (.slice (A r) (l.getD r []).length (C r)) (l.getD r [])
  apart : ∀ r r', r < l.length → r' < l.length → A r = A r' → r = r'
theorem BD.start (w : World) (A : Nat → Option Addr) (C : Nat → Nat) {B : Nat} (hB : B ≤ w.heap.size) : BD B (w.alloc (.cells #[] 23)) (.slice (some ⟨w.heap.size, 0, none⟩) 0 0) [] A C :=
  ⟨World.ownsRow_made w #[] 0 hB (Nat.zero_le _) rfl, fun r hr => by simp at hr, fun r _ hr => by simp at hr⟩
theorem BD.kept {B : Nat} {w w' : World} {v : Value} {l : List (List Int)} {A : Nat → Option Addr} {C : Nat → Nat} {G : Nat} (h : BD B w v l A C) (hg : w.grownBy w' (some G)) (hG : G < B) : BD B w' v l A C :=
  ⟨World.ownsRow.kept h.own hg (by
      cases hv : v.ownBlock with
      | none => exact .inl rfl
      | some k => exact .inr (fun e => by injection e with e; have := (h.own.lt k hv).1; omega)),
    fun r hr => ⟨(h.rows r hr).1, (h.rows r hr).2.kept hg hG⟩, h.apart⟩
theorem BD.later {B : Nat} {w w' : World} {v : Value} {l : List (List Int)} {A : Nat → Option Addr} {C : Nat → Nat} (h : BD B w v l A C) (hs : w.Since w.heap.size w') : BD B w' v l A C := by
  have hg : w.grownBy w' none := grown_since none hs
  refine ⟨World.ownsRow.kept h.own hg ?_, fun r hr => ⟨(h.rows r hr).1, World.ownsRow.kept (h.rows r hr).2 hg ?_⟩, h.apart⟩
  · cases hv : v.ownBlock <;> simp
  · cases hv : (Value.slice (A r) (l.getD r []).length (C r)).ownBlock <;> simp
theorem BD.row {B : Nat} {w : World} {v : Value} {l : List (List Int)} {A : Nat → Option Addr} {C : Nat → Nat} (h : BD B w v l A C) {r : Nat} (hr : r < l.length) : ∃ g, A r = some ⟨g, 0, none⟩ ∧ B ≤ g ∧ RowB w g (l.getD r []) := by
  obtain ⟨g, cap, e, hb, hw⟩ := (h.rows r hr).2.form (h.rows r hr).1
  injection e with e _ _
  exact ⟨g, e, hb, hw⟩
theorem BD.top {B : Nat} {w : World} {v : Value} {l : List (List Int)} {A : Nat → Option Addr} {C : Nat → Nat} (h : BD B w v l A C) (h0 : 0 < l.length) : ∃ b cap cur, v = .slice (some ⟨b, 0, none⟩) l.length cap ∧ B ≤ b ∧ w.heap[b]? = some (.cells cur 23 (0, 0)) ∧ ∀ r, r < l.length → cur[r]? = some (.slice (A r) (l.getD r []).length (C r)) := by
  rcases h.own.2 with ⟨_, hn⟩ | ⟨g, cap, cur, e, hb, hg, hn, _, hs, ht⟩
  · omega
  · refine ⟨g, cap, cur, e, hb, hg, fun r hr => ?_⟩
    have h1 : (cur.toList.take (l.length * 1))[r]? = some (.slice (A r) (l.getD r []).length (C r)) := by rw [ht]; simp [hr]
    rw [List.getElem?_take] at h1
    have h2 : r < l.length ∧ cur[r]? = some (.slice (A r) (l.getD r []).length (C r)) := by simpa using h1
    exact h2.2
/-- One row more. -/
theorem BD.push {B : Nat} {w w1 : World} {v v' : Value} {l : List (List Int)} {A : Nat → Option Addr} {C : Nat → Nat} {x : List Int} {a : Option Addr} {cp : Nat} (h : BD B w v l A C) (h0 : 0 < x.length) (hx : RW B w (.slice a x.length cp) x)
    (hfresh : ∀ r, r < l.length → A r ≠ a)
    (hown : w1.ownsRow B 23 1 v' (l.length + 1) (((List.range l.length).map fun r => .slice (A r) (l.getD r []).length (C r)) ++ [.slice a x.length cp])) (hg : (w.alloc (.cells #[.slice a x.length cp] 23)).grownBy w1 v.ownBlock) :
    BD B w1 v' (l ++ [x]) (fun r => if r = l.length then a else A r) (fun r => if r = l.length then cp else C r) := by
  have hkeep : ∀ (u : Value) (y : List Int), 0 < y.length → RW B w u y → RW B w1 u y := by
    intro u y hy hu
    refine World.ownsRow.kept (World.ownsRow.alloc hu _) hg ?_
    obtain ⟨g, cap, e, _, cs, hc, _⟩ := hu.form hy
    subst e
    refine .inr fun e => ?_
    rcases h.own.2 with ⟨rfl, _⟩ | ⟨g', cap', cur, rfl, _, hgg, _⟩
    · cases e
    · injection e with e
      have e : g = g' := e
      rw [← e, hc] at hgg
      injection hgg with hgg
      injection hgg with _ e2 _
      exact absurd e2 (by decide)
  have e4 : ∀ q, q < l.length → (l ++ [x]).getD q [] = l.getD q [] := fun q hq => by simp [List.getD, List.getElem?_append_left hq]
  have e5 : (l ++ [x]).getD l.length [] = x := by simp [List.getD]
  have e6 : (l ++ [x]).length = l.length + 1 := by simp
  refine ⟨?_, fun r hr => ?_, fun r r' hr hr' e => ?_⟩
  · rw [e6, List.range_succ, List.map_append]
    have e2 : (List.range l.length).map (fun r => Value.slice (if r = l.length then a else A r) ((l ++ [x]).getD r []).length (if r = l.length then cp else C r)) = (List.range l.length).map fun r => .slice (A r) (l.getD r []).length (C r) := by
      refine List.map_congr_left fun r hr => ?_
      have hr' := List.mem_range.1 hr
      rw [if_neg (by omega), if_neg (by omega), e4 r hr']
    rw [e2]
    simpa [e5] using hown
  · by_cases e : r = l.length
    · subst e
      rw [e5, if_pos rfl, if_pos rfl]
      exact ⟨h0, hkeep _ _ h0 hx⟩
    · rw [e6] at hr
      rw [e4 r (by omega), if_neg e, if_neg e]
      exact ⟨(h.rows r (by omega)).1, hkeep _ _ (h.rows r (by omega)).1 (h.rows r (by omega)).2⟩
  · rw [e6] at hr hr'
    by_cases e1 : r = l.length <;> by_cases e2 : r' = l.length
    · omega
    · rw [if_pos e1, if_neg e2] at e
      exact absurd e.symm (hfresh r' (by omega))
    · rw [if_neg e1, if_pos e2] at e
      exact absurd e (hfresh r (by omega))
    · rw [if_neg e1, if_neg e2] at e
      exact h.apart r r' (by omega) (by omega) e
theorem BD.fresh {B : Nat} {w : World} {v : Value} {l : List (List Int)} {A : Nat → Option Addr} {C : Nat → Nat} (h : BD B w v l A C) {a : Option Addr} {g : Nat} (ha : a = some ⟨g, 0, none⟩) (hg : w.heap.size ≤ g) : ∀ r, r < l.length → A r ≠ a := by
  intro r hr e
  obtain ⟨g', e', _, hw⟩ := h.row hr
  have := hw.lt
  rw [e', ha] at e
  injection e with e; injection e with e
  omega
/-- A table that reads as a list of lists. -/
theorem BD.matR {B : Nat} {w : World} {v : Value} {l : List (List Int)} {A : Nat → Option Addr} {C : Nat → Nat} (h : BD B w v l A C) : ∃ a cap, v = .slice a l.length cap ∧ MatR w a l := by
  by_cases h0 : 0 < l.length
  · obtain ⟨b, cap, cur, e, _, hg, hc⟩ := h.top h0
    refine ⟨_, cap, e, fun _ => ⟨b, 0, A, C, rfl, fun r hr => ⟨?_, fun h1 => ?_⟩⟩⟩
    · rw [Nat.zero_add]; simp [World.cell?, hg, hc r hr]
    · obtain ⟨g, e, _, hw⟩ := h.row hr
      exact ⟨g, 0, e, fun i hi => by rw [Nat.zero_add]; exact hw.cell hi⟩
  · rcases h.own.2 with ⟨hv, hn⟩ | ⟨g, cap, cur, e, _⟩
    · exact ⟨none, 0, by rw [hv, hn], fun h => absurd h h0⟩
    · exact ⟨_, cap, e, fun h => absurd h h0⟩

end Go.Proofs.Ytdbomnhlgaohaaa
