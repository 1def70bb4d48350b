/- Tables that are built row by row with append. -/
import Derived.Test.YtdbomnhlgaohaaaMark
namespace Go.Proofs.Ytdbomnhlgaohaaa
open Go.RowKit Go.Deep

/-- Block G begins with the numbers x. -/
def RowB (w : World) (G : Nat) (x : List Int) : Prop := ∃ cs, w.heap[G]? = some (.cells cs 3 (0, 0)) ∧ ∀ i, i < x.length → cs[i]? = some (.int .i64 (x.getD i 0))
theorem RowB.of_block {w w' : World} {G : Nat} {x : List Int} (h : RowB w G x) (e : w'.heap[G]? = w.heap[G]?) : RowB w' G x := by
  obtain ⟨cs, h1, h2⟩ := h; exact ⟨cs, e.trans h1, h2⟩
theorem RowB.lt {w : World} {G : Nat} {x : List Int} (h : RowB w G x) : G < w.heap.size := by
  obtain ⟨cs, h1, _⟩ := h; exact (Array.getElem?_eq_some_iff.1 h1).1
theorem RowB.cell {w : World} {G : Nat} {x : List Int} (h : RowB w G x) {i : Nat} (hi : i < x.length) : w.cell? ⟨G, i, none⟩ = some (.int .i64 (x.getD i 0)) := by
  obtain ⟨cs, h1, h2⟩ := h; simp [World.cell?, h1, h2 i hi]
theorem RowB.frozen {w : World} {G : Nat} {x : List Int} (h : RowB w G x) (i : Nat) : w.frozen? ⟨G, i, none⟩ = false := by
  obtain ⟨cs, h1, h2⟩ := h; simp [World.frozen?, h1]
theorem RowB.of_rowIs {w : World} {G n : Nat} {x : List Int} {f : Nat → Value} (h : w.rowIs G 3 n f) (hx : x.length ≤ n) (hf : ∀ i, i < x.length → f i = .int .i64 (x.getD i 0)) : RowB w G x := by
  obtain ⟨cs, h1, _, h3⟩ := h; exact ⟨cs, h1, fun i hi => by rw [h3 i (by omega), hf i hi]⟩
theorem RowB.of_owns {w : World} {base n : Nat} {v : Value} {x : List Int} (h : w.ownsRow base 3 1 v n (x.map (Value.int .i64))) (h0 : 0 < x.length) : ∃ g cap, v = .slice (some ⟨g, 0, none⟩) n cap ∧ base ≤ g ∧ RowB w g x := by
  have hl : x.length = n := by have := h.1; simpa using this
  rcases h.2 with ⟨_, rfl⟩ | ⟨g, cap, cur, rfl, hb, hg, hn, _, hs, ht⟩
  · omega
  · refine ⟨g, cap, rfl, hb, cur, hg, fun i hi => ?_⟩
    have h1 : (cur.toList.take (n * 1))[i]? = some (.int .i64 (x.getD i 0)) := by rw [ht]; simp [List.getD, hi]
    rw [List.getElem?_take] at h1
    have h2 : i < n ∧ cur[i]? = some (.int .i64 (x.getD i 0)) := by simpa using h1
    exact h2.2

/-- A table that is being built: rows so far. -/
structure BT (w wr : World) (v : Value) (l : List (List Int)) (A : Nat → Option Addr) (C : Nat → Nat) : Prop where
  since : w.Since w.heap.size wr
  own : wr.ownsRow w.heap.size 23 1 v l.length ((List.range l.length).map fun r => .slice (A r) (l.getD r []).length (C r))
  rows : ∀ r, r < l.length → 0 < (l.getD r []).length → ∃ G, A r = some ⟨G, 0, none⟩ ∧ w.heap.size ≤ G ∧ RowB wr G (l.getD r [])
  apart : ∀ r r', r < l.length → r' < l.length → 0 < (l.getD r []).length → 0 < (l.getD r' []).length → A r = A r' → r = r'

theorem bt_start (w : World) (A : Nat → Option Addr) (C : Nat → Nat) (cs : Array Value) (hc : cs.size = 0) : BT w (w.alloc (.cells cs 23)) (.slice (some ⟨w.heap.size, 0, none⟩) 0 0) [] A C :=
  ⟨(World.Since.refl _ _).alloc (Nat.le_refl _) _, World.ownsRow_made w cs 0 (Nat.le_refl _) (Nat.zero_le _) (by simpa using hc), fun r hr => by simp at hr, fun r _ hr => by simp at hr⟩

theorem BT.later {w wr w1 : World} {v : Value} {l : List (List Int)} {A : Nat → Option Addr} {C : Nat → Nat} (h : BT w wr v l A C) (hs : wr.Since wr.heap.size w1) : BT w w1 v l A C := by
  refine ⟨h.since.trans (since_mono hs h.since.size), ?_, fun r hr h0 => ?_, h.apart⟩
  · exact h.own.kept (row := none) ⟨hs.os, hs.tape, hs.output, hs.size, fun k hk _ => hs.block k hk⟩ (by
      cases hv : v.ownBlock with
      | none => exact .inl rfl
      | some k => exact .inr (by simp))
  · obtain ⟨G, e, h1, h2⟩ := h.rows r hr h0
    exact ⟨G, e, h1, h2.of_block (hs.block _ h2.lt)⟩

/-- One row more. -/
theorem BT.push {w wr w1 : World} {v v' rv : Value} {l : List (List Int)} {A : Nat → Option Addr} {C : Nat → Nat} {x : List Int} {a : Option Addr} {cp : Nat} (h : BT w wr v l A C) (hrv : rv = .slice a x.length cp)
    (hrow : 0 < x.length → ∃ G, a = some ⟨G, 0, none⟩ ∧ w.heap.size ≤ G ∧ RowB wr G x)
    (hfresh : 0 < x.length → ∀ r, r < l.length → 0 < (l.getD r []).length → A r ≠ a)
    (hown : w1.ownsRow w.heap.size 23 1 v' (l.length + 1) (((List.range l.length).map fun r => .slice (A r) (l.getD r []).length (C r)) ++ [rv])) (hg : (wr.alloc (.cells #[rv] 23)).grownBy w1 v.ownBlock) :
    BT w w1 v' (l ++ [x]) (fun r => if r = l.length then a else A r) (fun r => if r = l.length then cp else C r) := by
  have hB : w.heap.size ≤ wr.heap.size := h.since.size
  have hkeep : ∀ G y, w.heap.size ≤ G → RowB wr G y → RowB w1 G y := by
    intro G y _ h2
    refine h2.of_block ?_
    have h3 : (wr.alloc (.cells #[rv] 23)).heap[G]? = wr.heap[G]? := Below.heap_alloc wr _ G h2.lt
    rw [← h3]
    refine hg.block G (by have := h2.lt; simp; omega) fun e => ?_
    rcases h.own.2 with ⟨rfl, _⟩ | ⟨g, cap, cur, rfl, _, hgg, _⟩
    · simp [Value.ownBlock] at e
    · simp [Value.ownBlock] at e
      subst e
      obtain ⟨cs, h4, _⟩ := h2
      rw [hgg] at h4
      simp at h4
  refine ⟨?_, ?_, fun r hr h0 => ?_, fun r r' hr hr' h0 h0' e => ?_⟩
  · exact (h.since.alloc hB _).grown hg (by simp; omega) (fun k e => (h.own.lt k e).1)
  · have e1 : (l ++ [x]).length = l.length + 1 := by simp
    rw [e1, List.range_succ, List.map_append]
    have e2 : (List.range l.length).map (fun r => Value.slice (if r = l.length then a else A r) ((l ++ [x]).getD r []).length (if r = l.length then cp else C r)) = (List.range l.length).map fun r => .slice (A r) (l.getD r []).length (C r) := by
      refine List.map_congr_left fun r hr => ?_
      have hr' := List.mem_range.1 hr
      rw [if_neg (by omega), if_neg (by omega)]
      simp [List.getD, List.getElem?_append_left hr']
    rw [e2]
    simpa [List.getD, hrv] using hown
  · by_cases e : r = l.length
    · subst e
      have e3 : (l ++ [x]).getD l.length [] = x := by simp [List.getD]
      rw [e3] at h0 ⊢
      obtain ⟨G, e4, h1, h2⟩ := hrow h0
      exact ⟨G, by rw [if_pos rfl]; exact e4, h1, hkeep G _ h1 h2⟩
    · have hr' : r < l.length := by simp at hr; omega
      have e3 : (l ++ [x]).getD r [] = l.getD r [] := by simp [List.getD, List.getElem?_append_left hr']
      rw [e3] at h0 ⊢
      obtain ⟨G, e4, h1, h2⟩ := h.rows r hr' h0
      exact ⟨G, by rw [if_neg e]; exact e4, h1, hkeep G _ h1 h2⟩

  · have e4 : ∀ q, q < l.length → (l ++ [x]).getD q [] = l.getD q [] := fun q hq => by simp [List.getD, List.getElem?_append_left hq]
    have e5 : (l ++ [x]).getD l.length [] = x := by simp [List.getD]
    simp at hr hr'
    by_cases e1 : r = l.length <;> by_cases e2 : r' = l.length
    · omega
    · rw [if_pos e1, if_neg e2] at e
      rw [e1, e5] at h0
      rw [e4 r' (by omega)] at h0'
      exact absurd e.symm (hfresh h0 r' (by omega) h0')
    · rw [if_neg e1, if_pos e2] at e
      rw [e2, e5] at h0'
      rw [e4 r (by omega)] at h0
      exact absurd e (hfresh h0' r (by omega) h0)
    · rw [if_neg e1, if_neg e2] at e
      rw [e4 r (by omega)] at h0
      rw [e4 r' (by omega)] at h0'
      exact h.apart r r' (by omega) (by omega) h0 h0' e

/-- A row in a block that is newer than all rows so far. -/
theorem BT.fresh {w wo : World} {v : Value} {l : List (List Int)} {A : Nat → Option Addr} {C : Nat → Nat} {a : Option Addr} {G : Nat} (h : BT w wo v l A C) (ha : a = some ⟨G, 0, none⟩) (hG : wo.heap.size ≤ G) :
    ∀ r, r < l.length → 0 < (l.getD r []).length → A r ≠ a := by
  intro r hr h0 e
  obtain ⟨G', e', _, h2⟩ := h.rows r hr h0
  have := h2.lt
  rw [e', ha] at e
  injection e with e; injection e with e
  omega

theorem BT.slice {w wr : World} {v : Value} {l : List (List Int)} {A : Nat → Option Addr} {C : Nat → Nat} (h : BT w wr v l A C) : ∃ a cap, v = .slice a l.length cap ∧ InT w.heap.size wr.heap.size wr a l := by
  rcases h.own.2 with ⟨hv, h0⟩ | ⟨g, cap, cur, rfl, hb, hg, hn, _, hs, ht⟩
  · have : l = [] := List.length_eq_zero_iff.1 h0
    subst this
    exact ⟨none, 0, hv, InT.nil _ _ _ _⟩
  · refine ⟨_, cap, rfl, fun _ => ?_⟩
    refine ⟨g, 0, A, fun r => ((A r).getD default).block, fun _ => 0, C, rfl, ⟨hb, (Array.getElem?_eq_some_iff.1 hg).1⟩, fun r hr => ⟨?_, fun h0 => ?_⟩⟩
    · have h1 : (cur.toList.take (l.length * 1))[r]? = some (.slice (A r) (l.getD r []).length (C r)) := by rw [ht]; simp [hr]
      rw [List.getElem?_take] at h1
      have h2 : cur[r]? = some (.slice (A r) (l.getD r []).length (C r)) := by
        have h3 : r < l.length ∧ cur[r]? = some (.slice (A r) (l.getD r []).length (C r)) := by simpa using h1
        exact h3.2
      simp [World.cell?, hg, h2]
    · obtain ⟨G, e, h1, h2⟩ := h.rows r hr h0
      have e' : ((A r).getD default).block = G := by rw [e]; rfl
      refine ⟨by show A r = some ⟨((A r).getD default).block, 0, none⟩; rw [e', e], by show w.heap.size ≤ ((A r).getD default).block ∧ ((A r).getD default).block < wr.heap.size; rw [e']; exact ⟨h1, h2.lt⟩, fun i hi => ?_⟩
      show wr.cell? ⟨((A r).getD default).block, 0 + i, none⟩ = _
      rw [e', Nat.zero_add]; exact h2.cell hi

theorem BT.ownT {w wr : World} {v : Value} {l : List (List Int)} {A : Nat → Option Addr} {C : Nat → Nat} (h : BT w wr v l A C) : ∃ a cap, v = .slice a l.length cap ∧ OwnT w.heap.size wr.heap.size wr a l := by
  rcases h.own.2 with ⟨hv, h0⟩ | ⟨g, cap, cur, rfl, hb, hg, hn, _, hs, ht⟩
  · have : l = [] := List.length_eq_zero_iff.1 h0
    subst this
    exact ⟨none, 0, hv, OwnT.nil _ _ _ _⟩
  · refine ⟨_, cap, rfl, fun _ => ?_⟩
    refine ⟨g, A, fun r => ((A r).getD default).block, C, rfl, ⟨hb, (Array.getElem?_eq_some_iff.1 hg).1⟩, fun r hr => ⟨?_, fun h0 => ?_⟩, fun r r' hr hr' h0 h0' e => ?_⟩
    · have h1 : (cur.toList.take (l.length * 1))[r]? = some (.slice (A r) (l.getD r []).length (C r)) := by rw [ht]; simp [hr]
      rw [List.getElem?_take] at h1
      have h2 : cur[r]? = some (.slice (A r) (l.getD r []).length (C r)) := by
        have h3 : r < l.length ∧ cur[r]? = some (.slice (A r) (l.getD r []).length (C r)) := by simpa using h1
        exact h3.2
      simp [World.cell?, hg, h2]
    · obtain ⟨G, e, h1, h2⟩ := h.rows r hr h0
      have e' : ((A r).getD default).block = G := by rw [e]; rfl
      refine ⟨by show A r = some ⟨((A r).getD default).block, 0, none⟩; rw [e', e], ?_, fun i hi => ?_⟩
      · show w.heap.size ≤ ((A r).getD default).block ∧ ((A r).getD default).block < wr.heap.size ∧ ((A r).getD default).block ≠ g
        rw [e']
        refine ⟨h1, h2.lt, fun e2 => ?_⟩
        subst e2
        obtain ⟨cs, h4, _⟩ := h2
        rw [hg] at h4
        simp at h4
      · show wr.cell? ⟨((A r).getD default).block, i, none⟩ = _ ∧ wr.frozen? ⟨((A r).getD default).block, i, none⟩ = false
        rw [e']; exact ⟨h2.cell hi, h2.frozen i⟩
    · obtain ⟨G, e1, _, _⟩ := h.rows r hr h0
      obtain ⟨G', e2, _, _⟩ := h.rows r' hr' h0'
      refine h.apart r r' hr hr' h0 h0' ?_
      have e' : ((A r).getD default).block = ((A r').getD default).block := e
      rw [e1, e2] at e' ⊢
      have e3 : G = G' := e'
      rw [e3]

/-- A row that is being built. -/
structure RB (wo wr : World) (v : Value) (x : List Int) : Prop where
  since : wo.Since wo.heap.size wr
  own : wr.ownsRow wo.heap.size 3 1 v x.length (x.map (Value.int .i64))
theorem rb_start (w : World) (cs : Array Value) (hc : cs.size = 0) : RB w (w.alloc (.cells cs 3)) (.slice (some ⟨w.heap.size, 0, none⟩) 0 0) [] :=
  ⟨(World.Since.refl _ _).alloc (Nat.le_refl _) _, World.ownsRow_made w cs 0 (Nat.le_refl _) (Nat.zero_le _) (by simpa using hc)⟩
theorem RB.push {wo wr w1 : World} {v v' : Value} {x : List Int} {y : Int} (h : RB wo wr v x) (hown : w1.ownsRow wo.heap.size 3 1 v' (x.length + 1) (x.map (Value.int .i64) ++ [.int .i64 y])) (hg : (wr.alloc (.cells #[.int .i64 y] 3)).grownBy w1 v.ownBlock) :
    RB wo w1 v' (x ++ [y]) := by
  have hB : wo.heap.size ≤ wr.heap.size := h.since.size
  refine ⟨(h.since.alloc hB _).grown hg (by simp; omega) (fun k e => (h.own.lt k e).1), ?_⟩
  simpa using hown
theorem RB.drewN {wo wr : World} {v : Value} {x : List Int} (h : RB wo wr v x) (n : Nat) : RB wo (wr.drewN n) v x := ⟨since_drewN h.since n, h.own⟩
theorem RB.slice {wo wr : World} {v : Value} {x : List Int} (h : RB wo wr v x) : ∃ a cp, v = .slice a x.length cp ∧ (0 < x.length → ∃ G, a = some ⟨G, 0, none⟩ ∧ wo.heap.size ≤ G ∧ RowB wr G x) := by
  by_cases h0 : 0 < x.length
  · obtain ⟨g, cap, e, hb, hr⟩ := RowB.of_owns h.own h0
    exact ⟨_, cap, e, fun _ => ⟨g, rfl, hb, hr⟩⟩
  · rcases h.own.2 with ⟨hv, hn⟩ | ⟨g, cap, cur, hv, _⟩
    · exact ⟨none, 0, by rw [hv, hn], fun h => absurd h h0⟩
    · exact ⟨_, cap, hv, fun h => absurd h h0⟩

theorem cell_one_new (w : World) (x : Value) (t : TypeId) : ∀ j u, [x][j]? = some u → (w.alloc (.cells #[x] t)).cell? ((⟨w.heap.size, 0, none⟩ : Addr).add j) = some u := by
  intro j u hj
  match j, hj with
  | 0, hj => simp at hj; subst hj; exact (cell_new_l w x t).1
  | j + 1, hj => simp at hj

theorem cell_one_at (w : World) (x : Value) (t : TypeId) {b : Nat} (hb : w.heap.size = b) : ∀ j u, [x][j]? = some u → (w.alloc (.cells #[x] t)).cell? ((⟨b, 0, none⟩ : Addr).add j) = some u := by
  subst hb; exact cell_one_new w x t

/-- The cells of the outer row may be written. -/
def FreeTop (w : World) (a : Option Addr) (n : Nat) : Prop := ∀ b r, a = some ⟨b, 0, none⟩ → r < n → w.frozen? ⟨b, r, none⟩ = false
theorem BT.free {w wr : World} {v : Value} {l : List (List Int)} {A : Nat → Option Addr} {C : Nat → Nat} (h : BT w wr v l A C) {a : Option Addr} {n cap : Nat} (hv : v = .slice a n cap) : FreeTop wr a n := by
  rintro b r rfl _
  rcases h.own.2 with ⟨e, _⟩ | ⟨g, c, cur, e, _, hg, _⟩
  · rw [hv] at e; cases e
  · rw [hv] at e
    injection e with e
    injection e with e
    injection e with e
    subst e
    simp [World.frozen?, hg]

end Go.Proofs.Ytdbomnhlgaohaaa
