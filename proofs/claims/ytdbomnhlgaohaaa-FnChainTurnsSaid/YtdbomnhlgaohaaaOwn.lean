/- Tables that a call has made in blocks of its own: what is said of them, how they stay, and what marking them does. -/
import Derived.Test.YtdbomnhlgaohaaaTabInImpl
namespace Go.Proofs.Ytdbomnhlgaohaaa
open Go.RowKit Go.Deep

/-- Outside the blocks from lo to hi nothing that was there has turned. -/
structure Frame (lo hi : Nat) (w w' : World) : Prop where
  os : w'.os = w.os
  tape : w'.tape = w.tape
  output : w'.output = w.output
  size : w.heap.size ≤ w'.heap.size
  block : ∀ k, k < w.heap.size → k < lo ∨ hi ≤ k → w'.heap[k]? = w.heap[k]?

theorem frame_since {w w' : World} (h : w.Since w.heap.size w') (lo hi : Nat) : Frame lo hi w w' := ⟨h.os, h.tape, h.output, h.size, fun k hk _ => h.block k hk⟩
theorem Frame.since {lo hi : Nat} {w w' : World} (h : Frame lo hi w w') {B : Nat} (hB : B ≤ lo) (hs : B ≤ w.heap.size) : w.Since B w' := ⟨h.os, h.tape, h.output, h.size, fun k hk => h.block k (by omega) (.inl (by omega))⟩
theorem Frame.trans {lo hi : Nat} {a b c : World} (h : Frame lo hi a b) (k : Frame lo hi b c) : Frame lo hi a c :=
  ⟨k.os.trans h.os, k.tape.trans h.tape, k.output.trans h.output, Nat.le_trans h.size k.size, fun i hi' ho => (k.block i (Nat.lt_of_lt_of_le hi' h.size) ho).trans (h.block i hi' ho)⟩
theorem Frame.refl (lo hi : Nat) (w : World) : Frame lo hi w w := ⟨rfl, rfl, rfl, Nat.le_refl _, fun _ _ _ => rfl⟩
theorem Frame.cell {lo hi : Nat} {w w' : World} (h : Frame lo hi w w') {p : Addr} {v : Value} (hc : w.cell? p = some v) (ho : p.block < lo ∨ hi ≤ p.block) : w'.cell? p = some v :=
  (World.cell?_of_block (h.block _ (World.block_lt_of_cell? _ _ hc) ho)).trans hc
theorem Frame.frozen {lo hi : Nat} {w w' : World} (h : Frame lo hi w w') {p : Addr} {v : Value} (hc : w.cell? p = some v) (ho : p.block < lo ∨ hi ≤ p.block) : w'.frozen? p = w.frozen? p :=
  World.frozen?_of_block (h.block _ (World.block_lt_of_cell? _ _ hc) ho)

/-- A table that reads as l, all of it in the blocks from lo to hi. -/
def InT (lo hi : Nat) (w : World) (a : Option Addr) (l : List (List Int)) : Prop :=
  0 < l.length → ∃ (b o : Nat) (A : Nat → Option Addr) (G O C : Nat → Nat), a = some ⟨b, o, none⟩ ∧ (lo ≤ b ∧ b < hi) ∧
    ∀ r, r < l.length → w.cell? ⟨b, o + r, none⟩ = some (.slice (A r) (l.getD r []).length (C r)) ∧
      (0 < (l.getD r []).length → A r = some ⟨G r, O r, none⟩ ∧ (lo ≤ G r ∧ G r < hi) ∧ ∀ i, i < (l.getD r []).length → w.cell? ⟨G r, O r + i, none⟩ = some (.int .i64 ((l.getD r []).getD i 0)))

/-- .. and each row in a block of its own that may be written. -/
def OwnT (lo hi : Nat) (w : World) (a : Option Addr) (l : List (List Int)) : Prop :=
  0 < l.length → ∃ (b : Nat) (A : Nat → Option Addr) (G C : Nat → Nat), a = some ⟨b, 0, none⟩ ∧ (lo ≤ b ∧ b < hi) ∧
    (∀ r, r < l.length → w.cell? ⟨b, r, none⟩ = some (.slice (A r) (l.getD r []).length (C r)) ∧
      (0 < (l.getD r []).length → A r = some ⟨G r, 0, none⟩ ∧ (lo ≤ G r ∧ G r < hi ∧ G r ≠ b) ∧ ∀ i, i < (l.getD r []).length → w.cell? ⟨G r, i, none⟩ = some (.int .i64 ((l.getD r []).getD i 0)) ∧ w.frozen? ⟨G r, i, none⟩ = false)) ∧
    (∀ r r', r < l.length → r' < l.length → 0 < (l.getD r []).length → 0 < (l.getD r' []).length → G r = G r' → r = r')

theorem OwnT.inT {lo hi : Nat} {w : World} {a : Option Addr} {l : List (List Int)} (h : OwnT lo hi w a l) : InT lo hi w a l := by
  intro h0
  obtain ⟨b, A, G, C, e, hb, hr, _⟩ := h h0
  refine ⟨b, 0, A, G, fun _ => 0, C, e, hb, fun r hrl => ?_⟩
  obtain ⟨h1, h2⟩ := hr r hrl
  refine ⟨by rw [Nat.zero_add]; exact h1, fun h3 => ?_⟩
  obtain ⟨g1, g2, g3⟩ := h2 h3
  exact ⟨g1, ⟨g2.1, g2.2.1⟩, fun i hi' => by rw [Nat.zero_add]; exact (g3 i hi').1⟩

theorem InT.matR {lo hi : Nat} {w : World} {a : Option Addr} {l : List (List Int)} (h : InT lo hi w a l) : MatR w a l := by
  intro h0
  obtain ⟨b, o, A, G, O, C, e, hb, hr⟩ := h h0
  refine ⟨b, o, A, C, e, fun r hrl => ⟨(hr r hrl).1, fun h3 => ?_⟩⟩
  obtain ⟨g1, _, g3⟩ := (hr r hrl).2 h3
  exact ⟨G r, O r, g1, g3⟩
theorem OwnT.matR {lo hi : Nat} {w : World} {a : Option Addr} {l : List (List Int)} (h : OwnT lo hi w a l) : MatR w a l := h.inT.matR

theorem InT.nil (lo hi : Nat) (w : World) (a : Option Addr) : InT lo hi w a [] := fun h => by simp at h
theorem OwnT.nil (lo hi : Nat) (w : World) (a : Option Addr) : OwnT lo hi w a [] := fun h => by simp at h

theorem InT.mono {lo hi lo' hi' : Nat} {w : World} {a : Option Addr} {l : List (List Int)} (h : InT lo hi w a l) (h1 : lo' ≤ lo) (h2 : hi ≤ hi') : InT lo' hi' w a l := by
  intro h0
  obtain ⟨b, o, A, G, O, C, e, hb, hr⟩ := h h0
  exact ⟨b, o, A, G, O, C, e, by omega, fun r hrl => ⟨(hr r hrl).1, fun h3 => by obtain ⟨g1, g2, g3⟩ := (hr r hrl).2 h3; exact ⟨g1, by omega, g3⟩⟩⟩
theorem OwnT.mono {lo hi lo' hi' : Nat} {w : World} {a : Option Addr} {l : List (List Int)} (h : OwnT lo hi w a l) (h1 : lo' ≤ lo) (h2 : hi ≤ hi') : OwnT lo' hi' w a l := by
  intro h0
  obtain ⟨b, A, G, C, e, hb, hr, hd⟩ := h h0
  exact ⟨b, A, G, C, e, by omega, fun r hrl => ⟨(hr r hrl).1, fun h3 => by obtain ⟨g1, g2, g3⟩ := (hr r hrl).2 h3; exact ⟨g1, by omega, g3⟩⟩, hd⟩

theorem InT.frame {lo hi lo' hi' : Nat} {w w' : World} {a : Option Addr} {l : List (List Int)} (h : InT lo hi w a l) (hf : Frame lo' hi' w w') (hd : hi ≤ lo' ∨ hi' ≤ lo) : InT lo hi w' a l := by
  intro h0
  obtain ⟨b, o, A, G, O, C, e, hb, hr⟩ := h h0
  refine ⟨b, o, A, G, O, C, e, hb, fun r hrl => ⟨hf.cell (hr r hrl).1 (by show b < lo' ∨ hi' ≤ b; omega), fun h3 => ?_⟩⟩
  obtain ⟨g1, g2, g3⟩ := (hr r hrl).2 h3
  exact ⟨g1, g2, fun i hi1 => hf.cell (g3 i hi1) (by show G r < lo' ∨ hi' ≤ G r; omega)⟩
theorem OwnT.frame {lo hi lo' hi' : Nat} {w w' : World} {a : Option Addr} {l : List (List Int)} (h : OwnT lo hi w a l) (hf : Frame lo' hi' w w') (hd : hi ≤ lo' ∨ hi' ≤ lo) : OwnT lo hi w' a l := by
  intro h0
  obtain ⟨b, A, G, C, e, hb, hr, hdd⟩ := h h0
  refine ⟨b, A, G, C, e, hb, fun r hrl => ⟨hf.cell (hr r hrl).1 (by show b < lo' ∨ hi' ≤ b; omega), fun h3 => ?_⟩, hdd⟩
  obtain ⟨g1, g2, g3⟩ := (hr r hrl).2 h3
  exact ⟨g1, g2, fun i hi1 => ⟨hf.cell (g3 i hi1).1 (by show G r < lo' ∨ hi' ≤ G r; omega), (hf.frozen (g3 i hi1).1 (by show G r < lo' ∨ hi' ≤ G r; omega)).trans (g3 i hi1).2⟩⟩
theorem InT.since {lo hi : Nat} {w w' : World} {a : Option Addr} {l : List (List Int)} (h : InT lo hi w a l) (hs : w.Since w.heap.size w') : InT lo hi w' a l := h.frame (frame_since hs hi hi) (.inl (Nat.le_refl _))
theorem OwnT.since {lo hi : Nat} {w w' : World} {a : Option Addr} {l : List (List Int)} (h : OwnT lo hi w a l) (hs : w.Since w.heap.size w') : OwnT lo hi w' a l := h.frame (frame_since hs hi hi) (.inl (Nat.le_refl _))

theorem Made.ownT {N n : Nat} {w wr : World} {l : List (List Int)} (h : Made N n w wr l) (hn : l.length = n) : OwnT N wr.heap.size wr (some ⟨N, 0, none⟩) l := by
  intro h0
  have hsz := h.size
  refine ⟨N, fun r => some ⟨N + 1 + r, 0, none⟩, fun r => N + 1 + r, fun r => (l.getD r []).length, rfl, by omega, fun r hr => ⟨?_, fun _ => ⟨rfl, by show N ≤ N + 1 + r ∧ N + 1 + r < wr.heap.size ∧ N + 1 + r ≠ N; omega, fun i hi => ⟨(h.row r (by omega)).cell hi, (h.row r (by omega)).frozen i⟩⟩⟩, fun r r' _ _ _ _ e => by have e' : N + 1 + r = N + 1 + r' := e; omega⟩
  have := h.top.cell (i := r) hr
  rw [if_pos (by omega)] at this
  exact this

/-- The marks of a row: k, k + 1, .. -/
def markRow (k : Int) (n : Nat) : List Int := (List.range n).map fun i : Nat => k + (i : Int)
theorem markRow_length (k : Int) (n : Nat) : (markRow k n).length = n := by simp [markRow]
theorem markRow_get (k : Int) (n i : Nat) (h : i < n) : (markRow k n).getD i 0 = k + i := by simp [markRow, List.getD, h]
/-- The marks of a table. -/
def markT (k : Int) (l : List (List Int)) : List (List Int) := (List.range l.length).map fun r => markRow (k + (sumTo l r : Nat)) (l.getD r []).length
theorem markT_length (k : Int) (l : List (List Int)) : (markT k l).length = l.length := by simp [markT]
theorem markT_get (k : Int) (l : List (List Int)) (r : Nat) (h : r < l.length) : (markT k l).getD r [] = markRow (k + (sumTo l r : Nat)) (l.getD r []).length := by simp [markT, List.getD, h]
theorem markT_len (k : Int) (l : List (List Int)) (r : Nat) (h : r < l.length) : ((markT k l).getD r []).length = (l.getD r []).length := by rw [markT_get k l r h, markRow_length]

/-- One block alone has turned, and its cells hold the first j marks. -/
structure Marked (g m : Nat) (k : Int) (j : Nat) (f : Nat → Int) (w w' : World) : Prop where
  os : w'.os = w.os
  tape : w'.tape = w.tape
  output : w'.output = w.output
  size : w'.heap.size = w.heap.size
  block : ∀ b, b ≠ g → w'.heap[b]? = w.heap[b]?
  cell : ∀ i, i < m → w'.cell? ⟨g, i, none⟩ = some (.int .i64 (if i < j then k + i else f i))
  frozen : ∀ i, i < m → w'.frozen? ⟨g, i, none⟩ = false

theorem Marked.step {g m : Nat} {k : Int} {j : Nat} {f : Nat → Int} {w w' : World} (h : Marked g m k j f w w') (hj : j < m) : Marked g m k (j + 1) f w (w'.setCell ⟨g, j, none⟩ (.int .i64 (k + j))) := by
  refine ⟨h.os, h.tape, h.output, by simp [h.size], fun b hb => (Below.heap_setCell _ _ _ _ (by exact hb)).trans (h.block b hb), fun i hi => ?_, fun i hi => by rw [World.frozen?_setCell]; exact h.frozen i hi⟩
  by_cases e : i = j
  · subst e
    rw [World.cell?_setCell_same' _ _ _ (by rw [h.cell i hj]; rfl), if_pos (by omega)]
  · rw [World.cell?_setCell_other _ _ _ _ (fun e' => e (by injection e' with _ e2; exact e2.symm)), h.cell i hi]
    by_cases hlt : i < j
    · rw [if_pos hlt, if_pos (by omega)]
    · rw [if_neg hlt, if_neg (by omega)]

set_option maxHeartbeats 1000000 in
/-- A row of one's own is marked. -/
theorem markIntS_any (a : Option Addr) (g cap m : Nat) (k : Int) (x : List Int) (w : World) (hx : x.length = m) (h0 : 0 ≤ k) (hk : k + m ≤ 4000000) (hc : 0 < m → a = some ⟨g, 0, none⟩)
    (hcell : ∀ i, i < m → w.cell? ⟨g, i, none⟩ = some (.int .i64 (x.getD i 0))) (hfz : ∀ i, i < m → w.frozen? ⟨g, i, none⟩ = false) :
    Calls Try.prog 36 #[.slice a m cap, .int .i64 k] w fun e w' => e = .returned (.int .i64 (k + m)) ∧ Marked g m k m (fun i => x.getD i 0) w w' := by
  have hst : Marked g m k 0 (fun i => x.getD i 0) w w := ⟨rfl, rfl, rfl, rfl, fun _ _ => rfl, fun i hi => by rw [if_neg (by omega)]; exact hcell i hi, hfz⟩
  have HX := Lib.hid hx
  have HC := Lib.hid hc
  clear hcell hfz hx hc
  go_enter Try.func36, Try.ntmps36
  go_wp2
  go_loopg [1, 5] m (fun gg q i wr => ∃ j : Nat, j ≤ m ∧ gg = m - j ∧ i = .int .i64 j ∧ q = .int .i64 (k + j) ∧ Marked g m k j (fun i => x.getD i 0) w wr)
  case atStart => exact ⟨0, Nat.zero_le _, rfl, rfl, by simp, hst⟩
  case round =>
    obtain ⟨j, hj, rfl, rfl, rfl, hM⟩ := hrel
    clear hst
    by_cases hlt : j < m
    · have ha := HC.out (by omega)
      subst ha
      have hcj := hM.cell j hlt
      rw [if_neg (by omega)] at hcj
      obtain ⟨y, hy⟩ : ∃ y, y = x.getD j 0 := ⟨_, rfl⟩
      rw [← hy] at hcj
      have hfj := hM.frozen j hlt
      clear hy
      go_wp2
      go_roundg (m - (j + 1))
      case measure => omega
      case rel => exact ⟨j + 1, by omega, rfl, by go_num, by rw [show k + ((j + 1 : Nat) : Int) = k + j + 1 by omega], hM.step hlt⟩
    · have : j = m := by omega
      subst this
      go_wp2
      go_ret
      exact ⟨rfl, hM⟩

end Go.Proofs.Ytdbomnhlgaohaaa
