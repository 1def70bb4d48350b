/- Rows of chips in a block of one's own: what is said of them, how they stay and grow. -/
import Derived.Test.YtbclpbgomkfabaaChipP
import Derived.Test.YtbclpbgomkfabaaOwn
import Derived.Deep.AppendLies
namespace Go.Proofs.Ytbclpbgomkfabaa
open Go.RowKit Go.Deep

theorem infoChip : (Try.prog.info? 36).map (fun i => (i.size, i.bytes)) = some (3, 32) := by kernel_rfl
theorem zeroChip : ((Try.prog.info? 36).bind (·.zero)) = some (.agg #[.string ⟨#[]⟩, .int .i64 0, .int .i64 0]) := by kernel_rfl
theorem infoChip_parts : ∃ i, Try.prog.info? 36 = some i ∧ i.zero = some (.agg #[.string ⟨#[]⟩, .int .i64 0, .int .i64 0]) ∧ i.size = 3 ∧ i.bytes = 32 := by
  have h := infoChip
  have hz := zeroChip
  cases e : Try.prog.info? 36 with
  | none => rw [e] at h; cases h
  | some i =>
    rw [e] at h hz
    simp only [Option.map_some, Option.some.injEq, Prod.mk.injEq] at h
    exact ⟨i, rfl, hz, h.1, h.2⟩

/-- The cells of chips. -/
def ch3 (cs : List RC) : List Value := cs.flatMap fun c => [.string c.k, .int .i64 c.l, .int .i64 c.w]
theorem ch3_length : ∀ cs, (ch3 cs).length = cs.length * 3
  | [] => rfl
  | c :: cs => by
    have := ch3_length cs
    unfold ch3 at this ⊢
    rw [List.flatMap_cons, List.length_append, this, List.length_cons]
    simp only [List.length_cons, List.length_nil]
    omega
theorem ch3_app (xs ys : List RC) : ch3 (xs ++ ys) = ch3 xs ++ ch3 ys := by simp [ch3]
theorem ch3_snoc (cs : List RC) (c : RC) : ch3 (cs ++ [c]) = ch3 cs ++ [.string c.k, .int .i64 c.l, .int .i64 c.w] := by simp [ch3]
theorem ch3_get : ∀ (cs : List RC) (i : Nat), i < cs.length → (ch3 cs)[i * 3]? = some (.string (cs.getD i rc0).k) ∧ (ch3 cs)[i * 3 + 1]? = some (.int .i64 (cs.getD i rc0).l) ∧ (ch3 cs)[i * 3 + 2]? = some (.int .i64 (cs.getD i rc0).w)
  | [], i, h => by simp at h
  | c :: cs, 0, _ => ⟨rfl, rfl, rfl⟩
  | c :: cs, i + 1, h => by
    have := ch3_get cs i (by simp at h; omega)
    rw [show (i + 1) * 3 = i * 3 + 3 by omega]
    exact this
theorem ch3_one (cs : List RC) : ∀ u ∈ ch3 cs, u.oneCell' = true := fun u hu => by
  obtain ⟨c, _, hc⟩ := List.mem_flatMap.1 hu
  simp at hc
  rcases hc with rfl | rfl | rfl <;> rfl

/-- Chips that read as cs, in the blocks from lo to hi. -/
def InC (lo hi : Nat) (w : World) (a : Option Addr) (cs : List RC) : Prop :=
  0 < cs.length → ∃ g o : Nat, a = some ⟨g, o, none⟩ ∧ (lo ≤ g ∧ g < hi) ∧ ∀ i, i < cs.length → w.cell? ⟨g, o + i * 3, none⟩ = some (.string (cs.getD i rc0).k) ∧ w.cell? ⟨g, o + i * 3 + 1, none⟩ = some (.int .i64 (cs.getD i rc0).l) ∧ w.cell? ⟨g, o + i * 3 + 2, none⟩ = some (.int .i64 (cs.getD i rc0).w)
/-- .. in a block of its own that may be written. -/
def OwnC (lo hi : Nat) (w : World) (a : Option Addr) (cs : List RC) : Prop :=
  0 < cs.length → ∃ g : Nat, a = some ⟨g, 0, none⟩ ∧ (lo ≤ g ∧ g < hi) ∧ ∀ i, i < cs.length → (w.cell? ⟨g, i * 3, none⟩ = some (.string (cs.getD i rc0).k) ∧ w.cell? ⟨g, i * 3 + 1, none⟩ = some (.int .i64 (cs.getD i rc0).l) ∧ w.cell? ⟨g, i * 3 + 2, none⟩ = some (.int .i64 (cs.getD i rc0).w)) ∧
    (w.frozen? ⟨g, i * 3, none⟩ = false ∧ w.frozen? ⟨g, i * 3 + 1, none⟩ = false ∧ w.frozen? ⟨g, i * 3 + 2, none⟩ = false)
theorem OwnC.inC {lo hi : Nat} {w : World} {a : Option Addr} {x : List RC} (h : OwnC lo hi w a x) : InC lo hi w a x := fun h0 => by
  obtain ⟨g, e, hg, hc⟩ := h h0
  exact ⟨g, 0, e, hg, fun i hi => by rw [Nat.zero_add]; exact (hc i hi).1⟩
theorem InC.chips {lo hi : Nat} {w : World} {a : Option Addr} {x : List RC} (h : InC lo hi w a x) : ChipsR w a x := fun h0 => by
  obtain ⟨g, o, e, _, hc⟩ := h h0
  exact ⟨g, o, e, hc⟩
theorem OwnC.chips {lo hi : Nat} {w : World} {a : Option Addr} {x : List RC} (h : OwnC lo hi w a x) : ChipsR w a x := h.inC.chips
theorem InC.nil (lo hi : Nat) (w : World) (a : Option Addr) : InC lo hi w a [] := fun h => by simp at h
theorem OwnC.nil (lo hi : Nat) (w : World) (a : Option Addr) : OwnC lo hi w a [] := fun h => by simp at h
theorem InC.mono {lo hi lo' hi' : Nat} {w : World} {a : Option Addr} {x : List RC} (h : InC lo hi w a x) (h1 : lo' ≤ lo) (h2 : hi ≤ hi') : InC lo' hi' w a x := fun h0 => by
  obtain ⟨g, o, e, hg, hc⟩ := h h0
  exact ⟨g, o, e, by omega, hc⟩
theorem OwnC.mono {lo hi lo' hi' : Nat} {w : World} {a : Option Addr} {x : List RC} (h : OwnC lo hi w a x) (h1 : lo' ≤ lo) (h2 : hi ≤ hi') : OwnC lo' hi' w a x := fun h0 => by
  obtain ⟨g, e, hg, hc⟩ := h h0
  exact ⟨g, e, by omega, hc⟩
theorem InC.frame {lo hi lo' hi' : Nat} {w w' : World} {a : Option Addr} {x : List RC} (h : InC lo hi w a x) (hf : Frame lo' hi' w w') (hd : hi ≤ lo' ∨ hi' ≤ lo) : InC lo hi w' a x := fun h0 => by
  obtain ⟨g, o, e, hg, hc⟩ := h h0
  exact ⟨g, o, e, hg, fun i hi1 => ⟨hf.cell (hc i hi1).1 (by show g < lo' ∨ hi' ≤ g; omega), hf.cell (hc i hi1).2.1 (by show g < lo' ∨ hi' ≤ g; omega), hf.cell (hc i hi1).2.2 (by show g < lo' ∨ hi' ≤ g; omega)⟩⟩
theorem OwnC.frame {lo hi lo' hi' : Nat} {w w' : World} {a : Option Addr} {x : List RC} (h : OwnC lo hi w a x) (hf : Frame lo' hi' w w') (hd : hi ≤ lo' ∨ hi' ≤ lo) : OwnC lo hi w' a x := fun h0 => by
  obtain ⟨g, e, hg, hc⟩ := h h0
  refine ⟨g, e, hg, fun i hi1 => ?_⟩
  obtain ⟨⟨c1, c2, c3⟩, f1, f2, f3⟩ := hc i hi1
  exact ⟨⟨hf.cell c1 (by show g < lo' ∨ hi' ≤ g; omega), hf.cell c2 (by show g < lo' ∨ hi' ≤ g; omega), hf.cell c3 (by show g < lo' ∨ hi' ≤ g; omega)⟩,
    (hf.frozen c1 (by show g < lo' ∨ hi' ≤ g; omega)).trans f1, (hf.frozen c2 (by show g < lo' ∨ hi' ≤ g; omega)).trans f2, (hf.frozen c3 (by show g < lo' ∨ hi' ≤ g; omega)).trans f3⟩
theorem InC.since {lo hi : Nat} {w w' : World} {a : Option Addr} {x : List RC} (h : InC lo hi w a x) (hs : w.Since w.heap.size w') : InC lo hi w' a x := h.frame (frame_since hs hi hi) (.inl (Nat.le_refl _))
theorem OwnC.since {lo hi : Nat} {w w' : World} {a : Option Addr} {x : List RC} (h : OwnC lo hi w a x) (hs : w.Since w.heap.size w') : OwnC lo hi w' a x := h.frame (frame_since hs hi hi) (.inl (Nat.le_refl _))

/-- A list of chips that is being built. -/
structure CB (w wr : World) (v : Value) (cs : List RC) : Prop where
  since : w.Since w.heap.size wr
  own : wr.ownsRow w.heap.size 36 3 v cs.length (ch3 cs)
theorem cb_none (w : World) : CB w w (.slice none 0 0) [] := ⟨World.Since.refl _ _, World.ownsRow_nil _ _ _ _⟩
theorem cb_start (w : World) (cs : Array Value) (hc : cs.size = 0) : CB w (w.alloc (.cells cs 36)) (.slice (some ⟨w.heap.size, 0, none⟩) 0 0) [] :=
  ⟨(World.Since.refl _ _).alloc (Nat.le_refl _) _, World.ownsRow_made w cs 0 (Nat.le_refl _) (Nat.zero_le _) (by simpa using hc)⟩
theorem CB.ownC {w wr : World} {v : Value} {cs : List RC} (h : CB w wr v cs) : ∃ a cap, v = .slice a cs.length cap ∧ OwnC w.heap.size wr.heap.size wr a cs ∧ cs.length ≤ cap ∧ cap ≤ 9223372036854775807 := by
  have hm : maxLen = 9223372036854775807 := rfl
  rcases h.own.2 with ⟨hv, h0⟩ | ⟨g, cap, cur, rfl, hb, hg, hn, hmx, hs, ht⟩
  · have : cs = [] := List.length_eq_zero_iff.1 h0
    subst this
    exact ⟨none, 0, hv, OwnC.nil _ _ _ _, Nat.le_refl _, by omega⟩
  · refine ⟨_, cap, rfl, fun _ => ⟨g, rfl, ⟨hb, (Array.getElem?_eq_some_iff.1 hg).1⟩, fun i hi => ?_⟩, hn, by omega⟩
    obtain ⟨e1, e2, e3⟩ := ch3_get cs i hi
    have hf : ∀ j, wr.frozen? ⟨g, j, none⟩ = false := fun j => by simp [World.frozen?, hg]
    exact ⟨⟨(World.ownsRow.cellAt h.own (i * 3) (by omega)).trans e1, (World.ownsRow.cellAt h.own (i * 3 + 1) (by omega)).trans e2, (World.ownsRow.cellAt h.own (i * 3 + 2) (by omega)).trans e3⟩, hf _, hf _, hf _⟩
theorem CB.later {w wr w1 : World} {v : Value} {cs : List RC} (h : CB w wr v cs) (hs : wr.Since wr.heap.size w1) : CB w w1 v cs :=
  ⟨h.since.trans (since_mono hs h.since.size), h.own.kept (row := none) ⟨hs.os, hs.tape, hs.output, hs.size, fun k hk _ => hs.block k hk⟩ (by
      cases hv : v.ownBlock with
      | none => exact .inl rfl
      | some k => exact .inr (by simp))⟩
/-- Chips more. -/
theorem CB.push {w wr w1 W : World} {v v' : Value} {cs ds : List RC} {n : Nat} (h : CB w wr v cs) (hn : n = cs.length + ds.length) (hs : wr.Since wr.heap.size W) (hown : w1.ownsRow w.heap.size 36 3 v' n (ch3 cs ++ ch3 ds)) (hg : W.grownBy w1 v.ownBlock) :
    CB w w1 v' (cs ++ ds) := by
  have hB : w.heap.size ≤ wr.heap.size := h.since.size
  have hBW := hs.size
  subst hn
  refine ⟨(h.since.trans (since_mono hs hB)).grown hg (by omega) (fun k e => (h.own.lt k e).1), ?_⟩
  rw [ch3_app, List.length_append]
  exact hown

/-- The three cells of one chip, as they lie in a block just laid. -/
theorem news3 (w : World) (c : RC) (T : TypeId) : ∀ j u, (ch3 [c])[j]? = some u → (w.alloc (.cells #[.string c.k, .int .i64 c.l, .int .i64 c.w] T)).cell? ((⟨w.heap.size, 0, none⟩ : Addr).add j) = some u :=
  World.news_of_block (World.alloc_heap_new w (.cells #[.string c.k, .int .i64 c.l, .int .i64 c.w] T))

end Go.Proofs.Ytbclpbgomkfabaa
