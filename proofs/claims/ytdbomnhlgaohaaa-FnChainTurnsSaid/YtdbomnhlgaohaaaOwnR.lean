/- Rows that a call has made in a block of its own: what is said of them, how they stay, and what marking them does. -/
import Derived.Test.YtdbomnhlgaohaaaMark
namespace Go.Proofs.Ytdbomnhlgaohaaa
open Go.RowKit Go.Deep

/-- A row that reads as x, in the blocks from lo to hi. -/
def InR (lo hi : Nat) (w : World) (a : Option Addr) (x : List Int) : Prop :=
  0 < x.length → ∃ g o : Nat, a = some ⟨g, o, none⟩ ∧ (lo ≤ g ∧ g < hi) ∧ ∀ i, i < x.length → w.cell? ⟨g, o + i, none⟩ = some (.int .i64 (x.getD i 0))
/-- .. in a block of its own that may be written. -/
def OwnR (lo hi : Nat) (w : World) (a : Option Addr) (x : List Int) : Prop :=
  0 < x.length → ∃ g : Nat, a = some ⟨g, 0, none⟩ ∧ (lo ≤ g ∧ g < hi) ∧ ∀ i, i < x.length → w.cell? ⟨g, i, none⟩ = some (.int .i64 (x.getD i 0)) ∧ w.frozen? ⟨g, i, none⟩ = false
theorem OwnR.inR {lo hi : Nat} {w : World} {a : Option Addr} {x : List Int} (h : OwnR lo hi w a x) : InR lo hi w a x := fun h0 => by
  obtain ⟨g, e, hg, hc⟩ := h h0
  exact ⟨g, 0, e, hg, fun i hi => by rw [Nat.zero_add]; exact (hc i hi).1⟩
theorem InR.rowR {lo hi : Nat} {w : World} {a : Option Addr} {x : List Int} (h : InR lo hi w a x) : RowR w a x := fun h0 => by
  obtain ⟨g, o, e, _, hc⟩ := h h0
  exact ⟨g, o, e, hc⟩
theorem OwnR.rowR {lo hi : Nat} {w : World} {a : Option Addr} {x : List Int} (h : OwnR lo hi w a x) : RowR w a x := h.inR.rowR
theorem InR.nil (lo hi : Nat) (w : World) (a : Option Addr) : InR lo hi w a [] := fun h => by simp at h
theorem OwnR.nil (lo hi : Nat) (w : World) (a : Option Addr) : OwnR lo hi w a [] := fun h => by simp at h
theorem InR.mono {lo hi lo' hi' : Nat} {w : World} {a : Option Addr} {x : List Int} (h : InR lo hi w a x) (h1 : lo' ≤ lo) (h2 : hi ≤ hi') : InR lo' hi' w a x := fun h0 => by
  obtain ⟨g, o, e, hg, hc⟩ := h h0
  exact ⟨g, o, e, by omega, hc⟩
theorem OwnR.mono {lo hi lo' hi' : Nat} {w : World} {a : Option Addr} {x : List Int} (h : OwnR lo hi w a x) (h1 : lo' ≤ lo) (h2 : hi ≤ hi') : OwnR lo' hi' w a x := fun h0 => by
  obtain ⟨g, e, hg, hc⟩ := h h0
  exact ⟨g, e, by omega, hc⟩
theorem InR.frame {lo hi lo' hi' : Nat} {w w' : World} {a : Option Addr} {x : List Int} (h : InR lo hi w a x) (hf : Frame lo' hi' w w') (hd : hi ≤ lo' ∨ hi' ≤ lo) : InR lo hi w' a x := fun h0 => by
  obtain ⟨g, o, e, hg, hc⟩ := h h0
  exact ⟨g, o, e, hg, fun i hi1 => hf.cell (hc i hi1) (by show g < lo' ∨ hi' ≤ g; omega)⟩
theorem OwnR.frame {lo hi lo' hi' : Nat} {w w' : World} {a : Option Addr} {x : List Int} (h : OwnR lo hi w a x) (hf : Frame lo' hi' w w') (hd : hi ≤ lo' ∨ hi' ≤ lo) : OwnR lo hi w' a x := fun h0 => by
  obtain ⟨g, e, hg, hc⟩ := h h0
  exact ⟨g, e, hg, fun i hi1 => ⟨hf.cell (hc i hi1).1 (by show g < lo' ∨ hi' ≤ g; omega), (hf.frozen (hc i hi1).1 (by show g < lo' ∨ hi' ≤ g; omega)).trans (hc i hi1).2⟩⟩
theorem InR.since {lo hi : Nat} {w w' : World} {a : Option Addr} {x : List Int} (h : InR lo hi w a x) (hs : w.Since w.heap.size w') : InR lo hi w' a x := h.frame (frame_since hs hi hi) (.inl (Nat.le_refl _))
theorem OwnR.since {lo hi : Nat} {w w' : World} {a : Option Addr} {x : List Int} (h : OwnR lo hi w a x) (hs : w.Since w.heap.size w') : OwnR lo hi w' a x := h.frame (frame_since hs hi hi) (.inl (Nat.le_refl _))
theorem RowMade.ownR {w wr : World} {l : List Int} (h : RowMade w wr l l.length) : OwnR w.heap.size wr.heap.size wr (some ⟨w.heap.size, 0, none⟩) l := fun _ => by
  have hs := h.size
  refine ⟨w.heap.size, rfl, by omega, fun i hi => ⟨?_, h.row.frozen i⟩⟩
  have := h.row.cell (i := i) hi
  rw [if_pos hi] at this
  exact this

/-- A copy of a row. -/
theorem toIntR_any (a : Option Addr) (cap n : Nat) (l : List Int) (w : World) (hn : l.length = n) (hn1 : n ≤ 1048576) (hm : RowR w a l) :
    Calls Try.prog 33 #[.slice a n cap] w fun e w' => e = .returned (.slice (some ⟨w.heap.size, 0, none⟩) n n) ∧ w.Since w.heap.size w' ∧ OwnR w.heap.size w'.heap.size w' (some ⟨w.heap.size, 0, none⟩) l := by
  subst hn
  exact (toIntS_any a cap l w hn1 hm).mono fun _ _ h => ⟨h.1, h.2.since, h.2.ownR⟩

/-- A row of one's own is marked. -/
theorem markR_any (a : Option Addr) (lo hi cap m : Nat) (k : Int) (x : List Int) (w : World) (hx : x.length = m) (h0 : 0 ≤ k) (hk : k + m ≤ 4000000) (h : OwnR lo hi w a x) :
    Calls Try.prog 36 #[.slice a m cap, .int .i64 k] w fun e w' => e = .returned (.int .i64 (k + m)) ∧ OwnR lo hi w' a (markRow k m) ∧ Frame lo hi w w' ∧ w'.heap.size = w.heap.size := by
  by_cases h1 : 0 < m
  · obtain ⟨g, e, hg, hc⟩ := h (by omega)
    refine (markIntS_any a g cap m k x w hx h0 hk (fun _ => e) (fun i hi => (hc i (by omega)).1) (fun i hi => (hc i (by omega)).2)).mono ?_
    rintro r w' ⟨rfl, hM⟩
    refine ⟨rfl, fun _ => ⟨g, e, hg, fun i hi => ?_⟩, hM.frame (.inl hg), hM.size⟩
    rw [markRow_length] at hi
    refine ⟨?_, hM.frozen i hi⟩
    rw [hM.cell i hi, if_pos hi, markRow_get _ _ _ hi]
  · have hm : m = 0 := by omega
    subst hm
    have hxe : x = [] := List.length_eq_zero_iff.1 hx
    clear h
    go_enter Try.func36, Try.ntmps36
    go_wp2
    go_loopg [1, 5] 0 (fun g q i wr => q = .int .i64 k ∧ i = .int .i64 0 ∧ wr = w)
    case atStart => exact ⟨rfl, rfl, rfl⟩
    case round =>
      obtain ⟨rfl, rfl, rfl⟩ := hrel
      go_wp2
      go_ret
      exact ⟨ret_int (by simp), OwnR.nil _ _ _ _, Frame.refl _ _ _, rfl⟩

end Go.Proofs.Ytdbomnhlgaohaaa
