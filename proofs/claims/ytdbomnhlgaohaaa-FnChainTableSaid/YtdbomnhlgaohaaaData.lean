/- Words for rows and tables of integers in memory: what reads as a list of lists, and what a call owns. No program is named here. -/
import Derived.WalkKit
import Derived.Deep.OwnRows
import Derived.Deep.LoopGhost
import Derived.Deep.Draws
namespace Go.Proofs.Ytdbomnhlgaohaaa
open Go.RowKit Go.Deep

/-- The two worlds differ in draws alone. -/
def Drawn (w w' : World) : Prop := ∃ n, w' = w.drewN n
theorem Drawn.refl (w : World) : Drawn w w := ⟨0, rfl⟩
theorem Drawn.mk (w : World) (n : Nat) : Drawn w (w.drewN n) := ⟨n, rfl⟩
theorem Drawn.since {w w' : World} (h : Drawn w w') (B : Nat) : w.Since B w' := by
  obtain ⟨n, rfl⟩ := h; exact ⟨rfl, rfl, rfl, Nat.le_refl _, fun _ _ => rfl⟩
theorem since_drewN {B : Nat} {a w : World} (h : a.Since B w) (n : Nat) : a.Since B (w.drewN n) := ⟨h.os, h.tape, h.output, h.size, h.block⟩
theorem since_mono {B B' : Nat} {w w' : World} (h : w.Since B w') (hB : B' ≤ B) : w.Since B' w' := ⟨h.os, h.tape, h.output, h.size, fun k hk => h.block k (Nat.lt_of_lt_of_le hk hB)⟩
theorem rowIs_drewN {w : World} {b t n : Nat} {f : Nat → Value} (h : w.rowIs b t n f) (q : Nat) : (w.drewN q).rowIs b t n f := h

/-- A slice value that reads as a list of integers. -/
def RowR (w : World) (a : Option Addr) (l : List Int) : Prop :=
  0 < l.length → ∃ b o, a = some ⟨b, o, none⟩ ∧ ∀ i, i < l.length → w.cell? ⟨b, o + i, none⟩ = some (.int .i64 (l.getD i 0))

/-- A slice value that reads as a list of lists of integers. -/
def MatR (w : World) (a : Option Addr) (l : List (List Int)) : Prop :=
  0 < l.length → ∃ (b o : Nat) (A : Nat → Option Addr) (C : Nat → Nat), a = some ⟨b, o, none⟩ ∧ ∀ r, r < l.length → w.cell? ⟨b, o + r, none⟩ = some (.slice (A r) (l.getD r []).length (C r)) ∧ RowR w (A r) (l.getD r [])

theorem RowR.since {w w' : World} {a : Option Addr} {l : List Int} (h : RowR w a l) (hs : w.Since w.heap.size w') : RowR w' a l := by
  intro hl
  obtain ⟨b, o, e, hc⟩ := h hl
  refine ⟨b, o, e, fun i hi => ?_⟩
  rw [hs.cell (a := ⟨b, o + i, none⟩) (World.block_lt_of_cell? _ _ (hc i hi)), hc i hi]

theorem MatR.since {w w' : World} {a : Option Addr} {l : List (List Int)} (h : MatR w a l) (hs : w.Since w.heap.size w') : MatR w' a l := by
  intro hl
  obtain ⟨b, o, A, C, e, hc⟩ := h hl
  refine ⟨b, o, A, C, e, fun r hr => ⟨?_, (hc r hr).2.since hs⟩⟩
  rw [hs.cell (a := ⟨b, o + r, none⟩) (World.block_lt_of_cell? _ _ (hc r hr).1), (hc r hr).1]

theorem Drawn.trans {a b c : World} (h : Drawn a b) (k : Drawn b c) : Drawn a c := by
  obtain ⟨n, rfl⟩ := h; obtain ⟨m, rfl⟩ := k; exact ⟨n + m, by simp⟩
theorem Drawn.cell {w w' : World} (h : Drawn w w') (a : Addr) : w'.cell? a = w.cell? a := by obtain ⟨n, rfl⟩ := h; rfl
theorem Drawn.frozen {w w' : World} (h : Drawn w w') (a : Addr) : w'.frozen? a = w.frozen? a := by obtain ⟨n, rfl⟩ := h; rfl
theorem Drawn.heap {w w' : World} (h : Drawn w w') : w'.heap = w.heap := by obtain ⟨n, rfl⟩ := h; rfl
theorem RowR.drawn {w w' : World} {a : Option Addr} {l : List Int} (h : RowR w a l) (hs : Drawn w w') : RowR w' a l := h.since (hs.since _)
theorem MatR.drawn {w w' : World} {a : Option Addr} {l : List (List Int)} (h : MatR w a l) (hs : Drawn w w') : MatR w' a l := h.since (hs.since _)

/-- How many numbers stand in the first r rows. -/
def sumTo (l : List (List Int)) : Nat → Nat
  | 0 => 0
  | r + 1 => sumTo l r + (l.getD r []).length

/-- How many rows and numbers. -/
def szL (l : List (List Int)) : Nat := l.length + sumTo l l.length

theorem sumTo_le (l : List (List Int)) {r s : Nat} (h : r ≤ s) : sumTo l r ≤ sumTo l s := by
  induction s with
  | zero => have : r = 0 := by omega
            subst this; exact Nat.le_refl _
  | succ s ih =>
    by_cases e : r = s + 1
    · subst e; exact Nat.le_refl _
    · have := ih (by omega); simp only [sumTo]; omega

theorem row_le (l : List (List Int)) {r : Nat} (h : r < l.length) : (l.getD r []).length ≤ sumTo l l.length := by
  have := sumTo_le l (show r + 1 ≤ l.length by omega); simp only [sumTo] at this; omega

/-- A copy that a call has made, block by block: the outer row at block N, row r at block N + 1 + r. -/
structure Made (N k : Nat) (w wr : World) (l : List (List Int)) : Prop where
  since : w.Since N wr
  size : wr.heap.size = N + 1 + k
  top : wr.rowIs N 23 l.length (fun j => if j < k then .slice (some ⟨N + 1 + j, 0, none⟩) (l.getD j []).length (l.getD j []).length else .slice none 0 0)
  row : ∀ j, j < k → wr.rowIs (N + 1 + j) 3 (l.getD j []).length (fun i => .int .i64 ((l.getD j []).getD i 0))

end Go.Proofs.Ytdbomnhlgaohaaa
