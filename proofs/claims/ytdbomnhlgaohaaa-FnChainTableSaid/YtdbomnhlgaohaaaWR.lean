/- A copy that is written cell by cell. -/
import Derived.Test.YtdbomnhlgaohaaaCopy
import Derived.Deep.RegionHeld3
namespace Go.Proofs.Ytdbomnhlgaohaaa
open Go.RowKit Go.Deep

/-- A table whose first i rows, and first j numbers of row i, have been written anew. -/
def updF (F : Nat → Nat → Int) (l : List (List Int)) (i j r c : Nat) : Int := if r < i ∨ (r = i ∧ c < j) then F r c else at2 l r c
theorem upd_cur (F : Nat → Nat → Int) (l : List (List Int)) (i j : Nat) : updF F l i j i j = at2 l i j := by unfold updF; rw [if_neg (by omega)]

/-- What a spec function that writes into a copy knows in the round of row i, column j. -/
structure WR (w1 wr : World) (b n m : Nat) (A : Nat → Option Addr) (G C : Nat → Nat) (F : Nat → Nat → Int) (l : List (List Int)) (i j hi : Nat) : Prop where
  since : w1.Since w1.heap.size wr
  size : hi ≤ wr.heap.size
  own : OwnD w1.heap.size hi wr b A G C n (fun _ => m) (updF F l i j)

theorem WR.store {w1 wr : World} {b n m : Nat} {A : Nat → Option Addr} {G C : Nat → Nat} {F : Nat → Nat → Int} {l : List (List Int)} {i j hi : Nat} (h : WR w1 wr b n m A G C F l i j hi) (hi' : i < n) (hj : j < m) (q : Nat) :
    WR w1 ((wr.drewN q).setCell ⟨G i, j, none⟩ (.int .i64 (F i j))) b n m A G C F l i (j + 1) hi := by
  have hin := h.own.inside i hi' (by omega)
  have ho : OwnD w1.heap.size hi (wr.drewN q) b A G C n (fun _ => m) (updF F l i j) := ⟨h.own.top, h.own.addr, h.own.inside, h.own.cell, h.own.free, h.own.apart⟩
  refine ⟨(since_drewN h.since q).setCell (by show w1.heap.size ≤ G i; omega) _, by simpa using h.size, (ho.store hi' hj _).congr fun r _ c _ => ?_⟩
  by_cases e : r = i ∧ c = j
  · rw [if_pos e]; obtain ⟨rfl, rfl⟩ := e; unfold updF; rw [if_pos (by omega)]
  · rw [if_neg e]; unfold updF
    by_cases h2 : r < i ∨ (r = i ∧ c < j)
    · rw [if_pos h2, if_pos (by omega)]
    · rw [if_neg h2, if_neg (by omega)]
theorem WR.next {w1 wr : World} {b n m : Nat} {A : Nat → Option Addr} {G C : Nat → Nat} {F : Nat → Nat → Int} {l : List (List Int)} {i hi : Nat} (h : WR w1 wr b n m A G C F l i m hi) : WR w1 wr b n m A G C F l (i + 1) 0 hi :=
  ⟨h.since, h.size, h.own.congr fun r _ c hc => by
    unfold updF
    have hc' : c < m := hc
    by_cases h2 : r < i ∨ (r = i ∧ c < m)
    · rw [if_pos h2, if_pos (by omega)]
    · rw [if_neg h2, if_neg (by omega)]⟩
theorem WR.facts {w1 wr : World} {b n m : Nat} {A : Nat → Option Addr} {G C : Nat → Nat} {F : Nat → Nat → Int} {l : List (List Int)} {i j hi : Nat} (h : WR w1 wr b n m A G C F l i j hi) (hi' : i < n) (hj : j < m) :
    wr.cell? ⟨b, i, none⟩ = some (.slice (some ⟨G i, 0, none⟩) m (C i)) ∧ wr.cell? ⟨G i, j, none⟩ = some (.int .i64 (at2 l i j)) ∧ wr.frozen? ⟨G i, j, none⟩ = false ∧ w1.heap.size ≤ G i ∧ G i ≠ b := by
  have hin := h.own.inside i hi' (by omega)
  refine ⟨?_, ?_, h.own.free i hi' j hj, hin.1, hin.2.2⟩
  · rw [← h.own.addr i hi' (by omega)]; exact h.own.top i hi'
  · have := h.own.cell i hi' j hj
    rw [upd_cur] at this; exact this
theorem cell_set_ne {w : World} {g j : Nat} {v : Value} {p : Addr} {u : Value} (h : w.cell? p = some u) (hne : p.block ≠ g) : (w.setCell ⟨g, j, none⟩ v).cell? p = some u := by
  rw [World.cell?_setCell_other _ _ _ _ (fun e => hne (by rw [← e]))]; exact h
theorem WR.ownT {w1 wr : World} {b n m : Nat} {A : Nat → Option Addr} {G C : Nat → Nat} {F : Nat → Nat → Int} {l : List (List Int)} {hi : Nat} (h : WR w1 wr b n m A G C F l n 0 hi) (hb : w1.heap.size ≤ b ∧ b < hi) : OwnT w1.heap.size hi wr (some ⟨b, 0, none⟩) (tabF n m F) :=
  h.own.ownT hb (tabF_length _ _ _) (fun r hr => tabF_len _ _ _ _ hr) (fun r hr c hc => by rw [tabF_at _ _ _ _ _ hr hc]; unfold updF; rw [if_pos (.inl hr)])
theorem OwnT.wr {w w1 : World} {a : Option Addr} {l : List (List Int)} {n m : Nat} (h : OwnT w.heap.size w1.heap.size w1 a l) (hn : l.length = n) (h1 : 0 < n) (hm : ∀ r, r < n → (l.getD r []).length = m) (hs : w.Since w.heap.size w1) (F : Nat → Nat → Int) :
    ∃ b A G C, a = some ⟨b, 0, none⟩ ∧ (w.heap.size ≤ b ∧ b < w1.heap.size) ∧ WR w w1 b n m A G C F l 0 0 w1.heap.size := by
  obtain ⟨b, A, G, C, e, hb, hD⟩ := h.parts (by omega)
  rw [hn] at hD
  refine ⟨b, A, G, C, e, hb, hs, Nat.le_refl _, ⟨fun r hr => by rw [← hm r hr]; exact hD.top r hr, fun r hr h0 => hD.addr r hr (by rw [hm r hr]; exact h0), fun r hr h0 => hD.inside r hr (by rw [hm r hr]; exact h0), fun r hr i hi => ?_,
    fun r hr i hi => hD.free r hr i (by rw [hm r hr]; exact hi), fun r r' hr hr' h0 h0' e => hD.apart r r' hr hr' (by rw [hm r hr]; exact h0) (by rw [hm r' hr']; exact h0') e⟩⟩
  rw [hD.cell r hr i (by rw [hm r hr]; exact hi)]
  unfold updF
  rw [if_neg (by omega)]; rfl

end Go.Proofs.Ytdbomnhlgaohaaa
