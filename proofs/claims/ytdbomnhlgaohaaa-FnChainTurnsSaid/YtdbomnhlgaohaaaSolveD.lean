/- The contract of the function that draws for ValueSolve. -/
import Derived.Test.YtdbomnhlgaohaaaSquareD
import Derived.Test.YtdbomnhlgaohaaaOwnR
namespace Go.Proofs.Ytdbomnhlgaohaaa
open Go.RowKit Go.Deep

theorem RW.rowR {B : Nat} {w : World} {v : Value} {x : List Int} {j : Nat} (h : RW B w v x) (hx : x.length = j) : ∃ ax cx, v = .slice ax j cx ∧ RowR w ax x := by
  by_cases h0 : 0 < x.length
  · obtain ⟨g, cp, e, hge, hrb⟩ := h.form h0
    rw [hx] at e
    exact ⟨_, cp, e, fun _ => ⟨g, 0, rfl, fun i hi => by rw [Nat.zero_add]; exact hrb.cell hi⟩⟩
  · rcases h.2 with ⟨e, _⟩ | ⟨g, cp, cur, e, _⟩
    · exact ⟨none, 0, by rw [e]; congr 1; omega, fun h => absurd h h0⟩
    · rw [hx] at e
      exact ⟨_, cp, e, fun h => absurd h h0⟩

end Go.Proofs.Ytdbomnhlgaohaaa
