/- The contract of spec.l2Square. -/
import Derived.Test.YtdbomnhlgaohaaaTabInImpl
namespace Go.Proofs.Ytdbomnhlgaohaaa
open Go.RowKit Go.Deep

/-- Is it a square? -/
noncomputable def sqB (l : List (List Int)) : Bool := tabIn l && (l.length == (l.getD 0 []).length)
theorem sqB_of {l : List (List Int)} (h : sqB l = true) : TabIn l ∧ l.length = (l.getD 0 []).length := by
  unfold sqB at h
  rw [Bool.and_eq_true] at h
  exact ⟨tabIn_of h.1, by simpa using h.2⟩

end Go.Proofs.Ytdbomnhlgaohaaa
