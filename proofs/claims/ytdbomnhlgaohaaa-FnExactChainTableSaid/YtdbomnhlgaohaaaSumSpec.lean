/- The contract of spec.TableSum. -/
import Derived.Test.YtdbomnhlgaohaaaSumSpec0
import Derived.Test.YtdbomnhlgaohaaaGrid
namespace Go.Proofs.Ytdbomnhlgaohaaa
open Go.RowKit Go.Deep

theorem szL_sumOk (l u : List (List Int)) (h : sumOk l u = true) : szL (sumL l u) ≤ 1048576 := by
  unfold sumOk at h
  rw [Bool.and_eq_true] at h
  exact szL_sum u (tabIn_of h.1)

end Go.Proofs.Ytdbomnhlgaohaaa
