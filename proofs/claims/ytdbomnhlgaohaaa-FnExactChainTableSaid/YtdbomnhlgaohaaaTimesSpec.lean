/- The contract of spec.TableTimes. -/
import Derived.Test.YtdbomnhlgaohaaaWR
import Derived.Test.YtdbomnhlgaohaaaTimesImpl
namespace Go.Proofs.Ytdbomnhlgaohaaa
open Go.RowKit Go.Deep

theorem szL_timesOk (l : List (List Int)) (f : Int) (h : timesOk l f = true) : szL (timesL l f) ≤ 1048576 := by
  unfold timesOk at h
  rw [Bool.and_eq_true] at h
  exact szL_times f (tabIn_of h.1)

end Go.Proofs.Ytdbomnhlgaohaaa
