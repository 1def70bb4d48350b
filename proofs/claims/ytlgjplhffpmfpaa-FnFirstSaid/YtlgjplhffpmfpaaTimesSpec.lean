/- The contract of spec.TableTimes. -/
import Derived.Test.YtlgjplhffpmfpaaWR
import Derived.Test.YtlgjplhffpmfpaaTimesImpl
namespace Go.Proofs.Ytlgjplhffpmfpaa
open Go.RowKit Go.Deep

theorem szL_timesOk (l : List (List Int)) (f : Int) (h : timesOk l f = true) : szL (timesL l f) ≤ 1048576 := by
  unfold timesOk at h
  rw [Bool.and_eq_true] at h
  exact szL_times f (tabIn_of h.1)

end Go.Proofs.Ytlgjplhffpmfpaa
