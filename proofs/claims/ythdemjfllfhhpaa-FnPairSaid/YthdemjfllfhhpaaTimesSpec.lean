/- The contract of spec.TableTimes. -/
import Derived.Test.YthdemjfllfhhpaaWR
import Derived.Test.YthdemjfllfhhpaaTimesImpl
namespace Go.Proofs.Ythdemjfllfhhpaa
open Go.RowKit Go.Deep

theorem szL_timesOk (l : List (List Int)) (f : Int) (h : timesOk l f = true) : szL (timesL l f) ≤ 1048576 := by
  unfold timesOk at h
  rw [Bool.and_eq_true] at h
  exact szL_times f (tabIn_of h.1)

end Go.Proofs.Ythdemjfllfhhpaa
