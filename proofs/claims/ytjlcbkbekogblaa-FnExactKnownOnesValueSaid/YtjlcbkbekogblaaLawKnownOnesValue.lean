/- The walk of laws.FnExactKnownOnesValue, over the contracts of spec.KnownOnesValue and impl.KnownOnesValue. -/
import Derived.Test.YtjlcbkbekogblaaUnitSpec
import Derived.Test.YtjlcbkbekogblaaOwnR
namespace Go.Proofs.Ytjlcbkbekogblaa
open Go.RowKit Go.Deep

set_option maxRecDepth 100000 in
set_option maxHeartbeats 1000000 in
theorem lawKnownOnesValue_aux (x0 : Int) (x1 : Int) (x2 : Int) (ok : Bool) (v : Int) (w : World) 
    (hspec : ∀ (W : World) , Calls Try.prog 33 #[.int .i64 x0, .int .i64 x1, .int .i64 x2] W (fun e w' => e = .returned (.tuple #[.int .i64 v, .bool ok]) ∧ W.Since W.heap.size w'))
    (himpl : ∀ (W : World) , Calls Try.prog 34 #[.int .i64 x0, .int .i64 x1, .int .i64 x2] W (fun e w' => e = .returned (.tuple #[.int .i64 v, .bool ok]) ∧ W.Since W.heap.size w')) :
    Calls Try.prog 8 #[.int .i64 x0, .int .i64 x1, .int .i64 x2] w fun e w' => e = .returned (.bool true) ∧ w.Since w.heap.size w' := by
  have HSPEC := Lib.hid hspec
  have HIMPL := Lib.hid himpl
  clear hspec himpl
  go_enter Try.func8, Try.ntmps8
  have s0 : w.Since w.heap.size w := World.Since.refl _ _
  cases ok
  all_goals
    go_wp2_with fail
    refine (HSPEC.out _).mono ?_
    rintro e w1 ⟨rfl, t1⟩
    have s1 : w.Since w.heap.size w1 := s0.trans (since_mono t1 s0.size)
    have z1 := t1.size
    go_wp2_with fail
    refine (HIMPL.out _).mono ?_
    rintro e w2 ⟨rfl, t2⟩
    have s2 : w.Since w.heap.size w2 := s1.trans (since_mono t2 s1.size)
    have z2 := t2.size
    go_wp2
    go_ret
    exact ⟨rfl, s2⟩

end Go.Proofs.Ytjlcbkbekogblaa
