/- The walk of laws.FnExactKnownDivisorsValue, over the contracts of spec.KnownDivisorsValue and impl.KnownDivisorsValue. -/
import Derived.Test.YtjlcbkbekogblaaUnitSpec
import Derived.Test.YtjlcbkbekogblaaOwnR
namespace Go.Proofs.Ytjlcbkbekogblaa
open Go.RowKit Go.Deep

set_option maxRecDepth 100000 in
set_option maxHeartbeats 1000000 in
theorem lawKnownDivisorsValue_aux (x0 : Int) (ok : Bool) (v : Int) (w : World) 
    (hspec : ∀ (W : World) , Calls Try.prog 37 #[.int .i64 x0] W (fun e w' => e = .returned (.tuple #[.int .i64 v, .bool ok]) ∧ W.Since W.heap.size w'))
    (himpl : ∀ (W : World) , Calls Try.prog 38 #[.int .i64 x0] W (fun e w' => e = .returned (.tuple #[.int .i64 v, .bool ok]) ∧ W.Since W.heap.size w')) :
    Calls Try.prog 10 #[.int .i64 x0] w fun e w' => e = .returned (.bool true) ∧ w.Since w.heap.size w' := by
  have HSPEC := Lib.hid hspec
  have HIMPL := Lib.hid himpl
  clear hspec himpl
  go_enter Try.func10, Try.ntmps10
  have s0 : w.Since w.heap.size w := World.Since.refl _ _
  cases ok
  all_goals
    go_wp2_with fail
    refine (HSPEC.out _).mono ?_
    rintro e w1 ⟨rfl, t1⟩
    have s1 : w.Since w.heap.size w1 := s0.trans (since_mono t1 s0.size)
    have z1 := t1.size
    go_wp2_with fail
    refine (HIMPL.out _).mono ?_
    rintro e w2 ⟨rfl, t2⟩
    have s2 : w.Since w.heap.size w2 := s1.trans (since_mono t2 s1.size)
    have z2 := t2.size
    go_wp2
    go_ret
    exact ⟨rfl, s2⟩

end Go.Proofs.Ytjlcbkbekogblaa
