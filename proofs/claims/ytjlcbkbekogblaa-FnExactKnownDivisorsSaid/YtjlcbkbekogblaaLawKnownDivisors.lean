/- The walk of laws.FnExactKnownDivisors, over the contracts of spec.KnownDivisors and impl.KnownDivisors. -/
import Derived.Test.YtjlcbkbekogblaaUnitSpec
import Derived.Test.YtjlcbkbekogblaaOwnR
namespace Go.Proofs.Ytjlcbkbekogblaa
open Go.RowKit Go.Deep

set_option maxRecDepth 100000 in
set_option maxHeartbeats 1000000 in
theorem lawKnownDivisors_aux (x0 : Int) (ok : Bool) (M : List (List Int)) (w : World)  (hM : szL M ≤ 1048576)
    (hspec : ∀ (W : World) , Calls Try.prog 35 #[.int .i64 x0] W (fun e w' => ∃ a cap, e = .returned (.tuple #[.slice a M.length cap, .bool ok]) ∧ W.Since W.heap.size w' ∧ InT W.heap.size w'.heap.size w' a M))
    (himpl : ∀ (W : World) , Calls Try.prog 36 #[.int .i64 x0] W (fun e w' => ∃ a cap, e = .returned (.tuple #[.slice a M.length cap, .bool ok]) ∧ W.Since W.heap.size w' ∧ OwnT W.heap.size w'.heap.size w' a M)) :
    Calls Try.prog 9 #[.int .i64 x0] w fun e w' => e = .returned (.bool true) ∧ w.Since w.heap.size w' := by
  obtain ⟨q, hq⟩ : ∃ q, M.length = q := ⟨_, rfl⟩
  rw [hq] at hspec himpl
  have HQ := Lib.hid hq
  have hrl : ∀ r, r < M.length → (M.getD r []).length ≤ 9223372036854775807 := fun r hr => by have := row_le M hr; unfold szL at hM; omega
  have HRL := Lib.hid hrl
  have h63q : q ≤ 9223372036854775807 := by unfold szL at hM; omega
  have hsq : sumTo M q ≤ 1048576 := by rw [← hq]; unfold szL at hM; omega
  have HSPEC := Lib.hid hspec
  have HIMPL := Lib.hid himpl
  clear hspec himpl hq hrl
  go_enter Try.func9, Try.ntmps9
  have s0 : w.Since w.heap.size w := World.Since.refl _ _
  go_wp2_with fail
  refine (HSPEC.out _).mono ?_
  rintro e w1 ⟨vgw, cpgw, rfl, t1, gw⟩
  have s1 : w.Since w.heap.size w1 := s0.trans (since_mono t1 s0.size)
  have z1 := t1.size
  go_wp2_with fail
  refine (HIMPL.out _).mono ?_
  rintro e w2 ⟨vgg, cpgg, rfl, t2, gg⟩
  have s2 : w.Since w.heap.size w2 := s1.trans (since_mono t2 s1.size)
  have z2 := t2.size
  replace gw := gw.since t2
  cases ok
  all_goals
    go_wp2_with fail
    refine (eqIntSS_same _ _ _ _ _ M _ HQ.out h63q HRL.out gg.matR gw.matR).mono ?_
    rintro e w3 ⟨rfl, d3⟩
    have t3 := d3.since w2.heap.size
    clear d3
    have s3 : w.Since w.heap.size w3 := s2.trans (since_mono t3 s2.size)
    have z3 := t3.size
    replace gw := gw.since t3
    replace gg := gg.since t3
    go_wp2_with fail
    refine (markIntSS_any _ w1.heap.size w2.heap.size _ _ _ M _ HQ.out hM (by omega) (by omega) gg).mono ?_
    rintro e w4 ⟨rfl, m4, f4, zz⟩
    clear zz
    clear gg
    have gg := m4
    clear m4
    have s4 : w.Since w.heap.size w4 := s3.trans (f4.since (by omega) (by omega))
    have z4 := f4.size
    replace gw := gw.frame f4 (by omega)
    go_wp2_with fail
    refine (heldIntSS_any _ _ _ 1 M _ HQ.out hM (by omega) (by omega) gg.matR).mono ?_
    rintro e w5 ⟨rfl, rfl⟩
    go_wp2_with fail
    refine (HIMPL.out _).mono ?_
    rintro e w5 ⟨vgh, cpgh, rfl, t5, gh⟩
    have s5 : w.Since w.heap.size w5 := s4.trans (since_mono t5 s4.size)
    have z5 := t5.size
    replace gw := gw.since t5
    replace gg := gg.since t5
    go_wp2_with fail
    refine (eqIntSS_same _ _ _ _ _ M _ HQ.out h63q HRL.out gh.matR gw.matR).mono ?_
    rintro e w6 ⟨rfl, d6⟩
    have t6 := d6.since w5.heap.size
    clear d6
    have s6 : w.Since w.heap.size w6 := s5.trans (since_mono t6 s5.size)
    have z6 := t6.size
    replace gw := gw.since t6
    replace gg := gg.since t6
    replace gh := gh.since t6
    go_wp2_with fail
    refine (heldIntSS_any _ _ _ 1 M _ HQ.out hM (by omega) (by omega) gg.matR).mono ?_
    rintro e w7 ⟨rfl, rfl⟩
    go_wp2
    go_ret
    exact ⟨rfl, s6⟩

end Go.Proofs.Ytjlcbkbekogblaa
