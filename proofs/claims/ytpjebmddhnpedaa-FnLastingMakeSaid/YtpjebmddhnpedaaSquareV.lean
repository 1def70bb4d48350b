/- The contracts of anyValue and squareValue over those of the roads. -/
import Derived.Test.YtpjebmddhnpedaaRoads
import Derived.Test.YtpjebmddhnpedaaSig
namespace Go.Proofs.Ytpjebmddhnpedaa
open Go.RowKit Go.Deep

theorem since_of_map {W w' : World} {o : Obj} (hg : (W.alloc o).grownBy w' (some W.heap.size)) : W.Since W.heap.size w' := by
  have h0 := (World.Since.refl W.heap.size W).alloc (Nat.le_refl _) o
  have h1 := hg.size
  simp only [World.size_alloc] at h1
  exact ⟨hg.os.trans h0.os, hg.tape.trans h0.tape, hg.output.trans h0.output, by omega, fun k hk => (hg.block k (by simp; omega) (by intro e; injection e with e; omega)).trans (h0.block k hk)⟩

set_option maxHeartbeats 400000 in
theorem anyValue_of (rb : Nat) (a : Option Addr) (n cap : Nat) (x : Int) (W : World) (hr : RoadsAt W rb) (ht : ∀ W', W.grownBy W' (some rb) → Calls Try.prog 125 #[.slice a n cap] W' (fun e w' => e = .returned (.int .i64 x) ∧ W'.Since W'.heap.size w')) :
    Calls Try.prog 100 #[.map (some rb), .slice a n cap] W (fun e w' => e = .returned (.int .i64 x) ∧ W.grownBy w' (some rb) ∧ RoadsAt w' rb) := by
  have E := Lib.hid (roads_2 rb a n cap x W hr ht)
  clear hr ht
  go_enter Try.func100, Try.ntmps100
  go_wp2_with fail
  refine (E.out).mono ?_
  rintro e w' ⟨rfl, hg, hr⟩
  go_wp2
  go_ret
  exact ⟨rfl, hg, hr⟩

end Go.Proofs.Ytpjebmddhnpedaa
