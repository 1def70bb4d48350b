/- The walk of laws.FnExactPosChanges at any arguments. -/
import Derived.Test.YtcnbffflgodheaaChg
import Derived.Test.YtcnbffflgodheaaUnitSpec
namespace Go.Proofs.Ytcnbffflgodheaa
open Go.RowKit Go.Deep

set_option maxRecDepth 100000 in
set_option maxHeartbeats 1000000 in
theorem lawPosChanges (a0 : Option Addr) (cap0 n0 : Nat) (l0 : List Int) (w : World) (hn0 : l0.length = n0) (h630 : n0 ≤ 9223372036854775807) (hm0 : RowR w a0 l0) :
    Calls Try.prog 12 #[.slice a0 n0 cap0] w fun e w' => e = .returned (.bool true) ∧ w.Since w.heap.size w' := by
  by_cases hbig : 1048576 < n0
  · have hb' : decide ((1048576 : Int) < (n0 : Int)) = true := by simp; omega
    clear hm0
    go_enter Try.func12, Try.ntmps12
    go_wp2
    go_ret
    exact ⟨rfl, World.Since.refl _ _⟩
  have hb' : decide ((1048576 : Int) < (n0 : Int)) = false := by simp; omega
  have hn1 : n0 ≤ 1048576 := by omega
  have HCP := Lib.hid (fun (W : World) (hs : w.Since w.heap.size W) => toIntR_any a0 cap0 n0 l0 W hn0 hn1 (hm0.since hs))
  have ES := Lib.hid (fun (W : World) (b : Option Addr) (c : Nat) (h : RowR W b l0) => specPosChanges_any b c n0 l0 W hn0 hn1 h)
  have EI := Lib.hid (fun (W : World) (b : Option Addr) (c : Nat) (h : RowR W b l0) => implPosChanges_any b c n0 l0 W hn0 hn1 h)
  obtain ⟨v, hv⟩ : ∃ v, chgV l0 = v := ⟨_, rfl⟩
  obtain ⟨ok, hok⟩ : ∃ ok, chgOk l0 = ok := ⟨_, rfl⟩
  rw [hv, hok] at ES EI
  have HN := Lib.hid hn0
  clear hv hok hm0 hn0
  have s0 : w.Since w.heap.size w := World.Since.refl _ _
  go_enter Try.func12, Try.ntmps12
  cases ok
  all_goals
    go_wp2_with fail
    refine (HCP.out _ s0).mono ?_
    rintro e w1 ⟨rfl, t1, o1⟩
    have s1 : w.Since w.heap.size w1 := s0.trans (since_mono t1 s0.size)
    have r1 := o1.rowR
    clear o1 t1
    go_wp2_with fail
    refine (ES.out _ _ _ r1).mono ?_
    rintro e w2 ⟨rfl, rfl⟩
    clear r1
    go_wp2_with fail
    refine (HCP.out _ s1).mono ?_
    rintro e w3 ⟨rfl, t3, o3⟩
    have s3 : w.Since w.heap.size w3 := s1.trans (since_mono t3 s1.size)
    have r3 := o3.rowR
    clear o3 t3
    go_wp2_with fail
    refine (EI.out _ _ _ r3).mono ?_
    rintro e w4 ⟨rfl, rfl⟩
    go_wp2_with fail
    refine (HCP.out _ s3).mono ?_
    rintro e w5 ⟨rfl, t5, o5⟩
    have s5 : w.Since w.heap.size w5 := s3.trans (since_mono t5 s3.size)
    have r5 := o5.rowR
    replace r3 := r3.since t5
    clear o5 t5
    go_wp2_with fail
    refine (eqIntS_same _ _ _ _ _ l0 _ HN.out h630 r3 r5).mono ?_
    rintro e w6 ⟨rfl, d6⟩
    have s6 : w.Since w.heap.size w6 := s5.trans (since_mono (d6.since w5.heap.size) s5.size)
    clear d6
    go_wp2
    go_ret
    exact ⟨rfl, s6⟩

end Go.Proofs.Ytcnbffflgodheaa
