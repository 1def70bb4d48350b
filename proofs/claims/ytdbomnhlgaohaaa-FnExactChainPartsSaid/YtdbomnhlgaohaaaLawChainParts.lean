/- The walk of laws.FnExactChainParts, over the contracts of spec.ChainParts and impl.ChainParts. -/
import Derived.Test.YtdbomnhlgaohaaaUnitSpec
import Derived.Test.YtdbomnhlgaohaaaOwnR
namespace Go.Proofs.Ytdbomnhlgaohaaa
open Go.RowKit Go.Deep

set_option maxRecDepth 100000 in
set_option maxHeartbeats 1000000 in
theorem lawChainParts_aux (a0 : Option Addr) (cap0 n0 : Nat) (l0 : List Int) (ok : Bool) (M : List Int) (w : World) (hn0 : l0.length = n0) (h630 : n0 ≤ 9223372036854775807) (hm0 : RowR w a0 l0) (hM : M.length ≤ 1000)
    (hspec : ∀ (W : World) (b0 : Option Addr), n0 ≤ 1048576 → RowR W b0 l0 → Calls Try.prog 28 #[.slice b0 n0 n0] W (fun e w' => ∃ a cap, e = .returned (.tuple #[.slice a M.length cap, .bool ok]) ∧ W.Since W.heap.size w' ∧ InR W.heap.size w'.heap.size w' a M))
    (himpl : ∀ (W : World) (b0 : Option Addr), n0 ≤ 1048576 → RowR W b0 l0 → Calls Try.prog 27 #[.slice b0 n0 n0] W (fun e w' => ∃ a cap, e = .returned (.tuple #[.slice a M.length cap, .bool ok]) ∧ W.Since W.heap.size w' ∧ OwnR W.heap.size w'.heap.size w' a M)) :
    Calls Try.prog 11 #[.slice a0 n0 cap0] w fun e w' => e = .returned (.bool true) ∧ w.Since w.heap.size w' := by
  have HN0 := Lib.hid hn0
  have HM0 := Lib.hid hm0
  obtain ⟨q, hq⟩ : ∃ q, M.length = q := ⟨_, rfl⟩
  rw [hq] at hspec himpl hM
  have HQ := Lib.hid hq
  have h63q : q ≤ 9223372036854775807 := by omega
  have HSPEC := Lib.hid hspec
  have HIMPL := Lib.hid himpl
  clear hspec himpl hq hn0 hm0
  by_cases hbig0 : 1048576 < n0
  · have hb' : decide ((1048576 : Int) < (n0 : Int)) = true := by simp; omega
    go_enter Try.func11, Try.ntmps11
    go_wp2
    go_ret
    exact ⟨rfl, World.Since.refl _ _⟩
  have hb0 : decide ((1048576 : Int) < (n0 : Int)) = false := by simp; omega
  have hn0m : n0 ≤ 1048576 := by omega
  have HCP0 := Lib.hid (fun (W : World) (hs : w.Since w.heap.size W) => toIntR_any a0 cap0 n0 l0 W HN0.out hn0m (HM0.out.since hs))
  go_enter Try.func11, Try.ntmps11
  have s0 : w.Since w.heap.size w := World.Since.refl _ _
  go_wp2_with fail
  refine (HCP0.out _ s0).mono ?_
  rintro e w1 ⟨rfl, t1, o1⟩
  have s1 : w.Since w.heap.size w1 := s0.trans (since_mono t1 s0.size)
  have z1 := t1.size
  go_wp2_with fail
  refine (HSPEC.out _ _ hn0m o1.rowR).mono ?_
  rintro e w2 ⟨vgw, cpgw, rfl, t2, gw⟩
  have s2 : w.Since w.heap.size w2 := s1.trans (since_mono t2 s1.size)
  have z2 := t2.size
  replace o1 := o1.since t2
  clear o1
  go_wp2_with fail
  refine (HCP0.out _ s2).mono ?_
  rintro e w3 ⟨rfl, t3, o3⟩
  have s3 : w.Since w.heap.size w3 := s2.trans (since_mono t3 s2.size)
  have z3 := t3.size
  replace gw := gw.since t3
  have gx0 := o3
  clear o3
  go_wp2_with fail
  refine (HIMPL.out _ _ hn0m gx0.rowR).mono ?_
  rintro e w4 ⟨vgg, cpgg, rfl, t4, gg⟩
  have s4 : w.Since w.heap.size w4 := s3.trans (since_mono t4 s3.size)
  have z4 := t4.size
  replace gw := gw.since t4
  replace gx0 := gx0.since t4
  cases ok
  all_goals
    go_wp2_with fail
    refine (eqIntS_same _ _ _ _ _ M _ HQ.out h63q gg.rowR gw.rowR).mono ?_
    rintro e w5 ⟨rfl, d5⟩
    have t5 := d5.since w4.heap.size
    clear d5
    have s5 : w.Since w.heap.size w5 := s4.trans (since_mono t5 s4.size)
    have z5 := t5.size
    replace gw := gw.since t5
    replace gx0 := gx0.since t5
    replace gg := gg.since t5
    go_wp2_with fail
    refine (HCP0.out _ s5).mono ?_
    rintro e w6 ⟨rfl, t6, o6⟩
    have s6 : w.Since w.heap.size w6 := s5.trans (since_mono t6 s5.size)
    have z6 := t6.size
    replace gw := gw.since t6
    replace gx0 := gx0.since t6
    replace gg := gg.since t6
    go_wp2_with fail
    refine (eqIntS_same _ _ _ _ _ l0 _ HN0.out h630 gx0.rowR o6.rowR).mono ?_
    rintro e w7 ⟨rfl, d7⟩
    have t7 := d7.since w6.heap.size
    clear d7
    have s7 : w.Since w.heap.size w7 := s6.trans (since_mono t7 s6.size)
    have z7 := t7.size
    replace gw := gw.since t7
    replace gx0 := gx0.since t7
    replace gg := gg.since t7
    replace o6 := o6.since t7
    clear o6
    go_wp2_with fail
    refine (markR_any _ w2.heap.size w3.heap.size _ _ _ l0 _ HN0.out (by omega) (by omega) gx0).mono ?_
    rintro e w8 ⟨rfl, m8, f8, zz⟩
    clear zz
    clear gx0
    have gx0 := m8
    clear m8
    have s8 : w.Since w.heap.size w8 := s7.trans (f8.since (by omega) (by omega))
    have z8 := f8.size
    replace gw := gw.frame f8 (by omega)
    replace gg := gg.frame f8 (by omega)
    go_wp2_with fail
    refine (eqIntS_same _ _ _ _ _ M _ HQ.out h63q gg.rowR gw.rowR).mono ?_
    rintro e w9 ⟨rfl, d9⟩
    have t9 := d9.since w8.heap.size
    clear d9
    have s9 : w.Since w.heap.size w9 := s8.trans (since_mono t9 s8.size)
    have z9 := t9.size
    replace gw := gw.since t9
    replace gx0 := gx0.since t9
    replace gg := gg.since t9
    clear gx0
    go_wp2_with fail
    refine (markR_any _ w3.heap.size w4.heap.size _ _ _ M _ HQ.out (by omega) (by omega) gg).mono ?_
    rintro e w10 ⟨rfl, m10, f10, zz⟩
    clear zz
    clear gg
    have gg := m10
    clear m10
    have s10 : w.Since w.heap.size w10 := s9.trans (f10.since (by omega) (by omega))
    have z10 := f10.size
    replace gw := gw.frame f10 (by omega)
    go_wp2_with fail
    refine (heldIntS_any _ _ _ 1 _ (by omega) (by omega) gg.rowR).mono ?_
    rintro e w11 ⟨rfl, rfl⟩
    go_wp2_with fail
    refine (HCP0.out _ s10).mono ?_
    rintro e w11 ⟨rfl, t11, o11⟩
    have s11 : w.Since w.heap.size w11 := s10.trans (since_mono t11 s10.size)
    have z11 := t11.size
    replace gw := gw.since t11
    replace gg := gg.since t11
    go_wp2_with fail
    refine (HIMPL.out _ _ hn0m o11.rowR).mono ?_
    rintro e w12 ⟨vgh, cpgh, rfl, t12, gh⟩
    have s12 : w.Since w.heap.size w12 := s11.trans (since_mono t12 s11.size)
    have z12 := t12.size
    replace gw := gw.since t12
    replace gg := gg.since t12
    replace o11 := o11.since t12
    clear o11
    go_wp2_with fail
    refine (eqIntS_same _ _ _ _ _ M _ HQ.out h63q gh.rowR gw.rowR).mono ?_
    rintro e w13 ⟨rfl, d13⟩
    have t13 := d13.since w12.heap.size
    clear d13
    have s13 : w.Since w.heap.size w13 := s12.trans (since_mono t13 s12.size)
    have z13 := t13.size
    replace gw := gw.since t13
    replace gg := gg.since t13
    replace gh := gh.since t13
    go_wp2_with fail
    refine (heldIntS_any _ _ _ 1 _ (by omega) (by omega) gg.rowR).mono ?_
    rintro e w14 ⟨rfl, rfl⟩
    go_wp2
    go_ret
    exact ⟨rfl, s13⟩

end Go.Proofs.Ytdbomnhlgaohaaa
