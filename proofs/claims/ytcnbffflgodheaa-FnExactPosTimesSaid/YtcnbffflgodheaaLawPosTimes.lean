/- The walk of laws.FnExactPosTimes, over the contracts of spec.PosTimes and impl.PosTimes. -/
import Derived.Test.YtcnbffflgodheaaUnitSpec
import Derived.Test.YtcnbffflgodheaaOwnR
namespace Go.Proofs.Ytcnbffflgodheaa
open Go.RowKit Go.Deep

set_option maxRecDepth 100000 in
set_option maxHeartbeats 1000000 in
theorem lawPosTimes_aux (a0 : Option Addr) (cap0 n0 : Nat) (l0 : List (List Int)) (a1 : Option Addr) (cap1 n1 : Nat) (l1 : List Int) (ok : Bool) (M : List Int) (w : World) (hn0 : l0.length = n0) (h630 : n0 ≤ 9223372036854775807) (hl0 : ∀ r, r < l0.length → (l0.getD r []).length ≤ 9223372036854775807) (hm0 : MatR w a0 l0) (hn1 : l1.length = n1) (h631 : n1 ≤ 9223372036854775807) (hm1 : RowR w a1 l1) (hM : M.length ≤ 1000)
    (hspec : szL l0 ≤ 1048576 ∧ n1 ≤ 1048576 → ∀ (W : World) (b0 : Option Addr) (c0 : Nat) (b1 : Option Addr) (c1 : Nat), MatR W b0 l0 → RowR W b1 l1 → Calls Try.prog 45 #[.slice b0 n0 c0, .slice b1 n1 c1] W (fun e w' => ∃ a cap, e = .returned (.tuple #[.slice a M.length cap, .bool ok]) ∧ W.Since W.heap.size w' ∧ InR W.heap.size w'.heap.size w' a M))
    (himpl : szL l0 ≤ 1048576 ∧ n1 ≤ 1048576 → ∀ (W : World) (b0 : Option Addr) (c0 : Nat) (b1 : Option Addr) (c1 : Nat), MatR W b0 l0 → RowR W b1 l1 → Calls Try.prog 46 #[.slice b0 n0 c0, .slice b1 n1 c1] W (fun e w' => ∃ a cap, e = .returned (.tuple #[.slice a M.length cap, .bool ok]) ∧ W.Since W.heap.size w' ∧ OwnR W.heap.size w'.heap.size w' a M)) :
    Calls Try.prog 13 #[.slice a0 n0 cap0, .slice a1 n1 cap1] w fun e w' => e = .returned (.bool true) ∧ w.Since w.heap.size w' := by
  have HN0 := Lib.hid hn0
  have HM0 := Lib.hid hm0
  have HN1 := Lib.hid hn1
  have HM1 := Lib.hid hm1
  have HL0 := Lib.hid hl0
  obtain ⟨q, hq⟩ : ∃ q, M.length = q := ⟨_, rfl⟩
  rw [hq] at hspec himpl hM
  have HQ := Lib.hid hq
  have HSPEC := Lib.hid hspec
  have HIMPL := Lib.hid himpl
  clear hspec himpl hq hn0 hl0 hm0 hn1 hm1
  by_cases hbig : 1048576 < n1
  · have hb' : decide ((1048576 : Int) < (n1 : Int)) = true := by simp; omega
    go_enter Try.func13, Try.ntmps13
    go_wp2
    go_ret
    exact ⟨rfl, World.Since.refl _ _⟩
  have hb' : decide ((1048576 : Int) < (n1 : Int)) = false := by simp; omega
  have hn1m : n1 ≤ 1048576 := by omega
  go_enter Try.func13, Try.ntmps13
  have hz0 := szIntSS_any a0 cap0 l0 (1048576) w (by omega) (by omega) (by rw [HN0.out]; exact h630) HL0.out HM0.out
  rw [HN0.out] at hz0
  have HZ0 := Lib.hid hz0
  clear hz0
  go_wp2_with fail
  refine (HZ0.out).mono ?_
  rintro e w' ⟨r0, rfl, hra0, hrb0, rfl⟩
  by_cases hr00 : r0 < 0
  · go_wp2
    go_ret
    exact ⟨rfl, World.Since.refl _ _⟩
  have hs0 : r0 = 1048576 - szL l0 := hrb0 (by omega)
  have hzl0 : szL l0 ≤ 1048576 := by omega
  have hst0 : sumTo l0 n0 ≤ 1048576 := by rw [← HN0.out]; unfold szL at hzl0; omega
  clear hrb0 hs0
  have HCP0 := Lib.hid (fun (W : World) (hs : w.Since w.heap.size W) => toIntSS_any a0 cap0 n0 l0 W HN0.out hzl0 (HM0.out.since hs))
  have HCP1 := Lib.hid (fun (W : World) (hs : w.Since w.heap.size W) => toIntR_any a1 cap1 n1 l1 W HN1.out hn1m (HM1.out.since hs))
  have s0 : w.Since w.heap.size w := World.Since.refl _ _
  go_wp2_with fail
  refine (HCP0.out _ s0).mono ?_
  rintro e w1 ⟨rfl, c1⟩
  have o1 := c1.ownT HN0.out
  have t1 := c1.since
  clear c1
  have s1 : w.Since w.heap.size w1 := s0.trans (since_mono t1 s0.size)
  have z1 := t1.size
  go_wp2_with fail
  refine (HCP1.out _ s1).mono ?_
  rintro e w2 ⟨rfl, t2, o2⟩
  have s2 : w.Since w.heap.size w2 := s1.trans (since_mono t2 s1.size)
  have z2 := t2.size
  replace o1 := o1.since t2
  go_wp2_with fail
  refine (HSPEC.out ⟨hzl0, hn1m⟩ _ _ _ _ _ o1.matR o2.rowR).mono ?_
  rintro e w3 ⟨vgw, cpgw, rfl, t3, gw⟩
  have s3 : w.Since w.heap.size w3 := s2.trans (since_mono t3 s2.size)
  have z3 := t3.size
  replace o1 := o1.since t3
  replace o2 := o2.since t3
  clear o1
  clear o2
  go_wp2_with fail
  refine (HCP0.out _ s3).mono ?_
  rintro e w4 ⟨rfl, c4⟩
  have o4 := c4.ownT HN0.out
  have t4 := c4.since
  clear c4
  have s4 : w.Since w.heap.size w4 := s3.trans (since_mono t4 s3.size)
  have z4 := t4.size
  replace gw := gw.since t4
  have gx0 := o4
  clear o4
  go_wp2_with fail
  refine (HCP1.out _ s4).mono ?_
  rintro e w5 ⟨rfl, t5, o5⟩
  have s5 : w.Since w.heap.size w5 := s4.trans (since_mono t5 s4.size)
  have z5 := t5.size
  replace gw := gw.since t5
  replace gx0 := gx0.since t5
  have gx1 := o5
  clear o5
  go_wp2_with fail
  refine (HIMPL.out ⟨hzl0, hn1m⟩ _ _ _ _ _ gx0.matR gx1.rowR).mono ?_
  rintro e w6 ⟨vgg, cpgg, rfl, t6, gg⟩
  have s6 : w.Since w.heap.size w6 := s5.trans (since_mono t6 s5.size)
  have z6 := t6.size
  replace gw := gw.since t6
  replace gx0 := gx0.since t6
  replace gx1 := gx1.since t6
  have h63q : q ≤ 9223372036854775807 := by omega
  cases ok
  all_goals
    go_wp2_with fail
    refine (eqIntS_same _ _ _ _ _ M _ HQ.out h63q gg.rowR gw.rowR).mono ?_
    rintro e w7 ⟨rfl, d7⟩
    have t7 := d7.since w6.heap.size
    clear d7
    have s7 : w.Since w.heap.size w7 := s6.trans (since_mono t7 s6.size)
    have z7 := t7.size
    replace gw := gw.since t7
    replace gx0 := gx0.since t7
    replace gx1 := gx1.since t7
    replace gg := gg.since t7
    go_wp2_with fail
    refine (HCP0.out _ s7).mono ?_
    rintro e w8 ⟨rfl, c8⟩
    have o8 := c8.ownT HN0.out
    have t8 := c8.since
    clear c8
    have s8 : w.Since w.heap.size w8 := s7.trans (since_mono t8 s7.size)
    have z8 := t8.size
    replace gw := gw.since t8
    replace gx0 := gx0.since t8
    replace gx1 := gx1.since t8
    replace gg := gg.since t8
    go_wp2_with fail
    refine (eqIntSS_same _ _ _ _ _ l0 _ HN0.out h630 HL0.out gx0.matR o8.matR).mono ?_
    rintro e w9 ⟨rfl, d9⟩
    have t9 := d9.since w8.heap.size
    clear d9
    have s9 : w.Since w.heap.size w9 := s8.trans (since_mono t9 s8.size)
    have z9 := t9.size
    replace gw := gw.since t9
    replace gx0 := gx0.since t9
    replace gx1 := gx1.since t9
    replace gg := gg.since t9
    replace o8 := o8.since t9
    clear o8
    go_wp2_with fail
    refine (HCP1.out _ s9).mono ?_
    rintro e w10 ⟨rfl, t10, o10⟩
    have s10 : w.Since w.heap.size w10 := s9.trans (since_mono t10 s9.size)
    have z10 := t10.size
    replace gw := gw.since t10
    replace gx0 := gx0.since t10
    replace gx1 := gx1.since t10
    replace gg := gg.since t10
    go_wp2_with fail
    refine (eqIntS_same _ _ _ _ _ l1 _ HN1.out h631 gx1.rowR o10.rowR).mono ?_
    rintro e w11 ⟨rfl, d11⟩
    have t11 := d11.since w10.heap.size
    clear d11
    have s11 : w.Since w.heap.size w11 := s10.trans (since_mono t11 s10.size)
    have z11 := t11.size
    replace gw := gw.since t11
    replace gx0 := gx0.since t11
    replace gx1 := gx1.since t11
    replace gg := gg.since t11
    replace o10 := o10.since t11
    clear o10
    go_wp2_with fail
    refine (markIntSS_any _ w3.heap.size w4.heap.size _ _ _ l0 _ HN0.out hzl0 (by omega) (by omega) gx0).mono ?_
    rintro e w12 ⟨rfl, m12, f12, zz⟩
    clear zz
    clear gx0
    have gx0 := m12
    clear m12
    have s12 : w.Since w.heap.size w12 := s11.trans (f12.since (by omega) (by omega))
    have z12 := f12.size
    replace gw := gw.frame f12 (by omega)
    replace gx1 := gx1.frame f12 (by omega)
    replace gg := gg.frame f12 (by omega)
    go_wp2_with fail
    refine (markR_any _ w4.heap.size w5.heap.size _ _ _ l1 _ HN1.out (by omega) (by omega) gx1).mono ?_
    rintro e w13 ⟨rfl, m13, f13, zz⟩
    clear zz
    clear gx1
    have gx1 := m13
    clear m13
    have s13 : w.Since w.heap.size w13 := s12.trans (f13.since (by omega) (by omega))
    have z13 := f13.size
    replace gw := gw.frame f13 (by omega)
    replace gx0 := gx0.frame f13 (by omega)
    replace gg := gg.frame f13 (by omega)
    go_wp2_with fail
    refine (eqIntS_same _ _ _ _ _ M _ HQ.out h63q gg.rowR gw.rowR).mono ?_
    rintro e w14 ⟨rfl, d14⟩
    have t14 := d14.since w13.heap.size
    clear d14
    have s14 : w.Since w.heap.size w14 := s13.trans (since_mono t14 s13.size)
    have z14 := t14.size
    replace gw := gw.since t14
    replace gx0 := gx0.since t14
    replace gx1 := gx1.since t14
    replace gg := gg.since t14
    clear gx0
    clear gx1
    go_wp2_with fail
    refine (markR_any _ w5.heap.size w6.heap.size _ _ _ M _ HQ.out (by omega) (by omega) gg).mono ?_
    rintro e w15 ⟨rfl, m15, f15, zz⟩
    clear zz
    clear gg
    have gg := m15
    clear m15
    have s15 : w.Since w.heap.size w15 := s14.trans (f15.since (by omega) (by omega))
    have z15 := f15.size
    replace gw := gw.frame f15 (by omega)
    go_wp2_with fail
    refine (heldIntS_any _ _ _ 1 _ (by omega) (by omega) gg.rowR).mono ?_
    rintro e w16 ⟨rfl, rfl⟩
    go_wp2_with fail
    refine (HCP0.out _ s15).mono ?_
    rintro e w16 ⟨rfl, c16⟩
    have o16 := c16.ownT HN0.out
    have t16 := c16.since
    clear c16
    have s16 : w.Since w.heap.size w16 := s15.trans (since_mono t16 s15.size)
    have z16 := t16.size
    replace gw := gw.since t16
    replace gg := gg.since t16
    go_wp2_with fail
    refine (HCP1.out _ s16).mono ?_
    rintro e w17 ⟨rfl, t17, o17⟩
    have s17 : w.Since w.heap.size w17 := s16.trans (since_mono t17 s16.size)
    have z17 := t17.size
    replace gw := gw.since t17
    replace gg := gg.since t17
    replace o16 := o16.since t17
    go_wp2_with fail
    refine (HIMPL.out ⟨hzl0, hn1m⟩ _ _ _ _ _ o16.matR o17.rowR).mono ?_
    rintro e w18 ⟨vgh, cpgh, rfl, t18, gh⟩
    have s18 : w.Since w.heap.size w18 := s17.trans (since_mono t18 s17.size)
    have z18 := t18.size
    replace gw := gw.since t18
    replace gg := gg.since t18
    replace o16 := o16.since t18
    replace o17 := o17.since t18
    clear o16
    clear o17
    go_wp2_with fail
    refine (eqIntS_same _ _ _ _ _ M _ HQ.out h63q gh.rowR gw.rowR).mono ?_
    rintro e w19 ⟨rfl, d19⟩
    have t19 := d19.since w18.heap.size
    clear d19
    have s19 : w.Since w.heap.size w19 := s18.trans (since_mono t19 s18.size)
    have z19 := t19.size
    replace gw := gw.since t19
    replace gg := gg.since t19
    replace gh := gh.since t19
    go_wp2_with fail
    refine (heldIntS_any _ _ _ 1 _ (by omega) (by omega) gg.rowR).mono ?_
    rintro e w20 ⟨rfl, rfl⟩
    go_wp2
    go_ret
    exact ⟨rfl, s19⟩

end Go.Proofs.Ytcnbffflgodheaa
