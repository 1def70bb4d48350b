/- The walk of laws.FnExactTableSame, over the contracts of spec.TableSame and impl.TableSame. -/
import Derived.Test.YtmcbephlhjceaaaUnitSpec
namespace Go.Proofs.Ytmcbephlhjceaaa
open Go.RowKit Go.Deep

set_option maxRecDepth 100000 in
set_option maxHeartbeats 1000000 in
theorem lawTableSame_aux (a0 : Option Addr) (cap0 n0 : Nat) (l0 : List (List Int)) (a1 : Option Addr) (cap1 n1 : Nat) (l1 : List (List Int)) (ok : Bool) (w : World) (hn0 : l0.length = n0) (h630 : n0 ≤ 9223372036854775807) (hl0 : ∀ r, r < l0.length → (l0.getD r []).length ≤ 9223372036854775807) (hm0 : MatR w a0 l0) (hn1 : l1.length = n1) (h631 : n1 ≤ 9223372036854775807) (hl1 : ∀ r, r < l1.length → (l1.getD r []).length ≤ 9223372036854775807) (hm1 : MatR w a1 l1)
    (hspec : szL l0 ≤ 1048576 ∧ szL l1 ≤ 1048576 → ∀ (W : World) (b0 : Option Addr) (c0 : Nat) (b1 : Option Addr) (c1 : Nat), MatR W b0 l0 → MatR W b1 l1 → Calls Try.prog 40 #[.slice b0 n0 c0, .slice b1 n1 c1] W (fun e w' => e = .returned (.bool ok) ∧ W.Since W.heap.size w'))
    (himpl : szL l0 ≤ 1048576 ∧ szL l1 ≤ 1048576 → ∀ (W : World) (b0 : Option Addr) (c0 : Nat) (b1 : Option Addr) (c1 : Nat), MatR W b0 l0 → MatR W b1 l1 → Calls Try.prog 41 #[.slice b0 n0 c0, .slice b1 n1 c1] W (fun e w' => e = .returned (.bool ok) ∧ W.Since W.heap.size w')) :
    Calls Try.prog 13 #[.slice a0 n0 cap0, .slice a1 n1 cap1] w fun e w' => e = .returned (.bool true) ∧ w.Since w.heap.size w' := by
  have HN0 := Lib.hid hn0
  have HL0 := Lib.hid hl0
  have HM0 := Lib.hid hm0
  have HN1 := Lib.hid hn1
  have HL1 := Lib.hid hl1
  have HM1 := Lib.hid hm1
  have HSPEC := Lib.hid hspec
  have HIMPL := Lib.hid himpl
  clear hspec himpl hn0 hl0 hm0 hn1 hl1 hm1
  go_enter Try.func13, Try.ntmps13
  have hz0 := szIntSS_any a0 cap0 l0 (1048576) w (by omega) (by omega) (by rw [HN0.out]; exact h630) HL0.out HM0.out
  rw [HN0.out] at hz0
  have HZ0 := Lib.hid hz0
  clear hz0
  go_wp2_with fail
  refine (HZ0.out).mono ?_
  rintro e w' ⟨r0, rfl, hra0, hrb0, rfl⟩
  by_cases hr00 : r0 < 0
  · go_wp2
    go_ret
    exact ⟨rfl, World.Since.refl _ _⟩
  have hs0 : r0 = 1048576 - szL l0 := hrb0 (by omega)
  have hle0 : r0 ≤ 1048576 := by omega
  have HS0 := Lib.hid hs0
  clear hrb0
  clear hs0
  have hz1 := szIntSS_any a1 cap1 l1 (r0) w (by omega) (by omega) (by rw [HN1.out]; exact h631) HL1.out HM1.out
  rw [HN1.out] at hz1
  have HZ1 := Lib.hid hz1
  clear hz1
  go_wp2_with fail
  refine (HZ1.out).mono ?_
  rintro e w' ⟨r1, rfl, hra1, hrb1, rfl⟩
  by_cases hr01 : r1 < 0
  · go_wp2
    go_ret
    exact ⟨rfl, World.Since.refl _ _⟩
  have hs1 : r1 = r0 - szL l1 := hrb1 (by omega)
  have hle1 : r1 ≤ 1048576 := by omega
  have HS1 := Lib.hid hs1
  clear hrb1
  clear hs1
  have hzl0 : szL l0 ≤ 1048576 := by have e0 := HS0.out; have e1 := HS1.out; omega
  have hst0 : sumTo l0 n0 ≤ 1048576 := by rw [← HN0.out]; unfold szL at hzl0; omega
  have hzl1 : szL l1 ≤ 1048576 := by have e0 := HS0.out; have e1 := HS1.out; omega
  have hst1 : sumTo l1 n1 ≤ 1048576 := by rw [← HN1.out]; unfold szL at hzl1; omega
  have hsum : sumTo l0 n0 + sumTo l1 n1 ≤ 1048576 := by have e0 := HS0.out; have e1 := HS1.out; have f0 : szL l0 = n0 + sumTo l0 n0 := (by unfold szL; rw [HN0.out]); have f1 : szL l1 = n1 + sumTo l1 n1 := (by unfold szL; rw [HN1.out]); omega
  have HCP0 := Lib.hid (fun (W : World) (hs : w.Since w.heap.size W) => toIntSS_any a0 cap0 n0 l0 W HN0.out hzl0 (HM0.out.since hs))
  have HCP1 := Lib.hid (fun (W : World) (hs : w.Since w.heap.size W) => toIntSS_any a1 cap1 n1 l1 W HN1.out hzl1 (HM1.out.since hs))
  have s0 : w.Since w.heap.size w := World.Since.refl _ _
  cases ok
  all_goals
    go_wp2_with fail
    refine (HCP0.out _ s0).mono ?_
    rintro e w1 ⟨rfl, c1⟩
    have o1 := c1.ownT HN0.out
    have t1 := c1.since
    clear c1
    have s1 : w.Since w.heap.size w1 := s0.trans (since_mono t1 s0.size)
    have z1 := t1.size
    go_wp2_with fail
    refine (HCP1.out _ s1).mono ?_
    rintro e w2 ⟨rfl, c2⟩
    have o2 := c2.ownT HN1.out
    have t2 := c2.since
    clear c2
    have s2 : w.Since w.heap.size w2 := s1.trans (since_mono t2 s1.size)
    have z2 := t2.size
    replace o1 := o1.since t2
    go_wp2_with fail
    refine (HSPEC.out (⟨hzl0, hzl1⟩) _ _ _ _ _ o1.matR o2.matR).mono ?_
    rintro e w3 ⟨rfl, t3⟩
    have s3 : w.Since w.heap.size w3 := s2.trans (since_mono t3 s2.size)
    have z3 := t3.size
    replace o1 := o1.since t3
    replace o2 := o2.since t3
    clear o1
    clear o2
    go_wp2_with fail
    refine (HCP0.out _ s3).mono ?_
    rintro e w4 ⟨rfl, c4⟩
    have o4 := c4.ownT HN0.out
    have t4 := c4.since
    clear c4
    have s4 : w.Since w.heap.size w4 := s3.trans (since_mono t4 s3.size)
    have z4 := t4.size
    have gx0 := o4
    clear o4
    go_wp2_with fail
    refine (HCP1.out _ s4).mono ?_
    rintro e w5 ⟨rfl, c5⟩
    have o5 := c5.ownT HN1.out
    have t5 := c5.since
    clear c5
    have s5 : w.Since w.heap.size w5 := s4.trans (since_mono t5 s4.size)
    have z5 := t5.size
    replace gx0 := gx0.since t5
    have gx1 := o5
    clear o5
    go_wp2_with fail
    refine (HIMPL.out (⟨hzl0, hzl1⟩) _ _ _ _ _ gx0.matR gx1.matR).mono ?_
    rintro e w6 ⟨rfl, t6⟩
    have s6 : w.Since w.heap.size w6 := s5.trans (since_mono t6 s5.size)
    have z6 := t6.size
    replace gx0 := gx0.since t6
    replace gx1 := gx1.since t6
    go_wp2_with fail
    refine (HCP0.out _ s6).mono ?_
    rintro e w7 ⟨rfl, c7⟩
    have o7 := c7.ownT HN0.out
    have t7 := c7.since
    clear c7
    have s7 : w.Since w.heap.size w7 := s6.trans (since_mono t7 s6.size)
    have z7 := t7.size
    replace gx0 := gx0.since t7
    replace gx1 := gx1.since t7
    go_wp2_with fail
    refine (eqIntSS_same _ _ _ _ _ l0 _ HN0.out h630 HL0.out gx0.matR o7.matR).mono ?_
    rintro e w8 ⟨rfl, d8⟩
    have t8 := d8.since w7.heap.size
    clear d8
    have s8 : w.Since w.heap.size w8 := s7.trans (since_mono t8 s7.size)
    have z8 := t8.size
    replace gx0 := gx0.since t8
    replace gx1 := gx1.since t8
    replace o7 := o7.since t8
    clear o7
    go_wp2_with fail
    refine (HCP1.out _ s8).mono ?_
    rintro e w9 ⟨rfl, c9⟩
    have o9 := c9.ownT HN1.out
    have t9 := c9.since
    clear c9
    have s9 : w.Since w.heap.size w9 := s8.trans (since_mono t9 s8.size)
    have z9 := t9.size
    replace gx0 := gx0.since t9
    replace gx1 := gx1.since t9
    go_wp2_with fail
    refine (eqIntSS_same _ _ _ _ _ l1 _ HN1.out h631 HL1.out gx1.matR o9.matR).mono ?_
    rintro e w10 ⟨rfl, d10⟩
    have t10 := d10.since w9.heap.size
    clear d10
    have s10 : w.Since w.heap.size w10 := s9.trans (since_mono t10 s9.size)
    have z10 := t10.size
    replace gx0 := gx0.since t10
    replace gx1 := gx1.since t10
    replace o9 := o9.since t10
    clear o9
    go_wp2
    go_ret
    exact ⟨rfl, s10⟩

end Go.Proofs.Ytmcbephlhjceaaa
