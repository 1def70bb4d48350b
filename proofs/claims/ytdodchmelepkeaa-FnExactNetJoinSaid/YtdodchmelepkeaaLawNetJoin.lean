/- The walk of laws.FnExactNetJoin, over the contracts of spec.NetJoin and impl.NetJoin. -/
import Derived.Test.YtdodchmelepkeaaChipL
import Derived.Test.YtdodchmelepkeaaMarkX
namespace Go.Proofs.Ytdodchmelepkeaa
open Go.RowKit Go.Deep

set_option maxRecDepth 100000 in
set_option maxHeartbeats 1000000 in
theorem lawNetJoin_aux (x0 : Int) (a1 : Option Addr) (cap1 n1 : Nat) (l1 : List RC) (a2 : Option Addr) (cap2 n2 : Nat) (l2 : List RC) (ok : Bool) (M : List RC) (w : World) (hn1 : l1.length = n1) (h631 : n1 ≤ 9223372036854775807) (hs1 : ShortL l1) (hm1 : ChipsR w a1 l1) (hn2 : l2.length = n2) (h632 : n2 ≤ 9223372036854775807) (hs2 : ShortL l2) (hm2 : ChipsR w a2 l2) (hM : M.length ≤ 1048576)
    (hspec : n1 ≤ 1048576 → n2 ≤ 1048576 → ∀ (W : World) (b1 : Option Addr) (c1 : Nat) (b2 : Option Addr) (c2 : Nat), n1 ≤ c1 → c1 ≤ 9223372036854775807 → (∃ g, b1 = some ⟨g, 0, none⟩) → ChipsR W b1 l1 → n2 ≤ c2 → c2 ≤ 9223372036854775807 → (∃ g, b2 = some ⟨g, 0, none⟩) → ChipsR W b2 l2 → Calls Try.prog 31 #[.int .i64 x0, .slice b1 n1 c1, .slice b2 n2 c2] W (fun e w' => ∃ a cap, e = .returned (.tuple #[.slice a M.length cap, .bool ok]) ∧ W.Since W.heap.size w' ∧ InC W.heap.size w'.heap.size w' a M))
    (himpl : n1 ≤ 1048576 → n2 ≤ 1048576 → ∀ (W : World) (b1 : Option Addr) (c1 : Nat) (b2 : Option Addr) (c2 : Nat), n1 ≤ c1 → c1 ≤ 9223372036854775807 → (∃ g, b1 = some ⟨g, 0, none⟩) → ChipsR W b1 l1 → n2 ≤ c2 → c2 ≤ 9223372036854775807 → (∃ g, b2 = some ⟨g, 0, none⟩) → ChipsR W b2 l2 → Calls Try.prog 32 #[.int .i64 x0, .slice b1 n1 c1, .slice b2 n2 c2] W (fun e w' => ∃ a cap, e = .returned (.tuple #[.slice a M.length cap, .bool ok]) ∧ W.Since W.heap.size w' ∧ OwnC W.heap.size w'.heap.size w' a M)) :
    Calls Try.prog 8 #[.int .i64 x0, .slice a1 n1 cap1, .slice a2 n2 cap2] w fun e w' => e = .returned (.bool true) ∧ w.Since w.heap.size w' := by
  have HN1 := Lib.hid hn1
  have HM1 := Lib.hid hm1
  have HH1 := Lib.hid hs1
  have HN2 := Lib.hid hn2
  have HM2 := Lib.hid hm2
  have HH2 := Lib.hid hs2
  obtain ⟨q, hq⟩ : ∃ q, M.length = q := ⟨_, rfl⟩
  rw [hq] at hspec himpl
  have HQ := Lib.hid hq
  have h63q : q ≤ 9223372036854775807 := by omega
  have hsq : q ≤ 1048576 := by omega
  have HSPEC := Lib.hid hspec
  have HIMPL := Lib.hid himpl
  clear hspec himpl hq hn1 hm1 hs1 hn2 hm2 hs2
  go_enter Try.func8, Try.ntmps8
  have s0 : w.Since w.heap.size w := World.Since.refl _ _
  have HZ1 := Lib.hid (szChipS_any a1 cap1 n1 1048576 l1 w HN1.out h631 ⟨by omega, by omega⟩ HH1.out (HM1.out.since s0))
  go_wp2_with fail
  refine (HZ1.out).mono ?_
  rintro e w1 ⟨r1, ⟨rfl, hra1, hrb1⟩, t1⟩
  have s1 : w.Since w.heap.size w1 := s0.trans (since_mono t1 s0.size)
  have z1 := t1.size
  clear t1
  by_cases hr01 : r1 < 0
  · have hb : decide (r1 < 0) = true := by simpa using hr01
    go_wp2_with fail
    go_ret
    exact ⟨rfl, s1⟩
  have hb1 : decide (r1 < 0) = false := by simpa using hr01
  have hle1 : n1 ≤ 1048576 := by have := hrb1 (by omega); omega
  clear hrb1
  have HZ2 := Lib.hid (szChipS_any a2 cap2 n2 r1 l2 w1 HN2.out h632 ⟨by omega, by omega⟩ HH2.out (HM2.out.since s1))
  go_wp2_with fail
  refine (HZ2.out).mono ?_
  rintro e w2 ⟨r2, ⟨rfl, hra2, hrb2⟩, t2⟩
  have s2 : w.Since w.heap.size w2 := s1.trans (since_mono t2 s1.size)
  have z2 := t2.size
  clear t2
  by_cases hr02 : r2 < 0
  · have hb : decide (r2 < 0) = true := by simpa using hr02
    go_wp2_with fail
    go_ret
    exact ⟨rfl, s2⟩
  have hb2 : decide (r2 < 0) = false := by simpa using hr02
  have hle2 : n2 ≤ 1048576 := by have := hrb2 (by omega); omega
  clear hrb2
  go_wp2_with fail
  refine (toChipS_any a1 cap1 n1 l1 _ HN1.out hle1 (HM1.out.since s2)).mono ?_
  rintro e w3 ⟨rfl, t3, op1⟩
  have s3 : w.Since w.heap.size w3 := s2.trans (since_mono t3 s2.size)
  have z3 := t3.size
  clear t3
  go_wp2_with fail
  refine (toChipS_any a2 cap2 n2 l2 _ HN2.out hle2 (HM2.out.since s3)).mono ?_
  rintro e w4 ⟨rfl, t4, op2⟩
  have s4 : w.Since w.heap.size w4 := s3.trans (since_mono t4 s3.size)
  have z4 := t4.size
  replace op1 := op1.since t4
  clear t4
  go_wp2_with fail
  refine (HSPEC.out hle1 hle2 _ _ _ _ _ (Nat.le_refl _) (by omega) ⟨_, rfl⟩ op1.chips (Nat.le_refl _) (by omega) ⟨_, rfl⟩ op2.chips).mono ?_
  rintro e w5 ⟨vgw, cpgw, rfl, t5, gw⟩
  have s5 : w.Since w.heap.size w5 := s4.trans (since_mono t5 s4.size)
  have z5 := t5.size
  replace op1 := op1.since t5
  replace op2 := op2.since t5
  clear t5
  clear op1
  clear op2
  go_wp2_with fail
  refine (toChipS_any a1 cap1 n1 l1 _ HN1.out hle1 (HM1.out.since s5)).mono ?_
  rintro e w6 ⟨rfl, t6, ox1⟩
  have s6 : w.Since w.heap.size w6 := s5.trans (since_mono t6 s5.size)
  have z6 := t6.size
  replace gw := gw.since t6
  clear t6
  go_wp2_with fail
  refine (toChipS_any a2 cap2 n2 l2 _ HN2.out hle2 (HM2.out.since s6)).mono ?_
  rintro e w7 ⟨rfl, t7, ox2⟩
  have s7 : w.Since w.heap.size w7 := s6.trans (since_mono t7 s6.size)
  have z7 := t7.size
  replace gw := gw.since t7
  replace ox1 := ox1.since t7
  clear t7
  go_wp2_with fail
  refine (HIMPL.out hle1 hle2 _ _ _ _ _ (Nat.le_refl _) (by omega) ⟨_, rfl⟩ ox1.chips (Nat.le_refl _) (by omega) ⟨_, rfl⟩ ox2.chips).mono ?_
  rintro e w8 ⟨vgg, cpgg, rfl, t8, gg⟩
  have s8 : w.Since w.heap.size w8 := s7.trans (since_mono t8 s7.size)
  have z8 := t8.size
  replace gw := gw.since t8
  replace ox1 := ox1.since t8
  replace ox2 := ox2.since t8
  clear t8
  cases ok
  all_goals
    go_wp2_with fail
    refine (eqChipS_same _ _ _ _ _ M _ HQ.out h63q gg.chips gw.chips).mono ?_
    rintro e w9 ⟨rfl, t9⟩
    have s9 : w.Since w.heap.size w9 := s8.trans (since_mono t9 s8.size)
    have z9 := t9.size
    replace gw := gw.since t9
    replace ox1 := ox1.since t9
    replace ox2 := ox2.since t9
    replace gg := gg.since t9
    clear t9
    go_wp2_with fail
    refine (toChipS_any a1 cap1 n1 l1 _ HN1.out hle1 (HM1.out.since s9)).mono ?_
    rintro e w10 ⟨rfl, t10, oy1⟩
    have s10 : w.Since w.heap.size w10 := s9.trans (since_mono t10 s9.size)
    have z10 := t10.size
    replace gw := gw.since t10
    replace ox1 := ox1.since t10
    replace ox2 := ox2.since t10
    replace gg := gg.since t10
    clear t10
    go_wp2_with fail
    refine (eqChipS_same _ _ _ _ _ l1 _ HN1.out h631 ox1.chips oy1.chips).mono ?_
    rintro e w11 ⟨rfl, t11⟩
    have s11 : w.Since w.heap.size w11 := s10.trans (since_mono t11 s10.size)
    have z11 := t11.size
    replace gw := gw.since t11
    replace ox1 := ox1.since t11
    replace ox2 := ox2.since t11
    replace gg := gg.since t11
    replace oy1 := oy1.since t11
    clear t11
    clear oy1
    go_wp2_with fail
    refine (toChipS_any a2 cap2 n2 l2 _ HN2.out hle2 (HM2.out.since s11)).mono ?_
    rintro e w12 ⟨rfl, t12, oy2⟩
    have s12 : w.Since w.heap.size w12 := s11.trans (since_mono t12 s11.size)
    have z12 := t12.size
    replace gw := gw.since t12
    replace ox1 := ox1.since t12
    replace ox2 := ox2.since t12
    replace gg := gg.since t12
    clear t12
    go_wp2_with fail
    refine (eqChipS_same _ _ _ _ _ l2 _ HN2.out h632 ox2.chips oy2.chips).mono ?_
    rintro e w13 ⟨rfl, t13⟩
    have s13 : w.Since w.heap.size w13 := s12.trans (since_mono t13 s12.size)
    have z13 := t13.size
    replace gw := gw.since t13
    replace ox1 := ox1.since t13
    replace ox2 := ox2.since t13
    replace gg := gg.since t13
    replace oy2 := oy2.since t13
    clear t13
    clear oy2
    go_wp2_with fail
    refine (markChipS_any _ w5.heap.size w6.heap.size _ _ (1) l1 _ HN1.out hle1 (by omega) (by omega) ox1).mono ?_
    rintro e w14 ⟨rfl, m14, f14⟩
    clear ox1
    have ox1 := m14
    clear m14
    have s14 : w.Since w.heap.size w14 := s13.trans (f14.since (by omega) (by omega))
    have z14 := f14.size
    replace gw := gw.frame f14 (by omega)
    replace ox2 := ox2.frame f14 (by omega)
    replace gg := gg.frame f14 (by omega)
    go_wp2_with fail
    refine (markChipS_any _ w6.heap.size w7.heap.size _ _ (1 + 3 * n1) l2 _ HN2.out hle2 (by omega) (by omega) ox2).mono ?_
    rintro e w15 ⟨rfl, m15, f15⟩
    clear ox2
    have ox2 := m15
    clear m15
    have s15 : w.Since w.heap.size w15 := s14.trans (f15.since (by omega) (by omega))
    have z15 := f15.size
    replace gw := gw.frame f15 (by omega)
    replace ox1 := ox1.frame f15 (by omega)
    replace gg := gg.frame f15 (by omega)
    go_wp2_with fail
    refine (eqChipS_same _ _ _ _ _ M _ HQ.out h63q gg.chips gw.chips).mono ?_
    rintro e w16 ⟨rfl, t16⟩
    have s16 : w.Since w.heap.size w16 := s15.trans (since_mono t16 s15.size)
    have z16 := t16.size
    replace gw := gw.since t16
    replace ox1 := ox1.since t16
    replace ox2 := ox2.since t16
    replace gg := gg.since t16
    clear t16
    clear ox1
    clear ox2
    go_wp2_with fail
    refine (markChipS_any _ w7.heap.size w8.heap.size _ _ (1) M _ HQ.out hsq (by omega) (by omega) gg).mono ?_
    rintro e w17 ⟨rfl, m17, f17⟩
    clear gg
    have gg := m17
    clear m17
    have s17 : w.Since w.heap.size w17 := s16.trans (f17.since (by omega) (by omega))
    have z17 := f17.size
    replace gw := gw.frame f17 (by omega)
    go_wp2_with fail
    refine (heldChipS_any _ _ _ 1 M _ HQ.out hsq (by omega) (by omega) gg.chips).mono ?_
    rintro e w18 ⟨rfl, t18⟩
    have s18 : w.Since w.heap.size w18 := s17.trans (since_mono t18 s17.size)
    have z18 := t18.size
    replace gw := gw.since t18
    replace gg := gg.since t18
    clear t18
    go_wp2_with fail
    refine (toChipS_any a1 cap1 n1 l1 _ HN1.out hle1 (HM1.out.since s18)).mono ?_
    rintro e w19 ⟨rfl, t19, oz1⟩
    have s19 : w.Since w.heap.size w19 := s18.trans (since_mono t19 s18.size)
    have z19 := t19.size
    replace gw := gw.since t19
    replace gg := gg.since t19
    clear t19
    go_wp2_with fail
    refine (toChipS_any a2 cap2 n2 l2 _ HN2.out hle2 (HM2.out.since s19)).mono ?_
    rintro e w20 ⟨rfl, t20, oz2⟩
    have s20 : w.Since w.heap.size w20 := s19.trans (since_mono t20 s19.size)
    have z20 := t20.size
    replace gw := gw.since t20
    replace gg := gg.since t20
    replace oz1 := oz1.since t20
    clear t20
    go_wp2_with fail
    refine (HIMPL.out hle1 hle2 _ _ _ _ _ (Nat.le_refl _) (by omega) ⟨_, rfl⟩ oz1.chips (Nat.le_refl _) (by omega) ⟨_, rfl⟩ oz2.chips).mono ?_
    rintro e w21 ⟨vgh, cpgh, rfl, t21, gh⟩
    have s21 : w.Since w.heap.size w21 := s20.trans (since_mono t21 s20.size)
    have z21 := t21.size
    replace gw := gw.since t21
    replace gg := gg.since t21
    replace oz1 := oz1.since t21
    replace oz2 := oz2.since t21
    clear t21
    clear oz1
    clear oz2
    go_wp2_with fail
    refine (eqChipS_same _ _ _ _ _ M _ HQ.out h63q gh.chips gw.chips).mono ?_
    rintro e w22 ⟨rfl, t22⟩
    have s22 : w.Since w.heap.size w22 := s21.trans (since_mono t22 s21.size)
    have z22 := t22.size
    replace gw := gw.since t22
    replace gg := gg.since t22
    replace gh := gh.since t22
    clear t22
    go_wp2_with fail
    refine (heldChipS_any _ _ _ 1 M _ HQ.out hsq (by omega) (by omega) gg.chips).mono ?_
    rintro e w23 ⟨rfl, t23⟩
    have s23 : w.Since w.heap.size w23 := s22.trans (since_mono t23 s22.size)
    have z23 := t23.size
    replace gw := gw.since t23
    replace gg := gg.since t23
    replace gh := gh.since t23
    clear t23
    go_wp2_with fail
    go_ret
    exact ⟨rfl, s23⟩

end Go.Proofs.Ytdodchmelepkeaa
