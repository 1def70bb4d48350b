/- The walk of laws.FnExactNetIn, over the contracts of spec.NetIn and impl.NetIn. -/
import Derived.Test.YtdodchmelepkeaaChipL
namespace Go.Proofs.Ytdodchmelepkeaa
open Go.RowKit Go.Deep

set_option maxRecDepth 100000 in
set_option maxHeartbeats 400000 in
theorem lawNetIn_aux (x0 : Int) (a1 : Option Addr) (cap1 n1 : Nat) (l1 : List RC) (ok : Bool) (w : World) (hn1 : l1.length = n1) (h631 : n1 ≤ 9223372036854775807) (hs1 : ShortL l1) (hm1 : ChipsR w a1 l1)
    (hspec : n1 ≤ 1048576 → ∀ (W : World) (b1 : Option Addr) (c1 : Nat), n1 ≤ c1 → c1 ≤ 9223372036854775807 → (∃ g, b1 = some ⟨g, 0, none⟩) → ChipsR W b1 l1 → Calls Try.prog 14 #[.int .i64 x0, .slice b1 n1 c1] W (fun e w' => e = .returned (.bool ok) ∧ W.Since W.heap.size w'))
    (himpl : n1 ≤ 1048576 → ∀ (W : World) (b1 : Option Addr) (c1 : Nat), n1 ≤ c1 → c1 ≤ 9223372036854775807 → (∃ g, b1 = some ⟨g, 0, none⟩) → ChipsR W b1 l1 → Calls Try.prog 16 #[.int .i64 x0, .slice b1 n1 c1] W (fun e w' => e = .returned (.bool ok) ∧ W.Since W.heap.size w')) :
    Calls Try.prog 3 #[.int .i64 x0, .slice a1 n1 cap1] w fun e w' => e = .returned (.bool true) ∧ w.Since w.heap.size w' := by
  have HN1 := Lib.hid hn1
  have HM1 := Lib.hid hm1
  have HH1 := Lib.hid hs1
  have HSPEC := Lib.hid hspec
  have HIMPL := Lib.hid himpl
  clear hspec himpl hn1 hm1 hs1
  go_enter Try.func3, Try.ntmps3
  have s0 : w.Since w.heap.size w := World.Since.refl _ _
  have HZ1 := Lib.hid (szChipS_any a1 cap1 n1 1048576 l1 w HN1.out h631 ⟨by omega, by omega⟩ HH1.out (HM1.out.since s0))
  go_wp2_with fail
  refine (HZ1.out).mono ?_
  rintro e w1 ⟨r1, ⟨rfl, hra1, hrb1⟩, t1⟩
  have s1 : w.Since w.heap.size w1 := s0.trans (since_mono t1 s0.size)
  clear t1
  by_cases hr01 : r1 < 0
  · have hb : decide (r1 < 0) = true := by simpa using hr01
    go_wp2_with fail
    go_ret
    exact ⟨rfl, s1⟩
  have hb1 : decide (r1 < 0) = false := by simpa using hr01
  have hle1 : n1 ≤ 1048576 := by have := hrb1 (by omega); omega
  clear hrb1
  go_wp2_with fail
  refine (toChipS_any a1 cap1 n1 l1 _ HN1.out hle1 (HM1.out.since s1)).mono ?_
  rintro e w2 ⟨rfl, t2, op1⟩
  have s2 : w.Since w.heap.size w2 := s1.trans (since_mono t2 s1.size)
  clear t2
  go_wp2_with fail
  refine (HSPEC.out hle1 _ _ _ (Nat.le_refl _) (by omega) ⟨_, rfl⟩ op1.chips).mono ?_
  rintro e w3 ⟨rfl, t3⟩
  have s3 : w.Since w.heap.size w3 := s2.trans (since_mono t3 s2.size)
  replace op1 := op1.since t3
  clear t3
  clear op1
  go_wp2_with fail
  refine (toChipS_any a1 cap1 n1 l1 _ HN1.out hle1 (HM1.out.since s3)).mono ?_
  rintro e w4 ⟨rfl, t4, ox1⟩
  have s4 : w.Since w.heap.size w4 := s3.trans (since_mono t4 s3.size)
  clear t4
  go_wp2_with fail
  refine (HIMPL.out hle1 _ _ _ (Nat.le_refl _) (by omega) ⟨_, rfl⟩ ox1.chips).mono ?_
  rintro e w5 ⟨rfl, t5⟩
  have s5 : w.Since w.heap.size w5 := s4.trans (since_mono t5 s4.size)
  replace ox1 := ox1.since t5
  clear t5
  cases ok
  all_goals
    go_wp2_with fail
    refine (toChipS_any a1 cap1 n1 l1 _ HN1.out hle1 (HM1.out.since s5)).mono ?_
    rintro e w6 ⟨rfl, t6, oy1⟩
    have s6 : w.Since w.heap.size w6 := s5.trans (since_mono t6 s5.size)
    replace ox1 := ox1.since t6
    clear t6
    go_wp2_with fail
    refine (eqChipS_same _ _ _ _ _ l1 _ HN1.out h631 ox1.chips oy1.chips).mono ?_
    rintro e w7 ⟨rfl, t7⟩
    have s7 : w.Since w.heap.size w7 := s6.trans (since_mono t7 s6.size)
    replace ox1 := ox1.since t7
    clear t7 oy1
    go_wp2_with fail
    go_ret
    exact ⟨rfl, s7⟩

end Go.Proofs.Ytdodchmelepkeaa
