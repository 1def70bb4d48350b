import Derived.Test.YtikjeaoapeaabaaUnitSpec
import Derived.Test.YtikjeaoapeaabaaRowsV
import Derived.Test.YtikjeaoapeaabaaDet
import Derived.Test.YtikjeaoapeaabaaPartImpl
import Derived.Test.YtikjeaoapeaabaaRoads
import Derived.Test.YtikjeaoapeaabaaCondI
import Derived.Test.YtikjeaoapeaabaaCondV
import Derived.Test.YtikjeaoapeaabaaRows
import Derived.Test.YtikjeaoapeaabaaData
import Derived.ProofKit
import Derived.Deep.Matrix

section
namespace Go.Proofs.Ytikjeaoapeaabaa
open Go.RowKit Go.Deep

set_option maxRecDepth 100000 in
set_option maxHeartbeats 1000000 in
theorem lawValueCondense_aux (a0 : Option Addr) (cap0 n0 : Nat) (l0 : List (List Int)) (ok : Bool) (v : Int) (w : World) (hn0 : l0.length = n0) (h630 : n0 ≤ 9223372036854775807) (hl0 : ∀ r, r < l0.length → (l0.getD r []).length ≤ 9223372036854775807) (hm0 : MatR w a0 l0)
    (hspec : szL l0 ≤ 1048576 → ∀ (W : World) (b0 : Option Addr) (c0 : Nat), MatR W b0 l0 → Calls Try.prog 22 #[.slice b0 n0 c0] W (fun e w' => e = .returned (.tuple #[.int .i64 v, .bool ok]) ∧ W.Since W.heap.size w'))
    (himpl : szL l0 ≤ 1048576 → ∀ (W : World) (b0 : Option Addr) (c0 : Nat), MatR W b0 l0 → Calls Try.prog 23 #[.slice b0 n0 c0] W (fun e w' => e = .returned (.tuple #[.int .i64 v, .bool ok]) ∧ W.Since W.heap.size w')) :
    Calls Try.prog 5 #[.slice a0 n0 cap0] w fun e w' => e = .returned (.bool true) ∧ w.Since w.heap.size w' := by
  have HN0 := Lib.hid hn0
  have HL0 := Lib.hid hl0
  have HM0 := Lib.hid hm0
  have HSPEC := Lib.hid hspec
  have HIMPL := Lib.hid himpl
  clear hspec himpl hn0 hl0 hm0
  go_enter Try.func5, Try.ntmps5
  have hz0 := szIntSS_any a0 cap0 l0 (1048576) w (by omega) (by omega) (by rw [HN0.out]; exact h630) HL0.out HM0.out
  rw [HN0.out] at hz0
  have HZ0 := Lib.hid hz0
  clear hz0
  go_wp2_with fail
  refine (HZ0.out).mono ?_
  rintro e w' ⟨r0, rfl, hra0, hrb0, rfl⟩
  by_cases hr00 : r0 < 0
  · go_wp2
    go_ret
    exact ⟨rfl, World.Since.refl _ _⟩
  have hs0 : r0 = 1048576 - szL l0 := hrb0 (by omega)
  have hle0 : r0 ≤ 1048576 := by omega
  have HS0 := Lib.hid hs0
  clear hrb0
  clear hs0
  have hzl0 : szL l0 ≤ 1048576 := by have e0 := HS0.out; omega
  have hst0 : sumTo l0 n0 ≤ 1048576 := by rw [← HN0.out]; unfold szL at hzl0; omega
  have hsum : sumTo l0 n0 ≤ 1048576 := by have e0 := HS0.out; have f0 : szL l0 = n0 + sumTo l0 n0 := (by unfold szL; rw [HN0.out]); omega
  have HCP0 := Lib.hid (fun (W : World) (hs : w.Since w.heap.size W) => toIntSS_any a0 cap0 n0 l0 W HN0.out hzl0 (HM0.out.since hs))
  have s0 : w.Since w.heap.size w := World.Since.refl _ _
  cases ok
  all_goals
    go_wp2_with fail
    refine (HCP0.out _ s0).mono ?_
    rintro e w1 ⟨rfl, c1⟩
    have o1 := c1.ownT HN0.out
    have t1 := c1.since
    clear c1
    have s1 : w.Since w.heap.size w1 := s0.trans (since_mono t1 s0.size)
    have z1 := t1.size
    go_wp2_with fail
    refine (HSPEC.out (hzl0) _ _ _ o1.matR).mono ?_
    rintro e w2 ⟨rfl, t2⟩
    have s2 : w.Since w.heap.size w2 := s1.trans (since_mono t2 s1.size)
    have z2 := t2.size
    replace o1 := o1.since t2
    clear o1
    go_wp2_with fail
    refine (HCP0.out _ s2).mono ?_
    rintro e w3 ⟨rfl, c3⟩
    have o3 := c3.ownT HN0.out
    have t3 := c3.since
    clear c3
    have s3 : w.Since w.heap.size w3 := s2.trans (since_mono t3 s2.size)
    have z3 := t3.size
    have gx0 := o3
    clear o3
    go_wp2_with fail
    refine (HIMPL.out (hzl0) _ _ _ gx0.matR).mono ?_
    rintro e w4 ⟨rfl, t4⟩
    have s4 : w.Since w.heap.size w4 := s3.trans (since_mono t4 s3.size)
    have z4 := t4.size
    replace gx0 := gx0.since t4
    go_wp2_with fail
    refine (HCP0.out _ s4).mono ?_
    rintro e w5 ⟨rfl, c5⟩
    have o5 := c5.ownT HN0.out
    have t5 := c5.since
    clear c5
    have s5 : w.Since w.heap.size w5 := s4.trans (since_mono t5 s4.size)
    have z5 := t5.size
    replace gx0 := gx0.since t5
    go_wp2_with fail
    refine (eqIntSS_same _ _ _ _ _ l0 _ HN0.out h630 HL0.out gx0.matR o5.matR).mono ?_
    rintro e w6 ⟨rfl, d6⟩
    have t6 := d6.since w5.heap.size
    clear d6
    have s6 : w.Since w.heap.size w6 := s5.trans (since_mono t6 s5.size)
    have z6 := t6.size
    replace gx0 := gx0.since t6
    replace o5 := o5.since t6
    clear o5
    go_wp2
    go_ret
    exact ⟨rfl, s6⟩

end Go.Proofs.Ytikjeaoapeaabaa
end

section
namespace Go.Proofs.Ytikjeaoapeaabaa
open Go.RowKit Go.Deep

theorem sn_tmod (k : Nat) (h : k < 64) : (Int.tmod (k : Int) 2 == 0) = !decide (k % 2 = 1) := by
  have h2 : ∀ k : Fin 64, (Int.tmod (k.val : Int) 2 == 0) = !decide (k.val % 2 = 1) := by decide +kernel
  exact h2 ⟨k, h⟩

set_option maxHeartbeats 400000 in
theorem signOf_any (k : Nat) (h : k < 64) (w : World) :
    Calls Try.prog 70 #[.int .i64 k] w fun e w' => e = .returned (.int .i64 (sn k)) ∧ w = w' := by
  have e := sn_tmod k h
  by_cases ho : k % 2 = 1
  · have e2 : sn k = -1 := if_pos ho
    rw [e2]
    have e3 : (Int.tmod (k : Int) 2 == 0) = false := by rw [e]; simp [ho]
    clear e h
    go_enter Try.func70, Try.ntmps70
    go_wp2
    go_ret
    exact ⟨rfl, rfl⟩
  · have e2 : sn k = 1 := if_neg ho
    rw [e2]
    have e3 : (Int.tmod (k : Int) 2 == 0) = true := by rw [e]; simp [ho]
    clear e h
    go_enter Try.func70, Try.ntmps70
    go_wp2
    go_ret
    exact ⟨rfl, rfl⟩

set_option maxHeartbeats 1000000 in
theorem isSquare_any (a : Option Addr) (cap n : Nat) (l : List (List Int)) (w : World) (hn : l.length = n) (hsz : szL l ≤ 1048576) (hm : MatR w a l) :
    Calls Try.prog 67 #[.slice a n cap] w fun e w' => e = .returned (.bool (sqB l)) ∧ w.Since w.heap.size w' := by
  have E := fits_any a cap n l w hn hsz hm
  cases hT : tabIn l with
  | false =>
    have hs : sqB l = false := by unfold sqB; rw [hT]; rfl
    rw [hs]
    rw [hT] at E
    replace E := Lib.hid E
    clear hs hT hn hsz hm
    go_enter Try.func67, Try.ntmps67
    go_wp2_with fail
    refine (E.out).mono ?_
    rintro e w1 ⟨rfl, hd⟩
    have HD := Lib.hid hd
    clear hd
    go_wp2
    go_ret
    exact ⟨rfl, HD.out⟩
  | true =>
    have hTT := tabIn_of hT
    have h1 := hTT.1
    have h6 := hTT.2.1
    rw [hn] at h1 h6
    obtain ⟨m, hmm⟩ : ∃ m, (l.getD 0 []).length = m := ⟨_, rfl⟩
    have hs : sqB l = (n == m) := by unfold sqB; rw [hT, hn, hmm]; rfl
    rw [hs]
    rw [hT] at E
    replace E := Lib.hid E
    have EW := fun (W : World) (h : w.Since w.heap.size W) => width_any a cap n l W hn (by omega) (by omega) (hm.since h)
    rw [hmm] at EW
    replace EW := Lib.hid EW
    clear hs hT hTT hn hsz hm hmm
    go_enter Try.func67, Try.ntmps67
    go_wp2_with fail
    refine (E.out).mono ?_
    rintro e w1 ⟨rfl, hd⟩
    have HD := Lib.hid hd
    clear hd
    go_wp2_with fail
    refine (EW.out w1 HD.out).mono ?_
    rintro e w2 ⟨rfl, rfl⟩
    have hb : ((n : Int) == (m : Int)) = (n == m) := by
      by_cases e : n = m
      · subst e; simp
      · rw [beq_eq_false_iff_ne.2 e, beq_eq_false_iff_ne.2 (by omega)]
    go_wp2
    go_ret
    refine ⟨?_, HD.out⟩
    rw [← hb]
    rfl

set_option maxHeartbeats 2000000 in
theorem without_any (a : Option Addr) (cap n r k : Nat) (l : List (List Int)) (w : World) (hn : l.length = n) (hT : TabIn l) (hw : (l.getD 0 []).length = n) (hr : r < n) (hk : k < n) (hm : MatR w a l) :
    Calls Try.prog 71 #[.slice a n cap, .int .i64 r, .int .i64 k] w fun e w' => ∃ a' cap', e = .returned (.slice a' (partL l (2 ^ n - 1 - 2 ^ r) (2 ^ n - 1 - 2 ^ k)).length cap') ∧ w.Since w.heap.size w' ∧ OwnT w.heap.size w'.heap.size w' a' (partL l (2 ^ n - 1 - 2 ^ r) (2 ^ n - 1 - 2 ^ k)) := by
  have h6 := hT.2.1
  rw [hn] at h6
  have E1 := fun (W : World) => allRows_any a cap n W h6
  have E2 := fun (W : World) (h : w.Since w.heap.size W) => width_any a cap n l W hn (by omega) (by omega) (hm.since h)
  rw [hw] at E2
  have E3 := fun (W : World) => fullSet_any n h6 W
  have e1 := andNot_fin ⟨n, by omega⟩ ⟨r, by omega⟩ hr
  have e2 := andNot_fin ⟨n, by omega⟩ ⟨k, by omega⟩ hk
  have e3 := pow63 ⟨n, by omega⟩
  have w1 := pow_in ⟨r, by omega⟩
  have w2 := pow_in ⟨k, by omega⟩
  simp only at e1 e2 e3 w1 w2
  have hm1 : min r 64 = r := by omega
  have hm2 : min k 64 = k := by omega
  have E4 := fun (W : World) (h : w.Since w.heap.size W) => part_any a cap n (2 ^ n - 1 - 2 ^ r) (2 ^ n - 1 - 2 ^ k) l W hn hT (Nat.le_trans (Nat.sub_le _ _) e3) (Nat.le_trans (Nat.sub_le _ _) e3) (hm.since h)
  obtain ⟨s, hs⟩ : ∃ s, s = 2 ^ n - 1 - 2 ^ r := ⟨_, rfl⟩
  obtain ⟨c, hc⟩ : ∃ s, s = 2 ^ n - 1 - 2 ^ k := ⟨_, rfl⟩
  obtain ⟨Aa, hA⟩ : ∃ s, s = 2 ^ n - 1 := ⟨_, rfl⟩
  rw [← hs, ← hA] at e1
  rw [← hc, ← hA] at e2
  simp only [← hs, ← hc] at E4 ⊢
  simp only [← hA] at E1 E3
  have H1 := Lib.hid E1
  have H2 := Lib.hid E2
  have H3 := Lib.hid E3
  have H4 := Lib.hid E4
  clear E1 E2 E3 E4 hs hc hA hT hm hn hw e3
  go_enter Try.func71, Try.ntmps71
  go_wp2
  go_region_held3 (fun _ => True) (exact trivial)
    (first
      | (go_at_call 93; refine (H1.out _).mono ?_; rintro e w3 ⟨rfl, rfl⟩)
      | (go_at_call 61; refine (H2.out _ ?_).mono ?_; (exact (World.Since.refl _ _).drew); rintro e w3 ⟨rfl, rfl⟩)
      | (go_at_call 89; refine (H3.out _).mono ?_; rintro e w3 ⟨rfl, rfl⟩)
      | (go_at_call 64; refine (H4.out _ ?_).mono ?_; (exact (World.Since.refl _ _).drew); rintro e w3 ⟨a', cap', rfl, hs2, ho⟩))
  all_goals
    go_wp2
    go_ret
    exact ⟨a', cap', rfl, since_of_drew hs2, ho⟩

end Go.Proofs.Ytikjeaoapeaabaa
end

section
namespace Go.Proofs.Ytikjeaoapeaabaa
open Go.RowKit Go.Deep

theorem since_of_map {W w' : World} {o : Obj} (hg : (W.alloc o).grownBy w' (some W.heap.size)) : W.Since W.heap.size w' := by
  have h0 := (World.Since.refl W.heap.size W).alloc (Nat.le_refl _) o
  have h1 := hg.size
  simp only [World.size_alloc] at h1
  exact ⟨hg.os.trans h0.os, hg.tape.trans h0.tape, hg.output.trans h0.output, by omega, fun k hk => (hg.block k (by simp; omega) (by intro e; injection e with e; omega)).trans (h0.block k hk)⟩

set_option maxHeartbeats 400000 in
theorem anyValue_of (rb : Nat) (a : Option Addr) (n cap : Nat) (x : Int) (W : World) (hr : RoadsAt W rb) (ht : ∀ W', W.grownBy W' (some rb) → Calls Try.prog 103 #[.slice a n cap] W' (fun e w' => e = .returned (.int .i64 x) ∧ W'.Since W'.heap.size w')) :
    Calls Try.prog 63 #[.map (some rb), .slice a n cap] W (fun e w' => e = .returned (.int .i64 x) ∧ W.grownBy w' (some rb) ∧ RoadsAt w' rb) := by
  have E := Lib.hid (roads_2 rb a n cap x W hr ht)
  clear hr ht
  go_enter Try.func63, Try.ntmps63
  go_wp2_with fail
  refine (E.out).mono ?_
  rintro e w' ⟨rfl, hg, hr⟩
  go_wp2
  go_ret
  exact ⟨rfl, hg, hr⟩

set_option maxHeartbeats 800000 in
theorem square_0 (a : Option Addr) (cap n : Nat) (l : List (List Int)) (x : Int) (w : World) (hn : l.length = n) (hsz : szL l ≤ 1048576) (hm : MatR w a l) (ht : sqB l = true → ∀ W', MatR W' a l → Calls Try.prog 101 #[.slice a n cap] W' (fun e w' => e = .returned (.int .i64 x) ∧ W'.Since W'.heap.size w')) :
    Calls Try.prog 51 #[.slice a n cap, .int .i64 0] w (SpecW w (sqB l) x) := by
  have E := isSquare_any a cap n l w hn hsz hm
  cases hs : sqB l with
  | false =>
    rw [hs] at E
    replace E := Lib.hid E
    clear hs hm hn hsz ht
    go_enter Try.func51, Try.ntmps51
    go_wp2_with fail
    refine (E.out).mono ?_
    rintro e w1 ⟨rfl, hd⟩
    have HD := Lib.hid hd
    clear hd
    go_wp2
    go_ret2
    exact ⟨rfl, HD.out⟩
  | true =>
    rw [hs] at E
    replace E := Lib.hid E
    have E2 := Lib.hid (fun (W : World) (hd : w.Since w.heap.size W) => roads_0 W.heap.size a n cap x (W.alloc (.map #[] 0)) (roads_made W) (fun W' hg => ht hs W' (hm.since (hd.trans (since_mono (since_of_map hg) hd.size)))))
    clear hs hm hn hsz ht
    have hmm := @run_makeMap Try.prog
    go_enter Try.func51, Try.ntmps51
    go_wp2_with fail
    refine (E.out).mono ?_
    rintro e w1 ⟨rfl, hd⟩
    have HD := Lib.hid hd
    clear hd
    go_wp2_with fail
    refine (E2.out w1 HD.out).mono ?_
    rintro e w2 ⟨rfl, hg, hr⟩
    have HS2 := Lib.hid (HD.out.trans (since_mono (since_of_map hg) HD.out.size))
    clear hg hr
    go_wp2
    go_ret2
    exact ⟨rfl, HS2.out⟩

set_option maxHeartbeats 400000 in
theorem implValueOrders_of (a : Option Addr) (cap n : Nat) (l : List (List Int)) (x : Int) (w : World) (hn : l.length = n) (hsz : szL l ≤ 1048576) (hm : MatR w a l) (ht : sqB l = true → ∀ W', MatR W' a l → Calls Try.prog 101 #[.slice a n cap] W' (fun e w' => e = .returned (.int .i64 x) ∧ W'.Since W'.heap.size w')) :
    Calls Try.prog 41 #[.slice a n cap] w (SpecW w (sqB l) x) := by
  have E := square_0 a cap n l x w hn hsz hm ht
  unfold SpecW at E ⊢
  generalize (if (sqB l) = true then x else 0) = y at E ⊢
  generalize (sqB l) = b at E ⊢
  replace E := Lib.hid E
  clear hn hsz hm ht
  go_enter Try.func41, Try.ntmps41
  go_wp2_with fail
  refine (E.out).mono ?_
  rintro e w1 ⟨rfl, hd⟩
  go_wp2
  go_ret2
  exact ⟨rfl, hd⟩

set_option maxHeartbeats 800000 in
theorem square_1 (a : Option Addr) (cap n : Nat) (l : List (List Int)) (x : Int) (w : World) (hn : l.length = n) (hsz : szL l ≤ 1048576) (hm : MatR w a l) (ht : sqB l = true → ∀ W', MatR W' a l → Calls Try.prog 102 #[.slice a n cap] W' (fun e w' => e = .returned (.int .i64 x) ∧ W'.Since W'.heap.size w')) :
    Calls Try.prog 51 #[.slice a n cap, .int .i64 1] w (SpecW w (sqB l) x) := by
  have E := isSquare_any a cap n l w hn hsz hm
  cases hs : sqB l with
  | false =>
    rw [hs] at E
    replace E := Lib.hid E
    clear hs hm hn hsz ht
    go_enter Try.func51, Try.ntmps51
    go_wp2_with fail
    refine (E.out).mono ?_
    rintro e w1 ⟨rfl, hd⟩
    have HD := Lib.hid hd
    clear hd
    go_wp2
    go_ret2
    exact ⟨rfl, HD.out⟩
  | true =>
    rw [hs] at E
    replace E := Lib.hid E
    have E2 := Lib.hid (fun (W : World) (hd : w.Since w.heap.size W) => roads_1 W.heap.size a n cap x (W.alloc (.map #[] 0)) (roads_made W) (fun W' hg => ht hs W' (hm.since (hd.trans (since_mono (since_of_map hg) hd.size)))))
    clear hs hm hn hsz ht
    have hmm := @run_makeMap Try.prog
    go_enter Try.func51, Try.ntmps51
    go_wp2_with fail
    refine (E.out).mono ?_
    rintro e w1 ⟨rfl, hd⟩
    have HD := Lib.hid hd
    clear hd
    go_wp2_with fail
    refine (E2.out w1 HD.out).mono ?_
    rintro e w2 ⟨rfl, hg, hr⟩
    have HS2 := Lib.hid (HD.out.trans (since_mono (since_of_map hg) HD.out.size))
    clear hg hr
    go_wp2
    go_ret2
    exact ⟨rfl, HS2.out⟩

set_option maxHeartbeats 400000 in
theorem implValueRows_of (a : Option Addr) (cap n : Nat) (l : List (List Int)) (x : Int) (w : World) (hn : l.length = n) (hsz : szL l ≤ 1048576) (hm : MatR w a l) (ht : sqB l = true → ∀ W', MatR W' a l → Calls Try.prog 102 #[.slice a n cap] W' (fun e w' => e = .returned (.int .i64 x) ∧ W'.Since W'.heap.size w')) :
    Calls Try.prog 18 #[.slice a n cap] w (SpecW w (sqB l) x) := by
  have E := square_1 a cap n l x w hn hsz hm ht
  unfold SpecW at E ⊢
  generalize (if (sqB l) = true then x else 0) = y at E ⊢
  generalize (sqB l) = b at E ⊢
  replace E := Lib.hid E
  clear hn hsz hm ht
  go_enter Try.func18, Try.ntmps18
  go_wp2_with fail
  refine (E.out).mono ?_
  rintro e w1 ⟨rfl, hd⟩
  go_wp2
  go_ret2
  exact ⟨rfl, hd⟩

set_option maxHeartbeats 800000 in
theorem square_2 (a : Option Addr) (cap n : Nat) (l : List (List Int)) (x : Int) (w : World) (hn : l.length = n) (hsz : szL l ≤ 1048576) (hm : MatR w a l) (ht : sqB l = true → ∀ W', MatR W' a l → Calls Try.prog 103 #[.slice a n cap] W' (fun e w' => e = .returned (.int .i64 x) ∧ W'.Since W'.heap.size w')) :
    Calls Try.prog 51 #[.slice a n cap, .int .i64 2] w (SpecW w (sqB l) x) := by
  have E := isSquare_any a cap n l w hn hsz hm
  cases hs : sqB l with
  | false =>
    rw [hs] at E
    replace E := Lib.hid E
    clear hs hm hn hsz ht
    go_enter Try.func51, Try.ntmps51
    go_wp2_with fail
    refine (E.out).mono ?_
    rintro e w1 ⟨rfl, hd⟩
    have HD := Lib.hid hd
    clear hd
    go_wp2
    go_ret2
    exact ⟨rfl, HD.out⟩
  | true =>
    rw [hs] at E
    replace E := Lib.hid E
    have E2 := Lib.hid (fun (W : World) (hd : w.Since w.heap.size W) => roads_2 W.heap.size a n cap x (W.alloc (.map #[] 0)) (roads_made W) (fun W' hg => ht hs W' (hm.since (hd.trans (since_mono (since_of_map hg) hd.size)))))
    clear hs hm hn hsz ht
    have hmm := @run_makeMap Try.prog
    go_enter Try.func51, Try.ntmps51
    go_wp2_with fail
    refine (E.out).mono ?_
    rintro e w1 ⟨rfl, hd⟩
    have HD := Lib.hid hd
    clear hd
    go_wp2_with fail
    refine (E2.out w1 HD.out).mono ?_
    rintro e w2 ⟨rfl, hg, hr⟩
    have HS2 := Lib.hid (HD.out.trans (since_mono (since_of_map hg) HD.out.size))
    clear hg hr
    go_wp2
    go_ret2
    exact ⟨rfl, HS2.out⟩

set_option maxHeartbeats 400000 in
theorem implValuePivots_of (a : Option Addr) (cap n : Nat) (l : List (List Int)) (x : Int) (w : World) (hn : l.length = n) (hsz : szL l ≤ 1048576) (hm : MatR w a l) (ht : sqB l = true → ∀ W', MatR W' a l → Calls Try.prog 103 #[.slice a n cap] W' (fun e w' => e = .returned (.int .i64 x) ∧ W'.Since W'.heap.size w')) :
    Calls Try.prog 21 #[.slice a n cap] w (SpecW w (sqB l) x) := by
  have E := square_2 a cap n l x w hn hsz hm ht
  unfold SpecW at E ⊢
  generalize (if (sqB l) = true then x else 0) = y at E ⊢
  generalize (sqB l) = b at E ⊢
  replace E := Lib.hid E
  clear hn hsz hm ht
  go_enter Try.func21, Try.ntmps21
  go_wp2_with fail
  refine (E.out).mono ?_
  rintro e w1 ⟨rfl, hd⟩
  go_wp2
  go_ret2
  exact ⟨rfl, hd⟩

set_option maxHeartbeats 800000 in
theorem square_3 (a : Option Addr) (cap n : Nat) (l : List (List Int)) (x : Int) (ok : Bool) (w : World) (hn : l.length = n) (hsz : szL l ≤ 1048576) (hm : MatR w a l) (ht : sqB l = true → ∀ W', MatR W' a l → Calls Try.prog 104 #[.slice a n cap] W' (fun e w' => e = .returned (.tuple #[.int .i64 (if ok then x else 0), .bool ok]) ∧ W'.Since W'.heap.size w')) :
    Calls Try.prog 51 #[.slice a n cap, .int .i64 3] w (SpecW w (sqB l && ok) x) := by
  have E := isSquare_any a cap n l w hn hsz hm
  cases hs : sqB l with
  | false =>
    rw [hs] at E
    replace E := Lib.hid E
    clear hs hm hn hsz ht
    go_enter Try.func51, Try.ntmps51
    go_wp2_with fail
    refine (E.out).mono ?_
    rintro e w1 ⟨rfl, hd⟩
    have HD := Lib.hid hd
    clear hd
    go_wp2
    go_ret2
    exact ⟨rfl, HD.out⟩
  | true =>
    rw [hs] at E
    replace E := Lib.hid E
    have E2 := Lib.hid (fun (W : World) (hd : w.Since w.heap.size W) => roads_3 W.heap.size a n cap (if ok then x else 0) ok (W.alloc (.map #[] 0)) (roads_made W) (fun W' hg => ht hs W' (hm.since (hd.trans (since_mono (since_of_map hg) hd.size)))))
    clear hs hm hn hsz ht
    generalize hy : (if ok = true then x else 0) = y at E2
    have hmm := @run_makeMap Try.prog
    go_enter Try.func51, Try.ntmps51
    go_wp2_with fail
    refine (E.out).mono ?_
    rintro e w1 ⟨rfl, hd⟩
    have HD := Lib.hid hd
    clear hd
    go_wp2_with fail
    refine (E2.out w1 HD.out).mono ?_
    rintro e w2 ⟨rfl, hg, hr⟩
    have HS2 := Lib.hid (HD.out.trans (since_mono (since_of_map hg) HD.out.size))
    clear hg hr
    go_wp2
    go_ret2
    exact ⟨by rw [← hy]; cases ok <;> rfl, HS2.out⟩

set_option maxHeartbeats 400000 in
theorem implValueCondense_of (a : Option Addr) (cap n : Nat) (l : List (List Int)) (x : Int) (ok : Bool) (w : World) (hn : l.length = n) (hsz : szL l ≤ 1048576) (hm : MatR w a l) (ht : sqB l = true → ∀ W', MatR W' a l → Calls Try.prog 104 #[.slice a n cap] W' (fun e w' => e = .returned (.tuple #[.int .i64 (if ok then x else 0), .bool ok]) ∧ W'.Since W'.heap.size w')) :
    Calls Try.prog 23 #[.slice a n cap] w (SpecW w (sqB l && ok) x) := by
  have E := square_3 a cap n l x ok w hn hsz hm ht
  unfold SpecW at E ⊢
  generalize (if (sqB l && ok) = true then x else 0) = y at E ⊢
  generalize (sqB l && ok) = b at E ⊢
  replace E := Lib.hid E
  clear hn hsz hm ht
  go_enter Try.func23, Try.ntmps23
  go_wp2_with fail
  refine (E.out).mono ?_
  rintro e w1 ⟨rfl, hd⟩
  go_wp2
  go_ret2
  exact ⟨rfl, hd⟩

end Go.Proofs.Ytikjeaoapeaabaa
end

section
namespace Go.Proofs.Ytikjeaoapeaabaa
open Go.RowKit Go.Deep

theorem tabF_self {l : List (List Int)} {n : Nat} (hn : l.length = n) (hrow : ∀ r, r < n → (l.getD r []).length = n) : tabF n n (at2 l) = l := by
  have h : (List.range n).map (fun r => (List.range n).map (at2 l r)) = (List.range n).map (fun r => l.getD r []) :=
    List.map_congr_left fun r hr => by
      have hr' := hrow r (List.mem_range.1 hr)
      have e := range_getD (l.getD r []) (0 : Int)
      rw [hr'] at e
      exact e
  show (List.range n).map (fun r => (List.range n).map (at2 l r)) = l
  rw [h, ← hn, range_getD]

set_option maxRecDepth 100000 in
set_option maxHeartbeats 1500000 in
theorem byCondensing_any (n : Nat) (l : List (List Int)) (a : Option Addr) (cap : Nat) (w : World) (hn : l.length = n) (hT : TabIn l) (hw : (l.getD 0 []).length = n) (hm : MatR w a l) :
    Calls Try.prog 104 #[.slice a n cap] w fun e w' => e = .returned (.tuple #[.int .i64 (if conB n (at2 l) = true then dt n (at2 l) else 0), .bool (conB n (at2 l))]) ∧ w.Since w.heap.size w' := by
  have h6 := hT.2.1
  have h1 := hT.1
  rw [hn] at h6 h1
  have hA : ∀ i j, i < n → j < n → -30 ≤ at2 l i j ∧ at2 l i j ≤ 30 := fun i j hi hj => hT.at (by omega) (by omega)
  have hrow : ∀ r, r < n → (l.getD r []).length = n := fun r hr => by rw [hT.row (by omega), hw]
  have hmt : MatR w a (tabF n n (cn (at2 l) 1)) := by
    have e : cn (at2 l) 1 = at2 l := by funext i k; exact cn_one _ i k
    rw [e, tabF_self hn hrow]; exact hm
  have HG := Lib.hid hmt
  clear hmt
  obtain ⟨F, hFF⟩ : ∃ F, F = at2 l := ⟨_, rfl⟩
  rw [← hFF] at hA HG ⊢
  have HA := Lib.hid hA
  obtain ⟨b, hb⟩ : ∃ b, conB n F = b := ⟨_, rfl⟩
  obtain ⟨y, hy⟩ : ∃ y, (if conB n F = true then dt n F else 0) = y := ⟨_, rfl⟩
  rw [hy, hb]
  have HNO := Lib.hid (fun (h : conB n F = false) => show b = false ∧ y = 0 from ⟨by rw [← hb, h], by rw [← hy, h]; rfl⟩)
  have HYES := Lib.hid (fun (h : conB n F = true) => show b = true ∧ y = dt n F from ⟨by rw [← hb, h], by rw [← hy, h, if_pos rfl]⟩)
  clear hb hy
  have EO := Lib.hid (ones_any (n + 1) (by omega) w)
  clear hA hrow hm hT hw hn hFF
  go_enter Try.func104, Try.ntmps104
  go_wp2_with fail
  refine (EO.out).mono ?_
  rintro e w1 ⟨rfl, hs1, ho1⟩
  have HM1 := Lib.hid ho1.matR
  have HS1 := Lib.hid hs1
  have HG1 := Lib.hid (HG.out.since hs1)
  clear ho1 hs1
  go_wp2
  go_loopg [0, 4, 5] n (fun g t ah _ wr => ∃ (d M ca ct : Nat) (aa ta : Option Addr), d < n ∧ g = n - d ∧ M = n - d + 1 ∧ t = .slice ta (n - d) ct ∧ ah = .slice aa M ca ∧ MatR wr ta (tabF (n - d) (n - d) (cn F (d + 1))) ∧ MatR wr aa (tabF M M (cn F d)) ∧ ConTo n F d ∧ w.Since w.heap.size wr)
  case atStart => exact ⟨0, n + 1, _, _, _, _, by omega, rfl, rfl, rfl, rfl, HG1.out, HM1.out, ConTo.start n F, HS1.out⟩
  case round =>
    obtain ⟨d, M, ca, ct, aa, ta, hd, rfl, hM, rfl, rfl, hG, hP, hC, hS⟩ := hrel
    clear HG1 HM1 HS1
    have HGT := Lib.hid hG
    have HGG := Lib.hid (GR.of_tab hG (by omega))
    have HC := Lib.hid hC
    have HS := Lib.hid hS
    obtain ⟨m, hm⟩ : ∃ m, n - d = m := ⟨_, rfl⟩
    have HM := Lib.hid hm
    rw [hm] at hM ⊢
    rw [hm] at HGG HGT
    clear hG hC hS
    by_cases hgt : 1 < m
    · have hgt' : decide ((1 : Int) < (m : Int)) = true := by simp; omega
      have EM := Lib.hid (middle_any aa ca m M (cn F d) wr (by omega) (by omega) hM hP)
      clear hP hM
      go_wp2_with fail
      refine (EM.out).mono ?_
      rintro e w2 ⟨am, cm, rfl, hs2, hm2⟩
      have EZ := Lib.hid (hasZero_any am cm (m - 1) (fun i k => cn F d (i + 1) (k + 1)) w2 (by omega) hm2)
      have HGM := Lib.hid (GR.of_tab hm2 (by omega))
      have HS2 := Lib.hid (HS.out.trans (since_mono hs2 HS.out.size))
      have HG2 := Lib.hid (HGG.out.since hs2)
      obtain ⟨q, hq⟩ : ∃ q, m - 1 = q := ⟨_, rfl⟩
      rw [hq] at EZ HGM ⊢
      have HQ := Lib.hid hq
      have HS22 := Lib.hid hs2
      clear hm2 hs2
      go_wp2_with fail
      refine (EZ.out).mono ?_
      rintro e w3 ⟨rfl, ⟨rfl, i, k, hi, hk, h0⟩ | ⟨rfl, hno⟩⟩
      · obtain ⟨rfl, rfl⟩ := HNO.out (conB_false (n := n) (F := F) (d := d) (i := i) (k := k) (by omega) (by omega) h0)
        clear h0 hq HNO HYES
        go_wp2
        go_ret2
        exact ⟨rfl, HS2.out⟩
      · have hnum : ∀ i k, i < q → k < q → CNum (cn F (d + 1) i k) (cn F (d + 1) (i + 1) (k + 1)) (cn F (d + 1) i (k + 1)) (cn F (d + 1) (i + 1) k) ((fun i k => cn F d (i + 1) (k + 1)) i k) (cn F (d + 2) i k) := fun i k hi hk => by
          obtain ⟨y1, y2, y3, y4, y5⟩ := cn_num h6 HA.out (d := d) (i := i) (k := k) (by omega) (by omega) (hno i k hi hk)
          exact ⟨hno i k hi hk, y1, y2, y3, y4, y5⟩
        have EC := Lib.hid (condensed_any m q ct cm ta am (cn F (d + 1)) (fun i k => cn F d (i + 1) (k + 1)) (cn F (d + 2)) w2 (by omega) (by omega) HG2.out HGM.out hnum)
        have hCN := Lib.hid (HC.out.next (fun i k hi hk => hno i k (by omega) (by omega)))
        clear hno hnum hq
        go_wp2_with fail
        refine (EC.out).mono ?_
        rintro e w4 ⟨rfl, hs4, ho4⟩
        have HG4 := Lib.hid ho4.matR
        have HS4 := Lib.hid (HS2.out.trans (since_mono hs4 HS2.out.size))
        have HT4 := Lib.hid (HGT.out.since (HS22.out.trans (since_mono hs4 HS22.out.size)))
        clear hs4 ho4
        go_wp2
        go_roundg (n - (d + 1))
        case measure => omega
        case rel =>
          have e1 : n - (d + 1) = q := by have := HQ.out; omega
          have e2 : m = q + 1 := by have := HQ.out; omega
          exact ⟨d + 1, m, ct, q, ta, _, by omega, rfl, by rw [e1]; exact e2, by rw [e1], rfl, by rw [e1]; exact HG4.out, HT4.out, hCN.out, HS4.out⟩
    · have hm1 : m = 1 := by omega
      have hdn : d + 1 = n := by omega
      obtain ⟨bn, on, An, Cn, ean, gtop, gcell⟩ := HGG.out
      obtain ⟨b1, o1, t1, c1⟩ := gcell 0 0 (by omega) (by omega)
      rw [hdn, cn_all] at c1
      rw [Nat.add_zero] at t1 c1
      obtain ⟨rfl, hyd⟩ := HYES.out (conB_true (HC.out.all (by omega)))
      rw [← hyd] at c1
      subst ean
      have hgt' : decide ((1 : Int) < (m : Int)) = false := by simp; omega
      clear gtop gcell hm hM hP HYES HNO hyd
      subst hm1
      go_wp2
      go_ret2
      exact ⟨rfl, HS.out⟩

theorem implValueCondense_any (a : Option Addr) (cap n : Nat) (l : List (List Int)) (w : World) (hn : l.length = n) (hsz : szL l ≤ 1048576) (hm : MatR w a l) :
    Calls Try.prog 23 #[.slice a n cap] w (SpecW w (conOk l n) (conV l n)) := by
  unfold conOk conV
  exact implValueCondense_of a cap n l (dt n (at2 l)) (conB n (at2 l)) w hn hsz hm fun hs W' hm' => by
    obtain ⟨hT, hw⟩ := sqB_of hs
    exact byCondensing_any n l a cap W' hn hT (by rw [← hw, hn]) hm'

end Go.Proofs.Ytikjeaoapeaabaa
end

section
namespace Go.Proofs.Ytikjeaoapeaabaa
open Go.RowKit Go.Deep

theorem lawValueCondense (a : Option Addr) (cap n : Nat) (l : List (List Int)) (w : World) (hn : l.length = n) (h63 : n ≤ 9223372036854775807) (hl : ∀ r, r < l.length → (l.getD r []).length ≤ 9223372036854775807) (hm : MatR w a l) :
    Calls Try.prog 5 #[.slice a n cap] w fun e w' => e = .returned (.bool true) ∧ w.Since w.heap.size w' :=
  lawValueCondense_aux a cap n l (conOk l n) (if (conOk l n) = true then conV l n else 0) w hn h63 hl hm
    (fun hz W b c hb => (specValueCondense_any b c n l W hn hz hb).mono fun _ _ h => ⟨h.1, h.2⟩) (fun hz W b c hb => (implValueCondense_any b c n l W hn hz hb).mono fun _ _ h => ⟨h.1, h.2⟩)

end Go.Proofs.Ytikjeaoapeaabaa
end

section
namespace Go.Proofs.Ytikjeaoapeaabaa
open Go.ChangeShapes Go.WideShapes Go.ChangeAt Go.RowKit Go.Deep

theorem below_since' {B : Nat} {w w' : World} (h : Below B w w') : w.Since B w' := ⟨h.os, h.tape, h.output, h.size, h.block⟩
theorem since_below' {B : Nat} {w w' : World} (h : w.Since B w') : Below B w w' := ⟨h.os, h.tape, h.output, h.size, h.block⟩

section
variable {H : Type} {enc : TypeId × Value → H} {P : Program}
theorem post_of_below {f : Func} {s : ChangeSpec} {apart fresh handsOn again : Bool} {W W' : World} {args : Array Value} {v : Value} {ds gs : List (DataW H)} {before pa pv : List MemPlace}
    (hW : DataW.Whole enc P f.params.toList s.vars apart W args.toList ds gs before)
    (hres : ∀ (b : Nat) (sp : Nat → Bool) (hd : Bool), DataW.TrodAll enc P W' b sp hd f.resultTypes.toList (v.resultList f.resultTypes.size) (s.fn H (ds ++ gs)).results [])
    (hargs : ∀ sp : Nat → Bool, (∀ p ∈ before, sp p.block = true) → DataW.TrodAll enc P W' 0 sp true f.params.toList args.toList (s.fn H (ds ++ gs)).args pa)
    (hvars : ∀ sp : Nat → Bool, (∀ p ∈ before, sp p.block = true) → DataW.TrodVars enc P W' sp s.vars (s.fn H (ds ++ gs)).vars pv)
    (hps : before = pa ++ pv) (hb : Below W.heap.size W W') (hag : again = false) :
    s.post enc P f apart fresh handsOn again W args v W' := by
  have hlt : ∀ p ∈ before, p.block < W.heap.size := fun p hp => hW.lt p hp
  have hold : ∀ p ∈ before, (fun b => decide (b < W.heap.size)) p.block = true := fun p hp => by simpa using hlt p hp
  refine ⟨ds, gs, before, [], pa, pv, hW, hres _ _ _, hargs _ hold, hvars _ hold, World.keptBut_mono (fun p hp => ⟨hp, ?_⟩) (hb.frame (· ∈ before)), fun h => ?_⟩
  · rw [hps, List.mem_append] at hp
    exact Or.inr hp
  · rw [hag] at h; cases h

theorem open_mat {W : World} {t e q : TypeId} {a : Option Addr} {n cap : Nat} {d : DataW H} {p : List MemPlace} (ht : P.underlying t = some (.slice e)) (he : P.underlying e = some (.slice q)) (hq : P.underlying q = some (.int .i64))
    (ce : P.cellsOf e = 1) (cq : P.cellsOf q = 1) (h : DataW.Trod enc P W 0 (fun _ => true) true t (.slice a n cap) d p) :
    ∃ l : List (List Int), l.length = n ∧ MatR W a l ∧ n ≤ 9223372036854775807 ∧ ∀ r, r < l.length → (l.getD r []).length ≤ 9223372036854775807 := by
  obtain ⟨fuel, hf⟩ := h
  rcases open_int_rows ht he hq ce cq hf with ⟨hcs, _⟩ | ⟨a', len', cap', A, L, C, Z, hcs, _, hl, hm, _, hrows⟩
  · simp [Value.cells] at hcs
    obtain ⟨rfl, rfl, rfl⟩ := hcs
    exact ⟨[], rfl, (fun h => by simp at h), by omega, fun r hr => by simp at hr⟩
  · simp [Value.cells] at hcs
    obtain ⟨rfl, rfl, rfl⟩ := hcs
    have hmx : maxLen = 9223372036854775807 := rfl
    have hlen : ∀ r, r < n → ((Z r).take (L r)).length = L r := fun r hr => by
      obtain ⟨_, h1, _, h2, _⟩ := hrows r (by omega)
      rw [List.length_take]; omega
    have hget : ∀ r, r < n → ((List.range n).map fun r => (Z r).take (L r)).getD r [] = (Z r).take (L r) := fun r hr => by simp [List.getD, hr]
    refine ⟨(List.range n).map fun r => (Z r).take (L r), by simp, fun h => ?_, by omega, fun r hr => ?_⟩
    · obtain ⟨b, o, spot⟩ := a'
      simp at h
      have hspot : spot = none := by simpa [Addr.add] using World.cell?_spot (hrows 0 (by omega)).1
      subst hspot
      refine ⟨b, o, A, C, rfl, fun r hr => ?_⟩
      simp at hr
      rw [hget r hr, hlen r hr]
      obtain ⟨g1, g2, g3, g4, g5, g6, g7⟩ := hrows r (by omega)
      refine ⟨by rw [← add_plain]; exact g1, fun h0 => ?_⟩
      rw [hlen r hr] at h0
      cases hA : A r with
      | none => have := g6 hA; omega
      | some a'' =>
        obtain ⟨_, hcell⟩ := g7 a'' hA
        obtain ⟨b', o', sp⟩ := a''
        have hs : sp = none := by simpa [Addr.add] using World.cell?_spot (hcell 0 (by omega))
        subst hs
        refine ⟨b', o', rfl, fun i hi => ?_⟩
        rw [hlen r hr] at hi
        rw [← add_plain, hcell i (by omega)]
        congr 2
        simp [List.getD, hi]
    · simp at hr
      rw [hget r hr, hlen r hr]
      obtain ⟨_, h1, h2, _⟩ := hrows r (by omega)
      omega
end

theorem Try.own : ownKnob Try.prog.godebug = none := by kernel_rfl
theorem Try.laidOut : laidOutB Try.prog = true := by kernel_rfl
theorem Try.cellsR : Try.prog.cellsOf 33 = 1 := by kernel_rfl
theorem Try.cellsI : Try.prog.cellsOf 3 = 1 := by kernel_rfl

end Go.Proofs.Ytikjeaoapeaabaa
end

section
namespace Go.Proofs.Ytikjeaoapeaabaa
open Go.ChangeShapes Go.WideShapes Go.ChangeAt Go.RowKit Go.Deep

set_option maxRecDepth 100000 in
theorem lifted_ValueCondense (os : Os) (started : os.Started) (H : Type) (enc : TypeId × Value → H) :
    ReturnsInHanded {} Try.checked os 5 .any (Rows.fnExactValueCondenseSpec.pre6 enc Try.prog Try.f5 Rows.fnExactValueCondenseRow.domain false) (Rows.fnExactValueCondenseSpec.post enc Try.prog Try.f5 false true false false) := by
  refine returnsInHanded_of_change (C := Try.checked) Try.own started (by kernel_rfl) Try.func5
    (ChangeSpec.witness6 (enc := enc) (C := Try.checked) false ⟨#[], #[.slice none 0 0], []⟩ 8 (by kernel_rfl) (by kernel_rfl) (by kernel_rfl) (by kernel_rfl)) ?_
  intro W base args ds gs before hval0 hW _ _
  have hval : ∀ (j : Nat) t v, Try.f5.params[j]? = some t → args[j]? = some v → Value.okWide Try.prog W .any base t v := hval0
  have hW' := hW
  obtain ⟨p, q, hA0, hV, rfl, hfz, hnd⟩ := hW
  have hA : DataW.TrodAll enc Try.prog W 0 (fun _ => true) true Try.f5.params.toList args.toList ds p := hA0
  rw [Try.params5] at hA hval
  obtain ⟨v0, d0, rfl, rfl, h0⟩ := trodAll_one hA
  obtain ⟨p0, hp0⟩ : ∃ p0, p0 = p := ⟨_, rfl⟩
  subst hp0
  obtain ⟨rfl, rfl⟩ := trodVars_none hV
  obtain ⟨a0, n0, cap0, rfl⟩ := okWide_slice Try.underlying22 (hval 0 22 v0 rfl rfl)
  obtain ⟨l0, hl0, hm0, h630, hls0⟩ := open_mat Try.underlying22 Try.underlying33 Try.underlying3 Try.cellsR Try.cellsI h0
  clear hA0 hval0
  simp only [List.append_nil] at hW'
  have hlt0 : ∀ x ∈ p0, x.block < W.heap.size := fun x hx => hW'.lt x (by simp [hx])
  refine (lawValueCondense a0 cap0 n0 l0 W hl0 h630 hls0 hm0).mono fun e W' ⟨he, hs⟩ => ?_
  subst he
  have hb := since_below' hs
  have ht0 : ∀ sp : Nat → Bool, (∀ x ∈ p0, sp x.block = true) → DataW.Trod enc Try.prog W' 0 sp true 22 (.slice a0 n0 cap0) d0 p0 := fun sp hsp =>
    WideElems.Trod_stays Try.laidOut (by kernel_rfl) (of_decide_eq_true (by kernel_rfl)) h0 (fun x hx => hb.same (hlt0 x hx)) hsp
  have hargs : ∀ sp : Nat → Bool, (∀ x ∈ (p0), sp x.block = true) → DataW.TrodAll enc Try.prog W' 0 sp true [22] [.slice a0 n0 cap0] [d0] (p0) := fun sp hsp => by
    have := trodAll_mk1 (enc := enc) (P := Try.prog) (w := W') (base := 0) (spare := sp) (held := true) (ht0 sp (fun x hx => hsp x (by simp [hx])))
    simpa using this
  exact ⟨_, rfl, post_of_below (pa := p0) (pv := []) hW' (fun _ _ _ => trodAll_mk1 (shut_bool Try.underlying4 true)) (fun sp hsp => hargs sp (fun x hx => hsp x (by simpa using hx))) (fun _ _ => rfl) (by simp) hb rfl⟩

theorem FnExactValueCondense_holds : Rows.FnExactValueCondenseSaid :=
  OpenClaim.holds_of_wide 5 Try.f5 rfl rfl rfl rfl rfl rfl rfl ⟨rfl, rfl, rfl, rfl, rfl⟩ rfl rfl rfl rfl rfl (by kernel_rfl) Try.func5 (by kernel_rfl)
    (of_decide_eq_true (by kernel_rfl)) (by unfold Func.isWrapper; first | (rw [if_pos (by decide +kernel)]; kernel_rfl) | (rw [if_neg (by decide +kernel)]; exact ⟨rfl, rfl⟩))
    (fun os started H enc _ => lifted_ValueCondense os started H enc)

end Go.Proofs.Ytikjeaoapeaabaa
end
