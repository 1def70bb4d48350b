import Derived.Test.YtcnbffflgodheaaUnitSpec
import Derived.Test.YtcnbffflgodheaaPartsL
import Derived.Test.YtcnbffflgodheaaRankV
import Derived.Test.YtcnbffflgodheaaPartsI
import Derived.LoopNIn
import Derived.Test.YtcnbffflgodheaaRound
import Derived.OrdersHeld
import Derived.Test.YtcnbffflgodheaaTabInImpl
import Derived.Test.YtcnbffflgodheaaRows
import Derived.Test.YtcnbffflgodheaaData
import Derived.ProofKit
import Derived.Deep.Matrix

section
namespace Go.Proofs.Ytcnbffflgodheaa
open Go.RowKit Go.Deep

set_option maxRecDepth 100000 in
set_option maxHeartbeats 1000000 in
theorem lawPosFirstCount_aux (a0 : Option Addr) (cap0 n0 : Nat) (l0 : List (List Int)) (ok : Bool) (v : Int) (w : World) (hn0 : l0.length = n0) (h630 : n0 ≤ 9223372036854775807) (hl0 : ∀ r, r < l0.length → (l0.getD r []).length ≤ 9223372036854775807) (hm0 : MatR w a0 l0)
    (hspec : szL l0 ≤ 1048576 → ∀ (W : World) (b0 : Option Addr) (c0 : Nat), MatR W b0 l0 → Calls Try.prog 39 #[.slice b0 n0 c0] W (fun e w' => e = .returned (.tuple #[.int .i64 v, .bool ok]) ∧ W.Since W.heap.size w'))
    (himpl : szL l0 ≤ 1048576 → ∀ (W : World) (b0 : Option Addr) (c0 : Nat), MatR W b0 l0 → Calls Try.prog 40 #[.slice b0 n0 c0] W (fun e w' => e = .returned (.tuple #[.int .i64 v, .bool ok]) ∧ W.Since W.heap.size w')) :
    Calls Try.prog 11 #[.slice a0 n0 cap0] w fun e w' => e = .returned (.bool true) ∧ w.Since w.heap.size w' := by
  have HN0 := Lib.hid hn0
  have HL0 := Lib.hid hl0
  have HM0 := Lib.hid hm0
  have HSPEC := Lib.hid hspec
  have HIMPL := Lib.hid himpl
  clear hspec himpl hn0 hl0 hm0
  go_enter Try.func11, Try.ntmps11
  have hz0 := szIntSS_any a0 cap0 l0 (1048576) w (by omega) (by omega) (by rw [HN0.out]; exact h630) HL0.out HM0.out
  rw [HN0.out] at hz0
  have HZ0 := Lib.hid hz0
  clear hz0
  go_wp2_with fail
  refine (HZ0.out).mono ?_
  rintro e w' ⟨r0, rfl, hra0, hrb0, rfl⟩
  by_cases hr00 : r0 < 0
  · go_wp2
    go_ret
    exact ⟨rfl, World.Since.refl _ _⟩
  have hs0 : r0 = 1048576 - szL l0 := hrb0 (by omega)
  have hle0 : r0 ≤ 1048576 := by omega
  have HS0 := Lib.hid hs0
  clear hrb0
  clear hs0
  have hzl0 : szL l0 ≤ 1048576 := by have e0 := HS0.out; omega
  have hst0 : sumTo l0 n0 ≤ 1048576 := by rw [← HN0.out]; unfold szL at hzl0; omega
  have hsum : sumTo l0 n0 ≤ 1048576 := by have e0 := HS0.out; have f0 : szL l0 = n0 + sumTo l0 n0 := (by unfold szL; rw [HN0.out]); omega
  have HCP0 := Lib.hid (fun (W : World) (hs : w.Since w.heap.size W) => toIntSS_any a0 cap0 n0 l0 W HN0.out hzl0 (HM0.out.since hs))
  have s0 : w.Since w.heap.size w := World.Since.refl _ _
  cases ok
  all_goals
    go_wp2_with fail
    refine (HCP0.out _ s0).mono ?_
    rintro e w1 ⟨rfl, c1⟩
    have o1 := c1.ownT HN0.out
    have t1 := c1.since
    clear c1
    have s1 : w.Since w.heap.size w1 := s0.trans (since_mono t1 s0.size)
    have z1 := t1.size
    go_wp2_with fail
    refine (HSPEC.out (hzl0) _ _ _ o1.matR).mono ?_
    rintro e w2 ⟨rfl, t2⟩
    have s2 : w.Since w.heap.size w2 := s1.trans (since_mono t2 s1.size)
    have z2 := t2.size
    replace o1 := o1.since t2
    clear o1
    go_wp2_with fail
    refine (HCP0.out _ s2).mono ?_
    rintro e w3 ⟨rfl, c3⟩
    have o3 := c3.ownT HN0.out
    have t3 := c3.since
    clear c3
    have s3 : w.Since w.heap.size w3 := s2.trans (since_mono t3 s2.size)
    have z3 := t3.size
    have gx0 := o3
    clear o3
    go_wp2_with fail
    refine (HIMPL.out (hzl0) _ _ _ gx0.matR).mono ?_
    rintro e w4 ⟨rfl, t4⟩
    have s4 : w.Since w.heap.size w4 := s3.trans (since_mono t4 s3.size)
    have z4 := t4.size
    replace gx0 := gx0.since t4
    go_wp2_with fail
    refine (HCP0.out _ s4).mono ?_
    rintro e w5 ⟨rfl, c5⟩
    have o5 := c5.ownT HN0.out
    have t5 := c5.since
    clear c5
    have s5 : w.Since w.heap.size w5 := s4.trans (since_mono t5 s4.size)
    have z5 := t5.size
    replace gx0 := gx0.since t5
    go_wp2_with fail
    refine (eqIntSS_same _ _ _ _ _ l0 _ HN0.out h630 HL0.out gx0.matR o5.matR).mono ?_
    rintro e w6 ⟨rfl, d6⟩
    have t6 := d6.since w5.heap.size
    clear d6
    have s6 : w.Since w.heap.size w6 := s5.trans (since_mono t6 s5.size)
    have z6 := t6.size
    replace gx0 := gx0.since t6
    replace o5 := o5.since t6
    clear o5
    go_wp2
    go_ret
    exact ⟨rfl, s6⟩

end Go.Proofs.Ytcnbffflgodheaa
end

section
namespace Go.Proofs.Ytcnbffflgodheaa
open Go.RowKit Go.Deep

set_option maxRecDepth 100000 in
set_option maxHeartbeats 4000000 in
theorem l7All_any (a : Option Addr) (cap n m : Nat) (q : Int) (l : List (List Int)) (w : World) (hn : l.length = n) (hT : TabIn l) (hmm : (l.getD 0 []).length = m) (hm : MatR w a l) :
    Calls Try.prog 79 #[.slice a n cap, .int .i64 q] w fun e w' => e = .returned (.bool (leastB l q (partsA n m))) ∧ w.Since w.heap.size w' := by
  have h6 := hT.2.1
  have h1 := hT.1
  have hw := hT.width
  rw [hn] at h6 h1
  rw [hmm] at hw
  have e1 := ipow_fin ⟨n, by omega⟩
  have e2 := ipow_fin ⟨m, by omega⟩
  simp only at e1 e2
  have p1 : 2 ^ n ≤ 2 ^ 6 := Nat.pow_le_pow_right (by omega) h6
  have p2 : 2 ^ m ≤ 2 ^ 6 := Nat.pow_le_pow_right (by omega) hw.2
  have p3 : 2 ^ 1 ≤ 2 ^ n := Nat.pow_le_pow_right (by omega) h1
  have p4 : 2 ^ 1 ≤ 2 ^ m := Nat.pow_le_pow_right (by omega) hw.1
  have hsq : ∀ s c, s < 2 ^ n → c < 2 ^ m → popcS s = popcS c → SqD (popcS s) (partL l s c) := fun s c hs hc h => part_sq hT (by rw [hn]; exact hs) (by rw [hmm]; exact hc) h
  have HPART := Lib.hid (fun (s c : Nat) (hs : s ≤ 63) (hc : c ≤ 63) (W : World) (h : w.Since w.heap.size W) => l1Part_any a cap n s c l W hn hT hs hc (hm.since h))
  have HSQ := Lib.hid hsq
  have HMEM := Lib.hid (fun (x : Nat × Nat) => @partsA_mem n m h6 hw.2 x)
  obtain ⟨b, o, A, C, rfl, hc⟩ := hm (by omega)
  have c0 := (hc 0 (by omega)).1
  rw [Nat.add_zero, hmm] at c0
  have C0 := Lib.hid c0
  obtain ⟨P, hP⟩ : ∃ P, partsA n m = P := ⟨_, rfl⟩
  rw [hP] at HMEM ⊢
  obtain ⟨Rr, hR⟩ : ∃ R, 2 ^ n = R := ⟨_, rfl⟩
  obtain ⟨Cc, hC⟩ : ∃ R, 2 ^ m = R := ⟨_, rfl⟩
  rw [hR] at e1 p1 p3
  rw [hC] at e2 p2 p4
  simp only [hR, hC] at HMEM
  have HR := Lib.hid hR
  have HC := Lib.hid hC
  have hn1 : 0 < n := by omega
  clear hn hT hmm hm hsq hc c0 hR hC hP
  go_enter Try.func79, Try.ntmps79
  go_wp2
  go_loopg [5, 6] (Rr - 1) (fun g rv _ wr => ∃ r : Nat, 1 ≤ r ∧ r ≤ Rr ∧ g = Rr - r ∧ rv = .int .i64 r ∧ (∀ x ∈ P, x.1 < r → q ≤ mnP l x) ∧ w.Since w.heap.size wr)
  case atStart => exact ⟨1, Nat.le_refl _, by omega, rfl, rfl, fun x hx h => absurd (show x.1 = 0 by omega) ((HMEM.out x).1 hx).1, World.Since.refl _ _⟩
  case round =>
    obtain ⟨r, hr1, hr, rfl, rfl, hlo, hS⟩ := hrel
    by_cases hlt : r < Rr
    · have HLO := Lib.hid hlo
      clear hlo
      go_wp2
      rw [e1]
      go_loopg [6] (Cc - 1) (fun g cv wi => ∃ c : Nat, 1 ≤ c ∧ c ≤ Cc ∧ g = Cc - c ∧ cv = .int .i64 c ∧ (∀ x ∈ P, x.1 = r → x.2 < c → q ≤ mnP l x) ∧ w.Since w.heap.size wi)
      case atStart => exact ⟨1, Nat.le_refl _, by omega, rfl, rfl, fun x hx h h2 => by
        obtain ⟨g1, g2, g3, g4⟩ := (HMEM.out x).1 hx
        have e0 : x.2 = 0 := by omega
        rw [e0, popcP_zero] at g2
        have := popcP_pos_fin ⟨x.1, by omega⟩ g1
        simp only at this
        omega, hS⟩
      case round =>
        obtain ⟨c, hc1, hc, rfl, rfl, hci, hI⟩ := hrel
        have hcc := (hI.cell (a := ⟨b, o, none⟩) (World.block_lt_of_cell? _ _ C0.out)).trans C0.out
        clear hS
        by_cases hlc : c < Cc
        · have hI2 := Lib.hid hI
          have Z1 := fun (W : World) => l2Size_any r (by omega) W
          have Z2 := fun (W : World) => l2Size_any c (by omega) W
          have hk6 := popcS_le r
          have hk6' := popcS_le c
          have HCI := Lib.hid hci
          clear hci
          by_cases hpe : popcS r = popcS c
          · have hsq := HSQ.out r c (by rw [HR.out]; exact hlt) (by rw [HC.out]; exact hlc) hpe
            have hmem : (r, c) ∈ P := (HMEM.out (r, c)).2 ⟨by simp only; omega, hpe, hlt, hlc⟩
            rw [← hpe] at Z2
            have EP := fun (W : World) (h : w.Since w.heap.size W) => HPART.out r c (by omega) (by omega) W h
            have EV := fun (a3 : Option Addr) (k3 : Nat) (W : World) (h : MatR W a3 (partL l r c)) => l2Value_sq a3 k3 (popcS r) (partL l r c) hsq W h
            simp only [ordF_all _ (popcS_le r)] at EV
            have hv0 : mnP l (r, c) = dt (popcS r) (at2 (partL l r c)) := rfl
            simp only [← hv0] at EV
            obtain ⟨x1, hx1⟩ : ∃ x, popcS r = x := ⟨_, rfl⟩
            rw [hx1] at Z1 Z2 hsq hk6
            obtain ⟨L, hL⟩ : ∃ L, partL l r c = L := ⟨_, rfl⟩
            rw [hL] at hsq
            simp only [hL, hsq.1] at EP EV
            obtain ⟨v, hv⟩ : ∃ v, mnP l (r, c) = v := ⟨_, rfl⟩
            simp only [hv, hx1] at EV
            replace EP := Lib.hid EP
            replace EV := Lib.hid EV
            replace Z1 := Lib.hid Z1
            replace Z2 := Lib.hid Z2
            have HNEXT := Lib.hid (show q ≤ v → ∀ x ∈ P, x.1 = r → x.2 < c + 1 → q ≤ mnP l x from fun h x hx hx1 hx2 => by
              by_cases e : x.2 < c
              · exact HCI.out x hx hx1 e
              · have e2 : x = (r, c) := Prod.ext hx1 (by simp only; omega)
                rw [e2, hv]; exact h)
            have HNO := Lib.hid (show v < q → leastB l q P = false from fun h => leastB_no hmem (by rw [hv]; exact h))
            clear hI hpe hx1 hsq hL hk6' hv hv0 hmem
            by_cases hvq : v < q
            · have hvb : decide (v < q) = true := by simpa using hvq
              go_wp2_with fail
              refine (Z1.out wr).mono ?_
              rintro e w2 ⟨rfl, rfl⟩
              go_wp2_with fail
              refine (Z2.out wr).mono ?_
              rintro e w2 ⟨rfl, rfl⟩
              go_wp2_with fail
              refine (EP.out wr hI2.out).mono ?_
              rintro e w3 ⟨a3, k3, rfl, hs3, hi3⟩
              have HS3 := Lib.hid (hI2.out.trans (since_mono hs3 hI2.out.size))
              go_wp2_with fail
              refine (EV.out a3 k3 w3 hi3.matR).mono ?_
              rintro e w4 ⟨rfl, hd4⟩
              have HS4 := Lib.hid (HS3.out.trans (since_mono (hd4.since w3.heap.size) HS3.out.size))
              clear hs3 hi3 hd4
              go_wp2
              go_ret
              exact ⟨by rw [HNO.out hvq]; rfl, HS4.out⟩
            · have hvb : decide (v < q) = false := by simpa using hvq
              go_wp2_with fail
              refine (Z1.out wr).mono ?_
              rintro e w2 ⟨rfl, rfl⟩
              go_wp2_with fail
              refine (Z2.out wr).mono ?_
              rintro e w2 ⟨rfl, rfl⟩
              go_wp2_with fail
              refine (EP.out wr hI2.out).mono ?_
              rintro e w3 ⟨a3, k3, rfl, hs3, hi3⟩
              have HS3 := Lib.hid (hI2.out.trans (since_mono hs3 hI2.out.size))
              go_wp2_with fail
              refine (EV.out a3 k3 w3 hi3.matR).mono ?_
              rintro e w4 ⟨rfl, hd4⟩
              have HS4 := Lib.hid (HS3.out.trans (since_mono (hd4.since w3.heap.size) HS3.out.size))
              clear hs3 hi3 hd4
              go_wp2
              go_roundg (Cc - (c + 1))
              case measure => omega
              case rel => exact ⟨c + 1, by omega, by omega, rfl, by go_num, HNEXT.out (by omega), HS4.out⟩
          · have HNEXT := Lib.hid (show ∀ x ∈ P, x.1 = r → x.2 < c + 1 → q ≤ mnP l x from fun x hx hx1 hx2 => by
              by_cases e : x.2 < c
              · exact HCI.out x hx hx1 e
              · have g := ((HMEM.out x).1 hx).2.1
                rw [hx1, show x.2 = c by omega] at g
                exact absurd g hpe)
            obtain ⟨x1, hx1⟩ : ∃ x, popcS r = x := ⟨_, rfl⟩
            obtain ⟨x2, hx2⟩ : ∃ x, popcS c = x := ⟨_, rfl⟩
            rw [hx1, hx2] at hpe
            simp only [hx1] at Z1
            simp only [hx2] at Z2
            replace Z1 := Lib.hid Z1
            replace Z2 := Lib.hid Z2
            have hne : ((x1 : Int) == (x2 : Int)) = false := by simp; omega
            clear hI hx1 hx2
            go_wp2_with fail
            refine (Z1.out wr).mono ?_
            rintro e w2 ⟨rfl, rfl⟩
            go_wp2_with fail
            refine (Z2.out wr).mono ?_
            rintro e w2 ⟨rfl, rfl⟩
            go_wp2
            go_roundg (Cc - (c + 1))
            case measure => omega
            case rel => exact ⟨c + 1, by omega, by omega, rfl, by go_num, HNEXT.out, hI2.out⟩
        · obtain rfl : c = Cc := by omega
          have HNX := Lib.hid (show ∀ x ∈ P, x.1 < r + 1 → q ≤ mnP l x from fun x hx hx1 => by
            by_cases e : x.1 < r
            · exact HLO.out x hx e
            · exact hci x hx (by omega) ((HMEM.out x).1 hx).2.2.2)
          have hI2 := Lib.hid hI
          clear hI hci
          go_wp2
          go_roundg (Rr - (r + 1))
          case measure => omega
          case rel => exact ⟨r + 1, by omega, by omega, rfl, by go_num, HNX.out, hI2.out⟩
    · obtain rfl : r = Rr := by omega
      have HY := Lib.hid (show leastB l q P = true from leastB_iff.2 fun x hx => hlo x hx ((HMEM.out x).1 hx).2.2.1)
      have HSS := Lib.hid hS
      clear hlo hS
      go_wp2
      go_ret
      exact ⟨by rw [HY.out]; rfl, HSS.out⟩

end Go.Proofs.Ytcnbffflgodheaa
end

section
namespace Go.Proofs.Ytcnbffflgodheaa
open Go.RowKit Go.Deep

set_option maxHeartbeats 1000000 in
theorem specPosLasting_any (a : Option Addr) (cap n : Nat) (l : List (List Int)) (w : World) (hn : l.length = n) (hsz : szL l ≤ 1048576) (hm : MatR w a l) :
    Calls Try.prog 33 #[.slice a n cap] w fun e w' => e = .returned (.bool (tabIn l && leastB l 0 (partsA n (l.getD 0 []).length))) ∧ w.Since w.heap.size w' := by
  have E := Lib.hid (specTableIn_any a cap n l w hn hsz hm)
  cases hT : tabIn l with
  | false =>
    rw [hT] at E
    clear hT hsz hm hn
    go_enter Try.func33, Try.ntmps33
    go_wp2_with fail
    refine (E.out).mono ?_
    rintro e w1 ⟨rfl, hd⟩
    have HS := Lib.hid (hd.since w.heap.size)
    clear hd
    go_wp2
    go_ret
    exact ⟨rfl, HS.out⟩
  | true =>
    rw [hT] at E
    have EC := Lib.hid (fun (W : World) (h : w.Since w.heap.size W) => l7All_any a cap n (l.getD 0 []).length 0 l W hn (tabIn_of hT) rfl (hm.since h))
    obtain ⟨B, hB⟩ : ∃ B, leastB l 0 (partsA n (l.getD 0 []).length) = B := ⟨_, rfl⟩
    rw [hB] at EC ⊢
    clear hT hsz hm hn hB
    go_enter Try.func33, Try.ntmps33
    go_wp2_with fail
    refine (E.out).mono ?_
    rintro e w1 ⟨rfl, hd⟩
    have HS := Lib.hid (hd.since w.heap.size)
    clear hd
    go_wp2_with fail
    refine (EC.out w1 HS.out).mono ?_
    rintro e w2 ⟨rfl, hs2⟩
    have HS2 := Lib.hid (HS.out.trans (since_mono hs2 HS.out.size))
    clear hs2
    cases B
    · go_wp2
      go_ret
      exact ⟨rfl, HS2.out⟩
    · go_wp2
      go_ret
      exact ⟨rfl, HS2.out⟩

set_option maxHeartbeats 1000000 in
theorem specPosStrict_any (a : Option Addr) (cap n : Nat) (l : List (List Int)) (w : World) (hn : l.length = n) (hsz : szL l ≤ 1048576) (hm : MatR w a l) :
    Calls Try.prog 35 #[.slice a n cap] w fun e w' => e = .returned (.bool (tabIn l && leastB l 1 (partsA n (l.getD 0 []).length))) ∧ w.Since w.heap.size w' := by
  have E := Lib.hid (specTableIn_any a cap n l w hn hsz hm)
  cases hT : tabIn l with
  | false =>
    rw [hT] at E
    clear hT hsz hm hn
    go_enter Try.func35, Try.ntmps35
    go_wp2_with fail
    refine (E.out).mono ?_
    rintro e w1 ⟨rfl, hd⟩
    have HS := Lib.hid (hd.since w.heap.size)
    clear hd
    go_wp2
    go_ret
    exact ⟨rfl, HS.out⟩
  | true =>
    rw [hT] at E
    have EC := Lib.hid (fun (W : World) (h : w.Since w.heap.size W) => l7All_any a cap n (l.getD 0 []).length 1 l W hn (tabIn_of hT) rfl (hm.since h))
    obtain ⟨B, hB⟩ : ∃ B, leastB l 1 (partsA n (l.getD 0 []).length) = B := ⟨_, rfl⟩
    rw [hB] at EC ⊢
    clear hT hsz hm hn hB
    go_enter Try.func35, Try.ntmps35
    go_wp2_with fail
    refine (E.out).mono ?_
    rintro e w1 ⟨rfl, hd⟩
    have HS := Lib.hid (hd.since w.heap.size)
    clear hd
    go_wp2_with fail
    refine (EC.out w1 HS.out).mono ?_
    rintro e w2 ⟨rfl, hs2⟩
    have HS2 := Lib.hid (HS.out.trans (since_mono hs2 HS.out.size))
    clear hs2
    cases B
    · go_wp2
      go_ret
      exact ⟨rfl, HS2.out⟩
    · go_wp2
      go_ret
      exact ⟨rfl, HS2.out⟩

theorem runS_wrap : ∀ k f : Fin 7, k.val + f.val ≤ 6 → wrap64 (wrap64 (wrap64 (2 ^ k.val) - 1) * 2 ^ f.val) = ((runS f.val k.val : Nat) : Int) := by decide +kernel
theorem run_any (f k : Nat) (h : k + f ≤ 6) (w : World) : Calls Try.prog 82 #[.int .i64 f, .int .i64 k] w fun e w' => e = .returned (.int .i64 (runS f k : Nat)) ∧ w = w' := by
  go_enter Try.func82, Try.ntmps82
  go_wp2
  go_ret
  have e := runS_wrap ⟨k, by omega⟩ ⟨f, by omega⟩ (by simp only; omega)
  simp only at e
  exact ⟨by rw [← e]; rfl, rfl⟩

def fpart (i k : Nat) : Nat × Nat := (runS (i + 1 - (min i k + 1)) (min i k + 1), runS (k + 1 - (min i k + 1)) (min i k + 1))

set_option maxRecDepth 100000 in
set_option maxHeartbeats 4000000 in
theorem specPosFirst_any (a : Option Addr) (cap n : Nat) (l : List (List Int)) (w : World) (hn : l.length = n) (hsz : szL l ≤ 1048576) (hm : MatR w a l) :
    Calls Try.prog 37 #[.slice a n cap] w fun e w' => e = .returned (.bool (tabIn l && leastB l 1 (partsF n (l.getD 0 []).length))) ∧ w.Since w.heap.size w' := by
  have E := Lib.hid (specTableIn_any a cap n l w hn hsz hm)
  cases hTb : tabIn l with
  | false =>
    rw [hTb] at E
    clear hTb hsz hm hn
    go_enter Try.func37, Try.ntmps37
    go_wp2_with fail
    refine (E.out).mono ?_
    rintro e w1 ⟨rfl, hd⟩
    have HS := Lib.hid (hd.since w.heap.size)
    clear hd
    go_wp2
    go_ret
    exact ⟨rfl, HS.out⟩
  | true =>
    rw [hTb] at E
    have hT := tabIn_of hTb
    obtain ⟨m, hmm⟩ : ∃ m, (l.getD 0 []).length = m := ⟨_, rfl⟩
    rw [hmm]
    have h6 := hT.2.1
    have h1 := hT.1
    have hw := hT.width
    rw [hn] at h6 h1
    rw [hmm] at hw
    have hsq : ∀ s c, s < 2 ^ n → c < 2 ^ m → popcS s = popcS c → SqD (popcS s) (partL l s c) := fun s c hs hc h => part_sq hT (by rw [hn]; exact hs) (by rw [hmm]; exact hc) h
    have p1 : 2 ^ n ≤ 2 ^ 6 := Nat.pow_le_pow_right (by omega) h6
    have p2 : 2 ^ m ≤ 2 ^ 6 := Nat.pow_le_pow_right (by omega) hw.2
    have HPART := Lib.hid (fun (s c : Nat) (hs : s ≤ 63) (hc : c ≤ 63) (W : World) (h : w.Since w.heap.size W) => l1Part_any a cap n s c l W hn hT hs hc (hm.since h))
    have HSQ := Lib.hid hsq
    obtain ⟨b, o, A, C, rfl, hc⟩ := hm (by omega)
    have c0 := (hc 0 (by omega)).1
    rw [Nat.add_zero, hmm] at c0
    have C0 := Lib.hid c0
    have HALL := Lib.hid (show (∀ i k, i < n → k < m → 1 ≤ mnP l (fpart i k)) → leastB l 1 (partsF n m) = true from fun h => leastB_iff.2 fun x hx => by
      obtain ⟨i, k, hi, hk, rfl⟩ := partsF_mem.1 hx
      exact h i k hi hk)
    have HNO := Lib.hid (show ∀ i k, i < n → k < m → mnP l (fpart i k) < 1 → leastB l 1 (partsF n m) = false from fun i k hi hk h => leastB_no (partsF_mem.2 ⟨i, k, hi, hk, rfl⟩) h)
    have hn1 : 0 < n := by omega
    clear hn hT hTb hmm hm hsq hc c0 hsz
    go_enter Try.func37, Try.ntmps37
    go_wp2_with fail
    refine (E.out).mono ?_
    rintro e w1 ⟨rfl, hd⟩
    have HS := Lib.hid (hd.since w.heap.size)
    clear hd
    go_wp2
    go_loopg [3, 4, 5] n (fun g iv _ _ wr => ∃ i : Nat, i ≤ n ∧ g = n - i ∧ iv = .int .i64 i ∧ (∀ i' k, i' < i → k < m → 1 ≤ mnP l (fpart i' k)) ∧ w.Since w.heap.size wr)
    case atStart => exact ⟨0, Nat.zero_le _, rfl, rfl, fun i' k h => by omega, HS.out⟩
    case round =>
      obtain ⟨i, hi, rfl, rfl, hlo, hS⟩ := hrel
      by_cases hlt : i < n
      · have HLO := Lib.hid hlo
        clear hlo
        go_wp2
        go_loopg [4, 5] m (fun g kv _ wi => ∃ k : Nat, k ≤ m ∧ g = m - k ∧ kv = .int .i64 k ∧ (∀ k', k' < k → 1 ≤ mnP l (fpart i k')) ∧ w.Since w.heap.size wi)
        case atStart => exact ⟨0, Nat.zero_le _, rfl, rfl, fun k' h => by omega, hS⟩
        case round =>
          obtain ⟨k, hk, rfl, rfl, hki, hI⟩ := hrel
          have hcc := (hI.cell (a := ⟨b, o, none⟩) (World.block_lt_of_cell? _ _ C0.out)).trans C0.out
          clear hS
          by_cases hlc : k < m
          · have hI2 := Lib.hid hI
            have HKI := Lib.hid hki
            clear hki
            obtain ⟨e, he⟩ : ∃ e, min i k + 1 = e := ⟨_, rfl⟩
            obtain ⟨f1, f2, f3, f4, f5⟩ := first_part h6 hw.2 hlt hlc
            have hfp : fpart i k = (runS (i + 1 - e) e, runS (k + 1 - e) e) := by unfold fpart; rw [he]
            rw [he] at f1 f2 f3 f4 f5
            have R1 := fun (W : World) => run_any (i + 1 - e) e (by omega) W
            have R2 := fun (W : World) => run_any (k + 1 - e) e (by omega) W
            have HNOI := Lib.hid (HNO.out i k hlt hlc)
            have HNEXT := Lib.hid (show 1 ≤ mnP l (fpart i k) → ∀ k', k' < k + 1 → 1 ≤ mnP l (fpart i k') from fun h k' hk' => by
              by_cases e : k' < k
              · exact HKI.out k' e
              · have e2 : k' = k := by omega
                rw [e2]; exact h)
            rw [hfp] at HNOI HNEXT
            have ei : ((i + 1 - e : Nat) : Int) = (i : Int) + 1 - (e : Int) := by omega
            have ek : ((k + 1 - e : Nat) : Int) = (k : Int) + 1 - (e : Int) := by omega
            rw [ei] at R1
            rw [ek] at R2
            obtain ⟨s, hs⟩ : ∃ s, runS (i + 1 - e) e = s := ⟨_, rfl⟩
            obtain ⟨c, hc⟩ : ∃ s, runS (k + 1 - e) e = s := ⟨_, rfl⟩
            simp only [hs] at R1 f1 f3 f5 HNOI HNEXT
            simp only [hc] at R2 f2 f4 HNOI HNEXT
            have hpe : popcS s = popcS c := f1.trans f2.symm
            have hsq := HSQ.out s c f3 f4 hpe
            have EP := fun (W : World) (h : w.Since w.heap.size W) => HPART.out s c (by omega) (by omega) W h
            have EV := fun (a3 : Option Addr) (k3 : Nat) (W : World) (h : MatR W a3 (partL l s c)) => l2Value_sq a3 k3 (popcS s) (partL l s c) hsq W h
            simp only [ordF_all _ (popcS_le s)] at EV
            have hv0 : mnP l (s, c) = dt (popcS s) (at2 (partL l s c)) := rfl
            simp only [← hv0] at EV
            rw [f1] at hsq
            obtain ⟨L, hL⟩ : ∃ L, partL l s c = L := ⟨_, rfl⟩
            rw [hL] at hsq
            simp only [hL, hsq.1] at EP EV
            obtain ⟨v, hv⟩ : ∃ v, mnP l (s, c) = v := ⟨_, rfl⟩
            simp only [hv, f1] at EV
            rw [hv] at HNOI HNEXT
            replace EP := Lib.hid EP
            replace EV := Lib.hid EV
            replace R1 := Lib.hid R1
            replace R2 := Lib.hid R2
            clear hI hpe hsq hL hv hv0 hfp f1 f2 f3 f4 f5 hs hc ei ek
            by_cases hik : k < i
            · have hwe : IntKind.i64.wrap ((k : Int) + 1) = (e : Int) := by rw [IntWalk.i64_in _ ⟨by omega, by omega⟩]; omega
              rw [show (k : Int) + 1 - (e : Int) = 0 by omega] at R2
              by_cases hvq : v ≤ 0
              · have hvb : decide (v ≤ 0) = true := by simpa using hvq
                go_wp2_with fail
                refine (R1.out wr).mono ?_
                rintro e w2 ⟨rfl, rfl⟩
                go_wp2_with fail
                refine (R2.out wr).mono ?_
                rintro e w2 ⟨rfl, rfl⟩
                go_wp2_with fail
                refine (EP.out wr hI2.out).mono ?_
                rintro e w3 ⟨a3, k3, rfl, hs3, hi3⟩
                have HS3 := Lib.hid (hI2.out.trans (since_mono hs3 hI2.out.size))
                go_wp2_with fail
                refine (EV.out a3 k3 w3 hi3.matR).mono ?_
                rintro e w4 ⟨rfl, hd4⟩
                have HS4 := Lib.hid (HS3.out.trans (since_mono (hd4.since w3.heap.size) HS3.out.size))
                clear hs3 hi3 hd4
                go_wp2
                go_ret
                exact ⟨by rw [HNOI.out (by omega)]; rfl, HS4.out⟩
              · have hvb : decide (v ≤ 0) = false := by simpa using hvq
                go_wp2_with fail
                refine (R1.out wr).mono ?_
                rintro e w2 ⟨rfl, rfl⟩
                go_wp2_with fail
                refine (R2.out wr).mono ?_
                rintro e w2 ⟨rfl, rfl⟩
                go_wp2_with fail
                refine (EP.out wr hI2.out).mono ?_
                rintro e w3 ⟨a3, k3, rfl, hs3, hi3⟩
                have HS3 := Lib.hid (hI2.out.trans (since_mono hs3 hI2.out.size))
                go_wp2_with fail
                refine (EV.out a3 k3 w3 hi3.matR).mono ?_
                rintro e w4 ⟨rfl, hd4⟩
                have HS4 := Lib.hid (HS3.out.trans (since_mono (hd4.since w3.heap.size) HS3.out.size))
                clear hs3 hi3 hd4
                go_wp2
                go_roundg (m - (k + 1))
                case measure => omega
                case rel => exact ⟨k + 1, by omega, rfl, by go_num, HNEXT.out (by omega), HS4.out⟩
            · have hwe : IntKind.i64.wrap ((i : Int) + 1) = (e : Int) := by rw [IntWalk.i64_in _ ⟨by omega, by omega⟩]; omega
              rw [show (i : Int) + 1 - (e : Int) = 0 by omega] at R1
              by_cases hvq : v ≤ 0
              · have hvb : decide (v ≤ 0) = true := by simpa using hvq
                go_wp2_with fail
                refine (R1.out wr).mono ?_
                rintro e w2 ⟨rfl, rfl⟩
                go_wp2_with fail
                refine (R2.out wr).mono ?_
                rintro e w2 ⟨rfl, rfl⟩
                go_wp2_with fail
                refine (EP.out wr hI2.out).mono ?_
                rintro e w3 ⟨a3, k3, rfl, hs3, hi3⟩
                have HS3 := Lib.hid (hI2.out.trans (since_mono hs3 hI2.out.size))
                go_wp2_with fail
                refine (EV.out a3 k3 w3 hi3.matR).mono ?_
                rintro e w4 ⟨rfl, hd4⟩
                have HS4 := Lib.hid (HS3.out.trans (since_mono (hd4.since w3.heap.size) HS3.out.size))
                clear hs3 hi3 hd4
                go_wp2
                go_ret
                exact ⟨by rw [HNOI.out (by omega)]; rfl, HS4.out⟩
              · have hvb : decide (v ≤ 0) = false := by simpa using hvq
                go_wp2_with fail
                refine (R1.out wr).mono ?_
                rintro e w2 ⟨rfl, rfl⟩
                go_wp2_with fail
                refine (R2.out wr).mono ?_
                rintro e w2 ⟨rfl, rfl⟩
                go_wp2_with fail
                refine (EP.out wr hI2.out).mono ?_
                rintro e w3 ⟨a3, k3, rfl, hs3, hi3⟩
                have HS3 := Lib.hid (hI2.out.trans (since_mono hs3 hI2.out.size))
                go_wp2_with fail
                refine (EV.out a3 k3 w3 hi3.matR).mono ?_
                rintro e w4 ⟨rfl, hd4⟩
                have HS4 := Lib.hid (HS3.out.trans (since_mono (hd4.since w3.heap.size) HS3.out.size))
                clear hs3 hi3 hd4
                go_wp2
                go_roundg (m - (k + 1))
                case measure => omega
                case rel => exact ⟨k + 1, by omega, rfl, by go_num, HNEXT.out (by omega), HS4.out⟩
          · obtain rfl : k = m := by omega
            have HNX := Lib.hid (show ∀ i' k', i' < i + 1 → k' < k → 1 ≤ mnP l (fpart i' k') from fun i' k' h1 h2 => by
              by_cases e : i' < i
              · exact HLO.out i' k' e h2
              · have e2 : i' = i := by omega
                rw [e2]; exact hki k' h2)
            have hI2 := Lib.hid hI
            clear hI hki
            go_wp2
            go_roundg (n - (i + 1))
            case measure => omega
            case rel => exact ⟨i + 1, by omega, rfl, by go_num, HNX.out, hI2.out⟩
      · obtain rfl : i = n := by omega
        have HY := Lib.hid (HALL.out fun i' k h1 h2 => hlo i' k h1 h2)
        have HSS := Lib.hid hS
        clear hlo hS
        go_wp2
        go_ret
        exact ⟨by rw [HY.out]; rfl, HSS.out⟩

end Go.Proofs.Ytcnbffflgodheaa
end

section
namespace Go.Proofs.Ytcnbffflgodheaa
open Go.RowKit Go.Deep Go.Shelf
attribute [local go_sem] Oper.semAt_some

set_option maxHeartbeats 400000 in
theorem hasKth_any (a : Option Addr) (cap n m k : Nat) (l : List (List Int)) (w : World) (hn : l.length = n) (hT : TabIn l) (hmm : (l.getD 0 []).length = m) (hm : MatR w a l) :
    Calls Try.prog 125 #[.slice a n cap, .int .i64 k] w fun e w' => e = .returned (.bool (inB k 0 (min n m : Nat))) ∧ w = w' := by
  have h6 := hT.2.1
  have h1 := hT.1
  rw [hn] at h6 h1
  have EW := width_any a cap n l w hn (by omega) (by omega) hm
  rw [hmm] at EW
  have EI := Lib.hid (fun x => inRange_any k 0 x w)
  replace EW := Lib.hid EW
  clear hn hT hmm hm
  have hmi : ((min n m : Nat) : Int) = min (n : Int) (m : Int) := by omega
  rw [hmi]
  go_enter Try.func125, Try.ntmps125
  go_wp2_with fail
  refine (EW.out).mono ?_
  rintro e w2 ⟨rfl, rfl⟩
  go_wp2_with fail
  all_goals
    refine (EI.out _).mono ?_
    rintro e w3 ⟨rfl, rfl⟩
    go_wp2
    go_ret
    first
      | (have e : min (n : Int) (m : Int) = m := by omega
         rw [e]; exact ⟨rfl, rfl⟩)
      | (have e : min (n : Int) (m : Int) = n := by omega
         rw [e]; exact ⟨rfl, rfl⟩)

def mkD (Ds : List Nat) : List Deferred := Ds.map fun D => { target := .collected D, args := #[] }
def MK (B C : Nat) (Ds : List Nat) (W : World) : Prop := Ds.Nodup ∧ ∀ D ∈ Ds, B ≤ D ∧ D < C ∧ W.heap[D]? = some (.deferred (some []))
theorem MK.grown {B C : Nat} {Ds : List Nat} {X Y : World} {row : Option Nat} (h : MK B C Ds X) (hg : X.grownBy Y row) (hr : ∀ r, row = some r → C ≤ r) : MK B C Ds Y :=
  ⟨h.1, fun D hD => by
    obtain ⟨h1, h2, h3⟩ := h.2 D hD
    exact ⟨h1, h2, (hg.block D (Array.getElem?_eq_some_iff.1 h3).1 (fun e => by have := hr D e.symm; omega)).trans h3⟩⟩
theorem MK.keeps {B C : Nat} {Ds : List Nat} {X Y : World} {own : Nat → Prop} (h : MK B C Ds X) (hk : Keeps own X Y) (ho : ∀ q, own q → q < B) : MK B C Ds Y :=
  ⟨h.1, fun D hD => by
    obtain ⟨h1, h2, h3⟩ := h.2 D hD
    exact ⟨h1, h2, hk.same D _ (fun e => by have := ho D e; omega) h3⟩⟩
theorem MK.mono {B C C' : Nat} {Ds : List Nat} {X : World} (h : MK B C Ds X) (hc : C ≤ C') : MK B C' Ds X := ⟨h.1, fun D hD => by
  obtain ⟨h1, h2, h3⟩ := h.2 D hD
  exact ⟨h1, by omega, h3⟩⟩
theorem MK.cons {B C C' D : Nat} {Ds : List Nat} {X : World} (h : MK B C Ds X) (hB : B ≤ C) (hD : C ≤ D) (hD2 : D < C') (hK : X.heap[D]? = some (.deferred (some []))) : MK B C' (D :: Ds) X :=
  ⟨List.nodup_cons.2 ⟨fun e => by have := (h.2 D e).2.1; omega, h.1⟩, fun E hE => by
    rcases List.mem_cons.1 hE with e | e
    · subst e; exact ⟨by omega, hD2, hK⟩
    · obtain ⟨h1, h2, h3⟩ := h.2 E e
      exact ⟨h1, by omega, h3⟩⟩
theorem leaves_marks {F : Fence} {n : Nat} {P : Program} {fn : Func} {tmps : Array Value} {R : Ending → World → Prop} {B C : Nat} (T : World → Prop) (hT : ∀ X D, T X → B ≤ D → T (X.putObj D (.deferred none))) (hfin : ∀ X, T X → LeavesIn F n P fn tmps R [] .returning X) :
    ∀ (Ds : List Nat) (W : World), MK B C Ds W → T W → LeavesInM F n P fn tmps R (mkD Ds) .returning W
  | [], W, _, h => hfin W h
  | D :: Ds, W, hm, h => by
    obtain ⟨h1, h2⟩ := hm
    rw [List.nodup_cons] at h1
    obtain ⟨g1, _, g2⟩ := h2 D (by simp)
    refine ⟨by simp, .inl ⟨_, _, rfl, run_takeDeferred g2, ?_⟩⟩
    refine leaves_marks (C := C) T hT hfin Ds _ (⟨h1.2, fun E hE => ?_⟩ : MK B C Ds _) (hT _ _ h g1)
    obtain ⟨q1, q3, q2⟩ := h2 E (by simp [hE])
    exact ⟨q1, q3, (World.putObj_heap_other (fun e => h1.1 (by first | exact e ▸ hE | (subst e; exact hE)))).trans q2⟩
structure AB (n₀ : Nat) (w0 : World) (Bt By lp : Nat) (a : Option Addr) (n cap : Nat) (X : World) : Prop where
  bt : X.cell? ⟨Bt, 0, none⟩ = some (.slice a n cap)
  yb : X.cell? ⟨By, 0, none⟩ = some (.func (.yield lp) #[] #[])
  old : OldT n₀ w0 X
theorem AB.grown {n₀ : Nat} {w0 : World} {Bt By lp : Nat} {a : Option Addr} {n cap : Nat} {X Y : World} {row : Option Nat} {B : Nat} (h : AB n₀ w0 Bt By lp a n cap X) (hz : n₀ ≤ X.heap.size) (h1 : n₀ ≤ B ∧ Bt < B ∧ By < B) (hg : X.grownBy Y row) (hr : ∀ r, row = some r → B ≤ r) : AB n₀ w0 Bt By lp a n cap Y :=
  ⟨cell_own h.bt h1.2.1 hg hr, cell_own h.yb h1.2.2 hg hr, h.old.grown hz hg (fun r e => by have := hr r e; omega)⟩
theorem AB.keeps {n₀ : Nat} {w0 : World} {Bt By lp : Nat} {a : Option Addr} {n cap : Nat} {X Y : World} {own : Nat → Prop} (h : AB n₀ w0 Bt By lp a n cap X) (hz : n₀ ≤ X.heap.size) (hk : Keeps own X Y) (ho : ∀ q, own q → n₀ ≤ q ∧ q ≠ Bt ∧ q ≠ By) : AB n₀ w0 Bt By lp a n cap Y :=
  ⟨hk.cell (a := ⟨Bt, 0, none⟩) (fun e => (ho _ e).2.1 rfl) h.bt, hk.cell (a := ⟨By, 0, none⟩) (fun e => (ho _ e).2.2 rfl) h.yb, h.old.keeps hz hk (fun q e => (ho q e).1)⟩

theorem partsTo_len {n m : Nat} (h6 : n ≤ 6) (hm : m ≤ 6) : ∀ j, (partsTo n m j).length ≤ j * 4096
  | 0 => by simp [partsTo]
  | j + 1 => by
    have h1 := partsTo_len h6 hm j
    have h2 := flat_len (j + 1) m hm (setsTo (j + 1) (2 ^ n))
    have h3 := setsTo_len (j + 1) (2 ^ n)
    have p : 2 ^ n ≤ 2 ^ 6 := Nat.pow_le_pow_right (by omega) h6
    have h4 : (setsTo (j + 1) (2 ^ n)).length * 64 ≤ 64 * 64 := Nat.mul_le_mul_right 64 (by omega)
    show (partsTo n m j ++ partsK (j + 1) n m).length ≤ _
    rw [List.length_append]
    have e : (partsK (j + 1) n m).length = ((setsTo (j + 1) (2 ^ n)).flatMap (prow (j + 1) m)).length := rfl
    omega

set_option maxRecDepth 100000 in
set_option maxHeartbeats 2000000 in
theorem all_seqE (f : Nat) (hf : 16 ≤ f) (Bt n m cap : Nat) (a : Option Addr) (l : List (List Int)) (w0 w : World) (hn : l.length = n) (hT : TabIn l) (hmm : (l.getD 0 []).length = m) (hm : MatR w0 a l) (hold : OldT w0.heap.size w0 w) (_hz0 : w0.heap.size ≤ w.heap.size) (hBt : w0.heap.size ≤ Bt) (ct : w.cell? ⟨Bt, 0, none⟩ = some (.slice a n cap)) :
    SeqE Fence.wide f Try.prog 124 #[.pointer (some ⟨Bt, 0, none⟩)] encP (fun x _ => x ∈ partsA n m) (fun q => q < w0.heap.size ∨ q = Bt) (fun ys => ys = partsA n m) (fun _ => True) 32768 w := by
  intro lp J Jx own W hW hown hJ hJx hY hj
  have h6 := hT.2.1
  have h1 := hT.1
  have hw := hT.width
  rw [hn] at h6 h1
  rw [hmm] at hw
  have lt := World.block_lt_of_cell? _ _ ct
  simp only at lt
  have c1 := (hW.cell (p := ⟨Bt, 0, none⟩) lt).trans ct
  have hWz := hW.size
  have hOW : OldT w0.heap.size w0 W := fun q hq => (hW.block q (by omega)).trans (hold q hq)
  have hso : ∀ q, own q → w0.heap.size ≤ q ∧ q ≠ Bt ∧ q < W.heap.size := fun q hq => by
    obtain ⟨g1, g2⟩ := hown q hq
    exact ⟨by
      by_cases e : q < w0.heap.size
      · exact absurd (.inl e) g2
      · omega, fun e => g2 (.inr e), g1⟩
  have EK := Lib.hid (fun (k : Nat) (V : World) (h : OldT w0.heap.size w0 V) => hasKth_any a cap n m k l V hn hT hmm (hm.oldT h))
  have HSEQ := Lib.hid (fun (g : Nat) (hg : 12 ≤ g) (Bt' Bk' k : Nat) (V : World) => kth_seqE g hg Bt' Bk' n m cap k a l w0 V hn hT hmm hm)
  clear hold ct hm hmm hT hn
  refine callsIn_of_wp_marks Try.func124 rfl trivial ?_ rfl
  simp only [Try.ntmps124, List.size_toArray, List.length_cons, List.length_nil, Nat.reduceAdd, Nat.reduceSub, Array.replicate_succ, Array.replicate_zero, List.push_toArray, List.append_toArray, List.nil_append, List.cons_append]
  have c2 : (W.alloc (.cells #[.func (.yield lp) #[] #[]] 62)).cell? ⟨Bt, 0, none⟩ = _ := cell_alloc_l _ c1
  have y0 : (W.alloc (.cells #[.func (.yield lp) #[] #[]] 62)).cell? ⟨W.heap.size, 0, none⟩ = _ := (cell_new_l W _ _).1
  have hg1 := World.grownBy_alloc W (.cells #[.func (.yield lp) #[] #[]] 62) none
  have hA1 : AB w0.heap.size w0 Bt W.heap.size lp a n cap (W.alloc (.cells #[.func (.yield lp) #[] #[]] 62)) := ⟨c2, y0, hOW.grown (by omega) hg1 (fun r e => by cases e)⟩
  have hj1 := hJ.alloc (.cells #[.func (.yield lp) #[] #[]] 62) hj
  have hso3 : ∀ q, own q → w0.heap.size ≤ q ∧ q ≠ Bt ∧ q ≠ W.heap.size := fun q hq => by have := hso q hq; omega
  gi_wp2
  refine wpIn_loop (fun a' X => ∃ (j : Nat) (Ds : List Nat) (u6 u7 u8 u9 u10 u11 u12 u13 : Value), 1 ≤ j ∧ j ≤ min n m + 1 ∧ a' = { tmps := #[.func (.yield lp) #[] #[], .pointer (some ⟨Bt, 0, none⟩), .pointer (some ⟨W.heap.size, 0, none⟩), .int .i64 (j : Int), undef, undef, u6, u7, u8, u9, u10, u11, u12, u13, undef, undef, undef, undef, undef, undef, undef], defers := mkD Ds } ∧ J (partsTo n m (j - 1)) X ∧ AB w0.heap.size w0 Bt W.heap.size lp a n cap X ∧ MK W.heap.size X.heap.size Ds X ∧ W.heap.size + 1 ≤ X.heap.size)
    (fun a' _ => 8 - (intOf (a'.tmps.getD 3 undef)).toNat) ⟨1, [], _, _, _, _, _, _, _, _, Nat.le_refl _, by omega, rfl, hj1, hA1, ⟨List.nodup_nil, fun D hD => by cases hD⟩, by simp⟩ ?_
  rintro a' X ⟨j, Ds, u6, u7, u8, u9, u10, u11, u12, u13, hj1', hj2, rfl, hjx, hAX, hMK, hzX⟩
  have EKj := Lib.hid (EK.out j X hAX.old)
  have cT := hAX.bt
  by_cases hjm : j ≤ min n m
  · have hin : inB (j : Int) 0 (min n m : Nat) = true := by simp [inB]; omega
    rw [hin] at EKj
    gi_wp2_with (first
      | (refine ⟨trivial, fun _ => by omega, ?_⟩; gi_at_call 125; refine (callsIn_wide.2 EKj.out).mono ?_; rintro e w' ⟨rfl, rfl⟩)
      | (refine ⟨trivial, fun _ => by omega, ?_⟩; gi_at_call 117; refine (kthParts_in _ _ _ _ _ _).mono ?_; rintro e w' ⟨rfl, rfl⟩))
    have hg2 := (World.grownBy_alloc X (.cells #[.slice a n cap] 54) none).trans (World.grownBy_alloc _ (.cells #[.int .i64 (j : Int)] 3) none)
    have bt2 : ((X.alloc (.cells #[.slice a n cap] 54)).alloc (.cells #[.int .i64 (j : Int)] 3)).cell? ⟨X.heap.size, 0, none⟩ = some (.slice a n cap) := cell_alloc_l _ (cell_new_l X _ _).1
    have bk2 : ((X.alloc (.cells #[.slice a n cap] 54)).alloc (.cells #[.int .i64 (j : Int)] 3)).cell? ⟨X.heap.size + 1, 0, none⟩ = some (.int .i64 (j : Int)) := by
      have := (cell_new_l (X.alloc (.cells #[.slice a n cap] 54)) (.int .i64 (j : Int)) 3).1
      rw [World.size_alloc] at this
      exact this
    have zV : ((X.alloc (.cells #[.slice a n cap] 54)).alloc (.cells #[.int .i64 (j : Int)] 3)).heap.size = X.heap.size + 2 := by simp
    obtain ⟨V, hV⟩ : ∃ V, (X.alloc (.cells #[.slice a n cap] 54)).alloc (.cells #[.int .i64 (j : Int)] 3) = V := ⟨_, rfl⟩
    rw [hV] at hg2 bt2 bk2 zV ⊢
    clear hV
    have hBX : w0.heap.size ≤ X.heap.size ∧ Bt < X.heap.size ∧ W.heap.size < X.heap.size := by omega
    have hAV := hAX.grown (by omega) hBX hg2 (fun r e => by cases e)
    have hMV := hMK.grown hg2 (fun r e => by cases e)
    have hpl := partsTo_len h6 hw.2 (j - 1)
    refine rangeF (F := Fence.wide) (n := f) rfl (by omega) (gf := 135) (lb := #[.pointer (some ⟨X.heap.size, 0, none⟩), .pointer (some ⟨X.heap.size + 1, 0, none⟩)]) rfl trivial (enters_of Try.func135 (by kernel_rfl) rfl)
      (HSEQ.out (f - 1) (by omega) X.heap.size (X.heap.size + 1) j V hAV.old (by omega) (by omega) (by omega) bt2 bk2) (fun _ => rfl) own (fun q hq => ⟨by have := hso q hq; omega, by have := hso q hq; omega⟩) (fun q hq => by omega)
      (fun (ps : List (Nat × Nat)) Y => (J (partsTo n m (j - 1) ++ ps) Y ∧ AB w0.heap.size w0 Bt W.heap.size lp a n cap Y ∧ MK W.heap.size X.heap.size Ds Y) ∧ V.heap.size ≤ Y.heap.size)
      (fun c _ Y => c = .ret ∧ (∃ q, Jx q Y) ∧ MK W.heap.size X.heap.size Ds Y)
      (fun ps Y Z row hs hg hr => ⟨⟨hJ _ Y Z row hs.1.1 hg (fun r e => by have := hr r e; omega), hs.1.2.1.grown (by have := hs.2; omega) hBX hg (fun r e => by have := hr r e; omega), hs.1.2.2.grown hg (fun r e => by have := hr r e; omega)⟩, Nat.le_trans hs.2 hg.size⟩)
      (fun c ps Y Z row hs hg hr => ⟨hs.1, by
        obtain ⟨q, hq⟩ := hs.2.1
        exact ⟨q, hJx _ Y Z row hq hg (fun r e => by have := hr r e; omega)⟩, hs.2.2.grown hg (fun r e => by have := hr r e; omega)⟩)
      ⟨⟨by rw [List.append_nil]; exact hJ _ X V none hjx hg2 (fun r e => by cases e), hAV, hMV⟩, Nat.le_refl _⟩
      (fun x a'' _ => a'' = { tmps := #[.func (.yield lp) #[] #[], .pointer (some ⟨Bt, 0, none⟩), .pointer (some ⟨W.heap.size, 0, none⟩), .int .i64 (j : Int), .int .i64 (x.1 : Int), .int .i64 (x.2 : Int), .slice a n cap, .int .i64 (j : Int), .bool true, u9, u10, .slice a n cap, .int .i64 (j : Int), .func (.func 135) #[] #[.pointer (some ⟨X.heap.size, 0, none⟩), .pointer (some ⟨X.heap.size + 1, 0, none⟩)], .int .i64 (x.1 : Int), .int .i64 (x.2 : Int), undef, undef, undef, undef, undef], defers := [] })
      (fun _ _ _ _ _ _ hA _ _ => hA)
      ?assign ?body ?done ?stop
    case assign =>
      rintro lq ps x Y K _ hi _ hK
      simp only [encP]
      gi_wp2
      exact hK _ _ (Keeps.refl _ _) hi rfl
    case body =>
      rintro lq ps x a'' Y hlq hzY _ ⟨⟨hjy, hAY, hMY⟩, _⟩ hpx rfl hlen
      have cY := hAY.yb
      have hxA : x ∈ partsA n m := by
        obtain ⟨⟨g1, g2⟩, g3, g4⟩ := partsK_mem.1 hpx
        exact (partsTo_mem _).2 ⟨by omega, by omega, by omega, g1, g3⟩
      have hl4 : (partsTo n m (j - 1) ++ ps).length < 32768 := by
        rw [List.length_append]
        omega
      obtain ⟨fn, tmps, assign, body, hy, hR⟩ := yieldAt_any (m' := f - 1 - 1 - 1) (hY _ x Y hjy hxA hl4)
      dsimp only [encP] at hy
      have HKEEP := Lib.hid (show ∀ Z, Keeps own Y Z → AB w0.heap.size w0 Bt W.heap.size lp a n cap Z ∧ MK W.heap.size X.heap.size Ds Z ∧ V.heap.size ≤ Z.heap.size from fun Z hk =>
        ⟨hAY.keeps (by omega) hk hso3, hMY.keeps hk (fun q hq => (hso q hq).2.2), by have := hk.size; omega⟩)
      clear hjy hAY hMY hxA
      obtain ⟨x1, x2⟩ := x
      simp only at hy hR ⊢
      gi_wp2
      refine ⟨fun h => by omega, ?_⟩
      refine RoundIn.mono (F := Fence.wide.inRound lq) hR ?_
      rintro e W3 (⟨rfl, hJ3, hk3⟩ | ⟨rfl, hx3, hk3⟩)
      · obtain ⟨q1, q2, q3⟩ := HKEEP.out _ hk3
        gi_wp2
        exact ⟨hk3, ⟨by rw [← List.append_assoc]; exact hJ3, q1, q2⟩, q3⟩
      · obtain ⟨q1, q2, q3⟩ := HKEEP.out _ hk3
        gi_wp2
        exact ⟨hk3, rfl, ⟨_, hx3⟩, q2⟩
    case done =>
      rintro D ps Y hD rfl ⟨⟨hjy, hAY, hMY⟩, hzY⟩ hK
      have hDY := (Array.getElem?_eq_some_iff.1 hK).1
      have hMC := hMY.cons (C' := Y.heap.size) (by omega) (by omega) hDY hK
      have hwj : IntKind.i64.wrap ((j : Int) + 1) = ((j + 1 : Nat) : Int) := by rw [IntWalk.i64_in _ ⟨by omega, by omega⟩]; omega
      have hnext : partsTo n m j = partsTo n m (j - 1) ++ partsK j n m := by
        obtain ⟨i, rfl⟩ : ∃ i, j = i + 1 := ⟨j - 1, by omega⟩
        rfl
      gi_wp2
      exact ⟨⟨j + 1, D :: Ds, _, _, _, _, _, _, _, _, by omega, by omega, rfl, by rw [Nat.add_sub_cancel, hnext]; exact hjy, hAY, hMC, by omega⟩, by simp [intOf]; omega⟩
    case stop =>
      rintro D c ps Y hD _ ⟨rfl, ⟨q, hq⟩, hMY⟩ hK
      have hDY := (Array.getElem?_eq_some_iff.1 hK).1
      have hMC := hMY.cons (C' := Y.heap.size) (by omega) (by omega) hDY hK
      gi_wp2
      refine leaves_marks (B := W.heap.size) (fun Z => Jx q Z) (fun Z E h hE => hJx.put _ h hE) (fun Z h => ?_) (D :: Ds) Y hMC hq
      refine ⟨.tuple #[], ?_, ⟨_, rfl⟩, .inr ⟨q, trivial, h⟩⟩
      simp [results, Try.f124, go_sem]
  · have hin : inB (j : Int) 0 (min n m : Nat) = false := by simp [inB]; omega
    rw [hin] at EKj
    obtain rfl : j = min n m + 1 := by omega
    gi_wp2_with (refine ⟨trivial, fun _ => by omega, ?_⟩; gi_at_call 125; refine (callsIn_wide.2 EKj.out).mono ?_; rintro e w' ⟨rfl, rfl⟩)
    refine leaves_marks (B := W.heap.size) (fun Z => J (partsA n m) Z) (fun Z E h hE => hJ.put _ h hE) (fun Z h => ?_) Ds _ hMK hjx
    refine ⟨.tuple #[], ?_, ⟨_, rfl⟩, .inl ⟨_, rfl, h⟩⟩
    simp [results, Try.f124, go_sem]

end Go.Proofs.Ytcnbffflgodheaa
end

section
namespace Go.Proofs.Ytcnbffflgodheaa
open Go.RowKit Go.Deep Go.Shelf

attribute [local go_sem] Oper.semAt_some

def hasR (l : List (List Int)) (k M2 : Nat) (r : Nat) : Bool := (setsTo k M2).any fun c => decide (dt k (at2 (partL l r c)) ≠ 0)
def hasB (l : List (List Int)) (k M1 M2 : Nat) : Bool := (setsTo k M1).any (hasR l k M2)
theorem hasB_yes {l : List (List Int)} {k n m : Nat} {x : Nat × Nat} (hx : x ∈ partsK k n m) (h : mnP l x ≠ 0) : hasB l k (2 ^ n) (2 ^ m) = true := by
  obtain ⟨⟨g1, g2⟩, g3⟩ := partsK_mem.1 hx
  refine List.any_eq_true.2 ⟨x.1, (setsTo_mem k).2 ⟨g1, g2⟩, List.any_eq_true.2 ⟨x.2, (setsTo_mem k).2 g3, ?_⟩⟩
  unfold mnP at h
  rw [g2] at h
  simpa using h
theorem hasB_no {l : List (List Int)} {k n m : Nat} (h : ∀ x ∈ partsK k n m, mnP l x = 0) : hasB l k (2 ^ n) (2 ^ m) = false := by
  cases e : hasB l k (2 ^ n) (2 ^ m) with
  | false => rfl
  | true =>
    obtain ⟨r, hr, e2⟩ := List.any_eq_true.1 e
    obtain ⟨c, hc, e3⟩ := List.any_eq_true.1 e2
    have g1 := (setsTo_mem k).1 hr
    have g2 := (setsTo_mem k).1 hc
    have := h (r, c) (partsK_mem.2 ⟨g1, g2⟩)
    unfold mnP at this
    rw [show popcS (r, c).1 = k from g1.2] at this
    exact absurd this (of_decide_eq_true e3)

theorem oldT_since {w W : World} (h : w.Since w.heap.size W) : OldT w.heap.size w W := fun k hk => h.block k hk
theorem grownSH {w w' : World} (h : w.Since w.heap.size w') : w.grownBy w' none := ⟨h.os, h.tape, h.output, h.size, fun k hk _ => h.block k hk⟩
structure HS (w : World) (tv : Value) (W : World) : Prop where
  bt : Boxed W w.heap.size 54 tv
  br : Boxed W (w.heap.size + 1) 4 (.bool false)
  sn : w.Since w.heap.size W
theorem since_row {lo : Nat} {w W W' : World} {row : Option Nat} (h : w.Since lo W) (hlo : lo ≤ w.heap.size) (hg : W.grownBy W' row) (hr : ∀ r, row = some r → lo ≤ r) : w.Since lo W' :=
  ⟨hg.os.trans h.os, hg.tape.trans h.tape, hg.output.trans h.output, Nat.le_trans h.size hg.size, fun k hk => (hg.block k (by have := h.size; omega) (fun e => by have := hr k e.symm; omega)).trans (h.block k hk)⟩
theorem HS.kept {w W W' : World} {tv : Value} {row : Option Nat} (h : HS w tv W) (hg : W.grownBy W' row) (hr : ∀ r, row = some r → w.heap.size + 2 ≤ r) : HS w tv W' :=
  ⟨h.bt.kept hg (fun e => by have := hr _ e.symm; omega), h.br.kept hg (fun e => by have := hr _ e.symm; omega), since_row h.sn (Nat.le_refl _) hg (fun r e => by have := hr r e; omega)⟩

set_option maxRecDepth 100000 in
set_option maxHeartbeats 2000000 in
theorem hasMinor_any (a : Option Addr) (cap n m k : Nat) (l : List (List Int)) (w : World) (hn : l.length = n) (hmm : (l.getD 0 []).length = m) (hT : TabIn l) (hm : MatR w a l) :
    Calls Try.prog 101 #[.slice a n cap, .int .i64 k] w fun e w' => e = .returned (.bool (hasB l k (2 ^ n) (2 ^ m))) ∧ w.Since w.heap.size w' := by
  have HSEQ := Lib.hid (fun (g : Nat) (hg : 12 ≤ g) (Bt' Bk' : Nat) (V : World) => kth_seqE g hg Bt' Bk' n m cap k a l w V hn hT hmm hm)
  have EM := Lib.hid (fun (x : Nat × Nat) (hx : x ∈ partsK k n m) (V : World) (h : w.Since w.heap.size V) => minor_any a cap n m x.1 x.2 l V hn hmm hT (partsK_mem.1 hx).1.1 (partsK_mem.1 hx).2.1 ((partsK_mem.1 hx).1.2.trans (partsK_mem.1 hx).2.2.symm) (hm.since h))
  clear hn hmm hT hm
  refine (callsIn_wide (n := 20)).1 ?_
  refine callsIn_of_wp_marks Try.func101 rfl trivial ?_ rfl
  simp only [Try.ntmps101, List.size_toArray, List.length_cons, List.length_nil, Nat.reduceAdd, Nat.reduceSub, Array.replicate_succ, Array.replicate_zero, List.push_toArray, List.append_toArray, List.nil_append, List.cons_append]
  gi_wp2_with (refine ⟨trivial, ?_⟩; gi_at_call 117; refine (kthParts_in _ _ _ _ _ _).mono ?_; rintro e w' ⟨rfl, rfl⟩)
  have hb0 := Boxed.new w 54 (.slice a n cap)
  have hr0 := Boxed.new (w.alloc (.cells #[.slice a n cap] 54)) 4 (.bool false)
  rw [World.size_alloc] at hr0
  have hS0 : HS w (.slice a n cap) ((w.alloc (.cells #[.slice a n cap] 54)).alloc (.cells #[.bool false] 4)) := ⟨hb0.alloc _, hr0, ((World.Since.refl _ w).alloc (Nat.le_refl _) _).alloc (by simp) _⟩
  obtain ⟨w2, hw2⟩ : ∃ W, (w.alloc (.cells #[.slice a n cap] 54)).alloc (.cells #[.bool false] 4) = W := ⟨_, rfl⟩
  have z2 : w2.heap.size = w.heap.size + 1 + 1 := by rw [← hw2]; simp
  rw [hw2] at hS0 ⊢
  clear hw2 hb0 hr0
  have bt := cell_alloc_l (.cells #[.int .i64 (k : Int)] 3) (cell_new_l w2 (.slice a n cap) 54).1
  have bk := (cell_new_l (w2.alloc (.cells #[.slice a n cap] 54)) (.int .i64 (k : Int)) 3).1
  have hg := (World.grownBy_alloc w2 (.cells #[.slice a n cap] 54) none).trans (World.grownBy_alloc _ (.cells #[.int .i64 (k : Int)] 3) none)
  have hS1 := hS0.kept hg (fun r e => by cases e)
  have zV : ((w2.alloc (.cells #[.slice a n cap] 54)).alloc (.cells #[.int .i64 (k : Int)] 3)).heap.size = w.heap.size + 4 := by simp [z2]
  simp only [World.size_alloc] at bk
  rw [z2] at bt bk
  obtain ⟨V, hV⟩ : ∃ V, (w2.alloc (.cells #[.slice a n cap] 54)).alloc (.cells #[.int .i64 (k : Int)] 3) = V := ⟨_, rfl⟩
  rw [hV] at bt bk hS1 zV ⊢
  clear hV hS0 hg z2
  refine rangeF (F := Fence.wide) (n := 20) rfl (by omega) (gf := 135) (lb := #[.pointer (some ⟨w.heap.size + 1 + 1, 0, none⟩), .pointer (some ⟨w.heap.size + 1 + 1 + 1, 0, none⟩)]) rfl trivial (enters_of Try.func135 (by kernel_rfl) rfl)
    (HSEQ.out 19 (by omega) (w.heap.size + 1 + 1) (w.heap.size + 1 + 1 + 1) V (oldT_since hS1.sn) (by omega) (by omega) (by omega) bt bk) (fun _ => rfl) (fun q => q = w.heap.size + 1) (fun q hq => ⟨by omega, by omega⟩) (fun q hq => by omega)
    (fun (ps : List (Nat × Nat)) X => (HS w (.slice a n cap) X ∧ V.heap.size ≤ X.heap.size) ∧ ∀ x ∈ ps, mnP l x = 0)
    (fun c _ X => c = .ret ∧ Boxed X (w.heap.size + 1) 4 (.bool true) ∧ w.Since w.heap.size X ∧ hasB l k (2 ^ n) (2 ^ m) = true)
    (fun ps X Y row hs hg hr => ⟨⟨hs.1.1.kept hg (fun r e => by have := hr r e; omega), Nat.le_trans hs.1.2 hg.size⟩, hs.2⟩)
    (fun c ps X Y row hs hg hr => ⟨hs.1, hs.2.1.kept hg (fun e => by have := hr _ e.symm; omega), since_row hs.2.2.1 (Nat.le_refl _) hg (fun r e => by have := hr r e; omega), hs.2.2.2⟩)
    ⟨⟨hS1, Nat.le_refl _⟩, fun x hx => by cases hx⟩
    (fun x a'' _ => a'' = { tmps := #[.slice a n cap, .int .i64 k, .pointer (some ⟨w.heap.size, 0, none⟩), undef, .pointer (some ⟨w.heap.size + 1, 0, none⟩), .int .i64 (x.1 : Int), .int .i64 (x.2 : Int), .slice a n cap, .int .i64 k, .func (.func 135) #[] #[.pointer (some ⟨w.heap.size + 1 + 1, 0, none⟩), .pointer (some ⟨w.heap.size + 1 + 1 + 1, 0, none⟩)], .int .i64 (x.1 : Int), .int .i64 (x.2 : Int), undef, undef, undef, undef, undef], defers := [] })
    (fun _ _ _ _ _ _ hA _ _ => hA)
    ?assign ?body ?done ?stop
  case assign =>
    rintro lq ps x Y K _ hi _ hK
    simp only [encP]
    gi_wp2
    exact hK _ _ (Keeps.refl _ _) hi rfl
  case body =>
    rintro lq ps x a'' Y hlq hzY _ ⟨⟨hS, hz⟩, hp⟩ hpx rfl hlen
    have cT := hS.bt.cell
    have E := Lib.hid (EM.out x hpx Y hS.sn)
    have HSS := Lib.hid hS
    have HY := Lib.hid (show mnP l x ≠ 0 → hasB l k (2 ^ n) (2 ^ m) = true from fun h => hasB_yes hpx h)
    have HP := Lib.hid hp
    clear hS hp hpx
    obtain ⟨x1, x2⟩ := x
    simp only at E HY ⊢
    obtain ⟨v, hv⟩ : ∃ v, mnP l (x1, x2) = v := ⟨_, rfl⟩
    rw [hv] at E HY
    have HV := Lib.hid hv
    clear hv
    by_cases hv0 : v = 0
    · have hvb : (v != 0) = false := by simp [hv0]
      gi_wp2_with (refine ⟨trivial, ?_⟩; gi_at_call 68; refine (CallsIn.inRound lq (callsIn_wide.2 E.out)).mono ?_; rintro e Z ⟨rfl, hs2⟩; have HS2 := Lib.hid hs2; clear hs2)
      have hg := grownSH HS2.out
      exact ⟨Keeps.grown hg (fun r e => by cases e), ⟨HSS.out.kept hg (fun r e => by cases e), by have := hg.size; omega⟩, fun p hp => by
        rcases List.mem_append.1 hp with h | h
        · exact HP.out _ h
        · simp only [List.mem_singleton] at h
          rw [h, HV.out, hv0]⟩
    · have hvb : (v != 0) = true := by simp [hv0]
      gi_wp2_with (refine ⟨trivial, ?_⟩; gi_at_call 68; refine (CallsIn.inRound lq (callsIn_wide.2 E.out)).mono ?_; rintro e Z ⟨rfl, hs2⟩; have HS2 := Lib.hid hs2; have hrB := HSS.out.br.kept (grownSH HS2.out) (by simp); have cR := hrB.cell; have fR := hrB.frozen; clear hs2)
      have hg := grownSH HS2.out
      exact ⟨(Keeps.grown hg (fun r e => by cases e)).trans (Keeps.grown (grownBy_setCell' Z (w.heap.size + 1) _) (fun r e => by cases e; rfl)), rfl, hrB.set _, (HSS.out.kept hg (fun r e => by cases e)).sn.setCell (by simp) _, HY.out hv0⟩
  case done =>
    rintro D ps X hD rfl ⟨⟨hS, hz⟩, hp⟩ hK
    have cS := hS.br.cell
    have fS := hS.br.frozen
    have hb : hasB l k (2 ^ n) (2 ^ m) = false := hasB_no hp
    have hlt := (Array.getElem?_eq_some_iff.1 hK).1
    have hK2 : (X.setCell ⟨w.heap.size + 1, 0, none⟩ (.bool false)).heap[D]? = some (.deferred (some [])) := ((grownBy_setCell' X (w.heap.size + 1) (.bool false)).block D hlt (fun e => by injection e; omega)).trans hK
    have hB3 := (hS.br.set (.bool false)).kept (grownBy_putObj' (X.setCell ⟨w.heap.size + 1, 0, none⟩ (.bool false)) D (.deferred none)) (fun e => by injection e; omega)
    have cB := hB3.cell
    have hsn := since_row (hS.sn.setCell (a := ⟨w.heap.size + 1, 0, none⟩) (by simp) (.bool false)) (Nat.le_refl _) (grownBy_putObj' (X.setCell ⟨w.heap.size + 1, 0, none⟩ (.bool false)) D (.deferred none)) (fun r e => by cases e; omega)
    gi_wp2
    refine ⟨by simp, .inl ⟨_, _, rfl, run_takeDeferred hK2, ?_⟩⟩
    refine ⟨.bool false, ?_, by rw [hb], hsn⟩
    have cB' := cB
    simp [results, Try.f101, go_sem, cB']
  case stop =>
    rintro D c ps X hD _ ⟨rfl, bR, hs, hb⟩ hK
    have hB3 := bR.kept (grownBy_putObj' X D (.deferred none)) (fun e => by injection e; omega)
    have cB := hB3.cell
    have hsn := since_row hs (Nat.le_refl _) (grownBy_putObj' X D (.deferred none)) (fun r e => by cases e; omega)
    gi_wp2
    refine ⟨by simp, .inl ⟨_, _, rfl, run_takeDeferred hK, ?_⟩⟩
    refine ⟨.bool true, ?_, by rw [hb], hsn⟩
    have cB' := cB
    simp [results, Try.f101, go_sem, cB']

end Go.Proofs.Ytcnbffflgodheaa
end

section
namespace Go.Proofs.Ytcnbffflgodheaa
open Go.RowKit Go.Deep Go.Shelf
attribute [local go_sem] Oper.semAt_some

def posV (a : Option Addr) (n cap g : Nat) (lb : Array Value) : Value := .agg #[.slice a n cap, .func (.func g) #[] lb]
structure QS (w : World) (tv gv qv : Value) (b : Bool) (W : World) : Prop where
  b0 : W.heap[w.heap.size]? = some (.cells #[tv, gv] 79)
  bq : Boxed W (w.heap.size + 1) 3 qv
  br : Boxed W (w.heap.size + 2) 4 (.bool b)
  sn : w.Since w.heap.size W
theorem QS.kept {w W W' : World} {tv gv qv : Value} {b : Bool} {row : Option Nat} (h : QS w tv gv qv b W) (hg : W.grownBy W' row) (hr : ∀ r, row = some r → w.heap.size + 3 ≤ r) : QS w tv gv qv b W' :=
  ⟨(hg.block _ (Array.getElem?_eq_some_iff.1 h.b0).1 (fun e => by have := hr _ e.symm; omega)).trans h.b0, h.bq.kept hg (fun e => by have := hr _ e.symm; omega), h.br.kept hg (fun e => by have := hr _ e.symm; omega), since_row h.sn (Nat.le_refl _) hg (fun r e => by have := hr r e; omega)⟩
theorem cells2 {W : World} {b : Nat} {s g : Value} {t : TypeId} (h : W.heap[b]? = some (.cells #[s, g] t)) : W.cell? ⟨b, 0, none⟩ = some s ∧ W.cell? ⟨b, 1, none⟩ = some g := by
  simp [World.cell?, h]

theorem round_region_heldP {lp n id : Nat} {P : Program} {ops : Array Oper} {Q : Exit → Act → World → Prop} {a : Act} {w : World} {S : World → Prop} (hm : P.follows .mixedOrders = true) (hd : noDefer ops = true) (hno : ¬ LetsOut Q) (hS : S w.drew)
    (h : S w.drew → wpAnyH P .any ops Q S ops.size (Array.replicate ops.size false) a w.drew) : (Code.region id ops true).wpIn (Fence.wide.inRound lp) n P Q a w :=
  wpIn_region_any hm (wpAnyIn_of_wpAny hno (noDefer_of hd) _ _ _ _ (wpAny_of_held _ _ _ _ (h hS)))

set_option maxRecDepth 100000 in
set_option maxHeartbeats 2000000 in
theorem minorsFrom_any (a : Option Addr) (cap n m : Nat) (q : Int) (g : Nat) (lb : Array Value) (ps : List (Nat × Nat)) (N : Nat) (need : Nat → Prop) (l : List (List Int)) (w : World) (hn : l.length = n) (hmm : (l.getD 0 []).length = m) (hT : TabIn l) (hm : MatR w a l)
    (hps : ∀ x ∈ ps, popcS x.1 = popcS x.2 ∧ x.1 < 2 ^ n ∧ x.2 < 2 ^ m) (hneed : ∀ k, need k → k < w.heap.size)
    (hseq : ∀ V : World, OldT w.heap.size w V → w.heap.size ≤ V.heap.size → SeqE Fence.wide 29 Try.prog g lb encP (fun x _ => x ∈ ps) need (fun ys => ys = ps) (fun _ => True) N V)
    (eg : ∀ args w, (callFunc g args).run Try.prog w = .ok (.enter g args) w) :
    Calls Try.prog 81 #[posV a n cap g lb, .int .i64 q] w fun e w' => e = .returned (.bool (leastB l q ps)) ∧ w.Since w.heap.size w' := by
  have EM := Lib.hid (fun (x : Nat × Nat) (hx : x ∈ ps) (V : World) (h : w.Since w.heap.size V) => minor_any a cap n m x.1 x.2 l V hn hmm hT (hps x hx).2.1 (hps x hx).2.2 (hps x hx).1 (hm.since h))
  have HSEQ := Lib.hid hseq
  have EG := Lib.hid eg
  clear hn hmm hT hm hps hseq eg
  unfold posV
  refine (callsIn_wide (n := 30)).1 ?_
  refine callsIn_of_wp_marks Try.func81 rfl trivial ?_ rfl
  simp only [Try.ntmps81, List.size_toArray, List.length_cons, List.length_nil, Nat.reduceAdd, Nat.reduceSub, Array.replicate_succ, Array.replicate_zero, List.push_toArray, List.append_toArray, List.nil_append, List.cons_append]
  have hS0 : QS w (.slice a n cap) (.func (.func g) #[] lb) (.int .i64 q) false (((w.alloc (.cells #[.slice a n cap, .func (.func g) #[] lb] 79)).alloc (.cells #[.int .i64 q] 3)).alloc (.cells #[.bool false] 4)) := by
    have b1 := Boxed.new (w.alloc (.cells #[.slice a n cap, .func (.func g) #[] lb] 79)) 3 (.int .i64 q)
    have b2 := Boxed.new ((w.alloc (.cells #[.slice a n cap, .func (.func g) #[] lb] 79)).alloc (.cells #[.int .i64 q] 3)) 4 (.bool false)
    simp only [World.size_alloc] at b1 b2
    exact ⟨(Below.heap_alloc _ _ _ (by simp; omega)).trans ((Below.heap_alloc _ _ _ (by simp)).trans (World.alloc_heap_new w _)), b1.alloc _, b2, (((World.Since.refl _ w).alloc (Nat.le_refl _) _).alloc (by simp) _).alloc (by simp; omega) _⟩
  gi_wp2
  obtain ⟨V, hV⟩ : ∃ V, (((w.alloc (.cells #[.slice a n cap, .func (.func g) #[] lb] 79)).alloc (.cells #[.int .i64 q] 3)).alloc (.cells #[.bool false] 4)) = V := ⟨_, rfl⟩
  have zV : V.heap.size = w.heap.size + 3 := by rw [← hV]; simp
  rw [hV] at hS0 ⊢
  clear hV
  refine rangeF (F := Fence.wide) (n := 30) rfl (by omega) (gf := g) (lb := lb) rfl trivial EG.out
    (HSEQ.out V (oldT_since hS0.sn) (by omega)) (fun _ => rfl) (fun k => k = w.heap.size + 2) (fun k hk => ⟨by omega, fun h => by have := hneed _ h; omega⟩) (fun k hk => by have := hneed _ hk; omega)
    (fun (qs : List (Nat × Nat)) X => (QS w (.slice a n cap) (.func (.func g) #[] lb) (.int .i64 q) false X ∧ V.heap.size ≤ X.heap.size) ∧ leastB l q qs = true)
    (fun c _ X => c = .ret ∧ (Boxed X (w.heap.size + 2) 4 (.bool false) ∧ w.Since w.heap.size X) ∧ leastB l q ps = false)
    (fun qs X Y row hs hg hr => ⟨⟨hs.1.1.kept hg (fun r e => by have := hr r e; omega), Nat.le_trans hs.1.2 hg.size⟩, hs.2⟩)
    (fun c qs X Y row hs hg hr => ⟨hs.1, ⟨hs.2.1.1.kept hg (fun e => by have := hr _ e.symm; omega), since_row hs.2.1.2 (Nat.le_refl _) hg (fun r e => by have := hr r e; omega)⟩, hs.2.2⟩)
    ⟨⟨hS0, Nat.le_refl _⟩, rfl⟩
    (fun x a'' _ => a'' = { tmps := #[.agg #[.slice a n cap, .func (.func g) #[] lb], .int .i64 q, .pointer (some ⟨w.heap.size, 0, none⟩), .pointer (some ⟨w.heap.size + 1, 0, none⟩), .pointer (some ⟨w.heap.size + 1 + 1, 0, none⟩), .int .i64 (x.1 : Int), .int .i64 (x.2 : Int), .pointer (some ⟨w.heap.size, 1, none⟩), .func (.func g) #[] lb, .int .i64 (x.1 : Int), .int .i64 (x.2 : Int), undef, undef, undef, undef, undef, undef, undef], defers := [] })
    (fun _ _ _ _ _ _ hA _ _ => hA)
    ?assign ?body ?done ?stop
  case assign =>
    rintro lq qs x Y K _ hi _ hK
    simp only [encP]
    gi_wp2
    exact hK _ _ (Keeps.refl _ _) hi rfl
  case body =>
    rintro lq qs x a'' Y hlq hzY _ ⟨⟨hS, hz⟩, hp⟩ hpx rfl hlen
    have hmix : Try.prog.follows .mixedOrders = true := by kernel_rfl
    have cT : Y.drew.cell? ⟨w.heap.size, 0, none⟩ = _ := (cells2 hS.b0).1
    have cQ : Y.drew.cell? ⟨w.heap.size + 1, 0, none⟩ = _ := hS.bq.cell
    have E := Lib.hid (EM.out x hpx Y.drew (show w.Since w.heap.size Y.drew from hS.sn.drew))
    have HSS := Lib.hid hS
    have HY := Lib.hid (show mnP l x < q → leastB l q ps = false from fun h => leastB_no hpx h)
    have HP := Lib.hid (leastB_snoc l q qs x)
    have HPP := Lib.hid hp
    clear hS hp hpx
    obtain ⟨x1, x2⟩ := x
    simp only at E HY HP ⊢
    obtain ⟨v, hv⟩ : ∃ v, mnP l (x1, x2) = v := ⟨_, rfl⟩
    rw [hv] at E HY HP
    clear hv
    have HK2 := Lib.hid (show ∀ Z, Y.drew.Since Y.drew.heap.size Z → Y.grownBy Z none from fun Z h => (grown_drewP (World.grownBy.refl Y none)).trans (grownSH h))
    gi_wp2
    refine round_region_heldP (S := fun W' : World => W'.cell? ⟨w.heap.size, 0, none⟩ = some (.slice a n cap) ∧ W'.cell? ⟨w.heap.size + 1, 0, none⟩ = some (.int .i64 q)) hmix (by kernel_rfl) (by rintro ⟨a, w, h⟩; exact h) ⟨cT, cQ⟩ (fun hS => ?_)
    refine wpAnyH_take (i := 0) (v := .pointer (some ⟨w.heap.size, 0, none⟩)) rfl (by kernel_rfl) (by kernel_rfl) (by kernel_rfl) (fun _ _ _ h => h) (Or.inl ⟨by rfl, fun W' h => by go_simp⟩) hS ?_
    simp only [Act.put, List.setIfInBounds_toArray]
    refine wpAnyH_take (i := 1) (v := .slice a n cap) rfl (by kernel_rfl) (by kernel_rfl) (by kernel_rfl) (fun _ _ _ h => h) (Or.inl ⟨by rfl, fun W' h => by have hc := h.1; go_simp⟩) hS ?_
    simp only [Act.put]
    refine wpAnyH_take (i := 2) (v := .int .i64 x1) rfl (by kernel_rfl) (by kernel_rfl) (by kernel_rfl) (fun _ _ _ h => h) (Or.inl ⟨by rfl, fun W' h => by go_simp⟩) hS ?_
    simp only [Act.put]
    refine wpAnyH_take (i := 3) (v := .int .i64 x2) rfl (by kernel_rfl) (by kernel_rfl) (by kernel_rfl) (fun _ _ _ h => h) (Or.inl ⟨by rfl, fun W' h => by go_simp⟩) hS ?_
    simp only [Act.put]
    refine wpAnyH_take (i := 5) (v := .int .i64 q) rfl (by kernel_rfl) (by kernel_rfl) (by kernel_rfl) (fun _ _ _ h => h) (Or.inl ⟨by rfl, fun W' h => by have hc := h.2; go_simp⟩) hS ?_
    simp only [Act.put]
    refine wpAnyH_ready (rs := [4]) (by kernel_rfl) (by simp) (AllReadyH.cons rfl (fun K hK => ?_) AllReadyH.nil)
    go_simp
    refine E.out.mono ?_
    rintro e Z ⟨rfl, hs2⟩
    have HG := Lib.hid (HK2.out Z hs2)
    have hQZ := HSS.out.kept HG.out (fun r e => by cases e)
    refine hK.out _ _ ⟨(cells2 hQZ.b0).1, hQZ.bq.cell⟩ (fun hS1 => ?_)
    clear hK K hs2
    refine wpAnyH_take (i := 6) (v := .bool (decide (v < q))) rfl (by kernel_rfl) (by kernel_rfl) (by kernel_rfl) (fun _ _ _ h => h) (Or.inl ⟨by rfl, fun W' h => by go_simp⟩) hS1 ?_
    simp only [Act.put]
    refine wpAnyH_done (by kernel_rfl) ?_ _
    by_cases hv0 : v < q
    · have hvb : decide (v < q) = true := by simpa using hv0
      have cR := hQZ.br.cell
      have fR := hQZ.br.frozen
      gi_wp2
      exact ⟨(Keeps.grown HG.out (fun r e => by cases e)).trans (Keeps.grown (grownBy_setCell' Z (w.heap.size + 2) _) (fun r e => by cases e; rfl)), rfl, ⟨hQZ.br.set _, hQZ.sn.setCell (by simp; omega) _⟩, HY.out hv0⟩
    · have hvb : decide (v < q) = false := by simpa using hv0
      gi_wp2
      exact ⟨Keeps.grown HG.out (fun r e => by cases e), ⟨hQZ, by have := HG.out.size; omega⟩, by rw [HP.out, HPP.out]; simp; omega⟩
  case done =>
    rintro D qs X hD rfl ⟨⟨hS, hz⟩, hp⟩ hK
    have cS := hS.br.cell
    have fS := hS.br.frozen
    have hlt := (Array.getElem?_eq_some_iff.1 hK).1
    have hK2 : (X.setCell ⟨w.heap.size + 2, 0, none⟩ (.bool true)).heap[D]? = some (.deferred (some [])) := ((grownBy_setCell' X (w.heap.size + 2) (.bool true)).block D hlt (fun e => by injection e; omega)).trans hK
    have hB3 := (hS.br.set (.bool true)).kept (grownBy_putObj' (X.setCell ⟨w.heap.size + 2, 0, none⟩ (.bool true)) D (.deferred none)) (fun e => by injection e; omega)
    have cB := hB3.cell
    have hsn := since_row (hS.sn.setCell (a := ⟨w.heap.size + 2, 0, none⟩) (by simp) (.bool true)) (Nat.le_refl _) (grownBy_putObj' (X.setCell ⟨w.heap.size + 2, 0, none⟩ (.bool true)) D (.deferred none)) (fun r e => by cases e; omega)
    gi_wp2
    refine ⟨by simp, .inl ⟨_, _, rfl, run_takeDeferred hK2, ?_⟩⟩
    refine ⟨.bool true, ?_, by rw [hp], hsn⟩
    have cB' := cB
    simp [results, Try.f81, go_sem, cB']
  case stop =>
    rintro D c qs X hD _ ⟨rfl, ⟨bR, hs⟩, hb⟩ hK
    have hB3 := bR.kept (grownBy_putObj' X D (.deferred none)) (fun e => by injection e; omega)
    have cB := hB3.cell
    have hsn := since_row hs (Nat.le_refl _) (grownBy_putObj' X D (.deferred none)) (fun r e => by cases e; omega)
    gi_wp2
    refine ⟨by simp, .inl ⟨_, _, rfl, run_takeDeferred hK, ?_⟩⟩
    refine ⟨.bool false, ?_, by rw [hb], hsn⟩
    have cB' := cB
    simp [results, Try.f81, go_sem, cB']

structure QC (w : World) (tv gv : Value) (c : Int) (W : World) : Prop where
  b0 : W.heap[w.heap.size]? = some (.cells #[tv, gv] 79)
  bn : Boxed W (w.heap.size + 1) 3 (.int .i64 c)
  sn : w.Since w.heap.size W
theorem QC.kept {w W W' : World} {tv gv : Value} {c : Int} {row : Option Nat} (h : QC w tv gv c W) (hg : W.grownBy W' row) (hr : ∀ r, row = some r → w.heap.size + 2 ≤ r) : QC w tv gv c W' :=
  ⟨(hg.block _ (Array.getElem?_eq_some_iff.1 h.b0).1 (fun e => by have := hr _ e.symm; omega)).trans h.b0, h.bn.kept hg (fun e => by have := hr _ e.symm; omega), since_row h.sn (Nat.le_refl _) hg (fun r e => by have := hr r e; omega)⟩

set_option maxRecDepth 100000 in
set_option maxHeartbeats 2000000 in
theorem countParts_any (a : Option Addr) (cap n : Nat) (g : Nat) (lb : Array Value) (ps : List (Nat × Nat)) (N : Nat) (hN : N ≤ 32768) (need : Nat → Prop) (w : World) (hneed : ∀ k, need k → k < w.heap.size)
    (hseq : ∀ V : World, OldT w.heap.size w V → w.heap.size ≤ V.heap.size → SeqE Fence.wide 29 Try.prog g lb encP (fun x _ => x ∈ ps) need (fun ys => ys = ps) (fun _ => True) N V)
    (eg : ∀ args w, (callFunc g args).run Try.prog w = .ok (.enter g args) w) :
    Calls Try.prog 84 #[posV a n cap g lb] w fun e w' => e = .returned (.int .i64 (ps.length : Nat)) ∧ w.Since w.heap.size w' := by
  have HSEQ := Lib.hid hseq
  have EG := Lib.hid eg
  clear hseq eg
  unfold posV
  refine (callsIn_wide (n := 30)).1 ?_
  refine callsIn_of_wp_marks Try.func84 rfl trivial ?_ rfl
  simp only [Try.ntmps84, List.size_toArray, List.length_cons, List.length_nil, Nat.reduceAdd, Nat.reduceSub, Array.replicate_succ, Array.replicate_zero, List.push_toArray, List.append_toArray, List.nil_append, List.cons_append]
  have hS0 : QC w (.slice a n cap) (.func (.func g) #[] lb) 0 ((w.alloc (.cells #[.slice a n cap, .func (.func g) #[] lb] 79)).alloc (.cells #[.int .i64 0] 3)) := by
    have b1 := Boxed.new (w.alloc (.cells #[.slice a n cap, .func (.func g) #[] lb] 79)) 3 (.int .i64 0)
    simp only [World.size_alloc] at b1
    exact ⟨(Below.heap_alloc _ _ _ (by simp)).trans (World.alloc_heap_new w _), b1, ((World.Since.refl _ w).alloc (Nat.le_refl _) _).alloc (by simp) _⟩
  gi_wp2
  obtain ⟨V, hV⟩ : ∃ V, ((w.alloc (.cells #[.slice a n cap, .func (.func g) #[] lb] 79)).alloc (.cells #[.int .i64 0] 3)) = V := ⟨_, rfl⟩
  have zV : V.heap.size = w.heap.size + 2 := by rw [← hV]; simp
  rw [hV] at hS0 ⊢
  clear hV
  refine rangeF (F := Fence.wide) (n := 30) rfl (by omega) (gf := g) (lb := lb) rfl trivial EG.out
    (HSEQ.out V (oldT_since hS0.sn) (by omega)) (fun _ => rfl) (fun k => k = w.heap.size + 1) (fun k hk => ⟨by omega, fun h => by have := hneed _ h; omega⟩) (fun k hk => by have := hneed _ hk; omega)
    (fun (qs : List (Nat × Nat)) X => (QC w (.slice a n cap) (.func (.func g) #[] lb) (qs.length : Nat) X ∧ V.heap.size ≤ X.heap.size))
    (fun _ _ _ => False)
    (fun qs X Y row hs hg hr => ⟨hs.1.kept hg (fun r e => by have := hr r e; omega), Nat.le_trans hs.2 hg.size⟩)
    (fun c qs X Y row hs hg hr => hs)
    ⟨hS0, Nat.le_refl _⟩
    (fun x a'' _ => a'' = { tmps := #[.agg #[.slice a n cap, .func (.func g) #[] lb], .pointer (some ⟨w.heap.size, 0, none⟩), .int .i64 0, .pointer (some ⟨w.heap.size + 1, 0, none⟩), .pointer (some ⟨w.heap.size, 1, none⟩), .func (.func g) #[] lb, .int .i64 (x.1 : Int), .int .i64 (x.2 : Int), undef, undef, undef], defers := [] })
    (fun _ _ _ _ _ _ hA _ _ => hA)
    ?assign ?body ?done ?stop
  case assign =>
    rintro lq qs x Y K _ hi _ hK
    simp only [encP]
    gi_wp2
    exact hK _ _ (Keeps.refl _ _) hi (by simp)
  case body =>
    rintro lq qs x a'' Y hlq hzY _ ⟨hS, hz⟩ hpx rfl hlen
    have cN := hS.bn.cell
    have fN := hS.bn.frozen
    have hwj : IntKind.i64.wrap (((qs.length : Nat) : Int) + 1) = ((qs.length : Nat) : Int) + 1 := IntWalk.i64_in _ ⟨by omega, by omega⟩
    have HSS := Lib.hid hS
    have HL := Lib.hid (show (((qs ++ [x]).length : Nat) : Int) = ((qs.length : Nat) : Int) + 1 by rw [List.length_append, List.length_singleton]; omega)
    clear hS
    gi_wp2
    refine ⟨Keeps.grown (grownBy_setCell' Y (w.heap.size + 1) _) (fun r e => by cases e; rfl), ?_, by simp; omega⟩
    rw [HL.out]
    exact ⟨(Below.heap_setCell _ _ _ _ (by show w.heap.size ≠ w.heap.size + 1; omega)).trans HSS.out.b0, HSS.out.bn.set _, HSS.out.sn.setCell (by simp) _⟩
  case done =>
    rintro D qs X hD rfl ⟨hS, hz⟩ hK
    have cN := hS.bn.cell
    have hsn := since_row hS.sn (Nat.le_refl _) (grownBy_putObj' X D (.deferred none)) (fun r e => by cases e; omega)
    gi_wp2
    refine ⟨by simp, .inl ⟨_, _, rfl, run_takeDeferred hK, ?_⟩⟩
    refine ⟨.int .i64 (qs.length : Nat), ?_, rfl, hsn⟩
    simp [results, Try.f84, go_sem]
  case stop =>
    rintro D c qs X hD _ hF hK
    exact hF.elim

end Go.Proofs.Ytcnbffflgodheaa
end

section
namespace Go.Proofs.Ytcnbffflgodheaa
open Go.RowKit Go.Deep Go.Shelf
attribute [local go_sem] Oper.semAt_some

def wstep (l : List (List Int)) (s : Int × Nat × Nat) (x : Nat × Nat) : Int × Nat × Nat := if s.2.1 = 0 ∨ mnP l x < s.1 then (mnP l x, x.1, x.2) else s
def worstS (l : List (List Int)) (qs : List (Nat × Nat)) : Int × Nat × Nat := qs.foldl (wstep l) (0, 0, 0)
theorem worstS_snoc (l : List (List Int)) (qs : List (Nat × Nat)) (x : Nat × Nat) : worstS l (qs ++ [x]) = wstep l (worstS l qs) x := by
  unfold worstS; rw [List.foldl_append]; rfl
structure QW (w : World) (tv gv : Value) (s : Int × Nat × Nat) (W : World) : Prop where
  b0 : W.heap[w.heap.size]? = some (.cells #[tv, gv] 79)
  b1 : Boxed W (w.heap.size + 1) 3 (.int .i64 s.1)
  b2 : Boxed W (w.heap.size + 2) 3 (.int .i64 (s.2.1 : Int))
  b3 : Boxed W (w.heap.size + 3) 3 (.int .i64 (s.2.2 : Int))
  sn : w.Since w.heap.size W
theorem QW.kept {w W W' : World} {tv gv : Value} {s : Int × Nat × Nat} {row : Option Nat} (h : QW w tv gv s W) (hg : W.grownBy W' row) (hr : ∀ r, row = some r → w.heap.size + 4 ≤ r) : QW w tv gv s W' :=
  ⟨(hg.block _ (Array.getElem?_eq_some_iff.1 h.b0).1 (fun e => by have := hr _ e.symm; omega)).trans h.b0, h.b1.kept hg (fun e => by have := hr _ e.symm; omega), h.b2.kept hg (fun e => by have := hr _ e.symm; omega), h.b3.kept hg (fun e => by have := hr _ e.symm; omega), since_row h.sn (Nat.le_refl _) hg (fun r e => by have := hr r e; omega)⟩
theorem QW.set {w W : World} {tv gv : Value} {s : Int × Nat × Nat} (h : QW w tv gv s W) (x : Int) (r c : Nat) :
    QW w tv gv (x, r, c) (((W.setCell ⟨w.heap.size + 1, 0, none⟩ (.int .i64 x)).setCell ⟨w.heap.size + 2, 0, none⟩ (.int .i64 (r : Int))).setCell ⟨w.heap.size + 3, 0, none⟩ (.int .i64 (c : Int))) :=
  ⟨(Below.heap_setCell _ _ _ _ (by show w.heap.size ≠ w.heap.size + 3; omega)).trans ((Below.heap_setCell _ _ _ _ (by show w.heap.size ≠ w.heap.size + 2; omega)).trans ((Below.heap_setCell _ _ _ _ (by show w.heap.size ≠ w.heap.size + 1; omega)).trans h.b0)),
    ((h.b1.set _).other (by omega) _).other (by omega) _, ((h.b2.other (by omega) _).set _).other (by omega) _, ((h.b3.other (by omega) _).other (by omega) _).set _,
    ((h.sn.setCell (by simp) _).setCell (by simp) _).setCell (by simp) _⟩
theorem keeps_set3 {own : Nat → Prop} (W : World) {b1 b2 b3 : Nat} (x y z : Value) (h1 : own b1) (h2 : own b2) (h3 : own b3) : Keeps own W (((W.setCell ⟨b1, 0, none⟩ x).setCell ⟨b2, 0, none⟩ y).setCell ⟨b3, 0, none⟩ z) :=
  ((Keeps.grown (grownBy_setCell' W b1 _) (fun r e => by cases e; exact h1)).trans (Keeps.grown (grownBy_setCell' _ b2 _) (fun r e => by cases e; exact h2))).trans (Keeps.grown (grownBy_setCell' _ b3 _) (fun r e => by cases e; exact h3))

set_option maxRecDepth 100000 in
set_option maxHeartbeats 2000000 in
theorem worst_any (a : Option Addr) (cap n m : Nat) (g : Nat) (lb : Array Value) (ps : List (Nat × Nat)) (N : Nat) (need : Nat → Prop) (l : List (List Int)) (w : World) (hn : l.length = n) (hmm : (l.getD 0 []).length = m) (hT : TabIn l) (hm : MatR w a l)
    (hps : ∀ x ∈ ps, popcS x.1 = popcS x.2 ∧ x.1 < 2 ^ n ∧ x.2 < 2 ^ m) (hneed : ∀ k, need k → k < w.heap.size)
    (hseq : ∀ V : World, OldT w.heap.size w V → w.heap.size ≤ V.heap.size → SeqE Fence.wide 29 Try.prog g lb encP (fun x _ => x ∈ ps) need (fun ys => ys = ps) (fun _ => True) N V)
    (eg : ∀ args w, (callFunc g args).run Try.prog w = .ok (.enter g args) w) :
    Calls Try.prog 91 #[posV a n cap g lb] w fun e w' => e = .returned (.tuple #[.int .i64 (worstS l ps).1, .int .i64 ((worstS l ps).2.1 : Nat), .int .i64 ((worstS l ps).2.2 : Nat)]) ∧ w.Since w.heap.size w' := by
  have EM := Lib.hid (fun (x : Nat × Nat) (hx : x ∈ ps) (V : World) (h : w.Since w.heap.size V) => minor_any a cap n m x.1 x.2 l V hn hmm hT (hps x hx).2.1 (hps x hx).2.2 (hps x hx).1 (hm.since h))
  have HSEQ := Lib.hid hseq
  have EG := Lib.hid eg
  obtain ⟨⟨t1, t2, t3⟩, hs⟩ : ∃ s, worstS l ps = s := ⟨_, rfl⟩
  rw [hs]
  have HFS := Lib.hid hs
  clear hn hmm hT hm hps hseq eg hs
  unfold posV
  refine (callsIn_wide (n := 30)).1 ?_
  refine callsIn_of_wp_marks Try.func91 rfl trivial ?_ rfl
  simp only [Try.ntmps91, List.size_toArray, List.length_cons, List.length_nil, Nat.reduceAdd, Nat.reduceSub, Array.replicate_succ, Array.replicate_zero, List.push_toArray, List.append_toArray, List.nil_append, List.cons_append]
  have hS0 : QW w (.slice a n cap) (.func (.func g) #[] lb) (0, 0, 0) ((((w.alloc (.cells #[.slice a n cap, .func (.func g) #[] lb] 79)).alloc (.cells #[.int .i64 0] 3)).alloc (.cells #[.int .i64 0] 3)).alloc (.cells #[.int .i64 0] 3)) := by
    have b1 := Boxed.new (w.alloc (.cells #[.slice a n cap, .func (.func g) #[] lb] 79)) 3 (.int .i64 0)
    have b2 := Boxed.new ((w.alloc (.cells #[.slice a n cap, .func (.func g) #[] lb] 79)).alloc (.cells #[.int .i64 0] 3)) 3 (.int .i64 0)
    have b3 := Boxed.new (((w.alloc (.cells #[.slice a n cap, .func (.func g) #[] lb] 79)).alloc (.cells #[.int .i64 0] 3)).alloc (.cells #[.int .i64 0] 3)) 3 (.int .i64 0)
    simp only [World.size_alloc] at b1 b2 b3
    exact ⟨(Below.heap_alloc _ _ _ (by simp; omega)).trans ((Below.heap_alloc _ _ _ (by simp; omega)).trans ((Below.heap_alloc _ _ _ (by simp)).trans (World.alloc_heap_new w _))), (b1.alloc _).alloc _, b2.alloc _, b3, ((((World.Since.refl _ w).alloc (Nat.le_refl _) _).alloc (by simp) _).alloc (by simp; omega) _).alloc (by simp; omega) _⟩
  gi_wp2
  obtain ⟨V, hV⟩ : ∃ V, ((((w.alloc (.cells #[.slice a n cap, .func (.func g) #[] lb] 79)).alloc (.cells #[.int .i64 0] 3)).alloc (.cells #[.int .i64 0] 3)).alloc (.cells #[.int .i64 0] 3)) = V := ⟨_, rfl⟩
  have zV : V.heap.size = w.heap.size + 4 := by rw [← hV]; simp
  rw [hV] at hS0 ⊢
  clear hV
  refine rangeF (F := Fence.wide) (n := 30) rfl (by omega) (gf := g) (lb := lb) rfl trivial EG.out
    (HSEQ.out V (oldT_since hS0.sn) (by omega)) (fun _ => rfl) (fun k => k = w.heap.size + 1 ∨ k = w.heap.size + 2 ∨ k = w.heap.size + 3) (fun k hk => ⟨by omega, fun h => by have := hneed _ h; omega⟩) (fun k hk => by have := hneed _ hk; omega)
    (fun (qs : List (Nat × Nat)) X => (QW w (.slice a n cap) (.func (.func g) #[] lb) (worstS l qs) X ∧ V.heap.size ≤ X.heap.size))
    (fun _ _ _ => False)
    (fun qs X Y row hs hg hr => ⟨hs.1.kept hg (fun r e => by have := hr r e; omega), Nat.le_trans hs.2 hg.size⟩)
    (fun c qs X Y row hs hg hr => hs)
    ⟨hS0, Nat.le_refl _⟩
    (fun x a'' _ => a'' = { tmps := #[.agg #[.slice a n cap, .func (.func g) #[] lb], .pointer (some ⟨w.heap.size, 0, none⟩), .pointer (some ⟨w.heap.size + 1, 0, none⟩), .pointer (some ⟨w.heap.size + 1 + 1, 0, none⟩), .pointer (some ⟨w.heap.size + 1 + 1 + 1, 0, none⟩), .int .i64 (x.1 : Int), .int .i64 (x.2 : Int), undef, .pointer (some ⟨w.heap.size, 1, none⟩), .func (.func g) #[] lb, .int .i64 (x.1 : Int), .int .i64 (x.2 : Int), undef, undef, undef, undef, undef, undef, undef, undef, undef, undef, undef, undef, undef, undef, undef, undef, undef, undef], defers := [] })
    (fun _ _ _ _ _ _ hA _ _ => hA)
    ?assign ?body ?done ?stop
  case assign =>
    rintro lq qs x Y K _ hi _ hK
    simp only [encP]
    gi_wp2
    exact hK _ _ (Keeps.refl _ _) hi rfl
  case body =>
    rintro lq qs x a'' Y hlq hzY _ ⟨hS, hz⟩ hpx rfl hlen
    have cT := (cells2 hS.b0).1
    have E := Lib.hid (EM.out x hpx Y hS.sn)
    have HSS := Lib.hid hS
    have HW := Lib.hid (worstS_snoc l qs x)
    clear hS hpx
    obtain ⟨x1, x2⟩ := x
    obtain ⟨⟨s1, s2, s3⟩, hs⟩ : ∃ s, worstS l qs = s := ⟨_, rfl⟩
    unfold wstep at HW
    simp only [hs] at E HW HSS ⊢
    obtain ⟨v, hv⟩ : ∃ v, mnP l (x1, x2) = v := ⟨_, rfl⟩
    rw [hv] at E
    simp only [hv] at HW
    clear hv hs
    have hmix : Try.prog.follows .mixedOrders = true := by kernel_rfl
    have HFIN := Lib.hid (show ∀ Z : World, Y.grownBy Z none → QW w (.slice a n cap) (.func (.func g) #[] lb) (s1, s2, s3) Z ∧ V.heap.size ≤ Z.heap.size from fun Z hg => ⟨HSS.out.kept hg (fun r e => by cases e), by have := hg.size; omega⟩)
    by_cases hc : s2 = 0 ∨ v < s1
    · rw [if_pos hc] at HW
      by_cases h0 : s2 = 0
      · have hb : ((s2 : Int) == 0) = true := by simp [h0]
        gi_wp2_with (refine ⟨trivial, ?_⟩; gi_at_call 68; refine (CallsIn.inRound lq (callsIn_wide.2 E.out)).mono ?_; rintro e Z ⟨rfl, hs2⟩; have HG := Lib.hid (grownSH hs2); have HZ := Lib.hid (HFIN.out Z HG.out); have c1 := HZ.out.1.b1.cell; have c2 := HZ.out.1.b2.cell; have c3 := HZ.out.1.b3.cell; have f1 := HZ.out.1.b1.frozen; have f2 := HZ.out.1.b2.frozen; have f3 := HZ.out.1.b3.frozen; clear hs2)
        exact ⟨(Keeps.grown HG.out (fun r e => by cases e)).trans (keeps_set3 Z _ _ _ (.inl rfl) (.inr (.inl rfl)) (.inr (.inr rfl))), by rw [HW.out]; exact HZ.out.1.set v x1 x2, by have := HZ.out.2; simpa using this⟩
      · have hb : ((s2 : Int) == 0) = false := by simp [h0]
        have hlt : v < s1 := by omega
        have hd : decide (v < s1) = true := by simpa using hlt
        gi_wp2_with (refine ⟨trivial, ?_⟩; gi_at_call 68; refine (CallsIn.inRound lq (callsIn_wide.2 E.out)).mono ?_; rintro e Z ⟨rfl, hs2⟩; have HG := Lib.hid (grownSH hs2); have HZ := Lib.hid (HFIN.out Z HG.out); have c1 := HZ.out.1.b1.cell; have c2 := HZ.out.1.b2.cell; have c3 := HZ.out.1.b3.cell; have f1 := HZ.out.1.b1.frozen; have f2 := HZ.out.1.b2.frozen; have f3 := HZ.out.1.b3.frozen; clear hs2)
        exact ⟨(Keeps.grown HG.out (fun r e => by cases e)).trans (keeps_set3 Z _ _ _ (.inl rfl) (.inr (.inl rfl)) (.inr (.inr rfl))), by rw [HW.out]; exact HZ.out.1.set v x1 x2, by have := HZ.out.2; simpa using this⟩
    · rw [if_neg hc] at HW
      have hb : ((s2 : Int) == 0) = false := by simp; omega
      have hlt : ¬ v < s1 := by omega
      have hd : decide (v < s1) = false := by simpa using hlt
      gi_wp2_with (refine ⟨trivial, ?_⟩; gi_at_call 68; refine (CallsIn.inRound lq (callsIn_wide.2 E.out)).mono ?_; rintro e Z ⟨rfl, hs2⟩; have HG := Lib.hid (grownSH hs2); have HZ := Lib.hid (HFIN.out Z HG.out); have c1 := HZ.out.1.b1.cell; have c2 := HZ.out.1.b2.cell; have c3 := HZ.out.1.b3.cell; have f1 := HZ.out.1.b1.frozen; have f2 := HZ.out.1.b2.frozen; have f3 := HZ.out.1.b3.frozen; clear hs2)
      exact ⟨Keeps.grown HG.out (fun r e => by cases e), by rw [HW.out]; exact HZ.out.1, HZ.out.2⟩
  case done =>
    rintro D qs X hD rfl ⟨hS, hz⟩ hK
    have hmix : Try.prog.follows .mixedOrders = true := by kernel_rfl
    rw [HFS.out] at hS
    have c1 : X.drew.cell? ⟨w.heap.size + 1, 0, none⟩ = _ := hS.b1.cell
    have c2 : X.drew.cell? ⟨w.heap.size + 2, 0, none⟩ = _ := hS.b2.cell
    have c3 : X.drew.cell? ⟨w.heap.size + 3, 0, none⟩ = _ := hS.b3.cell
    have f1 : X.drew.frozen? ⟨w.heap.size + 1, 0, none⟩ = _ := hS.b1.frozen
    have f2 : X.drew.frozen? ⟨w.heap.size + 2, 0, none⟩ = _ := hS.b2.frozen
    have f3 : X.drew.frozen? ⟨w.heap.size + 3, 0, none⟩ = _ := hS.b3.frozen
    have g2 := hS.b2.other (B' := w.heap.size + 1) (by omega) (.int .i64 t1)
    have g3 := (hS.b3.other (B' := w.heap.size + 1) (by omega) (.int .i64 t1)).other (B' := w.heap.size + 2) (by omega) (.int .i64 (t2 : Int))
    have d2 : (X.setCell ⟨w.heap.size + 1, 0, none⟩ (.int .i64 t1)).drew.cell? ⟨w.heap.size + 2, 0, none⟩ = _ := g2.cell
    have e2 : (X.setCell ⟨w.heap.size + 1, 0, none⟩ (.int .i64 t1)).drew.frozen? ⟨w.heap.size + 2, 0, none⟩ = _ := g2.frozen
    have d3 : ((X.setCell ⟨w.heap.size + 1, 0, none⟩ (.int .i64 t1)).setCell ⟨w.heap.size + 2, 0, none⟩ (.int .i64 (t2 : Int))).drew.cell? ⟨w.heap.size + 3, 0, none⟩ = _ := g3.cell
    have e3 : ((X.setCell ⟨w.heap.size + 1, 0, none⟩ (.int .i64 t1)).setCell ⟨w.heap.size + 2, 0, none⟩ (.int .i64 (t2 : Int))).drew.frozen? ⟨w.heap.size + 3, 0, none⟩ = _ := g3.frozen
    have d4 : (X.setCell ⟨w.heap.size + 1, 0, none⟩ (.int .i64 t1)).drew.cell? ⟨w.heap.size + 3, 0, none⟩ = _ := (hS.b3.other (B' := w.heap.size + 1) (by omega) (.int .i64 t1)).cell
    have HSS := Lib.hid hS
    clear hS g2 g3
    gi_wp2
    gi_region
    have hQ := HSS.out.set t1 t2 t3
    have hK2 : ((((X.setCell ⟨w.heap.size + 1, 0, none⟩ (.int .i64 t1)).setCell ⟨w.heap.size + 2, 0, none⟩ (.int .i64 (t2 : Int))).setCell ⟨w.heap.size + 3, 0, none⟩ (.int .i64 (t3 : Int))).drew).heap[D]? = some (.deferred (some [])) :=
      (Below.heap_setCell _ _ _ _ (by show D ≠ w.heap.size + 3; omega)).trans ((Below.heap_setCell _ _ _ _ (by show D ≠ w.heap.size + 2; omega)).trans ((Below.heap_setCell _ _ _ _ (by show D ≠ w.heap.size + 1; omega)).trans hK))
    have hQ2 : QW w (.slice a n cap) (.func (.func g) #[] lb) (t1, t2, t3) ((((X.setCell ⟨w.heap.size + 1, 0, none⟩ (.int .i64 t1)).setCell ⟨w.heap.size + 2, 0, none⟩ (.int .i64 (t2 : Int))).setCell ⟨w.heap.size + 3, 0, none⟩ (.int .i64 (t3 : Int))).drew) := hQ.kept (grown_drewP (World.grownBy.refl _ none)) (fun r e => by cases e)
    have hQ3 := hQ2.kept (grownBy_putObj' _ D (.deferred none)) (fun r e => by cases e; omega)
    have cB1 := hQ3.b1.cell
    have cB2 := hQ3.b2.cell
    have cB3 := hQ3.b3.cell
    gi_wp2
    refine ⟨by simp, .inl ⟨_, _, rfl, run_takeDeferred hK2, ?_⟩⟩
    refine ⟨.tuple #[.int .i64 t1, .int .i64 (t2 : Int), .int .i64 (t3 : Int)], ?_, rfl, hQ3.sn⟩
    simp [results, Try.f91, go_sem, cB1, cB2, cB3]
  case stop =>
    rintro D c qs X hD _ hF hK
    exact hF.elim

end Go.Proofs.Ytcnbffflgodheaa
end

section
namespace Go.Proofs.Ytcnbffflgodheaa
open Go.RowKit Go.Deep Go.Shelf
attribute [local go_sem] Oper.semAt_some

theorem rows_seqE (f : Nat) (hf : 2 ≤ f) (Bt Bs b o m cap s : Nat) (hm : m ≤ 7) (hs : s ≤ 63) (A : Nat → Option Addr) (L C : Nat → Nat) (w : World) (h1 : Bt < w.heap.size) (h2 : Bs < w.heap.size) (h3 : b < w.heap.size)
    (hBt : w.cell? ⟨Bt, 0, none⟩ = some (.slice (some ⟨b, o, none⟩) m cap)) (hBs : w.cell? ⟨Bs, 0, none⟩ = some (.int .i64 s))
    (hc : ∀ k, k < m → w.cell? ⟨b, o + k, none⟩ = some (.slice (A k) (L k) (C k))) :
    SeqE Fence.wide f Try.prog 129 #[.pointer (some ⟨Bt, 0, none⟩), .pointer (some ⟨Bs, 0, none⟩)] (fun x : {i : Nat // i < m} => #[.int .i64 (x.1 : Int), .slice (A x.1) (L x.1) (C x.1)]) (fun _ _ => True) (fun q => q = Bt ∨ q = Bs ∨ q = b) (fun ys => ys = sel s m m) (fun _ => True) m w := by
  intro l J Jx own W hW hown hJ hJx hY hj
  have cs := (hW.cell (p := ⟨Bs, 0, none⟩) h2).trans hBs
  have cr := fun k (hk : k < m) => (hW.cell (p := ⟨b, o + k, none⟩) h3).trans (hc k hk)
  refine CallsIn.mono (rows1_in f hf l Bt Bs b o m cap s hm hs A L C (fun X Y => Y.cell? ⟨Bs, 0, none⟩ = X.cell? ⟨Bs, 0, none⟩ ∧ ∀ k, k < m → Y.cell? ⟨b, o + k, none⟩ = X.cell? ⟨b, o + k, none⟩) (fun _ _ h => h)
    (fun pre W => J pre W ∧ W.cell? ⟨Bs, 0, none⟩ = some (.int .i64 s) ∧ ∀ k, k < m → W.cell? ⟨b, o + k, none⟩ = some (.slice (A k) (L k) (C k))) (fun pre W => Jx pre W) (fun pre x V hV hl => ?_) W
    ((hW.cell (p := ⟨Bt, 0, none⟩) h1).trans hBt) cs cr ⟨hj, cs, cr⟩) ?_
  · obtain ⟨hjv, c1, c2⟩ := hV
    obtain ⟨fn, tmps, assign, body, hy, hR⟩ := hY pre x V hjv trivial hl
    refine ⟨fn, tmps, assign, body, hy, hR.mono ?_⟩
    rintro e W' (⟨r1, r2, r3⟩ | ⟨r1, r2, _⟩)
    · have d1 := r3.cell (a := ⟨Bs, 0, none⟩) (fun h => (hown _ h).2 (.inr (.inl rfl))) c1
      have d2 := fun k (hk : k < m) => r3.cell (a := ⟨b, o + k, none⟩) (fun h => (hown _ h).2 (.inr (.inr rfl))) (c2 k hk)
      exact .inl ⟨r1, ⟨r2, d1, d2⟩, d1.trans c1.symm, fun k hk => (d2 k hk).trans (c2 k hk).symm⟩
    · exact .inr ⟨r1, r2⟩
  · rintro e W' ⟨r1, (⟨zs, rfl, hj2⟩ | ⟨pre, _, hj2⟩)⟩
    · exact ⟨r1, .inl ⟨_, rfl, hj2.1⟩⟩
    · exact ⟨r1, .inr ⟨_, trivial, hj2⟩⟩
theorem opIn_round {lp n : Nat} {P : Program} {Q : Exit → Act → World → Prop} {o : Oper} {a : Act} {w : World} {K : Act → World → Prop} (hd : ∀ c, o.op ≠ .defer c) (h : o.wpIn Fence.wide n P a w K Q) : o.wpIn (Fence.wide.inRound lp) n P a w K Q :=
  ⟨h.1, by
    have h2 := h.2
    rw [Oper.semAt_eq _ _ _ hd] at h2 ⊢
    exact h2⟩
theorem wpAnyIn_round {lp n : Nat} {P : Program} {md : Region.Mode} {ops : Array Oper} {Q : Exit → Act → World → Prop} (hd : ∀ (i : Nat) (o : Oper), ops[i]? = some o → ∀ c, o.op ≠ .defer c) :
    ∀ (fuel : Nat) (listed : Array Bool) (a : Act) (w : World), wpAnyIn Fence.wide n P md ops Q fuel listed a w → wpAnyIn (Fence.wide.inRound lp) n P md ops Q fuel listed a w
  | 0, _, _, _, h => h
  | fuel + 1, listed, a, w, h => ⟨h.1, fun i hi => by
      have h2 := h.2 i hi
      unfold wpOpIn at h2 ⊢
      split
      · rename_i e
        simp only [e] at h2
        exact wpAnyIn_round hd fuel _ _ _ h2
      · rename_i o e
        simp only [e] at h2
        split
        · rename_i hw
          simp only [hw, if_true] at h2
          exact Oper.wpIn_mono (fun a w h => wpAnyIn_round hd fuel _ a w h) (opIn_round (hd i o e) h2)
        · rename_i hw
          simp only [hw] at h2
          exact ⟨h2.1, wpAnyIn_round hd fuel _ _ _ h2.2⟩⟩
theorem sel_fullF (n : Nat) : ∀ k, k ≤ n → (sel (2 ^ n - 1) n k).map (·.1) = List.range k
  | 0, _ => rfl
  | k + 1, h => by
    rw [sel_yes _ n k (by omega) (by rw [Nat.testBit_two_pow_sub_one]; simp; omega), List.map_append, sel_fullF n k (by omega), List.range_succ]
    rfl

theorem runS_shl : ∀ k f : Fin 7, k.val + f.val ≤ 6 → wrap64 (((2 ^ k.val - 1 : Nat) : Int) * 2 ^ f.val) = ((runS f.val k.val : Nat) : Int) := by decide +kernel
theorem setBack_any (last n : Nat) (h1 : 1 ≤ n) (h2 : n ≤ last + 1) (h3 : last ≤ 5) (w : World) :
    Calls Try.prog 127 #[.int .i64 last, .int .i64 n] w fun e w' => e = .returned (.int .i64 (runS (last + 1 - n) n : Nat)) ∧ w = w' := by
  have E := Lib.hid (fullSet_any n (by omega) w)
  have hw1 : IntKind.i64.wrap ((last : Int) + 1) = (last : Int) + 1 := IntWalk.i64_in _ ⟨by omega, by omega⟩
  have hw2 : IntKind.i64.wrap ((last : Int) + 1 - (n : Int)) = ((last + 1 - n : Nat) : Int) := by rw [IntWalk.i64_in _ ⟨by omega, by omega⟩]; omega
  go_enter Try.func127, Try.ntmps127
  go_wp2_with fail
  refine (E.out).mono ?_
  rintro e w2 ⟨rfl, rfl⟩
  go_wp2_with fail
  go_ret
  have e := runS_shl ⟨n, by omega⟩ ⟨last + 1 - n, by omega⟩ (by simp only; omega)
  simp only at e
  exact ⟨by rw [← e]; rfl, rfl⟩

theorem first_len (m : Nat) : ∀ k, ((List.range k).flatMap (firstRow m)).length = k * m
  | 0 => by simp
  | k + 1 => by
    rw [List.range_succ, List.flatMap_append, List.length_append, first_len m k, Nat.succ_mul]
    simp [firstRow]
theorem first_len' (is : List Nat) (m : Nat) : (is.flatMap (firstRow m)).length = is.length * m := by
  induction is with
  | nil => simp
  | cons i is ih => rw [List.flatMap_cons, List.length_append, ih, List.length_cons, Nat.succ_mul]; simp [firstRow]; omega
theorem firstRow_snoc (m i k : Nat) (h : k < m) : (firstRow m i).take (k + 1) = (firstRow m i).take k ++ [(runS (i + 1 - (min i k + 1)) (min i k + 1), runS (k + 1 - (min i k + 1)) (min i k + 1))] := by
  unfold firstRow
  rw [List.take_add_one, List.getElem?_map, List.getElem?_range h]
  rfl

set_option maxRecDepth 100000 in
set_option maxHeartbeats 2000000 in
theorem first_seqE (f : Nat) (hf : 12 ≤ f) (Bt n m cap : Nat) (a : Option Addr) (l : List (List Int)) (w0 w : World) (hn : l.length = n) (hT : TabIn l) (hmm : (l.getD 0 []).length = m) (hm : MatR w0 a l) (hold : OldT w0.heap.size w0 w) (_hz0 : w0.heap.size ≤ w.heap.size) (hBt : w0.heap.size ≤ Bt) (ct : w.cell? ⟨Bt, 0, none⟩ = some (.slice a n cap)) :
    SeqE Fence.wide f Try.prog 126 #[.pointer (some ⟨Bt, 0, none⟩)] encP (fun x _ => x ∈ partsF n m) (fun q => q < w0.heap.size ∨ q = Bt) (fun ys => ys = partsF n m) (fun _ => True) 64 w := by
  intro lp J Jx own W hW hown hJ hJx hY hj
  have h6 := hT.2.1
  have h1 := hT.1
  have hw := hT.width
  rw [hn] at h6 h1
  rw [hmm] at hw
  have lt := World.block_lt_of_cell? _ _ ct
  simp only at lt
  have c1 := (hW.cell (p := ⟨Bt, 0, none⟩) lt).trans ct
  have hWz := hW.size
  have hOW : OldT w0.heap.size w0 W := fun q hq => (hW.block q (by omega)).trans (hold q hq)
  have hso : ∀ q, own q → w0.heap.size ≤ q ∧ q ≠ Bt ∧ q < W.heap.size := fun q hq => by
    obtain ⟨g1, g2⟩ := hown q hq
    exact ⟨by
      by_cases e : q < w0.heap.size
      · exact absurd (.inl e) g2
      · omega, fun e => g2 (.inr e), g1⟩
  obtain ⟨b, o, A, C, rfl, hc0⟩ := hm (by omega)
  have hc : ∀ k, k < n → w0.cell? ⟨b, o + k, none⟩ = some (.slice (A k) m (C k)) := fun k hk => by
    have := (hc0 k (by omega)).1
    rw [hT.row (by omega), hmm] at this
    exact this
  have hbl := World.block_lt_of_cell? _ _ (hc 0 (by omega))
  simp only at hbl
  have p63 : 2 ^ n ≤ 2 ^ 6 := Nat.pow_le_pow_right (by omega) h6
  have EA := Lib.hid (fun (V : World) => allRows_any (some ⟨b, o, none⟩) cap n V h6)
  have EB := Lib.hid (fun (x y : Nat) (h1 : 1 ≤ y) (h2 : y ≤ x + 1) (h3 : x ≤ 5) (V : World) => setBack_any x y h1 h2 h3 V)
  clear hold ct hm hmm hT hn hc0
  refine callsIn_of_wp_marks Try.func126 rfl trivial ?_ rfl
  simp only [Try.ntmps126, List.size_toArray, List.length_cons, List.length_nil, Nat.reduceAdd, Nat.reduceSub, Array.replicate_succ, Array.replicate_zero, List.push_toArray, List.append_toArray, List.nil_append, List.cons_append]
  have c2 : (W.alloc (.cells #[.func (.yield lp) #[] #[]] 62)).cell? ⟨Bt, 0, none⟩ = _ := cell_alloc_l _ c1
  have y0 : (W.alloc (.cells #[.func (.yield lp) #[] #[]] 62)).cell? ⟨W.heap.size, 0, none⟩ = _ := (cell_new_l W _ _).1
  have hso3 : ∀ q, own q → w0.heap.size ≤ q ∧ q ≠ Bt ∧ q ≠ W.heap.size := fun q hq => by have := hso q hq; omega
  have c2d : (W.alloc (.cells #[.func (.yield lp) #[] #[]] 62)).drew.cell? ⟨Bt, 0, none⟩ = _ := c2
  gi_wp2
  refine wpIn_wide.2 ?_
  go_region_held3 (fun W' : World => W'.cell? ⟨Bt, 0, none⟩ = some (.slice (some ⟨b, o, none⟩) n cap)) (first | exact c2d | exact cell_alloc_l _ (cell_alloc_l _ c2d))
    (first
      | (go_at_call 112; refine (EA.out _).mono ?_; rintro e w' ⟨rfl, rfl⟩)
      | (go_at_call 111; refine (rows_any _ _ _ _ _).mono ?_; rintro e w' ⟨rfl, rfl⟩))
  gi_wp2
  have c3 := cell_alloc_l (.cells #[.int .i64 ((2 ^ n - 1 : Nat) : Int)] 3) (cell_alloc_l (.cells #[.slice (some ⟨b, o, none⟩) n cap] 54) c2)
  have y3 := cell_alloc_l (.cells #[.int .i64 ((2 ^ n - 1 : Nat) : Int)] 3) (cell_alloc_l (.cells #[.slice (some ⟨b, o, none⟩) n cap] 54) y0)
  have hbt := cell_alloc_l (.cells #[.int .i64 ((2 ^ n - 1 : Nat) : Int)] 3) (cell_new_l (W.alloc (.cells #[.func (.yield lp) #[] #[]] 62)) (.slice (some ⟨b, o, none⟩) n cap) 54).1
  have hbs := (cell_new_l ((W.alloc (.cells #[.func (.yield lp) #[] #[]] 62)).alloc (.cells #[.slice (some ⟨b, o, none⟩) n cap] 54)) (.int .i64 ((2 ^ n - 1 : Nat) : Int)) 3).1
  have hg2 := ((World.grownBy_alloc W (.cells #[.func (.yield lp) #[] #[]] 62) none).trans (World.grownBy_alloc _ (.cells #[.slice (some ⟨b, o, none⟩) n cap] 54) none)).trans (World.grownBy_alloc _ (.cells #[.int .i64 ((2 ^ n - 1 : Nat) : Int)] 3) none)
  have hjV := hJ.alloc (.cells #[.int .i64 ((2 ^ n - 1 : Nat) : Int)] 3) (hJ.alloc (.cells #[.slice (some ⟨b, o, none⟩) n cap] 54) (hJ.alloc (.cells #[.func (.yield lp) #[] #[]] 62) hj))
  have zV : (((W.alloc (.cells #[.func (.yield lp) #[] #[]] 62)).alloc (.cells #[.slice (some ⟨b, o, none⟩) n cap] 54)).alloc (.cells #[.int .i64 ((2 ^ n - 1 : Nat) : Int)] 3)).heap.size = W.heap.size + 3 := by simp
  simp only [World.size_alloc] at hbt hbs
  obtain ⟨V0, hV0⟩ : ∃ V, ((W.alloc (.cells #[.func (.yield lp) #[] #[]] 62)).alloc (.cells #[.slice (some ⟨b, o, none⟩) n cap] 54)).alloc (.cells #[.int .i64 ((2 ^ n - 1 : Nat) : Int)] 3) = V := ⟨_, rfl⟩
  rw [hV0] at hbt hbs c3 y3 hg2 hjV zV ⊢
  clear hV0 c1 c2 c2d y0
  have hbt : V0.drew.cell? _ = _ := hbt
  have hbs : V0.drew.cell? _ = _ := hbs
  have c3 : V0.drew.cell? _ = _ := c3
  have y3 : V0.drew.cell? _ = _ := y3
  have hjV := hJ _ V0 V0.drew none hjV (grown_drewP (World.grownBy.refl _ none)) (fun r e => by cases e)
  have hg2 := grown_drewP hg2
  have zV : V0.drew.heap.size = _ := zV
  obtain ⟨V, hV⟩ : ∃ V, V0.drew = V := ⟨_, rfl⟩
  rw [hV] at hbt hbs c3 y3 hg2 hjV zV ⊢
  clear hV
  have hAV : AB w0.heap.size w0 Bt W.heap.size lp (some ⟨b, o, none⟩) n cap V := ⟨c3, y3, hOW.grown (by omega) hg2 (fun r e => by cases e)⟩
  have hBX : w0.heap.size ≤ V.heap.size ∧ Bt < V.heap.size ∧ W.heap.size < V.heap.size := by omega
  have hcV : ∀ k, k < n → V.cell? ⟨b, o + k, none⟩ = some (.slice (A k) m (C k)) := fun k hk => (hAV.old.cell (by exact hbl)).trans (hc k hk)
  refine rangeF (F := Fence.wide) (n := f) rfl (by omega) (gf := 129) (lb := #[.pointer (some ⟨W.heap.size + 1, 0, none⟩), .pointer (some ⟨W.heap.size + 1 + 1, 0, none⟩)]) rfl trivial (enters_of Try.func129 (by kernel_rfl) rfl)
    (rows_seqE (f - 1) (by omega) (W.heap.size + 1) (W.heap.size + 1 + 1) b o n cap (2 ^ n - 1) (by omega) (by omega) A (fun _ => m) C V (by omega) (by omega) (by omega) hbt hbs hcV) (fun _ => rfl) own (fun q hq => ⟨by have := hso q hq; omega, by have := hso q hq; omega⟩) (fun q hq => by omega)
    (fun (rs : List {i : Nat // i < n}) X => J ((rs.map (fun x : {i : Nat // i < n} => x.1)).flatMap (firstRow m)) X ∧ AB w0.heap.size w0 Bt W.heap.size lp (some ⟨b, o, none⟩) n cap X ∧ V.heap.size ≤ X.heap.size)
    (fun c _ X => c = .ret ∧ ∃ q, Jx q X)
    (fun rs X Y row hs hg hr => ⟨hJ _ X Y row hs.1 hg (fun r e => by have := hr r e; omega), hs.2.1.grown (by have := hs.2.2; omega) hBX hg hr, Nat.le_trans hs.2.2 hg.size⟩)
    (fun c rs X Y row hs hg hr => ⟨hs.1, by
      obtain ⟨q, hq⟩ := hs.2
      exact ⟨q, hJx _ X Y row hq hg (fun r e => by have := hr r e; omega)⟩⟩)
    ⟨hjV, hAV, Nat.le_refl _⟩
    (fun x a' _ => a' = { tmps := #[.func (.yield lp) #[] #[], .pointer (some ⟨Bt, 0, none⟩), .pointer (some ⟨W.heap.size, 0, none⟩), .int .i64 (x.1 : Int), .slice (A x.1) m (C x.1), undef, undef, .slice (some ⟨b, o, none⟩) n cap, .slice (some ⟨b, o, none⟩) n cap, .int .i64 ((2 ^ n - 1 : Nat) : Int), .func (.func 129) #[] #[.pointer (some ⟨W.heap.size + 1, 0, none⟩), .pointer (some ⟨W.heap.size + 1 + 1, 0, none⟩)], .int .i64 (x.1 : Int), .slice (A x.1) m (C x.1), undef, undef, undef, undef, undef, undef, undef, undef, undef, undef, undef, undef, undef, undef, undef, undef, undef, undef, undef], defers := [] })
    (fun _ _ _ _ _ _ hA _ _ => hA)
    ?assign ?body ?done ?stop
  case assign =>
    rintro lq rs x X K hzX hi _ hK
    gi_wp2
    exact hK _ _ (Keeps.refl _ _) hi rfl
  case body =>
    rintro lq rs x a' X hlq hzX _ ⟨hjx, hAX, _⟩ _ rfl hlen
    obtain ⟨i, hi⟩ := x
    have hmix : Try.prog.follows .mixedOrders = true := by kernel_rfl
    have HJX := Lib.hid hjx
    have HAX := Lib.hid hAX
    have hrl := first_len' (rs.map (fun x : {i : Nat // i < n} => x.1)) m
    rw [List.length_map] at hrl
    have hrl2 : rs.length * m ≤ 5 * 6 := Nat.mul_le_mul (by omega) hw.2
    simp only
    clear hjx hAX
    gi_wp2
    gi_loopw [15] (fun kv wr => ∃ k : Nat, k ≤ m ∧ kv = .int .i64 k ∧ J ((rs.map (fun x : {i : Nat // i < n} => x.1)).flatMap (firstRow m) ++ (firstRow m i).take k) wr ∧ AB w0.heap.size w0 Bt W.heap.size lp (some ⟨b, o, none⟩) n cap wr ∧ Keeps own X wr ∧ V.heap.size ≤ wr.heap.size) (fun kv _ => m - (intOf kv).toNat)
    case atStart => exact ⟨0, Nat.zero_le _, rfl, by rw [List.take_zero, List.append_nil]; exact HJX.out, HAX.out, Keeps.refl _ _, hzX⟩
    case round =>
      obtain ⟨k, hk, rfl, hjr, hAr, hkr, hzr⟩ := hrel
      by_cases hlt : k < m
      · obtain ⟨e, he⟩ : ∃ e, min i k + 1 = e := ⟨_, rfl⟩
        have hfs := firstRow_snoc m i k hlt
        have hmem : (runS (i + 1 - (min i k + 1)) (min i k + 1), runS (k + 1 - (min i k + 1)) (min i k + 1)) ∈ partsF n m := partsF_mem.2 ⟨i, k, hi, hlt, rfl⟩
        simp only [he] at hfs hmem
        have ES1 := EB.out i e (by omega) (by omega) (by omega)
        have ES2 := EB.out k e (by omega) (by omega) (by omega)
        obtain ⟨s1, hs1⟩ : ∃ s, runS (i + 1 - e) e = s := ⟨_, rfl⟩
        obtain ⟨s2, hs2⟩ : ∃ s, runS (k + 1 - e) e = s := ⟨_, rfl⟩
        simp only [hs1, hs2] at hfs hmem ES1 ES2
        have hl4 : ((rs.map (fun x : {i : Nat // i < n} => x.1)).flatMap (firstRow m) ++ (firstRow m i).take k).length < 64 := by
          rw [List.length_append, List.length_take]; omega
        obtain ⟨fn, tmps, assign, body, hy, hR⟩ := yieldAt_any (m' := f - 1 - 1 - 1) (hY _ (s1, s2) wr.drew (hJ _ wr wr.drew none hjr (grown_drewP (World.grownBy.refl _ none)) (fun r e => by cases e)) hmem hl4)
        dsimp only [encP] at hy
        have cY : wr.drew.cell? ⟨W.heap.size, 0, none⟩ = _ := hAr.yb
        have HKEEP := Lib.hid (show ∀ Z, Keeps own wr.drew Z → AB w0.heap.size w0 Bt W.heap.size lp (some ⟨b, o, none⟩) n cap Z ∧ Keeps own X Z ∧ V.heap.size ≤ Z.heap.size from fun Z hk => by
          have hk2 : Keeps own wr Z := (Keeps.grown (grown_drewP (World.grownBy.refl _ none)) (fun r e => by cases e)).trans hk
          exact ⟨hAr.keeps (by omega) hk2 hso3, hkr.trans hk2, by have := hk2.size; omega⟩)
        replace ES1 := Lib.hid (fun (V : World) => ES1 V)
        replace ES2 := Lib.hid (fun (V : World) => ES2 V)
        have HFS := Lib.hid hfs
        have hwe : IntKind.i64.wrap (((min i k : Nat) : Int) + 1) = (e : Int) := by rw [IntWalk.i64_in _ ⟨by omega, by omega⟩]; omega
        have hwk : IntKind.i64.wrap ((k : Int) + 1) = ((k + 1 : Nat) : Int) := by rw [IntWalk.i64_in _ ⟨by omega, by omega⟩]; omega
        clear hjr hAr hkr hfs hmem hs1 hs2 hl4 hc hcV hAV hbt hbs c3 y3 hg2 hjV
        have hii : (0:Int) ≤ (i:Int) := by omega
        by_cases hik : k < i
        · rw [show ((min i k : Nat) : Int) = (k : Int) by omega] at hwe
          gi_wp2
          refine wpIn_region_any hmix (wpAnyIn_round (noDefer_of (by kernel_rfl)) _ _ _ _ ?_)
          change wpAnyIn _ _ _ _ _ _ _ _ _ (World.drew _)
          refine wpAnyIn_take (i := 1) (v := .int .i64 i) rfl rfl (by kernel_rfl) (by kernel_rfl) (by kernel_rfl) (fun _ _ _ h => h) ⟨Or.inl ⟨by rfl, fun w => by go_simp⟩, fun _ => rfl⟩ ?_
          simp only [Act.put]
          refine wpAnyIn_take (i := 2) (v := .int .i64 e) rfl rfl (by kernel_rfl) (by kernel_rfl) (by kernel_rfl) (fun _ _ _ h => h) ⟨Or.inl ⟨by rfl, fun w => by go_simp⟩, fun _ => rfl⟩ ?_
          simp only [Act.put]
          refine wpAnyIn_take (i := 4) (v := .int .i64 k) rfl rfl (by kernel_rfl) (by kernel_rfl) (by kernel_rfl) (fun _ _ _ h => h) ⟨Or.inl ⟨by rfl, fun w => by go_simp⟩, fun _ => rfl⟩ ?_
          simp only [Act.put]
          refine wpAnyIn_take (i := 5) (v := .int .i64 e) rfl rfl (by kernel_rfl) (by kernel_rfl) (by kernel_rfl) (fun _ _ _ h => h) ⟨Or.inl ⟨by rfl, fun w => by go_simp⟩, fun _ => rfl⟩ ?_
          simp only [Act.put]
          refine wpAnyIn_ready (rs := [0, 3]) (by kernel_rfl) (by simp) (AllReadyIn.cons rfl (fun K hK => ?pA) (AllReadyIn.cons rfl (fun K hK => ?pB) AllReadyIn.nil))
          case pA =>
            go_simp
            refine hK _ _ ?_
            clear hK K
            refine wpAnyIn_ready (rs := [3]) (by kernel_rfl) (by simp) (AllReadyIn.cons rfl (fun K hK => ?_) AllReadyIn.nil)
            go_simp
            refine ⟨trivial, fun _ => by omega, ?_⟩
            gi_at_call 127
            refine (callsIn_wide.2 (ES1.out _)).mono ?_
            rintro e w' ⟨rfl, rfl⟩
            refine hK _ _ ?_
            clear hK K
            refine wpAnyIn_ready (rs := [6]) (by kernel_rfl) (by simp) (AllReadyIn.cons rfl (fun K hK => ?_) AllReadyIn.nil)
            go_simp
            refine ⟨trivial, fun _ => by omega, ?_⟩
            gi_at_call 127
            refine (callsIn_wide.2 (ES2.out _)).mono ?_
            rintro e w' ⟨rfl, rfl⟩
            refine hK _ _ ?_
            clear hK K
            refine wpAnyIn_ready (rs := [7]) (by kernel_rfl) (by simp) (AllReadyIn.cons rfl (fun K hK => ?_) AllReadyIn.nil)
            go_simp
            refine ⟨fun _ => by omega, hR.mono ?_⟩
            rintro e W3 (⟨rfl, hJ3, hk3⟩ | ⟨rfl, hx3, hk3⟩)
            · obtain ⟨q1, q2, q3⟩ := HKEEP.out _ hk3
              refine hK _ _ ?_
              clear hK K
              refine wpAnyIn_ready (rs := [8]) (by kernel_rfl) (by simp) (AllReadyIn.cons rfl (fun K hK => ?_) AllReadyIn.nil)
              go_simp
              refine hK _ _ ?_
              clear hK K
              refine wpAnyIn_done (by kernel_rfl) ?_ _
              gi_wp2
              go_roundw
              case rel => exact ⟨k + 1, by omega, by (first | rfl | (simp only [Value.int.injEq, true_and]; omega)), by rw [HFS.out, ← List.append_assoc]; exact hJ3, q1, q2, q3⟩
              case measure => simp [intOf]; omega
            · obtain ⟨q1, q2, q3⟩ := HKEEP.out _ hk3
              refine hK _ _ ?_
              clear hK K
              refine wpAnyIn_ready (rs := [8]) (by kernel_rfl) (by simp) (AllReadyIn.cons rfl (fun K hK => ?_) AllReadyIn.nil)
              go_simp
              refine hK _ _ ?_
              clear hK K
              refine wpAnyIn_done (by kernel_rfl) ?_ _
              gi_wp2
              exact ⟨q2, rfl, _, hx3⟩
          case pB =>
            go_simp
            refine ⟨trivial, fun _ => by omega, ?_⟩
            gi_at_call 127
            refine (callsIn_wide.2 (ES1.out _)).mono ?_
            rintro e w' ⟨rfl, rfl⟩
            refine hK _ _ ?_
            clear hK K
            refine wpAnyIn_ready (rs := [0, 6]) (by kernel_rfl) (by simp) (AllReadyIn.cons rfl (fun K hK => ?pC) (AllReadyIn.cons rfl (fun K hK => ?pD) AllReadyIn.nil))
            case pC =>
              go_simp
              refine hK _ _ ?_
              clear hK K
              refine wpAnyIn_ready (rs := [6]) (by kernel_rfl) (by simp) (AllReadyIn.cons rfl (fun K hK => ?_) AllReadyIn.nil)
              go_simp
              refine ⟨trivial, fun _ => by omega, ?_⟩
              gi_at_call 127
              refine (callsIn_wide.2 (ES2.out _)).mono ?_
              rintro e w' ⟨rfl, rfl⟩
              refine hK _ _ ?_
              clear hK K
              refine wpAnyIn_ready (rs := [7]) (by kernel_rfl) (by simp) (AllReadyIn.cons rfl (fun K hK => ?_) AllReadyIn.nil)
              go_simp
              refine ⟨fun _ => by omega, hR.mono ?_⟩
              rintro e W3 (⟨rfl, hJ3, hk3⟩ | ⟨rfl, hx3, hk3⟩)
              · obtain ⟨q1, q2, q3⟩ := HKEEP.out _ hk3
                refine hK _ _ ?_
                clear hK K
                refine wpAnyIn_ready (rs := [8]) (by kernel_rfl) (by simp) (AllReadyIn.cons rfl (fun K hK => ?_) AllReadyIn.nil)
                go_simp
                refine hK _ _ ?_
                clear hK K
                refine wpAnyIn_done (by kernel_rfl) ?_ _
                gi_wp2
                go_roundw
                case rel => exact ⟨k + 1, by omega, by (first | rfl | (simp only [Value.int.injEq, true_and]; omega)), by rw [HFS.out, ← List.append_assoc]; exact hJ3, q1, q2, q3⟩
                case measure => simp [intOf]; omega
              · obtain ⟨q1, q2, q3⟩ := HKEEP.out _ hk3
                refine hK _ _ ?_
                clear hK K
                refine wpAnyIn_ready (rs := [8]) (by kernel_rfl) (by simp) (AllReadyIn.cons rfl (fun K hK => ?_) AllReadyIn.nil)
                go_simp
                refine hK _ _ ?_
                clear hK K
                refine wpAnyIn_done (by kernel_rfl) ?_ _
                gi_wp2
                exact ⟨q2, rfl, _, hx3⟩
            case pD =>
              go_simp
              refine ⟨trivial, fun _ => by omega, ?_⟩
              gi_at_call 127
              refine (callsIn_wide.2 (ES2.out _)).mono ?_
              rintro e w' ⟨rfl, rfl⟩
              refine hK _ _ ?_
              clear hK K
              refine wpAnyIn_ready (rs := [0]) (by kernel_rfl) (by simp) (AllReadyIn.cons rfl (fun K hK => ?_) AllReadyIn.nil)
              go_simp
              refine hK _ _ ?_
              clear hK K
              refine wpAnyIn_ready (rs := [7]) (by kernel_rfl) (by simp) (AllReadyIn.cons rfl (fun K hK => ?_) AllReadyIn.nil)
              go_simp
              refine ⟨fun _ => by omega, hR.mono ?_⟩
              rintro e W3 (⟨rfl, hJ3, hk3⟩ | ⟨rfl, hx3, hk3⟩)
              · obtain ⟨q1, q2, q3⟩ := HKEEP.out _ hk3
                refine hK _ _ ?_
                clear hK K
                refine wpAnyIn_ready (rs := [8]) (by kernel_rfl) (by simp) (AllReadyIn.cons rfl (fun K hK => ?_) AllReadyIn.nil)
                go_simp
                refine hK _ _ ?_
                clear hK K
                refine wpAnyIn_done (by kernel_rfl) ?_ _
                gi_wp2
                go_roundw
                case rel => exact ⟨k + 1, by omega, by (first | rfl | (simp only [Value.int.injEq, true_and]; omega)), by rw [HFS.out, ← List.append_assoc]; exact hJ3, q1, q2, q3⟩
                case measure => simp [intOf]; omega
              · obtain ⟨q1, q2, q3⟩ := HKEEP.out _ hk3
                refine hK _ _ ?_
                clear hK K
                refine wpAnyIn_ready (rs := [8]) (by kernel_rfl) (by simp) (AllReadyIn.cons rfl (fun K hK => ?_) AllReadyIn.nil)
                go_simp
                refine hK _ _ ?_
                clear hK K
                refine wpAnyIn_done (by kernel_rfl) ?_ _
                gi_wp2
                exact ⟨q2, rfl, _, hx3⟩
        · rw [show ((min i k : Nat) : Int) = (i : Int) by omega] at hwe
          gi_wp2
          refine wpIn_region_any hmix (wpAnyIn_round (noDefer_of (by kernel_rfl)) _ _ _ _ ?_)
          change wpAnyIn _ _ _ _ _ _ _ _ _ (World.drew _)
          refine wpAnyIn_take (i := 1) (v := .int .i64 i) rfl rfl (by kernel_rfl) (by kernel_rfl) (by kernel_rfl) (fun _ _ _ h => h) ⟨Or.inl ⟨by rfl, fun w => by go_simp⟩, fun _ => rfl⟩ ?_
          simp only [Act.put]
          refine wpAnyIn_take (i := 2) (v := .int .i64 e) rfl rfl (by kernel_rfl) (by kernel_rfl) (by kernel_rfl) (fun _ _ _ h => h) ⟨Or.inl ⟨by rfl, fun w => by go_simp⟩, fun _ => rfl⟩ ?_
          simp only [Act.put]
          refine wpAnyIn_take (i := 4) (v := .int .i64 k) rfl rfl (by kernel_rfl) (by kernel_rfl) (by kernel_rfl) (fun _ _ _ h => h) ⟨Or.inl ⟨by rfl, fun w => by go_simp⟩, fun _ => rfl⟩ ?_
          simp only [Act.put]
          refine wpAnyIn_take (i := 5) (v := .int .i64 e) rfl rfl (by kernel_rfl) (by kernel_rfl) (by kernel_rfl) (fun _ _ _ h => h) ⟨Or.inl ⟨by rfl, fun w => by go_simp⟩, fun _ => rfl⟩ ?_
          simp only [Act.put]
          refine wpAnyIn_ready (rs := [0, 3]) (by kernel_rfl) (by simp) (AllReadyIn.cons rfl (fun K hK => ?pA) (AllReadyIn.cons rfl (fun K hK => ?pB) AllReadyIn.nil))
          case pA =>
            go_simp
            refine hK _ _ ?_
            clear hK K
            refine wpAnyIn_ready (rs := [3]) (by kernel_rfl) (by simp) (AllReadyIn.cons rfl (fun K hK => ?_) AllReadyIn.nil)
            go_simp
            refine ⟨trivial, fun _ => by omega, ?_⟩
            gi_at_call 127
            refine (callsIn_wide.2 (ES1.out _)).mono ?_
            rintro e w' ⟨rfl, rfl⟩
            refine hK _ _ ?_
            clear hK K
            refine wpAnyIn_ready (rs := [6]) (by kernel_rfl) (by simp) (AllReadyIn.cons rfl (fun K hK => ?_) AllReadyIn.nil)
            go_simp
            refine ⟨trivial, fun _ => by omega, ?_⟩
            gi_at_call 127
            refine (callsIn_wide.2 (ES2.out _)).mono ?_
            rintro e w' ⟨rfl, rfl⟩
            refine hK _ _ ?_
            clear hK K
            refine wpAnyIn_ready (rs := [7]) (by kernel_rfl) (by simp) (AllReadyIn.cons rfl (fun K hK => ?_) AllReadyIn.nil)
            go_simp
            refine ⟨fun _ => by omega, hR.mono ?_⟩
            rintro e W3 (⟨rfl, hJ3, hk3⟩ | ⟨rfl, hx3, hk3⟩)
            · obtain ⟨q1, q2, q3⟩ := HKEEP.out _ hk3
              refine hK _ _ ?_
              clear hK K
              refine wpAnyIn_ready (rs := [8]) (by kernel_rfl) (by simp) (AllReadyIn.cons rfl (fun K hK => ?_) AllReadyIn.nil)
              go_simp
              refine hK _ _ ?_
              clear hK K
              refine wpAnyIn_done (by kernel_rfl) ?_ _
              gi_wp2
              go_roundw
              case rel => exact ⟨k + 1, by omega, by (first | rfl | (simp only [Value.int.injEq, true_and]; omega)), by rw [HFS.out, ← List.append_assoc]; exact hJ3, q1, q2, q3⟩
              case measure => simp [intOf]; omega
            · obtain ⟨q1, q2, q3⟩ := HKEEP.out _ hk3
              refine hK _ _ ?_
              clear hK K
              refine wpAnyIn_ready (rs := [8]) (by kernel_rfl) (by simp) (AllReadyIn.cons rfl (fun K hK => ?_) AllReadyIn.nil)
              go_simp
              refine hK _ _ ?_
              clear hK K
              refine wpAnyIn_done (by kernel_rfl) ?_ _
              gi_wp2
              exact ⟨q2, rfl, _, hx3⟩
          case pB =>
            go_simp
            refine ⟨trivial, fun _ => by omega, ?_⟩
            gi_at_call 127
            refine (callsIn_wide.2 (ES1.out _)).mono ?_
            rintro e w' ⟨rfl, rfl⟩
            refine hK _ _ ?_
            clear hK K
            refine wpAnyIn_ready (rs := [0, 6]) (by kernel_rfl) (by simp) (AllReadyIn.cons rfl (fun K hK => ?pC) (AllReadyIn.cons rfl (fun K hK => ?pD) AllReadyIn.nil))
            case pC =>
              go_simp
              refine hK _ _ ?_
              clear hK K
              refine wpAnyIn_ready (rs := [6]) (by kernel_rfl) (by simp) (AllReadyIn.cons rfl (fun K hK => ?_) AllReadyIn.nil)
              go_simp
              refine ⟨trivial, fun _ => by omega, ?_⟩
              gi_at_call 127
              refine (callsIn_wide.2 (ES2.out _)).mono ?_
              rintro e w' ⟨rfl, rfl⟩
              refine hK _ _ ?_
              clear hK K
              refine wpAnyIn_ready (rs := [7]) (by kernel_rfl) (by simp) (AllReadyIn.cons rfl (fun K hK => ?_) AllReadyIn.nil)
              go_simp
              refine ⟨fun _ => by omega, hR.mono ?_⟩
              rintro e W3 (⟨rfl, hJ3, hk3⟩ | ⟨rfl, hx3, hk3⟩)
              · obtain ⟨q1, q2, q3⟩ := HKEEP.out _ hk3
                refine hK _ _ ?_
                clear hK K
                refine wpAnyIn_ready (rs := [8]) (by kernel_rfl) (by simp) (AllReadyIn.cons rfl (fun K hK => ?_) AllReadyIn.nil)
                go_simp
                refine hK _ _ ?_
                clear hK K
                refine wpAnyIn_done (by kernel_rfl) ?_ _
                gi_wp2
                go_roundw
                case rel => exact ⟨k + 1, by omega, by (first | rfl | (simp only [Value.int.injEq, true_and]; omega)), by rw [HFS.out, ← List.append_assoc]; exact hJ3, q1, q2, q3⟩
                case measure => simp [intOf]; omega
              · obtain ⟨q1, q2, q3⟩ := HKEEP.out _ hk3
                refine hK _ _ ?_
                clear hK K
                refine wpAnyIn_ready (rs := [8]) (by kernel_rfl) (by simp) (AllReadyIn.cons rfl (fun K hK => ?_) AllReadyIn.nil)
                go_simp
                refine hK _ _ ?_
                clear hK K
                refine wpAnyIn_done (by kernel_rfl) ?_ _
                gi_wp2
                exact ⟨q2, rfl, _, hx3⟩
            case pD =>
              go_simp
              refine ⟨trivial, fun _ => by omega, ?_⟩
              gi_at_call 127
              refine (callsIn_wide.2 (ES2.out _)).mono ?_
              rintro e w' ⟨rfl, rfl⟩
              refine hK _ _ ?_
              clear hK K
              refine wpAnyIn_ready (rs := [0]) (by kernel_rfl) (by simp) (AllReadyIn.cons rfl (fun K hK => ?_) AllReadyIn.nil)
              go_simp
              refine hK _ _ ?_
              clear hK K
              refine wpAnyIn_ready (rs := [7]) (by kernel_rfl) (by simp) (AllReadyIn.cons rfl (fun K hK => ?_) AllReadyIn.nil)
              go_simp
              refine ⟨fun _ => by omega, hR.mono ?_⟩
              rintro e W3 (⟨rfl, hJ3, hk3⟩ | ⟨rfl, hx3, hk3⟩)
              · obtain ⟨q1, q2, q3⟩ := HKEEP.out _ hk3
                refine hK _ _ ?_
                clear hK K
                refine wpAnyIn_ready (rs := [8]) (by kernel_rfl) (by simp) (AllReadyIn.cons rfl (fun K hK => ?_) AllReadyIn.nil)
                go_simp
                refine hK _ _ ?_
                clear hK K
                refine wpAnyIn_done (by kernel_rfl) ?_ _
                gi_wp2
                go_roundw
                case rel => exact ⟨k + 1, by omega, by (first | rfl | (simp only [Value.int.injEq, true_and]; omega)), by rw [HFS.out, ← List.append_assoc]; exact hJ3, q1, q2, q3⟩
                case measure => simp [intOf]; omega
              · obtain ⟨q1, q2, q3⟩ := HKEEP.out _ hk3
                refine hK _ _ ?_
                clear hK K
                refine wpAnyIn_ready (rs := [8]) (by kernel_rfl) (by simp) (AllReadyIn.cons rfl (fun K hK => ?_) AllReadyIn.nil)
                go_simp
                refine hK _ _ ?_
                clear hK K
                refine wpAnyIn_done (by kernel_rfl) ?_ _
                gi_wp2
                exact ⟨q2, rfl, _, hx3⟩
      · obtain rfl : k = m := by omega
        gi_wp2
        refine ⟨hkr, ?_, hAr, hzr⟩
        rw [List.map_append, List.flatMap_append]
        have e : (firstRow k i).take k = firstRow k i := List.take_of_length_le (by simp [firstRow])
        rw [e] at hjr
        simpa using hjr
  case done =>
    rintro D rs X hD rfl ⟨hjx, _, _⟩ hK
    have hjz := hJ.put (.deferred none) hjx (show W.heap.size ≤ D by omega)
    gi_wp2
    show LeavesInM _ _ _ _ _ _ _ _ _
    refine ⟨by simp, .inl ⟨_, _, rfl, run_takeDeferred hK, ?_⟩⟩
    refine ⟨.tuple #[], ?_, ⟨_, rfl⟩, .inl ⟨_, rfl, by rw [sel_fullF n n (Nat.le_refl n)] at hjz; exact hjz⟩⟩
    simp [results, Try.f126, go_sem]
  case stop =>
    rintro D c rs X hD _ ⟨rfl, q, hq⟩ hK
    have hjz := hJx.put (.deferred none) hq (show W.heap.size ≤ D by omega)
    gi_wp2
    show LeavesInM _ _ _ _ _ _ _ _ _
    refine ⟨by simp, .inl ⟨_, _, rfl, run_takeDeferred hK, ?_⟩⟩
    refine ⟨.tuple #[], ?_, ⟨_, rfl⟩, .inr ⟨q, trivial, hjz⟩⟩
    simp [results, Try.f126, go_sem]

end Go.Proofs.Ytcnbffflgodheaa
end

section
namespace Go.Proofs.Ytcnbffflgodheaa
open Go.RowKit Go.Deep Go.Shelf
attribute [local go_sem] Oper.semAt_some

theorem allParts_any (a : Option Addr) (n cap : Nat) (w : World) :
    Calls Try.prog 107 #[.slice a n cap] w fun e w' => e = .returned (.func (.func 124) #[] #[.pointer (some ⟨w.heap.size, 0, none⟩)]) ∧ w' = w.alloc (.cells #[.slice a n cap] 54) := by
  go_enter Try.func107, Try.ntmps107
  go_wp2
  go_ret
  exact ⟨rfl, rfl⟩

theorem withAll_any (a : Option Addr) (n cap : Nat) (w : World) :
    Calls Try.prog 80 #[.slice a n cap] w fun e w' => e = .returned (posV a n cap 124 #[.pointer (some ⟨w.heap.size + 1, 0, none⟩)]) ∧ w.Since w.heap.size w' ∧ w'.cell? ⟨w.heap.size + 1, 0, none⟩ = some (.slice a n cap) := by
  have EA := Lib.hid (fun (W : World) => allParts_any a n cap W)
  go_enter Try.func80, Try.ntmps80
  go_wp2_with fail
  refine (EA.out _).mono ?_
  rintro e w2 ⟨rfl, rfl⟩
  have hB : ((w.alloc (.cells #[.slice none 0 0, Value.nilFunc] 79)).alloc (.cells #[.slice a n cap] 54)).heap[w.heap.size]? = some (.cells #[.slice none 0 0, Value.nilFunc] 79) := (Below.heap_alloc _ _ _ (by simp)).trans (World.alloc_heap_new w _)
  have hc := (cells2 hB)
  obtain ⟨hc0, hc1⟩ := hc
  go_wp2_with fail
  refine bodyPost_ret (v := posV a n cap 124 #[.pointer (some ⟨w.heap.size + 1, 0, none⟩)]) ?_ rfl ?_
  · have hB2 : ((w.alloc (.cells #[.slice a n cap, .func (.func 124) #[] #[.pointer (some ⟨w.heap.size + 1, 0, none⟩)]] 79)).alloc (.cells #[.slice a n cap] 54)).heap[w.heap.size]? = some (.cells #[.slice a n cap, .func (.func 124) #[] #[.pointer (some ⟨w.heap.size + 1, 0, none⟩)]] 79) := (Below.heap_alloc _ _ _ (by simp)).trans (World.alloc_heap_new w _)
    obtain ⟨d0, d1⟩ := cells2 hB2
    simp [results, Try.f80, go_sem, d0, d1, posV]
  · have h := (cell_new_l (w.alloc (.cells #[.slice a n cap, .func (.func 124) #[] #[.pointer (some ⟨w.heap.size + 1, 0, none⟩)]] 79)) (.slice a n cap) 54).1
    rw [World.size_alloc] at h
    exact ⟨rfl, ((World.Since.refl _ w).alloc (Nat.le_refl _) _).alloc (by simp) _, h⟩

theorem firstParts_any (a : Option Addr) (n cap : Nat) (w : World) :
    Calls Try.prog 108 #[.slice a n cap] w fun e w' => e = .returned (.func (.func 126) #[] #[.pointer (some ⟨w.heap.size, 0, none⟩)]) ∧ w' = w.alloc (.cells #[.slice a n cap] 54) := by
  go_enter Try.func108, Try.ntmps108
  go_wp2
  go_ret
  exact ⟨rfl, rfl⟩

theorem withFirst_any (a : Option Addr) (n cap : Nat) (w : World) :
    Calls Try.prog 83 #[.slice a n cap] w fun e w' => e = .returned (posV a n cap 126 #[.pointer (some ⟨w.heap.size + 1, 0, none⟩)]) ∧ w.Since w.heap.size w' ∧ w'.cell? ⟨w.heap.size + 1, 0, none⟩ = some (.slice a n cap) := by
  have EA := Lib.hid (fun (W : World) => firstParts_any a n cap W)
  go_enter Try.func83, Try.ntmps83
  go_wp2_with fail
  refine (EA.out _).mono ?_
  rintro e w2 ⟨rfl, rfl⟩
  have hB : ((w.alloc (.cells #[.slice none 0 0, Value.nilFunc] 79)).alloc (.cells #[.slice a n cap] 54)).heap[w.heap.size]? = some (.cells #[.slice none 0 0, Value.nilFunc] 79) := (Below.heap_alloc _ _ _ (by simp)).trans (World.alloc_heap_new w _)
  have hc := (cells2 hB)
  obtain ⟨hc0, hc1⟩ := hc
  go_wp2_with fail
  refine bodyPost_ret (v := posV a n cap 126 #[.pointer (some ⟨w.heap.size + 1, 0, none⟩)]) ?_ rfl ?_
  · have hB2 : ((w.alloc (.cells #[.slice a n cap, .func (.func 126) #[] #[.pointer (some ⟨w.heap.size + 1, 0, none⟩)]] 79)).alloc (.cells #[.slice a n cap] 54)).heap[w.heap.size]? = some (.cells #[.slice a n cap, .func (.func 126) #[] #[.pointer (some ⟨w.heap.size + 1, 0, none⟩)]] 79) := (Below.heap_alloc _ _ _ (by simp)).trans (World.alloc_heap_new w _)
    obtain ⟨d0, d1⟩ := cells2 hB2
    simp [results, Try.f83, go_sem, d0, d1, posV]
  · have h := (cell_new_l (w.alloc (.cells #[.slice a n cap, .func (.func 126) #[] #[.pointer (some ⟨w.heap.size + 1, 0, none⟩)]] 79)) (.slice a n cap) 54).1
    rw [World.size_alloc] at h
    exact ⟨rfl, ((World.Since.refl _ w).alloc (Nat.le_refl _) _).alloc (by simp) _, h⟩

theorem oldT_two {w w3 V : World} (hs : w.Since w.heap.size w3) (ho : OldT w3.heap.size w3 V) : OldT w.heap.size w V := fun k hk => (ho k (by have := hs.size; omega)).trans (hs.block k hk)
theorem partsA_ok {n m : Nat} (hn : n ≤ 6) (hm : m ≤ 6) {x : Nat × Nat} (hx : x ∈ partsA n m) : popcS x.1 = popcS x.2 ∧ x.1 < 2 ^ n ∧ x.2 < 2 ^ m := ((partsA_mem hn hm).1 hx).2
theorem allMinors_any (a : Option Addr) (cap n m : Nat) (q : Int) (l : List (List Int)) (w w3 : World) (hn : l.length = n) (hmm : (l.getD 0 []).length = m) (hT : TabIn l) (hm : MatR w a l) (hs : w.Since w.heap.size w3) (hc : w3.cell? ⟨w.heap.size + 1, 0, none⟩ = some (.slice a n cap)) :
    Calls Try.prog 81 #[posV a n cap 124 #[.pointer (some ⟨w.heap.size + 1, 0, none⟩)], .int .i64 q] w3 fun e w' => e = .returned (.bool (leastB l q (partsA n m))) ∧ w3.Since w3.heap.size w' := by
  have h6 := hT.2.1
  have hw := hT.width
  rw [hn] at h6
  rw [hmm] at hw
  have hlt := World.block_lt_of_cell? _ _ hc
  simp only at hlt
  have hz := hs.size
  exact minorsFrom_any a cap n m q _ _ (partsA n m) 32768 (fun k => k < w.heap.size ∨ k = w.heap.size + 1) l w3 hn hmm hT (hm.since hs) (fun x hx => partsA_ok h6 hw.2 hx) (fun k hk => by omega)
    (fun V ho hzV => all_seqE 29 (by omega) (w.heap.size + 1) n m cap a l w V hn hT hmm hm (oldT_two hs ho) (by omega) (by omega) ((ho.cell (by exact hlt)).trans hc)) (enters_of Try.func124 (by kernel_rfl) rfl)
theorem allWorst_any (a : Option Addr) (cap n m : Nat) (l : List (List Int)) (w w3 : World) (hn : l.length = n) (hmm : (l.getD 0 []).length = m) (hT : TabIn l) (hm : MatR w a l) (hs : w.Since w.heap.size w3) (hc : w3.cell? ⟨w.heap.size + 1, 0, none⟩ = some (.slice a n cap)) :
    Calls Try.prog 91 #[posV a n cap 124 #[.pointer (some ⟨w.heap.size + 1, 0, none⟩)]] w3 fun e w' => e = .returned (.tuple #[.int .i64 (worstS l (partsA n m)).1, .int .i64 ((worstS l (partsA n m)).2.1 : Nat), .int .i64 ((worstS l (partsA n m)).2.2 : Nat)]) ∧ w3.Since w3.heap.size w' := by
  have h6 := hT.2.1
  have hw := hT.width
  rw [hn] at h6
  rw [hmm] at hw
  have hlt := World.block_lt_of_cell? _ _ hc
  simp only at hlt
  have hz := hs.size
  exact worst_any a cap n m _ _ (partsA n m) 32768 (fun k => k < w.heap.size ∨ k = w.heap.size + 1) l w3 hn hmm hT (hm.since hs) (fun x hx => partsA_ok h6 hw.2 hx) (fun k hk => by omega)
    (fun V ho hzV => all_seqE 29 (by omega) (w.heap.size + 1) n m cap a l w V hn hT hmm hm (oldT_two hs ho) (by omega) (by omega) ((ho.cell (by exact hlt)).trans hc)) (enters_of Try.func124 (by kernel_rfl) rfl)
theorem firstMinors_any (a : Option Addr) (cap n m : Nat) (q : Int) (l : List (List Int)) (w w3 : World) (hn : l.length = n) (hmm : (l.getD 0 []).length = m) (hT : TabIn l) (hm : MatR w a l) (hs : w.Since w.heap.size w3) (hc : w3.cell? ⟨w.heap.size + 1, 0, none⟩ = some (.slice a n cap)) :
    Calls Try.prog 81 #[posV a n cap 126 #[.pointer (some ⟨w.heap.size + 1, 0, none⟩)], .int .i64 q] w3 fun e w' => e = .returned (.bool (leastB l q (partsF n m))) ∧ w3.Since w3.heap.size w' := by
  have h6 := hT.2.1
  have hw := hT.width
  rw [hn] at h6
  rw [hmm] at hw
  have hlt := World.block_lt_of_cell? _ _ hc
  simp only at hlt
  have hz := hs.size
  exact minorsFrom_any a cap n m q _ _ (partsF n m) 64 (fun k => k < w.heap.size ∨ k = w.heap.size + 1) l w3 hn hmm hT (hm.since hs) (fun x hx => ⟨(partsF_ok h6 hw.2 hx).1, (partsF_ok h6 hw.2 hx).2.1, (partsF_ok h6 hw.2 hx).2.2.1⟩) (fun k hk => by omega)
    (fun V ho hzV => first_seqE 29 (by omega) (w.heap.size + 1) n m cap a l w V hn hT hmm hm (oldT_two hs ho) (by omega) (by omega) ((ho.cell (by exact hlt)).trans hc)) (enters_of Try.func126 (by kernel_rfl) rfl)
theorem firstCount_any (a : Option Addr) (cap n m : Nat) (l : List (List Int)) (w w3 : World) (hn : l.length = n) (hmm : (l.getD 0 []).length = m) (hT : TabIn l) (hm : MatR w a l) (hs : w.Since w.heap.size w3) (hc : w3.cell? ⟨w.heap.size + 1, 0, none⟩ = some (.slice a n cap)) :
    Calls Try.prog 84 #[posV a n cap 126 #[.pointer (some ⟨w.heap.size + 1, 0, none⟩)]] w3 fun e w' => e = .returned (.int .i64 (n * m : Nat)) ∧ w3.Since w3.heap.size w' := by
  have hlt := World.block_lt_of_cell? _ _ hc
  simp only at hlt
  have hz := hs.size
  rw [← partsF_len]
  exact countParts_any a cap n _ _ (partsF n m) 64 (by omega) (fun k => k < w.heap.size ∨ k = w.heap.size + 1) w3 (fun k hk => by omega)
    (fun V ho hzV => first_seqE 29 (by omega) (w.heap.size + 1) n m cap a l w V hn hT hmm hm (oldT_two hs ho) (by omega) (by omega) ((ho.cell (by exact hlt)).trans hc)) (enters_of Try.func126 (by kernel_rfl) rfl)

set_option maxHeartbeats 1000000 in
theorem implPosLasting_any (a : Option Addr) (cap n : Nat) (l : List (List Int)) (w : World) (hn : l.length = n) (hsz : szL l ≤ 1048576) (hm : MatR w a l) :
    Calls Try.prog 34 #[.slice a n cap] w fun e w' => e = .returned (.bool (tabIn l && leastB l 0 (partsA n (l.getD 0 []).length))) ∧ w.Since w.heap.size w' := by
  have E := Lib.hid (implTableIn_any a cap n l w hn hsz hm)
  cases hT : tabIn l with
  | false =>
    rw [hT] at E
    clear hT hsz hm hn
    go_enter Try.func34, Try.ntmps34
    go_wp2_with fail
    refine (E.out).mono ?_
    rintro e w1 ⟨rfl, hd⟩
    have HS := Lib.hid hd
    clear hd
    go_wp2
    go_ret
    exact ⟨rfl, HS.out⟩
  | true =>
    rw [hT] at E
    have EC := Lib.hid (fun (W w3 : World) (h : w.Since w.heap.size W) (hs : W.Since W.heap.size w3) (hc : w3.cell? ⟨W.heap.size + 1, 0, none⟩ = some (.slice a n cap)) => allMinors_any a cap n (l.getD 0 []).length 0 l W w3 hn rfl (tabIn_of hT) (hm.since h) hs hc)
    have EW := Lib.hid (fun (W : World) => withAll_any a n cap W)
    obtain ⟨B, hB⟩ : ∃ B, leastB l 0 (partsA n (l.getD 0 []).length) = B := ⟨_, rfl⟩
    rw [hB] at EC ⊢
    clear hT hsz hm hn hB
    go_enter Try.func34, Try.ntmps34
    go_wp2_with fail
    refine (E.out).mono ?_
    rintro e w1 ⟨rfl, hd⟩
    have HS := Lib.hid hd
    clear hd
    go_wp2_with fail
    refine (EW.out w1).mono ?_
    rintro e w2 ⟨rfl, hs2, hc2⟩
    have HS2 := Lib.hid (HS.out.trans (since_mono hs2 HS.out.size))
    have EC2 := Lib.hid (EC.out w1 w2 HS.out hs2 hc2)
    clear hs2 hc2
    go_wp2_with fail
    refine (EC2.out).mono ?_
    rintro e w3 ⟨rfl, hs3⟩
    have HS3 := Lib.hid (HS2.out.trans (since_mono hs3 HS2.out.size))
    clear hs3
    cases B
    · go_wp2
      go_ret
      exact ⟨rfl, HS3.out⟩
    · go_wp2
      go_ret
      exact ⟨rfl, HS3.out⟩

set_option maxHeartbeats 1000000 in
theorem implPosStrict_any (a : Option Addr) (cap n : Nat) (l : List (List Int)) (w : World) (hn : l.length = n) (hsz : szL l ≤ 1048576) (hm : MatR w a l) :
    Calls Try.prog 36 #[.slice a n cap] w fun e w' => e = .returned (.bool (tabIn l && leastB l 1 (partsA n (l.getD 0 []).length))) ∧ w.Since w.heap.size w' := by
  have E := Lib.hid (implTableIn_any a cap n l w hn hsz hm)
  cases hT : tabIn l with
  | false =>
    rw [hT] at E
    clear hT hsz hm hn
    go_enter Try.func36, Try.ntmps36
    go_wp2_with fail
    refine (E.out).mono ?_
    rintro e w1 ⟨rfl, hd⟩
    have HS := Lib.hid hd
    clear hd
    go_wp2
    go_ret
    exact ⟨rfl, HS.out⟩
  | true =>
    rw [hT] at E
    have EC := Lib.hid (fun (W w3 : World) (h : w.Since w.heap.size W) (hs : W.Since W.heap.size w3) (hc : w3.cell? ⟨W.heap.size + 1, 0, none⟩ = some (.slice a n cap)) => allMinors_any a cap n (l.getD 0 []).length 1 l W w3 hn rfl (tabIn_of hT) (hm.since h) hs hc)
    have EW := Lib.hid (fun (W : World) => withAll_any a n cap W)
    obtain ⟨B, hB⟩ : ∃ B, leastB l 1 (partsA n (l.getD 0 []).length) = B := ⟨_, rfl⟩
    rw [hB] at EC ⊢
    clear hT hsz hm hn hB
    go_enter Try.func36, Try.ntmps36
    go_wp2_with fail
    refine (E.out).mono ?_
    rintro e w1 ⟨rfl, hd⟩
    have HS := Lib.hid hd
    clear hd
    go_wp2_with fail
    refine (EW.out w1).mono ?_
    rintro e w2 ⟨rfl, hs2, hc2⟩
    have HS2 := Lib.hid (HS.out.trans (since_mono hs2 HS.out.size))
    have EC2 := Lib.hid (EC.out w1 w2 HS.out hs2 hc2)
    clear hs2 hc2
    go_wp2_with fail
    refine (EC2.out).mono ?_
    rintro e w3 ⟨rfl, hs3⟩
    have HS3 := Lib.hid (HS2.out.trans (since_mono hs3 HS2.out.size))
    clear hs3
    cases B
    · go_wp2
      go_ret
      exact ⟨rfl, HS3.out⟩
    · go_wp2
      go_ret
      exact ⟨rfl, HS3.out⟩

set_option maxHeartbeats 1000000 in
theorem implPosFirst_any (a : Option Addr) (cap n : Nat) (l : List (List Int)) (w : World) (hn : l.length = n) (hsz : szL l ≤ 1048576) (hm : MatR w a l) :
    Calls Try.prog 38 #[.slice a n cap] w fun e w' => e = .returned (.bool (tabIn l && leastB l 1 (partsF n (l.getD 0 []).length))) ∧ w.Since w.heap.size w' := by
  have E := Lib.hid (implTableIn_any a cap n l w hn hsz hm)
  cases hT : tabIn l with
  | false =>
    rw [hT] at E
    clear hT hsz hm hn
    go_enter Try.func38, Try.ntmps38
    go_wp2_with fail
    refine (E.out).mono ?_
    rintro e w1 ⟨rfl, hd⟩
    have HS := Lib.hid hd
    clear hd
    go_wp2
    go_ret
    exact ⟨rfl, HS.out⟩
  | true =>
    rw [hT] at E
    have EC := Lib.hid (fun (W w3 : World) (h : w.Since w.heap.size W) (hs : W.Since W.heap.size w3) (hc : w3.cell? ⟨W.heap.size + 1, 0, none⟩ = some (.slice a n cap)) => firstMinors_any a cap n (l.getD 0 []).length 1 l W w3 hn rfl (tabIn_of hT) (hm.since h) hs hc)
    have EW := Lib.hid (fun (W : World) => withFirst_any a n cap W)
    obtain ⟨B, hB⟩ : ∃ B, leastB l 1 (partsF n (l.getD 0 []).length) = B := ⟨_, rfl⟩
    rw [hB] at EC ⊢
    clear hT hsz hm hn hB
    go_enter Try.func38, Try.ntmps38
    go_wp2_with fail
    refine (E.out).mono ?_
    rintro e w1 ⟨rfl, hd⟩
    have HS := Lib.hid hd
    clear hd
    go_wp2_with fail
    refine (EW.out w1).mono ?_
    rintro e w2 ⟨rfl, hs2, hc2⟩
    have HS2 := Lib.hid (HS.out.trans (since_mono hs2 HS.out.size))
    have EC2 := Lib.hid (EC.out w1 w2 HS.out hs2 hc2)
    clear hs2 hc2
    go_wp2_with fail
    refine (EC2.out).mono ?_
    rintro e w3 ⟨rfl, hs3⟩
    have HS3 := Lib.hid (HS2.out.trans (since_mono hs3 HS2.out.size))
    clear hs3
    cases B
    · go_wp2
      go_ret
      exact ⟨rfl, HS3.out⟩
    · go_wp2
      go_ret
      exact ⟨rfl, HS3.out⟩

end Go.Proofs.Ytcnbffflgodheaa
end

section
namespace Go.Proofs.Ytcnbffflgodheaa
open Go.RowKit Go.Deep

set_option maxHeartbeats 1000000 in
theorem specPosFirstCount_any (a : Option Addr) (cap n : Nat) (l : List (List Int)) (w : World) (hn : l.length = n) (hsz : szL l ≤ 1048576) (hm : MatR w a l) :
    Calls Try.prog 39 #[.slice a n cap] w (SpecW w (tabIn l) (n * (l.getD 0 []).length : Nat)) := by
  have E := Lib.hid (specTableIn_any a cap n l w hn hsz hm)
  cases hTb : tabIn l with
  | false =>
    rw [hTb] at E
    clear hTb hsz hm hn
    go_enter Try.func39, Try.ntmps39
    go_wp2_with fail
    refine (E.out).mono ?_
    rintro e w1 ⟨rfl, hd⟩
    have HS := Lib.hid (hd.since w.heap.size)
    clear hd
    go_wp2
    go_ret2
    exact ⟨rfl, HS.out⟩
  | true =>
    rw [hTb] at E
    have hT := tabIn_of hTb
    obtain ⟨m, hmm⟩ : ∃ m, (l.getD 0 []).length = m := ⟨_, rfl⟩
    rw [hmm]
    have h6 := hT.2.1
    have h1 := hT.1
    have hw := hT.width
    rw [hn] at h6 h1
    rw [hmm] at hw
    obtain ⟨b, o, A, C, rfl, hc⟩ := hm (by omega)
    have c0 := (hc 0 (by omega)).1
    rw [Nat.add_zero, hmm] at c0
    have hpr : n * m ≤ 6 * 6 := Nat.mul_le_mul h6 hw.2
    obtain ⟨p, hp⟩ : ∃ p, n * m = p := ⟨_, rfl⟩
    have hpi : (n : Int) * (m : Int) = (p : Int) := by rw [← hp]; simp
    rw [hp] at hpr ⊢
    have hwp : IntKind.i64.wrap ((n : Int) * (m : Int)) = (p : Int) := by rw [hpi]; exact IntWalk.i64_in _ ⟨by omega, by omega⟩
    have hn1 : 0 < n := by omega
    clear hn hT hTb hmm hm hc hsz hp
    go_enter Try.func39, Try.ntmps39
    go_wp2_with fail
    refine (E.out).mono ?_
    rintro e w1 ⟨rfl, hd⟩
    have hs := hd.since w.heap.size
    have c1 := (hs.cell (a := ⟨b, o, none⟩) (World.block_lt_of_cell? _ _ c0)).trans c0
    have HS := Lib.hid hs
    clear hd hs c0
    go_wp2
    go_ret2
    exact ⟨by rw [← hwp]; rfl, HS.out⟩

set_option maxHeartbeats 1000000 in
theorem implPosFirstCount_any (a : Option Addr) (cap n : Nat) (l : List (List Int)) (w : World) (hn : l.length = n) (hsz : szL l ≤ 1048576) (hm : MatR w a l) :
    Calls Try.prog 40 #[.slice a n cap] w (SpecW w (tabIn l) (n * (l.getD 0 []).length : Nat)) := by
  have E := Lib.hid (implTableIn_any a cap n l w hn hsz hm)
  cases hT : tabIn l with
  | false =>
    rw [hT] at E
    clear hT hsz hm hn
    go_enter Try.func40, Try.ntmps40
    go_wp2_with fail
    refine (E.out).mono ?_
    rintro e w1 ⟨rfl, hd⟩
    have HS := Lib.hid hd
    clear hd
    go_wp2
    go_ret2
    exact ⟨rfl, HS.out⟩
  | true =>
    rw [hT] at E
    have EC := Lib.hid (fun (W w3 : World) (h : w.Since w.heap.size W) (hs : W.Since W.heap.size w3) (hc : w3.cell? ⟨W.heap.size + 1, 0, none⟩ = some (.slice a n cap)) => firstCount_any a cap n (l.getD 0 []).length l W w3 hn rfl (tabIn_of hT) (hm.since h) hs hc)
    have EW := Lib.hid (fun (W : World) => withFirst_any a n cap W)
    obtain ⟨B, hB⟩ : ∃ B, n * (l.getD 0 []).length = B := ⟨_, rfl⟩
    rw [hB] at EC ⊢
    clear hT hsz hm hn hB
    go_enter Try.func40, Try.ntmps40
    go_wp2_with fail
    refine (E.out).mono ?_
    rintro e w1 ⟨rfl, hd⟩
    have HS := Lib.hid hd
    clear hd
    go_wp2_with fail
    refine (EW.out w1).mono ?_
    rintro e w2 ⟨rfl, hs2, hc2⟩
    have HS2 := Lib.hid (HS.out.trans (since_mono hs2 HS.out.size))
    have EC2 := Lib.hid (EC.out w1 w2 HS.out hs2 hc2)
    clear hs2 hc2
    go_wp2_with fail
    refine (EC2.out).mono ?_
    rintro e w3 ⟨rfl, hs3⟩
    have HS3 := Lib.hid (HS2.out.trans (since_mono hs3 HS2.out.size))
    clear hs3
    go_wp2
    go_ret2
    exact ⟨rfl, HS3.out⟩

def WorstW (w : World) (ok : Bool) (s : Int × Nat × Nat) : Ending → World → Prop := fun e w' => e = .returned (.tuple #[.int .i64 (if ok = true then s.1 else 0), .int .i64 (if ok = true then (s.2.1 : Int) else 0), .int .i64 (if ok = true then (s.2.2 : Int) else 0), .bool ok]) ∧ w.Since w.heap.size w'

set_option maxHeartbeats 1000000 in
theorem implPosWorst_any (a : Option Addr) (cap n : Nat) (l : List (List Int)) (w : World) (hn : l.length = n) (hsz : szL l ≤ 1048576) (hm : MatR w a l) :
    Calls Try.prog 50 #[.slice a n cap] w (WorstW w (tabIn l) (worstS l (partsA n (l.getD 0 []).length))) := by
  have E := Lib.hid (implTableIn_any a cap n l w hn hsz hm)
  cases hT : tabIn l with
  | false =>
    rw [hT] at E
    clear hT hsz hm hn
    go_enter Try.func50, Try.ntmps50
    go_wp2_with fail
    refine (E.out).mono ?_
    rintro e w1 ⟨rfl, hd⟩
    have HS := Lib.hid hd
    clear hd
    go_wp2
    refine bodyPost_ret (v := .tuple #[.int .i64 0, .int .i64 0, .int .i64 0, .bool false]) (by simp [results, Try.f50, go_sem]) rfl ?_
    exact ⟨rfl, HS.out⟩
  | true =>
    rw [hT] at E
    have EC := Lib.hid (fun (W w3 : World) (h : w.Since w.heap.size W) (hs : W.Since W.heap.size w3) (hc : w3.cell? ⟨W.heap.size + 1, 0, none⟩ = some (.slice a n cap)) => allWorst_any a cap n (l.getD 0 []).length l W w3 hn rfl (tabIn_of hT) (hm.since h) hs hc)
    have EW := Lib.hid (fun (W : World) => withAll_any a n cap W)
    obtain ⟨⟨s1, s2, s3⟩, hB⟩ : ∃ B, worstS l (partsA n (l.getD 0 []).length) = B := ⟨_, rfl⟩
    rw [hB] at EC ⊢
    simp only at EC
    clear hT hsz hm hn hB
    go_enter Try.func50, Try.ntmps50
    go_wp2_with fail
    refine (E.out).mono ?_
    rintro e w1 ⟨rfl, hd⟩
    have HS := Lib.hid hd
    clear hd
    go_wp2_with fail
    refine (EW.out w1).mono ?_
    rintro e w2 ⟨rfl, hs2, hc2⟩
    have HS2 := Lib.hid (HS.out.trans (since_mono hs2 HS.out.size))
    have EC2 := Lib.hid (EC.out w1 w2 HS.out hs2 hc2)
    clear hs2 hc2
    go_wp2_with fail
    refine (EC2.out).mono ?_
    rintro e w3 ⟨rfl, hs3⟩
    have HS3 := Lib.hid (HS2.out.trans (since_mono hs3 HS2.out.size))
    clear hs3
    go_wp2
    refine bodyPost_ret (v := .tuple #[.int .i64 s1, .int .i64 (s2 : Int), .int .i64 (s3 : Int), .bool true]) (by simp [results, Try.f50, go_sem]) rfl ?_
    exact ⟨rfl, HS3.out⟩

end Go.Proofs.Ytcnbffflgodheaa
end

section
namespace Go.Proofs.Ytcnbffflgodheaa
open Go.RowKit Go.Deep

theorem lawPosFirstCount (a : Option Addr) (cap n : Nat) (l : List (List Int)) (w : World) (hn : l.length = n) (h63 : n ≤ 9223372036854775807) (hl : ∀ r, r < l.length → (l.getD r []).length ≤ 9223372036854775807) (hm : MatR w a l) :
    Calls Try.prog 11 #[.slice a n cap] w fun e w' => e = .returned (.bool true) ∧ w.Since w.heap.size w' :=
  lawPosFirstCount_aux a cap n l (tabIn l) (if tabIn l = true then (n * (l.getD 0 []).length : Nat) else 0) w hn h63 hl hm
    (fun hz W b c hb => specPosFirstCount_any b c n l W hn hz hb) (fun hz W b c hb => implPosFirstCount_any b c n l W hn hz hb)

end Go.Proofs.Ytcnbffflgodheaa
end

section
namespace Go.Proofs.Ytcnbffflgodheaa
open Go.ChangeShapes Go.WideShapes Go.ChangeAt Go.RowKit Go.Deep

theorem below_since' {B : Nat} {w w' : World} (h : Below B w w') : w.Since B w' := ⟨h.os, h.tape, h.output, h.size, h.block⟩
theorem since_below' {B : Nat} {w w' : World} (h : w.Since B w') : Below B w w' := ⟨h.os, h.tape, h.output, h.size, h.block⟩

section
variable {H : Type} {enc : TypeId × Value → H} {P : Program}
theorem post_of_below {f : Func} {s : ChangeSpec} {apart fresh handsOn again : Bool} {W W' : World} {args : Array Value} {v : Value} {ds gs : List (DataW H)} {before pa pv : List MemPlace}
    (hW : DataW.Whole enc P f.params.toList s.vars apart W args.toList ds gs before)
    (hres : ∀ (b : Nat) (sp : Nat → Bool) (hd : Bool), DataW.TrodAll enc P W' b sp hd f.resultTypes.toList (v.resultList f.resultTypes.size) (s.fn H (ds ++ gs)).results [])
    (hargs : ∀ sp : Nat → Bool, (∀ p ∈ before, sp p.block = true) → DataW.TrodAll enc P W' 0 sp true f.params.toList args.toList (s.fn H (ds ++ gs)).args pa)
    (hvars : ∀ sp : Nat → Bool, (∀ p ∈ before, sp p.block = true) → DataW.TrodVars enc P W' sp s.vars (s.fn H (ds ++ gs)).vars pv)
    (hps : before = pa ++ pv) (hb : Below W.heap.size W W') (hag : again = false) :
    s.post enc P f apart fresh handsOn again W args v W' := by
  have hlt : ∀ p ∈ before, p.block < W.heap.size := fun p hp => hW.lt p hp
  have hold : ∀ p ∈ before, (fun b => decide (b < W.heap.size)) p.block = true := fun p hp => by simpa using hlt p hp
  refine ⟨ds, gs, before, [], pa, pv, hW, hres _ _ _, hargs _ hold, hvars _ hold, World.keptBut_mono (fun p hp => ⟨hp, ?_⟩) (hb.frame (· ∈ before)), fun h => ?_⟩
  · rw [hps, List.mem_append] at hp
    exact Or.inr hp
  · rw [hag] at h; cases h

theorem open_mat {W : World} {t e q : TypeId} {a : Option Addr} {n cap : Nat} {d : DataW H} {p : List MemPlace} (ht : P.underlying t = some (.slice e)) (he : P.underlying e = some (.slice q)) (hq : P.underlying q = some (.int .i64))
    (ce : P.cellsOf e = 1) (cq : P.cellsOf q = 1) (h : DataW.Trod enc P W 0 (fun _ => true) true t (.slice a n cap) d p) :
    ∃ l : List (List Int), l.length = n ∧ MatR W a l ∧ n ≤ 9223372036854775807 ∧ ∀ r, r < l.length → (l.getD r []).length ≤ 9223372036854775807 := by
  obtain ⟨fuel, hf⟩ := h
  rcases open_int_rows ht he hq ce cq hf with ⟨hcs, _⟩ | ⟨a', len', cap', A, L, C, Z, hcs, _, hl, hm, _, hrows⟩
  · simp [Value.cells] at hcs
    obtain ⟨rfl, rfl, rfl⟩ := hcs
    exact ⟨[], rfl, (fun h => by simp at h), by omega, fun r hr => by simp at hr⟩
  · simp [Value.cells] at hcs
    obtain ⟨rfl, rfl, rfl⟩ := hcs
    have hmx : maxLen = 9223372036854775807 := rfl
    have hlen : ∀ r, r < n → ((Z r).take (L r)).length = L r := fun r hr => by
      obtain ⟨_, h1, _, h2, _⟩ := hrows r (by omega)
      rw [List.length_take]; omega
    have hget : ∀ r, r < n → ((List.range n).map fun r => (Z r).take (L r)).getD r [] = (Z r).take (L r) := fun r hr => by simp [List.getD, hr]
    refine ⟨(List.range n).map fun r => (Z r).take (L r), by simp, fun h => ?_, by omega, fun r hr => ?_⟩
    · obtain ⟨b, o, spot⟩ := a'
      simp at h
      have hspot : spot = none := by simpa [Addr.add] using World.cell?_spot (hrows 0 (by omega)).1
      subst hspot
      refine ⟨b, o, A, C, rfl, fun r hr => ?_⟩
      simp at hr
      rw [hget r hr, hlen r hr]
      obtain ⟨g1, g2, g3, g4, g5, g6, g7⟩ := hrows r (by omega)
      refine ⟨by rw [← add_plain]; exact g1, fun h0 => ?_⟩
      rw [hlen r hr] at h0
      cases hA : A r with
      | none => have := g6 hA; omega
      | some a'' =>
        obtain ⟨_, hcell⟩ := g7 a'' hA
        obtain ⟨b', o', sp⟩ := a''
        have hs : sp = none := by simpa [Addr.add] using World.cell?_spot (hcell 0 (by omega))
        subst hs
        refine ⟨b', o', rfl, fun i hi => ?_⟩
        rw [hlen r hr] at hi
        rw [← add_plain, hcell i (by omega)]
        congr 2
        simp [List.getD, hi]
    · simp at hr
      rw [hget r hr, hlen r hr]
      obtain ⟨_, h1, h2, _⟩ := hrows r (by omega)
      omega
end

theorem Try.own : ownKnob Try.prog.godebug = none := by kernel_rfl
theorem Try.laidOut : laidOutB Try.prog = true := by kernel_rfl
theorem Try.cellsR : Try.prog.cellsOf 42 = 1 := by kernel_rfl
theorem Try.cellsI : Try.prog.cellsOf 3 = 1 := by kernel_rfl

end Go.Proofs.Ytcnbffflgodheaa
end

section
namespace Go.Proofs.Ytcnbffflgodheaa
open Go.ChangeShapes Go.WideShapes Go.ChangeAt Go.RowKit Go.Deep

set_option maxRecDepth 100000 in
theorem lifted_PosFirstCount (os : Os) (started : os.Started) (H : Type) (enc : TypeId × Value → H) :
    ReturnsInHanded {} Try.checked os 11 .any (Rows.fnExactPosFirstCountSpec.pre6 enc Try.prog Try.f11 Rows.fnExactPosFirstCountRow.domain false) (Rows.fnExactPosFirstCountSpec.post enc Try.prog Try.f11 false true false false) := by
  refine returnsInHanded_of_change (C := Try.checked) Try.own started (by kernel_rfl) Try.func11
    (ChangeSpec.witness6 (enc := enc) (C := Try.checked) false ⟨#[], #[.slice none 0 0], []⟩ 8 (by kernel_rfl) (by kernel_rfl) (by kernel_rfl) (by kernel_rfl)) ?_
  intro W base args ds gs before hval0 hW _ _
  have hval : ∀ (j : Nat) t v, Try.f11.params[j]? = some t → args[j]? = some v → Value.okWide Try.prog W .any base t v := hval0
  have hW' := hW
  obtain ⟨p, q, hA0, hV, rfl, hfz, hnd⟩ := hW
  have hA : DataW.TrodAll enc Try.prog W 0 (fun _ => true) true Try.f11.params.toList args.toList ds p := hA0
  rw [Try.params11] at hA hval
  obtain ⟨v0, d0, rfl, rfl, h0⟩ := trodAll_one hA
  obtain ⟨p0, hp0⟩ : ∃ p0, p0 = p := ⟨_, rfl⟩
  subst hp0
  obtain ⟨rfl, rfl⟩ := trodVars_none hV
  obtain ⟨a0, n0, cap0, rfl⟩ := okWide_slice Try.underlying22 (hval 0 22 v0 rfl rfl)
  obtain ⟨l0, hl0, hm0, h630, hls0⟩ := open_mat Try.underlying22 Try.underlying42 Try.underlying3 Try.cellsR Try.cellsI h0
  clear hA0 hval0
  simp only [List.append_nil] at hW'
  have hlt0 : ∀ x ∈ p0, x.block < W.heap.size := fun x hx => hW'.lt x (by simp [hx])
  refine (lawPosFirstCount a0 cap0 n0 l0 W hl0 h630 hls0 hm0).mono fun e W' ⟨he, hs⟩ => ?_
  subst he
  have hb := since_below' hs
  have ht0 : ∀ sp : Nat → Bool, (∀ x ∈ p0, sp x.block = true) → DataW.Trod enc Try.prog W' 0 sp true 22 (.slice a0 n0 cap0) d0 p0 := fun sp hsp =>
    WideElems.Trod_stays Try.laidOut (by kernel_rfl) (of_decide_eq_true (by kernel_rfl)) h0 (fun x hx => hb.same (hlt0 x hx)) hsp
  have hargs : ∀ sp : Nat → Bool, (∀ x ∈ (p0), sp x.block = true) → DataW.TrodAll enc Try.prog W' 0 sp true [22] [.slice a0 n0 cap0] [d0] (p0) := fun sp hsp => by
    have := trodAll_mk1 (enc := enc) (P := Try.prog) (w := W') (base := 0) (spare := sp) (held := true) (ht0 sp (fun x hx => hsp x (by simp [hx])))
    simpa using this
  exact ⟨_, rfl, post_of_below (pa := p0) (pv := []) hW' (fun _ _ _ => trodAll_mk1 (shut_bool Try.underlying4 true)) (fun sp hsp => hargs sp (fun x hx => hsp x (by simpa using hx))) (fun _ _ => rfl) (by simp) hb rfl⟩

theorem FnExactPosFirstCount_holds : Rows.FnExactPosFirstCountSaid :=
  OpenClaim.holds_of_wide 11 Try.f11 rfl rfl rfl rfl rfl rfl rfl ⟨rfl, rfl, rfl, rfl, rfl⟩ rfl rfl rfl rfl rfl (by kernel_rfl) Try.func11 (by kernel_rfl)
    (of_decide_eq_true (by kernel_rfl)) (by unfold Func.isWrapper; first | (rw [if_pos (by decide +kernel)]; kernel_rfl) | (rw [if_neg (by decide +kernel)]; exact ⟨rfl, rfl⟩))
    (fun os started H enc _ => lifted_PosFirstCount os started H enc)

end Go.Proofs.Ytcnbffflgodheaa
end
