/- The walk of spec.PlaceRelated. -/
import Derived.Test.YtbedkjpbdkgjpaaPlaceR
namespace Go.Proofs.Ytbedkjpbdkgjpaa
open Go.RowKit Go.Deep

set_option maxRecDepth 100000 in
set_option maxHeartbeats 2000000 in
theorem specPlaceRelated_any (k n : Int) (a : Option Addr) (cap m : Nat) (p : List Int) (w : World) (hm : p.length = m) (hmx : m ≤ 1048576) (hr : RowR w a p) :
    Calls Try.prog 19 #[.int .i64 k, .int .i64 n, .slice a m cap] w fun e w' => e = .returned (.bool (relB k n p)) ∧ w.Since w.heap.size w' := by
  have E1 := specPlaceIn_any k n a cap m p w hm hmx hr
  cases h1 : placeB k n p with
  | false =>
    rw [h1] at E1
    have hres : relB k n p = false := by unfold relB; rw [h1]; rfl
    rw [hres]
    replace E1 := Lib.hid E1
    clear hr h1 hres hm
    go_enter Try.func19, Try.ntmps19
    go_wp2_with fail
    refine (E1.out).mono ?_
    rintro e w2 ⟨rfl, hs⟩
    go_wp2
    go_ret
    exact ⟨rfl, hs⟩
  | true =>
  rw [h1] at E1
  obtain ⟨k, n, rfl, rfl, hk1, hkn, h5, hl, hp⟩ := placeB_of h1
  have hres : relB (k : Nat) (n : Nat) p = relOk k n p := by unfold relB; rw [h1]; rfl
  rw [hres]
  have hpw := pow_le5 h5
  have HF := Lib.hid (fun (a b c : Nat) (ha : a < 2 ^ n) (hb : b < 2 ^ n) (hc : c < n) (hka : popcS a + 1 = k) (hkb : popcS b = k + 1) (x : b.testBit c = true) (y : a.testBit c = false) => rel_facts h5 hl ha hb hc hka hkb x y)
  have HB1 := Lib.hid (fun (a b c : Nat) (ha : a < 2 ^ n) (hb : b < 2 ^ n) (hka : popcS a + 1 = k) (hkb : popcS b = k + 1) (hc : c ≤ n) => relS_bd h5 hl hp ha hb hka hkb c hc)
  have HB2 := Lib.hid (fun (a b c : Nat) (ha : a < 2 ^ n) (hb : b < 2 ^ n) (hka : popcS a + 1 = k) (hkb : popcS b = k + 1) (hc : c < n) => relT_bd h5 hl hp ha hb hc hka hkb)
  have HAT := Lib.hid (fun (s : Nat) (hs : s ≤ 63) (hi : (setsTo (popcS s) s).length < p.length) (W : World) (hd : w.Since w.heap.size W) => l4At_any (n : Nat) a cap m s p W hm hs (hr.since hd) (by omega))
  have ES1 := Lib.hid (fun (W : World) => l3Sets_any n (k - 1) (by omega) W)
  have ES2 := Lib.hid (fun (W : World) => l3Sets_any n (k + 1) (by omega) W)
  have HJS := Lib.hid (fun (i j a b : Nat) => @relJ_succ k n p i j a b)
  have HIS := Lib.hid (fun (i : Nat) => @relI_succ k n p i)
  have HIA := Lib.hid (@relI_all k n p)
  have HNO := Lib.hid (fun (i j a b : Nat) => @relOk_no k n p i j a b)
  have HG1 := Lib.hid (fun (i : Nat) => @setsI_get (k - 1) (2 ^ n) i)
  have HG2 := Lib.hid (fun (i : Nat) => @setsI_get (k + 1) (2 ^ n) i)
  have HL1 := setsI_length (k - 1) (2 ^ n)
  have HL2 := setsI_length (k + 1) (2 ^ n)
  have HL3 := setsI_le (k - 1) (2 ^ n)
  have HL4 := setsI_le (k + 1) (2 ^ n)
  have hw1 : IntKind.i64.wrap ((k : Int) - 1) = ((k - 1 : Nat) : Int) := (IntWalk.i64_in _ ⟨by omega, by omega⟩).trans (by omega)
  have hw2 : IntKind.i64.wrap ((k : Int) + 1) = ((k + 1 : Nat) : Int) := (IntWalk.i64_in _ ⟨by omega, by omega⟩).trans (by omega)
  have hka0 : k - 1 + 1 = k := by omega
  obtain ⟨ka, hka⟩ : ∃ x, k - 1 = x := ⟨_, rfl⟩
  obtain ⟨kb, hkb⟩ : ∃ x, k + 1 = x := ⟨_, rfl⟩
  obtain ⟨M, hM⟩ : ∃ x, 2 ^ n = x := ⟨_, rfl⟩
  simp only [hka] at HL1 HL3 hw1 ES1 HG1 HJS HNO HIA hka0
  simp only [hkb] at HL2 HL4 hw2 ES2 HG2 HJS HIS HNO HF HB1 HB2
  simp only [hM] at HL1 HL2 HL3 HL4 ES1 ES2 HG1 HG2 HJS HIS HNO HIA HF HB1 HB2 hpw
  obtain ⟨LA, hLA⟩ : ∃ x, (setsTo ka M).length = x := ⟨_, rfl⟩
  obtain ⟨LB, hLB⟩ : ∃ x, (setsTo kb M).length = x := ⟨_, rfl⟩
  simp only [hLA] at HL1 HG1 HIA
  simp only [hLB] at HL2 HG2 HIS
  rw [HL1] at HL3
  rw [HL2] at HL4
  replace HL1 := Lib.hid HL1
  replace HL2 := Lib.hid HL2
  have HK := Lib.hid (And.intro hka0 hkb)
  have HMM := Lib.hid hM
  replace E1 := Lib.hid E1
  obtain ⟨res, hres2⟩ : ∃ x, relOk k n p = x := ⟨_, rfl⟩
  simp only [hres2] at HNO HIA ⊢
  clear hr h1 hres hl hp hka hkb hM hLA hLB hka0 hres2
  go_enter Try.func19, Try.ntmps19
  go_wp2_with fail
  refine (E1.out).mono ?_
  rintro e w2 ⟨rfl, hs⟩
  have HS2 := Lib.hid hs
  clear hs
  go_wp2_with fail
  refine (ES1.out w2).mono ?_
  rintro e w3 ⟨va, rfl, hRA⟩
  obtain ⟨aa, ca, rfl, ha⟩ := hRA.slice
  rw [HL1.out]
  rw [HL1.out] at ha
  have HS3 := Lib.hid (HS2.out.trans (since_mono hRA.since HS2.out.size))
  have HA := Lib.hid ha
  clear ha hRA
  go_wp2_with fail
  refine (ES2.out w3).mono ?_
  rintro e w4 ⟨vb, rfl, hRB⟩
  obtain ⟨ab, cb, rfl, hb⟩ := hRB.slice
  rw [HL2.out]
  rw [HL2.out] at hb
  have HS4 := Lib.hid (HS3.out.trans (since_mono hRB.since HS3.out.size))
  have HA4 := Lib.hid (fun (h : 0 < LA) => by
    obtain ⟨G, e, h2, h3⟩ := HA.out h
    exact (⟨G, e, h3.of_block (hRB.since.block G h3.lt)⟩ : ∃ G, aa = some ⟨G, 0, none⟩ ∧ RowB w4 G (setsI ka M)))
  have HB4 := Lib.hid (fun (h : 0 < LB) => by
    obtain ⟨G, e, h2, h3⟩ := hb h
    exact (⟨G, e, h3⟩ : ∃ G, ab = some ⟨G, 0, none⟩ ∧ RowB w4 G (setsI kb M)))
  clear hb hRB HA HS2
  go_wp2
  go_loopg [9] LA (fun g i wr => ∃ i0 : Nat, i0 ≤ LA ∧ g = LA - i0 ∧ i = .int .i64 i0 ∧ relI k n p i0 ∧ Drawn w4 wr)
  case atStart => exact ⟨0, Nat.zero_le _, rfl, rfl, fun i' h' => absurd h' (Nat.not_lt_zero _), Drawn.refl _⟩
  case round =>
    obtain ⟨i0, hi0, rfl, rfl, hI, hD⟩ := hrel
    by_cases hlt : i0 < LA
    · obtain ⟨GA, rfl, hRA⟩ := HA4.out (by omega)
      obtain ⟨sa, ea, ia, sam, sak⟩ := HG1.out i0 hlt
      have ca0 := hRA.cell (i := i0) (by rw [HL1.out]; exact hlt)
      rw [ea] at ca0
      have CA := Lib.hid ca0
      have HI := Lib.hid hI
      have IA := Lib.hid ia
      have SAK := Lib.hid sak
      have HD0 := Lib.hid hD
      clear hRA ea ia ca0 hI hD sak
      go_wp2
      go_loopg [10] LB (fun g j wi => ∃ j0 : Nat, j0 ≤ LB ∧ g = LB - j0 ∧ j = .int .i64 j0 ∧ relJ k n p i0 j0 ∧ Drawn w4 wi)
      case atStart => exact ⟨0, Nat.zero_le _, rfl, rfl, fun i' h' => absurd h' (Nat.not_lt_zero _), HD0.out⟩
      case round =>
        obtain ⟨j0, hj0, rfl, rfl, hJ, hD⟩ := hrel
        clear HD0
        by_cases hltj : j0 < LB
        · obtain ⟨GB, rfl, hRB⟩ := HB4.out (by omega)
          obtain ⟨sb, eb, ib, sbm, sbk⟩ := HG2.out j0 hltj
          have cb0 := hRB.cell (i := j0) (by rw [HL2.out]; exact hltj)
          rw [eb] at cb0
          have CB := Lib.hid cb0
          have HJ := Lib.hid hJ
          have IB := Lib.hid ib
          have HD0 := Lib.hid hD
          have hsum := fun c (hc : c ≤ n) => HB1.out sa sb c sam sbm (by rw [SAK.out]; exact HK.out.1) sbk hc
          have hT := fun c (hc : c < n) => HB2.out sa sb c sam sbm (by rw [SAK.out]; exact HK.out.1) sbk hc
          have hF := fun c (hc : c < n) => HF.out sa sb c sam sbm hc (by rw [SAK.out]; exact HK.out.1) sbk
          have HSUM := Lib.hid hsum
          have HT := Lib.hid hT
          have HFF := Lib.hid hF
          clear hRB eb ib cb0 hJ hD sbk hsum hT hF
          go_wp2
          go_loopg [11, 12] n (fun g s c wi => ∃ c0 : Nat, c0 ≤ n ∧ g = n - c0 ∧ c = .int .i64 c0 ∧ s = .int .i64 (sumN (relT p sa sb) c0) ∧ Drawn w4 wi)
          case atStart => exact ⟨0, Nat.zero_le _, rfl, rfl, rfl, HD0.out⟩
          case round =>
            obtain ⟨c0, hc0, rfl, rfl, rfl, hD⟩ := hrel
            clear HD0
            by_cases hltc : c0 < n
            · have cellA := (hD.cell ⟨GA, i0, none⟩).trans CA.out
              have cellB := (hD.cell ⟨GB, j0, none⟩).trans CB.out
              have hbA := bit_any sa c0 (by omega) (by omega)
              have hbB := bit0_fin ⟨sb, by omega⟩ ⟨c0, by omega⟩
              simp only at hbB
              have HDD := Lib.hid hD
              have hmq : min c0 64 = c0 := by omega
              have b1 := HSUM.out c0 hc0
              have b2 := HSUM.out (c0 + 1) (by omega)
              have hstep : sumN (relT p sa sb) (c0 + 1) = sumN (relT p sa sb) c0 + relT p sa sb c0 := rfl
              obtain ⟨S0, hS0⟩ : ∃ x, sumN (relT p sa sb) c0 = x := ⟨_, rfl⟩
              rw [hS0] at b1 hstep ⊢
              have hwc : IntKind.i64.wrap ((c0 : Int) + 1) = (c0 : Int) + 1 := IntWalk.i64_in _ ⟨by omega, by omega⟩
              clear hD hS0
              cases tb : sb.testBit c0 with
              | false =>
                rw [tb] at hbB
                rw [relT_no (by rw [tb]; simp), Int.add_zero] at hstep
                have HST := Lib.hid hstep
                clear tb hbA hstep b2
                go_wp2
                go_roundg (n - (c0 + 1))
                case measure => omega
                case rel => exact ⟨c0 + 1, by omega, rfl, by go_num, by rw [HST.out], HDD.out⟩
              | true =>
                rw [tb] at hbB
                cases ta : sa.testBit c0 with
                | true =>
                  rw [ta] at hbA
                  rw [relT_no (by rw [ta]; simp), Int.add_zero] at hstep
                  have HST := Lib.hid hstep
                  clear ta tb hstep b2
                  go_wp2
                  go_roundg (n - (c0 + 1))
                  case measure => omega
                  case rel => exact ⟨c0 + 1, by omega, rfl, by go_num, by rw [HST.out], HDD.out⟩
                | false =>
                  rw [ta] at hbA
                  rw [relT_yes tb ta] at hstep
                  have hT := HT.out c0 hltc
                  rw [relT_yes tb ta] at hT
                  obtain ⟨⟨f1, f2⟩, f3, f4⟩ := HFF.out c0 hltc tb ta
                  have hu2 := andNotS_fin ⟨sb, by omega⟩ ⟨c0, by omega⟩ tb
                  have hu1 := orS_fin ⟨sa, by omega⟩ ⟨c0, by omega⟩
                  have hv2 := andLow_fin ⟨sb, by omega⟩ ⟨c0, by omega⟩
                  have hv1 : (sa : Int) / 2 ^ c0 = ((sa / 2 ^ c0 : Nat) : Int) := by rw [Int.natCast_ediv]; simp
                  have hwq := pow_in ⟨c0, by omega⟩
                  have hwl := powLow_in ⟨c0, by omega⟩
                  simp only at hu1 hu2 hv2 hwq hwl
                  have g1 : sa / 2 ^ c0 ≤ 63 := Nat.le_trans (Nat.div_le_self _ _) (by omega)
                  have g2 : sb % 2 ^ c0 ≤ 63 := Nat.le_trans (Nat.mod_le _ _) (by omega)
                  have E1 := fun (q : Nat) => (HAT.out (sa ||| 2 ^ c0) f1 f2 (wr.drewN q) (HS4.out.trans ((HDD.out.trans (Drawn.mk _ _)).since w.heap.size))).mono fun _ _ h => And.intro h.1 h.2.symm
                  have E2 := fun (q : Nat) => (HAT.out (sb - 2 ^ c0) f3 f4 (wr.drewN q) (HS4.out.trans ((HDD.out.trans (Drawn.mk _ _)).since w.heap.size))).mono fun _ _ h => And.intro h.1 h.2.symm
                  have E3 := fun (W : World) => (l2Size_any (sa / 2 ^ c0) g1 W).mono fun _ _ h => And.intro h.1 h.2.symm
                  have E4 := fun (W : World) => (l2Size_any (sb % 2 ^ c0) g2 W).mono fun _ _ h => And.intro h.1 h.2.symm
                  have q1 := popcS_le (sa / 2 ^ c0)
                  have q2 := popcS_le (sb % 2 ^ c0)
                  obtain ⟨u1, e1⟩ : ∃ x, (sa ||| 2 ^ c0) = x := ⟨_, rfl⟩
                  obtain ⟨u2, e2⟩ : ∃ x, sb - 2 ^ c0 = x := ⟨_, rfl⟩
                  obtain ⟨v1, e3⟩ : ∃ x, sa / 2 ^ c0 = x := ⟨_, rfl⟩
                  obtain ⟨v2, e4⟩ : ∃ x, sb % 2 ^ c0 = x := ⟨_, rfl⟩
                  simp only [e1] at hu1 E1 hstep hT
                  simp only [e2] at hu2 E2 hstep hT
                  simp only [e3] at hv1 E3 hstep q1 hT
                  simp only [e4] at hv2 E4 hstep q2 hT
                  obtain ⟨Y1, e5⟩ : ∃ x, atP p u1 = x := ⟨_, rfl⟩
                  obtain ⟨Y2, e6⟩ : ∃ x, atP p u2 = x := ⟨_, rfl⟩
                  obtain ⟨P1, e7⟩ : ∃ x, popcS v1 = x := ⟨_, rfl⟩
                  obtain ⟨P2, e8⟩ : ∃ x, popcS v2 = x := ⟨_, rfl⟩
                  simp only [e5] at E1 hstep hT
                  simp only [e6] at E2 hstep hT
                  simp only [e7] at E3 hstep q1 hT
                  simp only [e8] at E4 hstep q2 hT
                  rw [hstep] at b2
                  have HST := Lib.hid hstep
                  replace E1 := Lib.hid E1
                  replace E2 := Lib.hid E2
                  replace E3 := Lib.hid E3
                  replace E4 := Lib.hid E4
                  clear e1 e2 e3 e4 e5 e6 e7 e8 f1 f2 f3 f4 g1 g2 ta tb hstep
                  obtain ⟨X, hX⟩ : ∃ x, Y1 * Y2 = x := ⟨_, rfl⟩
                  rw [hX] at b2 hT
                  rw [hv1] at hbA
                  have hxb : -10000000000 ≤ X ∧ X ≤ 10000000000 := by
                    unfold sg at hT
                    split at hT <;> omega
                  have hwx : IntKind.i64.wrap (Y1 * Y2) = X := by rw [hX]; exact IntWalk.i64_in _ ⟨by omega, by omega⟩
                  have HX := Lib.hid hX
                  have hwp : IntKind.i64.wrap ((P1 : Int) + (P2 : Int)) = (P1 : Int) + (P2 : Int) := IntWalk.i64_in _ ⟨by omega, by omega⟩
                  clear hX hT
                  go_wp2
                  go_quiet ((first | (go_at_call_of 48 (Value.int IntKind.i64 u1); exact Calls.quiet_of_same (E1.out _)) | (go_at_call_of 48 (Value.int IntKind.i64 u2); exact Calls.quiet_of_same (E2.out _))))
                  obtain ⟨wq, hwq1⟩ : ∃ x, wr.drewN nq = x := ⟨_, rfl⟩
                  have HDQ := Lib.hid (show Drawn w4 wq from hwq1 ▸ HDD.out.trans (Drawn.mk wr nq))
                  have cellA2 := (HDQ.out.cell ⟨GA, i0, none⟩).trans CA.out
                  have cellB2 := (HDQ.out.cell ⟨GB, j0, none⟩).trans CB.out
                  rw [hwq1]
                  clear hwq1 cellA cellB HDD
                  go_wp2
                  go_quiet ((first | (go_at_call_of 49 (Value.int IntKind.i64 v1); exact Calls.quiet_of_same (E3.out _)) | (go_at_call_of 49 (Value.int IntKind.i64 v2); exact Calls.quiet_of_same (E4.out _))))
                  have hbdX := hxb
                  rw [← HX.out] at b2 hxb
                  by_cases hodd : (P1 + P2) % 2 = 1
                  · have ho : (((P1 : Int) + (P2 : Int)) % 2 == 1) = true := by simp; omega
                    have e0 : sg (P1 + P2) (Y1 * Y2) = -(Y1 * Y2) := by unfold sg; rw [if_pos hodd]
                    rw [e0] at b2
                    have HE0 := Lib.hid e0
                    clear e0
                    rw [HX.out] at b2 hxb
                    have w1 : IntKind.i64.wrap (0 - X) = -X := (IntWalk.i64_in _ ⟨by omega, by omega⟩).trans (by omega)
                    have w2 : IntKind.i64.wrap (-X) = -X := IntWalk.i64_in _ ⟨by omega, by omega⟩
                    have w3 : IntKind.i64.wrap (S0 + -X) = S0 + -X := IntWalk.i64_in _ ⟨by omega, by omega⟩
                    go_wp2
                    go_roundg (n - (c0 + 1))
                    case measure => omega
                    case rel => exact ⟨c0 + 1, by omega, rfl, by go_num, by rw [HST.out, HE0.out, HX.out], HDQ.out.trans (Drawn.mk _ _)⟩
                  · have ho : (((P1 : Int) + (P2 : Int)) % 2 == 1) = false := by simp; omega
                    have e0 : sg (P1 + P2) (Y1 * Y2) = Y1 * Y2 := by unfold sg; rw [if_neg hodd]
                    rw [e0] at b2
                    have HE0 := Lib.hid e0
                    clear e0
                    rw [HX.out] at b2 hxb
                    have w3 : IntKind.i64.wrap (S0 + X) = S0 + X := IntWalk.i64_in _ ⟨by omega, by omega⟩
                    go_wp2
                    go_roundg (n - (c0 + 1))
                    case measure => omega
                    case rel => exact ⟨c0 + 1, by omega, rfl, by go_num, by rw [HST.out, HE0.out, HX.out], HDQ.out.trans (Drawn.mk _ _)⟩
            · have hcn : c0 = n := by omega
              have HDD := Lib.hid hD
              have hrs : relS n p sa sb = sumN (relT p sa sb) n := rfl
              rw [hcn]
              rw [hcn] at hc0 hltc
              obtain ⟨S0, hS0⟩ : ∃ x, sumN (relT p sa sb) n = x := ⟨_, rfl⟩
              rw [hS0] at hrs ⊢
              have HRS := Lib.hid hrs
              have HCN := Lib.hid hcn
              clear hD hcn hrs hS0
              by_cases h0 : S0 = 0
              · have HJ2 := Lib.hid (HJS.out i0 j0 sa sb HJ.out IA.out IB.out (HRS.out.trans h0))
                have hz : (S0 != 0) = false := by simp [h0]
                clear h0
                go_wp2
                go_roundg (LB - (j0 + 1))
                case measure => omega
                case rel => exact ⟨j0 + 1, by omega, rfl, by go_num, HJ2.out, HDD.out⟩
              · have hno := Lib.hid (HNO.out i0 j0 sa sb IA.out IB.out (by rw [HRS.out]; exact h0))
                have hz : (S0 != 0) = true := by simp [h0]
                have hs := Lib.hid (HS4.out.trans (HDD.out.since w.heap.size))
                clear h0
                go_wp2
                go_ret
                exact ⟨by rw [hno.out] <;> rfl, hs.out⟩
        · have hjl : j0 = LB := by omega
          subst hjl
          have HI2 := Lib.hid (HIS.out i0 HI.out hJ)
          have HDD := Lib.hid hD
          clear hJ hD HI
          go_wp2
          go_roundg (LA - (i0 + 1))
          case measure => omega
          case rel => exact ⟨i0 + 1, by omega, rfl, by go_num, HI2.out, HDD.out⟩
    · have hil : i0 = LA := by omega
      subst hil
      have hres := Lib.hid (HIA.out hI)
      have hs := Lib.hid (HS4.out.trans (hD.since w.heap.size))
      clear hI hD
      go_wp2
      go_ret
      exact ⟨by rw [hres.out] <;> rfl, hs.out⟩

end Go.Proofs.Ytbedkjpbdkgjpaa
