/- The contract of spec.ValueCondense. -/
import Derived.Test.YtikjeaoapeaabaaCondP
import Derived.Test.YtikjeaoapeaabaaCopy
import Derived.Test.YtikjeaoapeaabaaOtherV
import Derived.StillTailTactics
namespace Go.Proofs.Ytikjeaoapeaabaa
open Go.RowKit Go.Deep

set_option maxRecDepth 100000 in
set_option maxHeartbeats 8000000 in
theorem specValueCondense_yes (a : Option Addr) (cap n : Nat) (l : List (List Int)) (w : World) (hn : l.length = n) (hsz : szL l ≤ 1048576) (hs : sqB l = true) (hm : MatR w a l) :
    Calls Try.prog 22 #[.slice a n cap] w (SpecW w (conB n (at2 l)) (dt n (at2 l))) := by
  have E := l2Square_any a cap n l w hn hsz hm
  rw [hs] at E
  replace E := Lib.hid E
  obtain ⟨hT, hw⟩ := sqB_of hs
  have h6 := hT.2.1
  have h1 := hT.1
  rw [hn] at h6 h1 hw
  have hA : ∀ i j, i < n → j < n → -30 ≤ at2 l i j ∧ at2 l i j ≤ 30 := fun i j hi hj => hT.at (by omega) (by omega)
  have hrow : ∀ r, r < n → (l.getD r []).length = n := fun r hr => by rw [hT.row (by omega), ← hw]
  have E1 := Lib.hid (fun (W : World) (hd : w.Since w.heap.size W) => l1Copy_top a cap n l W hn hT (hm.since hd))
  have HGR := Lib.hid (fun (W : World) (a' : Option Addr) (h : MatR W a' l) => GR.of_mat (f := cn (at2 l) 1) h hn h1 hrow (fun i j _ _ => (cn_one (at2 l) i j).symm))
  obtain ⟨F, hFF⟩ : ∃ F, F = at2 l := ⟨_, rfl⟩
  rw [← hFF] at hA HGR ⊢
  have HA := Lib.hid hA
  obtain ⟨i42, hi42⟩ := info42_parts
  obtain ⟨i3, hi3⟩ := info3_parts
  have HI := Lib.hid hi42
  have HJ := Lib.hid hi3
  have hmix : Try.prog.follows .mixedOrders = true := by kernel_rfl
  clear hi42 hi3 hA hrow hm hT hw hn hs hsz hFF
  go_enter Try.func22, Try.ntmps22
  go_wp2_with fail
  refine (E.out).mono ?_
  rintro e w1 ⟨rfl, hd⟩
  have HD := Lib.hid (hd.since w.heap.size)
  clear hd
  go_wp2_with fail
  refine (E1.out _ ?_).mono ?_
  · exact HD.out.alloc HD.out.size _
  rintro e w2 ⟨a2, c2, rfl, hs2, ho2, _⟩
  have HG2 := Lib.hid (HGR.out _ _ ho2.matR)
  have hz1 := HD.out.size
  have HS2 := Lib.hid ((HD.out.alloc HD.out.size _).trans (since_mono hs2 (by simp; omega)))
  clear hs2 ho2
  go_wp2
  go_loopg [4, 5, 6, 7, 8, 9, 10] n (fun g ah nw _ _ _ _ _ wr => ∃ (d q ca c' : Nat) (aa an : Option Addr), d < n ∧ g = n - d ∧ ah = .slice aa q ca ∧ nw = .slice an (n - d) c' ∧ ((d = 0 ∧ q = 0) ∨ (0 < d ∧ q = n - d + 1)) ∧ GR wr an (n - d) (cn F (d + 1)) ∧ (0 < d → GR wr aa (n - d + 1) (cn F d)) ∧ ConTo n F d ∧ w.Since w.heap.size wr)
  case atStart => exact ⟨0, 0, _, _, _, _, by omega, rfl, rfl, rfl, .inl ⟨rfl, rfl⟩, HG2.out, fun h => absurd h (by omega), ConTo.start n F, HS2.out⟩
  case round =>
    obtain ⟨d, q, ca, c', aa, an, hd, rfl, rfl, rfl, hq, hN, hP, hC, hS⟩ := hrel
    clear HG2 HS2
    have HN := Lib.hid hN
    have HP := Lib.hid hP
    have HC := Lib.hid hC
    have HS := Lib.hid hS
    have HQ := Lib.hid hq
    clear hN hP hC hS hq
    obtain ⟨m, hm⟩ : ∃ m, n - d = m := ⟨_, rfl⟩
    have HM := Lib.hid hm
    rw [hm]
    rw [hm] at HN HP HQ
    by_cases hgt : 1 < m
    · have hm' := hm
      clear hm
      have hgt' : decide ((1 : Int) < (m : Int)) = true := by simp; omega
      obtain ⟨wo, hwo⟩ : ∃ wo : World, wo = wr := ⟨_, rfl⟩
      have hst := Lib.hid (bt_start wr (fun _ => none) (fun _ => 0) #[] rfl)
      go_wp2
      subst hwo
      go_loopg [6, 7, 8, 9, 10] m (fun g v i _ _ _ wk => ∃ (r p : Nat) (A : Nat → Option Addr) (C : Nat → Nat), r + 1 ≤ m ∧ g = m - r ∧ i = .int .i64 p ∧ p = r + 1 ∧ BT wo wk v (condT (cn F (d + 2)) (m - 1) r) A C ∧ ∀ i k, i < r → k + 1 < m → cn F d (i + 1) (k + 1) ≠ 0)
      case atStart => exact ⟨0, 1, _, _, by omega, rfl, rfl, rfl, hst.out, fun i k hi => absurd hi (Nat.not_lt_zero _)⟩
      case round =>
        obtain ⟨r, p, A, C, hr, rfl, rfl, hp, hR, hZ⟩ := hrel
        clear hst
        have HR := Lib.hid hR
        have HZ := Lib.hid hZ
        have HPR := Lib.hid hp
        have hlen := condT_length (cn F (d + 2)) (m - 1) r
        have hsz := hR.since.size
        clear hR hZ
        by_cases hlt : p < m
        · obtain ⟨wi, hwi⟩ : ∃ wi : World, wi = wr := ⟨_, rfl⟩
          have HRB := Lib.hid (rb_start wr #[] rfl)
          have hwp : IntKind.i64.wrap ((p : Int) - 1) = (r : Int) := (IntWalk.i64_in _ ⟨by omega, by omega⟩).trans (by omega)
          have hrm : r < m := by omega
          clear hp
          go_wp2
          subst hwi
          go_loopg [8, 9, 10] m (fun g v kk _ wj => ∃ j k : Nat, j + 1 ≤ m ∧ g = m - j ∧ kk = .int .i64 k ∧ k = j + 1 ∧ RB wi wj v (condR (cn F (d + 2)) r j) ∧ ∀ k, k < j → cn F d (r + 1) (k + 1) ≠ 0)
          case atStart => exact ⟨0, 1, by omega, rfl, rfl, rfl, HRB.out, fun k hk => absurd hk (Nat.not_lt_zero _)⟩
          case round =>
            obtain ⟨j, k, hj, rfl, rfl, hk, hI, hY⟩ := hrel
            clear HRB
            have HII := Lib.hid hI
            have HY := Lib.hid hY
            have HK := Lib.hid hk
            have hle := condR_length (cn F (d + 2)) r j
            have hzi := hI.since.size
            clear hI hY
            by_cases hjn : k < m
            · have hwk : IntKind.i64.wrap ((k : Int) - 1) = (j : Int) := (IntWalk.i64_in _ ⟨by omega, by omega⟩).trans (by omega)
              have hjm : j < m := by omega
              have hso : wo.Since wo.heap.size wr := HR.out.since.trans (since_mono HII.out.since hsz)
              have HSO := Lib.hid hso
              obtain ⟨bn, on, An, Cn, ean, gtop, gcell⟩ := HN.out.since hso
              obtain ⟨b1, o1, t1, c1⟩ := gcell r j hrm hjm
              obtain ⟨b2, o2, t2, c2⟩ := gcell p k hlt hjn
              obtain ⟨b3, o3, t3, c3⟩ := gcell r k hrm hjn
              obtain ⟨b4, o4, t4, c4⟩ := gcell p j hlt hjm
              have e13 := t1.symm.trans t3
              have e24 := t2.symm.trans t4
              simp only [Option.some.injEq, Value.slice.injEq, Addr.mk.injEq, and_true] at e13 e24
              obtain ⟨rfl, rfl⟩ := e13
              obtain ⟨rfl, rfl⟩ := e24
              have hnum := fun (h : cn F d (r + 1) (j + 1) ≠ 0) => cn_num h6 HA.out (d := d) (i := r) (k := j) (by have := HM.out; have := HPR.out; omega) (by have := HM.out; omega) h
              rw [← HPR.out, ← hk] at hnum
              have hcz := fun (h : cn F d (r + 1) (j + 1) = 0) => conB_false (n := n) (F := F) (d := d) (i := r) (k := j) (by have := HM.out; have := HPR.out; omega) (by have := HM.out; omega) h
              rw [← HPR.out, ← hk] at hcz
              obtain ⟨y1, h1'⟩ : ∃ y, cn F (d + 1) r j = y := ⟨_, rfl⟩
              obtain ⟨y2, h2'⟩ : ∃ y, cn F (d + 1) p k = y := ⟨_, rfl⟩
              obtain ⟨y3, h3'⟩ : ∃ y, cn F (d + 1) r k = y := ⟨_, rfl⟩
              obtain ⟨y4, h4'⟩ : ∃ y, cn F (d + 1) p j = y := ⟨_, rfl⟩
              obtain ⟨z, hz'⟩ : ∃ z, cn F (d + 2) r j = z := ⟨_, rfl⟩
              obtain ⟨v, hv'⟩ : ∃ v, cn F d p k = v := ⟨_, rfl⟩
              have HZV := Lib.hid hz'
              rw [h1'] at c1
              rw [h2'] at c2
              rw [h3'] at c3
              rw [h4'] at c4
              rw [h1', h2', h3', h4', hz', hv'] at hnum
              rw [hv'] at hcz
              have HNUM := Lib.hid hnum
              have HCZ := Lib.hid hcz
              have HV := Lib.hid hv'
              have hrk : r + 1 = p := HPR.out.symm
              have hjk : j + 1 = k := hk.symm
              have HNE0 := Lib.hid (fun (h : v ≠ 0) => show cn F d (r + 1) (j + 1) ≠ 0 by rw [hrk, hjk, hv']; exact h)
              have hd1 : d = 0 → v = 1 := fun h => by subst h; rw [← hv']; rfl
              subst ean
              clear hnum hcz h1' h2' h3' h4' hz' gtop gcell hso hk
              by_cases hd0 : d = 0
              · have hv1 := hd1 hd0
                subst hv1
                obtain ⟨w1', w2', w3', w4', w5'⟩ := HNUM.out (by omega)
                rw [Int.one_mul] at w3'
                have HNE := Lib.hid (HNE0.out (by omega))
                have hq0 : q = 0 := by rcases HQ.out with ⟨_, h⟩ | ⟨h, _⟩ <;> omega
                have HQ2 := HQ
                clear HQ
                subst hq0
                have HII2 := Lib.hid (HII.out.drewN 1)
                clear w5' hd1 hv'
                go_wp2
                go_still_tail 35, hmix
                go_wp2_with (at_builtin; (refine wpList_append_own _ rfl _ _ 33 rfl wi.heap.size 3 i3 (.int .i64 0) 1 8 Try.underlying33 HJ.out.1 HJ.out.2.1 HJ.out.2.2.1 HJ.out.2.2.2 rfl (by decide) _ _ _ rfl (HII2.out.own.alloc _) ⟨wr.heap.size, 0, none⟩ 1 1 [.int .i64 z] rfl rfl (cell_one_at _ _ _ rfl) (fun x hx => by simp at hx; subst hx; rfl) (by unfold maxLen; omega) (by omega) (by simp; omega) ?_); intro v' w5 hown' hgrow _)
                have hP := HII2.out.push hown' hgrow
                rw [← HZV.out, ← condR_succ] at hP
                have HP2 := Lib.hid hP
                clear hP hown' hgrow
                go_roundg (m - (j + 1))
                case measure => omega
                case rel => exact ⟨j + 1, k + 1, by omega, rfl, by go_num, by rw [HK.out], HP2.out, fun k' hk' => by
                  by_cases e : k' = j
                  · rw [e]; exact HNE.out
                  · exact HY.out k' (by omega)⟩
              · obtain ⟨hd0', hqm⟩ : 0 < d ∧ q = m + 1 := by rcases HQ.out with ⟨h, _⟩ | h <;> omega
                subst hqm
                have hq1 : 0 < m + 1 := by omega
                obtain ⟨ba, oa, Aa, Ca, eaa, ptop, pcell⟩ := (HP.out hd0').since HSO.out
                obtain ⟨b5, o5, t5, c5⟩ := pcell p k (by omega) (by omega)
                rw [hv'] at c5
                subst eaa
                have HII2 := Lib.hid (HII.out.drewN 1)
                clear ptop pcell hv' HQ
                by_cases hv0 : v = 0
                · have hcb := Lib.hid (HCZ.out hv0)
                  subst hv0
                  clear hd1 HII2 HNUM HNE0
                  go_wp2
                  go_still_tail 35, hmix
                  go_wp2
                  go_ret2
                  exact ⟨by rw [hcb.out]; rfl, HS.out.trans (since_mono (since_drewN HSO.out 1) HS.out.size)⟩
                · obtain ⟨w1', w2', w3', w4', w5'⟩ := HNUM.out hv0
                  have HNE := Lib.hid (HNE0.out hv0)
                  have hvb : (v == 0) = false := by simpa using hv0
                  clear hd1
                  go_wp2
                  go_still_tail 35, hmix
                  go_wp2_with (at_builtin; (refine wpList_append_own _ rfl _ _ 33 rfl wi.heap.size 3 i3 (.int .i64 0) 1 8 Try.underlying33 HJ.out.1 HJ.out.2.1 HJ.out.2.2.1 HJ.out.2.2.2 rfl (by decide) _ _ _ rfl (HII2.out.own.alloc _) ⟨wr.heap.size, 0, none⟩ 1 1 [.int .i64 z] rfl rfl (cell_one_at _ _ _ rfl) (fun x hx => by simp at hx; subst hx; rfl) (by unfold maxLen; omega) (by omega) (by simp; omega) ?_); intro v' w5 hown' hgrow _)
                  have hP := HII2.out.push hown' hgrow
                  rw [← HZV.out, ← condR_succ] at hP
                  have HP2 := Lib.hid hP
                  clear hP hown' hgrow
                  go_roundg (m - (j + 1))
                  case measure => omega
                  case rel => exact ⟨j + 1, k + 1, by omega, rfl, by go_num, by rw [HK.out], HP2.out, fun k' hk' => by
                    by_cases e : k' = j
                    · rw [e]; exact HNE.out
                    · exact HY.out k' (by omega)⟩
            · have hjm : j = m - 1 := by omega
              subst hjm
              obtain ⟨ra, rcp, hv, hrow⟩ := HII.out.slice
              rw [condR_length] at hv
              subst hv
              have HROW := Lib.hid hrow
              have HBT := Lib.hid (HR.out.later HII.out.since)
              obtain ⟨m1, hm1⟩ : ∃ x, m - 1 = x := ⟨_, rfl⟩
              have hm1' : m1 ≤ 5 := by omega
              have hkm : k = m := by omega
              clear hrow hk
              rw [hm1]
              rw [hm1] at hle hlen
              simp only [hm1] at HROW HY HBT HII HR
              go_wp2_with (at_builtin; (refine wpList_append_own _ rfl _ _ 22 rfl wo.heap.size 33 i42 (.slice none 0 0) 1 24 Try.underlying22 HI.out.1 HI.out.2.1 HI.out.2.2.1 HI.out.2.2.2 rfl (by decide) _ _ _ rfl (HBT.out.own.alloc _) ⟨wr.heap.size, 0, none⟩ 1 1 [.slice ra m1 rcp] rfl rfl (cell_one_at _ _ _ rfl) (fun x hx => by simp at hx; subst hx; rfl) (by unfold maxLen; omega) (by omega) (by simp; omega) ?_); intro v' w5 hown' hgrow _)
              have hP := HBT.out.push (rv := .slice ra m1 rcp) (x := condR (cn F (d + 2)) r m1) (a := ra) (cp := rcp) (by rw [condR_length]) (fun h => by obtain ⟨G, e, h2, h3⟩ := HROW.out h; exact ⟨G, e, by omega, h3⟩) (fun h => by obtain ⟨G, e, h2, _⟩ := HROW.out h; exact HR.out.fresh e h2) hown' hgrow
              rw [← condT_succ] at hP
              have HP2 := Lib.hid hP
              clear hP hown' hgrow hle hlen
              go_roundg (m - (r + 1))
              case measure => omega
              case rel => exact ⟨r + 1, p + 1, _, _, by have := HPR.out; omega, rfl, by go_num, by rw [HPR.out], by rw [hm1]; exact HP2.out, fun i k' hi hk' => by
                by_cases e : i = r
                · rw [e]; exact HY.out k' (by omega)
                · exact HZ.out i k' (by omega) hk'⟩
        · have hrm : r = m - 1 := by omega
          subst hrm
          obtain ⟨ra, rcp, hv, hin⟩ := HR.out.slice
          rw [condT_length] at hv
          rw [condT_all] at hin
          subst hv
          have hG := Lib.hid (GR.of_tab hin.matR (by omega))
          have hS3 := Lib.hid (HS.out.trans (since_mono HR.out.since HS.out.size))
          have hN3 := Lib.hid (HN.out.since HR.out.since)
          have hpm : p = m := by omega
          obtain ⟨m1, hm1⟩ : ∃ x, m - 1 = x := ⟨_, rfl⟩
          have hC3 := Lib.hid (HC.out.next (fun i k hi hk => HZ.out i k (by have := HM.out; omega) (by have := HM.out; omega)))
          rw [hm1] at hG ⊢
          clear hin hp HR
          go_wp2
          go_roundg (n - (d + 1))
          case measure => omega
          case rel =>
            have e1 : n - (d + 1) = m1 := by omega
            exact ⟨d + 1, m, _, rcp, _, ra, by omega, rfl, rfl, by rw [e1], .inr ⟨by omega, by omega⟩, by rw [e1]; exact hG.out, fun _ => by rw [e1, show m1 + 1 = m by omega]; exact hN3.out, hC3.out, hS3.out⟩
    · have hm1 : m = 1 := by omega
      have hdn : d + 1 = n := by omega
      obtain ⟨bn, on, An, Cn, ean, gtop, gcell⟩ := HN.out
      obtain ⟨b1, o1, t1, c1⟩ := gcell 0 0 (by omega) (by omega)
      rw [hdn, cn_all] at c1
      rw [Nat.add_zero] at t1 c1
      have hcb := Lib.hid (conB_true (HC.out.all (by omega)))
      obtain ⟨x, hx⟩ : ∃ x, dt n F = x := ⟨_, rfl⟩
      rw [hx] at c1
      have HX := Lib.hid hx
      subst ean
      have hgt' : decide ((1 : Int) < (m : Int)) = false := by simp; omega
      clear gtop gcell hm hx
      subst hm1
      go_wp2
      go_ret2
      exact ⟨by rw [hcb.out, HX.out]; rfl, HS.out⟩

set_option maxHeartbeats 1000000 in
theorem specValueCondense_any (a : Option Addr) (cap n : Nat) (l : List (List Int)) (w : World) (hn : l.length = n) (hsz : szL l ≤ 1048576) (hm : MatR w a l) :
    Calls Try.prog 22 #[.slice a n cap] w (SpecW w (conOk l n) (conV l n)) := by
  unfold conOk conV
  cases hs : sqB l with
  | true =>
    have E := specValueCondense_yes a cap n l w hn hsz hs hm
    rw [Bool.true_and]
    exact E
  | false =>
    have E := l2Square_any a cap n l w hn hsz hm
    rw [hs] at E
    rw [Bool.false_and]
    replace E := Lib.hid E
    clear hs hm hn hsz
    go_enter Try.func22, Try.ntmps22
    go_wp2_with fail
    refine (E.out).mono ?_
    rintro e w1 ⟨rfl, hd⟩
    have HD := Lib.hid (hd.since w.heap.size)
    clear hd
    go_wp2
    go_ret2
    exact ⟨rfl, HD.out⟩

end Go.Proofs.Ytikjeaoapeaabaa
