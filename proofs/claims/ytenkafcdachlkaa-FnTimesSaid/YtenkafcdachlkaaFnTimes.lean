/- The walk of laws.FnTimes. -/
import Derived.Test.YtenkafcdachlkaaDraws
import Derived.Test.YtenkafcdachlkaaBack2
namespace Go.Proofs.Ytenkafcdachlkaa
open Go.RowKit Go.Deep

set_option maxRecDepth 100000 in
set_option maxHeartbeats 4000000 in
theorem fnTimes (a : Option Addr) (cap n : Nat) (w : World) (hc : n ≤ cap) (h63 : cap ≤ 9223372036854775807) (hb : BytR w a n) :
    Calls Try.prog 5 #[.slice a n cap] w fun e w' => e = .returned (.bool true) ∧ w.Since w.heap.size w' := by
  by_cases hlen : 1048576 < n
  · have hl' : decide ((1048576 : Int) < (n : Int)) = true := by simp; omega
    clear hb
    go_enter Try.func5, Try.ntmps5
    go_wp2
    go_ret
    exact ⟨rfl, World.Since.refl _ _⟩
  · have hl' : decide ((1048576 : Int) < (n : Int)) = false := by simp; omega
    have ED := Lib.hid (drawTimes_any a n cap w hc h63 hb)
    clear hb
    go_enter Try.func5, Try.ntmps5
    go_wp2_with fail
    refine (ED.out).mono ?_
    rintro e w1 ⟨a1, c1, l, z, rfl, hs1, h1, h5, hlens, hit⟩
    have hsz : szL l ≤ 1048576 := szL_of h5 (fun j hj => (hlens j hj).2) (by decide)
    obtain ⟨nn, hn⟩ : ∃ nn, l.length = nn := ⟨_, rfl⟩
    rw [hn]
    have HN := Lib.hid hn
    have HSZ := Lib.hid hsz
    have HM := Lib.hid (fun (W : World) (h : w1.Since w1.heap.size W) => hit.matR.since h)
    have HS1 := Lib.hid hs1
    obtain ⟨ok, hok⟩ : ∃ ok, timesOk l z = ok := ⟨_, rfl⟩
    obtain ⟨M, hM⟩ : ∃ M, resT ok (timesL l z) = M := ⟨_, rfl⟩
    have E1 := implTableTimes_any a1 c1 nn l z w1 hn hsz (hit.matR)
    have E2 := fun (W : World) (h : w1.Since w1.heap.size W) => specTableTimes_any a1 c1 nn l z W hn hsz (hit.matR.since h)
    have hMsz : szL M ≤ 1048576 := by
      rw [← hM]
      cases hok' : ok with
      | false => simp [resT, szL, sumTo]
      | true => rw [hok'] at hok; exact szL_timesOk l z hok
    unfold ImplT at E1
    unfold SpecT at E2
    rw [hok, hM] at E1
    simp only [hok, hM] at E2
    obtain ⟨q, hq⟩ : ∃ q, M.length = q := ⟨_, rfl⟩
    rw [hq] at E1
    simp only [hq] at E2
    have hq63 : q ≤ 9223372036854775807 := by unfold szL at hMsz; omega
    replace E1 := Lib.hid E1
    replace E2 := Lib.hid E2
    have HQ := Lib.hid hq
    have HMS := Lib.hid hMsz
    have HOK := Lib.hid hok
    have HMM := Lib.hid hM
    clear hn hsz hit hs1 h1 h5 hlens hq hMsz hok hM
    go_wp2_with fail
    refine (E1.out).mono ?_
    rintro e w2 ⟨a2, c2, rfl, hs2, ho2⟩
    have HO := Lib.hid (fun (W : World) (h : w2.Since w2.heap.size W) => ho2.matR.since h)
    have HS2 := Lib.hid hs2
    clear ho2 hs2
    go_wp2_with fail
    refine (E2.out w2 HS2.out).mono ?_
    rintro e w3 ⟨a3, c3, rfl, hs3, hi3⟩
    have ES := Lib.hid (fun (W : World) (h : w3.Since w3.heap.size W) => sameRows_same a2 a3 c2 c3 q M W HQ.out hq63 (rows_le HMS.out) (HO.out W (hs3.trans (since_mono h hs3.size))) (hi3.matR.since h))
    have HS3 := Lib.hid hs3
    clear hi3 hs3
    go_wp2_with fail
    refine (ES.out w3 (World.Since.refl _ _)).mono ?_
    rintro e w4 ⟨rfl, hd4⟩
    have hs4 := hd4.since w3.heap.size
    have hs14 : w1.Since w1.heap.size w4 := (HS2.out.trans (since_mono HS3.out HS2.out.size)).trans (since_mono hs4 (by have := HS2.out.size; have := HS3.out.size; omega))
    have HS4 := Lib.hid hs14
    have hs24 : w2.Since w2.heap.size w4 := HS3.out.trans (since_mono hs4 HS3.out.size)
    have HS24 := Lib.hid hs24
    cases ok with
    | false =>
      clear hs14 hs24 hd4
      go_wp2_with fail
      refine (ES.out w4 hs4).mono ?_
      rintro e w5 ⟨rfl, hd5⟩
      have HS5 := Lib.hid (hd5.since w4.heap.size)
      clear hd5
      go_wp2
      go_ret
      exact ⟨rfl, HS1.out.trans (since_mono (HS4.out.trans (since_mono HS5.out HS4.out.size)) HS1.out.size)⟩
    | true =>
      have hMl : M = timesL l z := HMM.out.symm
      clear hs4 hd4
      obtain ⟨hT, hzb, hMT⟩ := timesOk_of HOK.out
      rw [← hMl] at hMT
      have hqn : q = nn := by rw [← HQ.out, hMl, timesL_length]; exact HN.out
      have HMLEN := Lib.hid hqn
      clear hqn
      by_cases hz : z ≤ 0
      · have hz' : decide (z ≤ 0) = true := by simpa using hz
        obtain ⟨m, hmm⟩ : ∃ m, (l.getD 0 []).length = m := ⟨_, rfl⟩
        have hmM : (M.getD 0 []).length = m := by rw [hMl, timesL_width _ hT.1]; exact hmm
        obtain ⟨bt, ot, At, Ct, rfl, hlen1, hcell⟩ := (HM.out w4 hs14).grid HN.out hT hmm
        obtain ⟨bu, ou, Au, Cu, rfl, hlen2, hcellu⟩ := (HO.out w4 hs24).grid HQ.out hMT hmM
        have hw := hT.sides
        rw [hmm, HN.out] at hw
        have hat : ∀ i k, i < nn → k < m → at2 M i k = at2 l i k * z := fun i k hi hk => by rw [hMl]; exact timesL_at (by rw [HN.out]; exact hi) (by rw [hmm]; exact hk)
        have HC := Lib.hid hcell
        have HCU := Lib.hid hcellu
        have HL2 := Lib.hid hlen2
        have HAT := Lib.hid hat
        have HS := Lib.hid hs14
        have hqn := HMLEN.out
        subst hqn
        clear hs14 hs24 hT hMT hMl hmm hmM hlen1 hcell hlen2 hcellu hat HMLEN
        go_wp2
        go_loopg [9, 10] q (fun g i _ wr => ∃ r : Nat, r ≤ q ∧ g = q - r ∧ i = .int .i64 r ∧ Drawn w4 wr)
        case atStart => exact ⟨0, Nat.zero_le _, rfl, rfl, Drawn.refl _⟩
        case round =>
          obtain ⟨r, hr, rfl, rfl, hD⟩ := hrel
          by_cases hlt : r < q
          · obtain ⟨wo, hwo⟩ : ∃ wo : World, wo = wr := ⟨_, rfl⟩
            go_wp2
            subst hwo
            go_loopg [10] m (fun g j wi => ∃ c : Nat, c ≤ m ∧ g = m - c ∧ j = .int .i64 c ∧ Drawn w4 wi)
            case atStart => exact ⟨0, Nat.zero_le _, rfl, rfl, hD⟩
            case round =>
              obtain ⟨c, hc', rfl, rfl, hDI⟩ := hrel
              clear hD
              have hlr := HL2.out r hlt
              rw [← hDI.cell] at hlr
              by_cases hcm : c < m
              · clear hlr
                obtain ⟨b', o', e1, e2, e3, e4⟩ := HC.out r c hlt hcm
                obtain ⟨d', q', g1, g2, _, _⟩ := HCU.out r c hlt hcm
                rw [HAT.out r c hlt hcm] at g2
                rw [← hDI.cell] at e1 e2 g1 g2
                obtain ⟨y, hy⟩ : ∃ y, at2 l r c = y := ⟨_, rfl⟩
                rw [hy] at e2 e3 e4 g2
                have hp := mul_bd hzb.1 hzb.2 e3 e4
                have hwr : IntKind.i64.wrap (z * y) = z * y := IntWalk.i64_in _ ⟨by omega, by omega⟩
                rw [Int.mul_comm] at g2
                clear hy
                go_wp2
                go_quiet (fail)
                go_wp2
                go_roundg (m - (c + 1))
                case measure => omega
                case rel => exact ⟨c + 1, by omega, rfl, by go_num, hDI.trans (Drawn.mk _ _)⟩
              · have : c = m := by omega
                subst this
                go_wp2
                go_roundg (q - (r + 1))
                case measure => omega
                case rel => exact ⟨r + 1, by omega, rfl, by go_num, hDI⟩
          · have HD := Lib.hid (hD.since w4.heap.size)
            go_wp2
            go_ret
            exact ⟨rfl, HS1.out.trans (since_mono (HS.out.trans (since_mono HD.out HS.out.size)) HS1.out.size)⟩
      · have hz' : decide (z ≤ 0) = false := by simpa using hz
        have hw1 : IntKind.i64.wrap (z - 1) = z - 1 := IntWalk.i64_in _ ⟨by omega, by omega⟩
        obtain ⟨k1, k2, k3⟩ := times_less HOK.out (by omega)
        have hln : (timesL l (z - 1)).length = nn := (timesL_length _ _).trans HN.out
        have hls := szL_timesOk l (z - 1) k1
        have E5 := implTableTimes_any a1 c1 nn l (z - 1) w4 HN.out HSZ.out (HM.out w4 hs14)
        rw [k1] at E5
        unfold ImplT at E5
        rw [show (resT true (timesL l (z - 1))).length = nn from hln] at E5
        replace E5 := Lib.hid E5
        go_wp2_with fail
        refine (E5.out).mono ?_
        rintro e w5 ⟨a5, c5, rfl, hs5, ho5⟩
        have HS5 := Lib.hid (HS4.out.trans (since_mono hs5 HS4.out.size))
        have HO5 := Lib.hid (fun (W : World) (h : w5.Since w5.heap.size W) => ho5.matR.since h)
        have HT5 := Lib.hid hs5
        clear hs5 ho5
        obtain ⟨L, hL⟩ : ∃ L, timesL l (z - 1) = L := ⟨_, rfl⟩
        rw [hL] at k2 k3 hln hls
        have hHO : ∀ (W : World), w5.Since w5.heap.size W → MatR W a5 L := fun W h => by rw [← hL]; exact HO5.out W h
        have E6 := implTableSum_any a5 a1 c5 c1 nn nn L l w5 hln HN.out hls HSZ.out (hHO w5 (World.Since.refl _ _)) (HM.out w5 HS5.out)
        rw [k2, k3, ← hMl] at E6
        unfold ImplT at E6
        rw [show (resT true M).length = q from HQ.out] at E6
        replace E6 := Lib.hid E6
        go_wp2_with fail
        refine (E6.out).mono ?_
        rintro e w6 ⟨a6, c6, rfl, hs6, ho6⟩
        have HS6 := Lib.hid (HS5.out.trans (since_mono hs6 HS5.out.size))
        have HO6 := Lib.hid (fun (W : World) (h : w6.Since w6.heap.size W) => ho6.matR.since h)
        have HT6 := Lib.hid hs6
        clear hs6 ho6
        have EL := Lib.hid (sameRows_same a6 a2 c6 c2 q M w6 HQ.out hq63 (rows_le HMS.out) (HO6.out w6 (World.Since.refl _ _)) (HO.out w6 (HS24.out.trans (since_mono (HT5.out.trans (since_mono HT6.out HT5.out.size)) HS24.out.size))))
        go_wp2_with fail
        refine (EL.out).mono ?_
        rintro e w7 ⟨rfl, hd7⟩
        have HS7 := Lib.hid (HS6.out.trans (since_mono (hd7.since w6.heap.size) HS6.out.size))
        clear hd7
        go_wp2
        go_ret
        exact ⟨rfl, HS1.out.trans (since_mono HS7.out HS1.out.size)⟩

end Go.Proofs.Ytenkafcdachlkaa
