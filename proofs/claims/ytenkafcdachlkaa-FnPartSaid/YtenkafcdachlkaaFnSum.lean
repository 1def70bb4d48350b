/- The walk of laws.FnSum. -/
import Derived.Test.YtenkafcdachlkaaDraws2
import Derived.Test.YtenkafcdachlkaaBack3
import Derived.Test.YtenkafcdachlkaaAcross
namespace Go.Proofs.Ytenkafcdachlkaa
open Go.RowKit Go.Deep

theorem since_then {a b c : World} (h : a.Since a.heap.size b) (k : b.Since b.heap.size c) : a.Since a.heap.size c := h.trans (since_mono k h.size)

set_option maxRecDepth 100000 in
set_option maxHeartbeats 4000000 in
theorem fnSum (a : Option Addr) (cap n : Nat) (w : World) (hc : n ≤ cap) (h63 : cap ≤ 9223372036854775807) (hb : BytR w a n) :
    Calls Try.prog 4 #[.slice a n cap] w fun e w' => e = .returned (.bool true) ∧ w.Since w.heap.size w' := by
  by_cases hlen : 1048576 < n
  · have hl' : decide ((1048576 : Int) < (n : Int)) = true := by simp; omega
    clear hb
    go_enter Try.func4, Try.ntmps4
    go_wp2
    go_ret
    exact ⟨rfl, World.Since.refl _ _⟩
  · have hl' : decide ((1048576 : Int) < (n : Int)) = false := by simp; omega
    have ED := Lib.hid (drawSum_any a n cap w hc h63 hb)
    clear hb
    go_enter Try.func4, Try.ntmps4
    go_wp2_with fail
    refine (ED.out).mono ?_
    rintro e w1 ⟨a1, c1, l, a6, c6, u, rfl, hs1, ⟨h1, h5, hlens, hit⟩, ⟨g1, g5, glens, git⟩⟩
    have hsz : szL l ≤ 1048576 := szL_of h5 (fun j hj => (hlens j hj).2) (by decide)
    obtain ⟨nn, hn⟩ : ∃ nn, l.length = nn := ⟨_, rfl⟩
    rw [hn]
    have HN := Lib.hid hn
    have HSZ := Lib.hid hsz
    have HM := Lib.hid (fun (W : World) (h : w1.Since w1.heap.size W) => hit.matR.since h)
    have hszu : szL u ≤ 1048576 := szL_of g5 (fun j hj => (glens j hj).2) (by decide)
    obtain ⟨nu, hu⟩ : ∃ nu, u.length = nu := ⟨_, rfl⟩
    rw [hu]
    have HU := Lib.hid hu
    have HSZU := Lib.hid hszu
    have HMU := Lib.hid (fun (W : World) (h : w1.Since w1.heap.size W) => git.matR.since h)
    have HS1 := Lib.hid hs1
    obtain ⟨ok, hok⟩ : ∃ ok, sumOk l u = ok := ⟨_, rfl⟩
    obtain ⟨M, hM⟩ : ∃ M, resT ok (sumL l u) = M := ⟨_, rfl⟩
    have E1 := implTableSum_any a1 a6 c1 c6 nn nu l u w1 hn hu hsz hszu (hit.matR) (git.matR)
    have E2 := fun (W : World) (h : w1.Since w1.heap.size W) => specTableSum_any a1 a6 c1 c6 nn nu l u W hn hu hsz hszu (hit.matR.since h) (git.matR.since h)
    have hMsz : szL M ≤ 1048576 := by
      rw [← hM]
      cases hok' : ok with
      | false => simp [resT, szL, sumTo]
      | true => rw [hok'] at hok; exact szL_sumOk l u hok
    unfold ImplT at E1
    unfold SpecT at E2
    rw [hok, hM] at E1
    simp only [hok, hM] at E2
    obtain ⟨q, hq⟩ : ∃ q, M.length = q := ⟨_, rfl⟩
    rw [hq] at E1
    simp only [hq] at E2
    have hq63 : q ≤ 9223372036854775807 := by unfold szL at hMsz; omega
    replace E1 := Lib.hid E1
    replace E2 := Lib.hid E2
    have HQ := Lib.hid hq
    have HMS := Lib.hid hMsz
    have HOK := Lib.hid hok
    have HMM := Lib.hid hM
    clear hn hsz hit hs1 h1 h5 hlens hq hMsz hok hM hu hszu git g1 g5 glens
    go_wp2_with fail
    refine (E1.out).mono ?_
    rintro e w2 ⟨a2, c2, rfl, hs2, ho2⟩
    have HO := Lib.hid (fun (W : World) (h : w2.Since w2.heap.size W) => ho2.matR.since h)
    have HS2 := Lib.hid hs2
    clear ho2 hs2
    go_wp2_with fail
    refine (E2.out w2 HS2.out).mono ?_
    rintro e w3 ⟨a3, c3, rfl, hs3, hi3⟩
    have ES := Lib.hid (fun (W : World) (h : w3.Since w3.heap.size W) => sameRows_same a2 a3 c2 c3 q M W HQ.out hq63 (rows_le HMS.out) (HO.out W (hs3.trans (since_mono h hs3.size))) (hi3.matR.since h))
    have HS3 := Lib.hid hs3
    clear hi3 hs3
    go_wp2_with fail
    refine (ES.out w3 (World.Since.refl _ _)).mono ?_
    rintro e w4 ⟨rfl, hd4⟩
    have hs4 := hd4.since w3.heap.size
    have hs14 : w1.Since w1.heap.size w4 := (HS2.out.trans (since_mono HS3.out HS2.out.size)).trans (since_mono hs4 (by have := HS2.out.size; have := HS3.out.size; omega))
    have HS4 := Lib.hid hs14
    have hs24 : w2.Since w2.heap.size w4 := HS3.out.trans (since_mono hs4 HS3.out.size)
    have HS24 := Lib.hid hs24
    cases ok with
    | false =>
      clear hs14 hs24 hd4
      go_wp2_with fail
      refine (ES.out w4 hs4).mono ?_
      rintro e w5 ⟨rfl, hd5⟩
      have HS5 := Lib.hid (hd5.since w4.heap.size)
      clear hd5
      go_wp2
      go_ret
      exact ⟨rfl, HS1.out.trans (since_mono (HS4.out.trans (since_mono HS5.out HS4.out.size)) HS1.out.size)⟩
    | true =>
      have hMl : M = sumL l u := HMM.out.symm
      clear hs4 hd4
      obtain ⟨hT, hTu, hlu, hwu, hMT⟩ := sumOk_of HOK.out
      obtain ⟨m, hmm⟩ : ∃ m, (l.getD 0 []).length = m := ⟨_, rfl⟩
      have hmu : (u.getD 0 []).length = m := by rw [← hwu]; exact hmm
      obtain ⟨k1, k2⟩ := sum_comm HOK.out
      obtain ⟨k3, k4⟩ := sum_turn HOK.out
      rw [← hMl] at k2 k4 hMT
      have hbk : turnL (turnL M) = M := turnL_turnL hMT
      have htm : (turnL M).length = m := by rw [turnL_length, hMl, sumL_width u hT.1]; exact hmm
      have hwm : ((turnL M).getD 0 []).length = q := (turnL_width hMT).trans HQ.out
      have hqm : (M.getD 0 []).length = m := by rw [hMl, sumL_width u hT.1]; exact hmm
      have htl : (turnL l).length = m := (turnL_length l).trans hmm
      have htu : (turnL u).length = m := (turnL_length u).trans hmu
      have H1 := Lib.hid hT
      have H2 := Lib.hid hTu
      have H3 := Lib.hid hmm
      have H4 := Lib.hid hmu
      have H5 := Lib.hid k1
      have H6 := Lib.hid k2
      have H7 := Lib.hid k3
      have H8 := Lib.hid k4
      have H9 := Lib.hid hbk
      have HA := Lib.hid htm
      have HB := Lib.hid hwm
      have HC := Lib.hid htl
      have HD := Lib.hid htu
      have HE := Lib.hid hMT
      clear hT hTu hlu hwu hMT hmm hmu k1 k2 k3 k4 hbk htm hwm hqm htl htu hMl

      have E5 := implTableSum_any a6 a1 c6 c1 nu nn u l w4 HU.out HN.out HSZU.out HSZ.out (HMU.out w4 HS4.out) (HM.out w4 HS4.out)
      rw [H5.out, H6.out] at E5
      unfold ImplT at E5
      rw [show (resT true M).length = q from HQ.out] at E5
      replace E5 := Lib.hid E5
      go_wp2_with fail
      refine (E5.out).mono ?_
      rintro e w5 ⟨a5, c5, rfl, hs5, ho5⟩
      have HS5 := Lib.hid (HS4.out.trans (since_mono hs5 HS4.out.size))
      have HO5 := Lib.hid (fun (W : World) (h : w5.Since w5.heap.size W) => ho5.matR.since h)
      have HT5 := Lib.hid hs5
      clear hs5 ho5

      have E7 := across_any a1 c1 nn l w5 HN.out H1.out (HM.out w5 HS5.out)
      rw [H3.out] at E7
      replace E7 := Lib.hid E7
      go_wp2_with fail
      refine (E7.out).mono ?_
      rintro e w7 ⟨a7, c7, rfl, hs7, ho7⟩
      have HS7 := Lib.hid (HS5.out.trans (since_mono hs7 HS5.out.size))
      have HO7 := Lib.hid (fun (W : World) (h : w7.Since w7.heap.size W) => ho7.matR.since h)
      have HT7 := Lib.hid hs7
      clear hs7 ho7

      have E8 := across_any a6 c6 nu u w7 HU.out H2.out (HMU.out w7 HS7.out)
      rw [H4.out] at E8
      replace E8 := Lib.hid E8
      go_wp2_with fail
      refine (E8.out).mono ?_
      rintro e w8 ⟨a8, c8, rfl, hs8, ho8⟩
      have HS8 := Lib.hid (HS7.out.trans (since_mono hs8 HS7.out.size))
      have HO8 := Lib.hid (fun (W : World) (h : w8.Since w8.heap.size W) => ho8.matR.since h)
      have HT8 := Lib.hid hs8
      clear hs8 ho8

      have E9 := implTableSum_any a7 a8 c7 c8 m m (turnL l) (turnL u) w8 HC.out HD.out (szL_turn H1.out) (szL_turn H2.out) (HO7.out w8 HT8.out) (HO8.out w8 (World.Since.refl _ _))
      rw [H7.out, H8.out] at E9
      unfold ImplT at E9
      rw [show (resT true (turnL M)).length = m from HA.out] at E9
      replace E9 := Lib.hid E9
      go_wp2_with fail
      refine (E9.out).mono ?_
      rintro e w9 ⟨a9, c9, rfl, hs9, ho9⟩
      have HS9 := Lib.hid (HS8.out.trans (since_mono hs9 HS8.out.size))
      have HO9 := Lib.hid (fun (W : World) (h : w9.Since w9.heap.size W) => ho9.matR.since h)
      have HT9 := Lib.hid hs9
      clear hs9 ho9

      have E10 := Lib.hid (sameRows_same a5 a2 c5 c2 q M w9 HQ.out hq63 (rows_le HMS.out) (HO5.out w9 (since_then (since_then (HT7.out) HT8.out) HT9.out)) (HO.out w9 (since_then HS24.out (since_then (since_then (since_then (HT5.out) HT7.out) HT8.out) HT9.out))))
      go_wp2_with fail
      refine (E10.out).mono ?_
      rintro e w10 ⟨rfl, hd10⟩
      have HT10 := Lib.hid (hd10.since w9.heap.size)
      have HS10 := Lib.hid (HS9.out.trans (since_mono HT10.out HS9.out.size))
      clear hd10

      have E11 := across_any a9 c9 m (turnL M) w10 HA.out (turnL_tab HE.out) (HO9.out w10 HT10.out)
      rw [HB.out, H9.out] at E11
      replace E11 := Lib.hid E11
      go_wp2_with fail
      refine (E11.out).mono ?_
      rintro e w11 ⟨a11, c11, rfl, hs11, ho11⟩
      have HS11 := Lib.hid (HS10.out.trans (since_mono hs11 HS10.out.size))
      have HO11 := Lib.hid (fun (W : World) (h : w11.Since w11.heap.size W) => ho11.matR.since h)
      have HT11 := Lib.hid hs11
      clear hs11 ho11

      have E12 := Lib.hid (sameRows_same a11 a2 c11 c2 q M w11 HQ.out hq63 (rows_le HMS.out) (HO11.out w11 (World.Since.refl _ _)) (HO.out w11 (since_then HS24.out (since_then (since_then (since_then (since_then (since_then (HT5.out) HT7.out) HT8.out) HT9.out) HT10.out) HT11.out))))
      go_wp2_with fail
      refine (E12.out).mono ?_
      rintro e w12 ⟨rfl, hd12⟩
      have HT12 := Lib.hid (hd12.since w11.heap.size)
      have HS12 := Lib.hid (HS11.out.trans (since_mono HT12.out HS11.out.size))
      clear hd12
      go_wp2
      go_ret
      exact ⟨rfl, HS1.out.trans (since_mono HS12.out HS1.out.size)⟩

end Go.Proofs.Ytenkafcdachlkaa
