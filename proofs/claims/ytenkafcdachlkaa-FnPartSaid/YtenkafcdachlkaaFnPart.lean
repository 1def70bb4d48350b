/- The walk of laws.FnPart. -/
import Derived.Test.YtenkafcdachlkaaFnSum
import Derived.Test.YtenkafcdachlkaaBack5
import Derived.Test.YtenkafcdachlkaaDraws3
import Derived.Test.YtenkafcdachlkaaPartSpec
namespace Go.Proofs.Ytenkafcdachlkaa
open Go.RowKit Go.Deep

set_option maxRecDepth 100000 in
set_option maxHeartbeats 4000000 in
theorem fnPart (a : Option Addr) (cap n : Nat) (w : World) (hc : n ≤ cap) (h63 : cap ≤ 9223372036854775807) (hb : BytR w a n) :
    Calls Try.prog 8 #[.slice a n cap] w fun e w' => e = .returned (.bool true) ∧ w.Since w.heap.size w' := by
  by_cases hlen : 1048576 < n
  · have hl' : decide ((1048576 : Int) < (n : Int)) = true := by simp; omega
    clear hb
    go_enter Try.func8, Try.ntmps8
    go_wp2
    go_ret
    exact ⟨rfl, World.Since.refl _ _⟩
  · have hl' : decide ((1048576 : Int) < (n : Int)) = false := by simp; omega
    have ED := Lib.hid (drawPart_any a n cap w hc h63 hb)
    clear hb
    go_enter Try.func8, Try.ntmps8
    go_wp2_with fail
    refine (ED.out).mono ?_
    rintro e w1 ⟨a1, c1, l, x, y, rfl, hs1, h1, h5, hlens, hit⟩
    have hsz : szL l ≤ 1048576 := szL_of h5 (fun j hj => (hlens j hj).2) (by decide)
    obtain ⟨nn, hn⟩ : ∃ nn, l.length = nn := ⟨_, rfl⟩
    rw [hn]
    have HN := Lib.hid hn
    have HSZ := Lib.hid hsz
    have HM := Lib.hid (fun (W : World) (h : w1.Since w1.heap.size W) => hit.matR.since h)
    have HS1 := Lib.hid hs1
    obtain ⟨ok, hok⟩ : ∃ ok, partOk l x y = ok := ⟨_, rfl⟩
    obtain ⟨M, hM⟩ : ∃ M, resT ok (partL l x.toNat y.toNat) = M := ⟨_, rfl⟩
    have E1 := implTablePart_any a1 c1 nn l x y w1 hn hsz (hit.matR)
    have E2 := fun (W : World) (h : w1.Since w1.heap.size W) => specTablePart_any a1 c1 nn l x y W hn hsz (hit.matR.since h)
    have hMsz : szL M ≤ 1048576 := by
      rw [← hM]
      cases hok' : ok with
      | false => simp [resT, szL, sumTo]
      | true => rw [hok'] at hok; exact szL_partOk l x y hok
    unfold ImplT at E1
    unfold SpecT at E2
    rw [hok, hM] at E1
    simp only [hok, hM] at E2
    obtain ⟨q, hq⟩ : ∃ q, M.length = q := ⟨_, rfl⟩
    rw [hq] at E1
    simp only [hq] at E2
    have hq63 : q ≤ 9223372036854775807 := by unfold szL at hMsz; omega
    replace E1 := Lib.hid E1
    replace E2 := Lib.hid E2
    have HQ := Lib.hid hq
    have HMS := Lib.hid hMsz
    have HOK := Lib.hid hok
    have HMM := Lib.hid hM
    clear hn hsz hit hs1 h1 h5 hlens hq hMsz hok hM
    go_wp2_with fail
    refine (E1.out).mono ?_
    rintro e w2 ⟨a2, c2, rfl, hs2, ho2⟩
    have HO := Lib.hid (fun (W : World) (h : w2.Since w2.heap.size W) => ho2.matR.since h)
    have HS2 := Lib.hid hs2
    clear ho2 hs2
    go_wp2_with fail
    refine (E2.out w2 HS2.out).mono ?_
    rintro e w3 ⟨a3, c3, rfl, hs3, hi3⟩
    have ES := Lib.hid (fun (W : World) (h : w3.Since w3.heap.size W) => sameRows_same a2 a3 c2 c3 q M W HQ.out hq63 (rows_le HMS.out) (HO.out W (hs3.trans (since_mono h hs3.size))) (hi3.matR.since h))
    have HS3 := Lib.hid hs3
    clear hi3 hs3
    go_wp2_with fail
    refine (ES.out w3 (World.Since.refl _ _)).mono ?_
    rintro e w4 ⟨rfl, hd4⟩
    have hs4 := hd4.since w3.heap.size
    have hs14 : w1.Since w1.heap.size w4 := (HS2.out.trans (since_mono HS3.out HS2.out.size)).trans (since_mono hs4 (by have := HS2.out.size; have := HS3.out.size; omega))
    have HS4 := Lib.hid hs14
    have hs24 : w2.Since w2.heap.size w4 := HS3.out.trans (since_mono hs4 HS3.out.size)
    have HS24 := Lib.hid hs24
    cases ok with
    | false =>
      clear hs14 hs24 hd4
      go_wp2_with fail
      refine (ES.out w4 hs4).mono ?_
      rintro e w5 ⟨rfl, hd5⟩
      have HS5 := Lib.hid (hd5.since w4.heap.size)
      clear hd5
      go_wp2
      go_ret
      exact ⟨rfl, HS1.out.trans (since_mono (HS4.out.trans (since_mono HS5.out HS4.out.size)) HS1.out.size)⟩
    | true =>
      have hMl : M = partL l x.toNat y.toNat := HMM.out.symm
      clear hs4 hd4
      obtain ⟨hT, hxb, hyb⟩ := partOk_of HOK.out
      have hMT : TabIn M := by rw [hMl]; exact partOk_tab HOK.out
      obtain ⟨m, hmm⟩ : ∃ m, (l.getD 0 []).length = m := ⟨_, rfl⟩
      obtain ⟨mw, hmw⟩ : ∃ m, (M.getD 0 []).length = m := ⟨_, rfl⟩
      obtain ⟨k1, k2⟩ := part_turn HOK.out
      obtain ⟨k3, k4⟩ := part_sizes HOK.out
      rw [← hMl] at k2 k3 k4
      rw [HQ.out] at k3
      rw [hmw] at k4
      have hs := hT.sides
      rw [HN.out] at hs hxb
      rw [hmm] at hs hyb
      have p1 : 2 ^ nn ≤ 2 ^ 6 := Nat.pow_le_pow_right (by omega) hs.1.2
      have p2 : 2 ^ m ≤ 2 ^ 6 := Nat.pow_le_pow_right (by omega) hs.2.2
      have hsx := fun W => size_int x (by omega) W
      have hsy := fun W => size_int y (by omega) W
      simp only [← k3] at hsx
      simp only [← k4] at hsy
      have hMs := hMT.sides
      rw [HQ.out] at hMs
      have hbk : turnL (turnL M) = M := turnL_turnL hMT
      have htm : (turnL M).length = mw := (turnL_length M).trans hmw
      have hwm : ((turnL M).getD 0 []).length = q := (turnL_width hMT).trans HQ.out
      have htl : (turnL l).length = m := (turnL_length l).trans hmm
      have H1 := Lib.hid hT
      have H3 := Lib.hid hmm
      have H5 := Lib.hid k1
      have H6 := Lib.hid k2
      have H9 := Lib.hid hbk
      have HA := Lib.hid htm
      have HB := Lib.hid hwm
      have HC := Lib.hid htl
      have HE := Lib.hid hMT
      have HF := Lib.hid hsx
      have HG := Lib.hid hsy
      have HH := Lib.hid hmw
      have hMq := hMs.1
      clear hT hMT hmm hmw k1 k2 k3 k4 hbk htm hwm htl hMl hsx hsy p1 p2 hs hxb hyb hMs

      have E5 := across_any a1 c1 nn l w4 HN.out H1.out (HM.out w4 HS4.out)
      rw [H3.out] at E5
      replace E5 := Lib.hid E5
      go_wp2_with fail
      refine (E5.out).mono ?_
      rintro e w5 ⟨a5, c5, rfl, hs5, ho5⟩
      have HS5 := Lib.hid (HS4.out.trans (since_mono hs5 HS4.out.size))
      have HO5 := Lib.hid (fun (W : World) (h : w5.Since w5.heap.size W) => ho5.matR.since h)
      have HT5 := Lib.hid hs5
      clear hs5 ho5

      have E6 := implTablePart_any a5 c5 m (turnL l) y x w5 HC.out (szL_turn H1.out) (HO5.out w5 (World.Since.refl _ _))
      rw [H5.out, H6.out] at E6
      unfold ImplT at E6
      rw [show (resT true (turnL M)).length = mw from HA.out] at E6
      replace E6 := Lib.hid E6
      go_wp2_with fail
      refine (E6.out).mono ?_
      rintro e w6 ⟨a6, c6, rfl, hs6, ho6⟩
      have HS6 := Lib.hid (HS5.out.trans (since_mono hs6 HS5.out.size))
      have HO6 := Lib.hid (fun (W : World) (h : w6.Since w6.heap.size W) => ho6.matR.since h)
      have HT6 := Lib.hid hs6
      clear hs6 ho6

      have HS24' := Lib.hid (since_then HS24.out (since_then HT5.out HT6.out))
      obtain ⟨bo, oo, Ao, Co, ha2, hro⟩ := HO.out w6 HS24'.out (by rw [HQ.out]; omega)
      have q0 := (hro 0 (by rw [HQ.out]; omega)).1
      rw [Nat.add_zero, HH.out] at q0
      subst ha2
      have hlb : bo < w6.heap.size := World.block_lt_of_cell? _ _ q0
      have q1 : w6.drew.cell? ⟨bo, oo, none⟩ = some (.slice (Ao 0) mw (Co 0)) := q0
      have EA := across_any a6 c6 mw (turnL M) w6.drew HA.out (turnL_tab HE.out) (HO6.out w6.drew ((World.Since.refl _ _).drew))
      rw [HB.out, H9.out] at EA
      replace EA := Lib.hid EA
      have hp1 : 0 < q := by omega
      have hp0 : (0 : Int) < (q : Int) := by omega
      have HS67 := Lib.hid (show w6.Since w6.heap.size w6.drew from (World.Since.refl _ _).drew)
      clear hro
      go_wp2
      go_region_held3 (fun w' => w'.cell? ⟨bo, oo, none⟩ = some (.slice (Ao 0) mw (Co 0)))
        (first | exact q1 | exact q0)
        (first
          | (go_at_call_of 37 (Value.int IntKind.i64 x); refine (HF.out _).mono ?_; rintro e wk ⟨rfl, rfl⟩)
          | (go_at_call_of 37 (Value.int IntKind.i64 y); refine (HG.out _).mono ?_; rintro e wk ⟨rfl, rfl⟩)
          | (go_at_call 24; refine (EA.out).mono ?_; rintro e w8 ⟨a8, c8, rfl, hs8, hi8⟩; have hs68 := HS67.out.trans (since_mono hs8 HS67.out.size); have q1 := (hs68.cell (a := ⟨bo, oo, none⟩) hlb).trans q0; have HR8 := Lib.hid (fun (W : World) (h : w8.Since w8.heap.size W) => hi8.matR.since h); have HT8 := Lib.hid hs68; clear hs8 hi8 hs68)
          | (go_at_call 23; refine (sameRows_same a8 _ c8 c2 q M w8 HQ.out hq63 (rows_le HMS.out) (HR8.out w8 (World.Since.refl _ _)) (HO.out w8 (since_then HS24'.out HT8.out))).mono ?_; rintro e w9 ⟨rfl, hd9⟩; have hs89 := hd9.since w8.heap.size; have q1 := (hs89.cell (a := ⟨bo, oo, none⟩) (World.block_lt_of_cell? _ _ q1)).trans q1; have HS9 := Lib.hid (HS6.out.trans (since_mono (since_then HT8.out hs89) HS6.out.size)); clear hd9 hs89))
      all_goals
        go_wp2
        go_ret
        exact ⟨rfl, HS1.out.trans (since_mono HS9.out HS1.out.size)⟩

end Go.Proofs.Ytenkafcdachlkaa
