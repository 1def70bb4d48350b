/- The walk of laws.FnBeside. -/
import Derived.Test.YtenkafcdachlkaaDraws
import Derived.Test.YtenkafcdachlkaaBack6
import Derived.Test.YtenkafcdachlkaaPartSpec
import Derived.Deep.RegionHeld3
namespace Go.Proofs.Ytenkafcdachlkaa
open Go.RowKit Go.Deep

theorem since_then {a b c : World} (h : a.Since a.heap.size b) (k : b.Since b.heap.size c) : a.Since a.heap.size c := h.trans (since_mono k h.size)
theorem iwrap_fin : ∀ n : Fin 7, IntKind.i64.wrap (IntKind.i64.wrap ((2 : Int) ^ n.val) - 1) = ((2 ^ n.val - 1 : Nat) : Int) := by decide +kernel
theorem ishl_fin : ∀ k n : Fin 7, IntKind.i64.wrap (((2 ^ k.val - 1 : Nat) : Int) * 2 ^ n.val) = (((2 ^ k.val - 1) * 2 ^ n.val : Nat) : Int) := by decide +kernel

set_option maxRecDepth 100000 in
set_option maxHeartbeats 4000000 in
theorem fnBeside (a : Option Addr) (cap n : Nat) (w : World) (hc : n ≤ cap) (h63 : cap ≤ 9223372036854775807) (hb : BytR w a n) :
    Calls Try.prog 9 #[.slice a n cap] w fun e w' => e = .returned (.bool true) ∧ w.Since w.heap.size w' := by
  by_cases hlen : 1048576 < n
  · have hl' : decide ((1048576 : Int) < (n : Int)) = true := by simp; omega
    clear hb
    go_enter Try.func9, Try.ntmps9
    go_wp2
    go_ret
    exact ⟨rfl, World.Since.refl _ _⟩
  · have hl' : decide ((1048576 : Int) < (n : Int)) = false := by simp; omega
    have ED := Lib.hid (drawBeside_any a n cap w hc h63 hb)
    clear hb
    go_enter Try.func9, Try.ntmps9
    go_wp2_with fail
    refine (ED.out).mono ?_
    rintro e w1 ⟨a1, c1, l, a6, c6, u, rfl, hs1, ⟨h1, h5, hlens, hit⟩, ⟨g1, g5, glens, git⟩⟩
    have hsz : szL l ≤ 1048576 := szL_of h5 (fun j hj => (hlens j hj).2) (by decide)
    obtain ⟨nn, hn⟩ : ∃ nn, l.length = nn := ⟨_, rfl⟩
    rw [hn]
    have HN := Lib.hid hn
    have HSZ := Lib.hid hsz
    have HM := Lib.hid (fun (W : World) (h : w1.Since w1.heap.size W) => hit.matR.since h)
    have hszu : szL u ≤ 1048576 := szL_of g5 (fun j hj => (glens j hj).2) (by decide)
    obtain ⟨nu, hu⟩ : ∃ nu, u.length = nu := ⟨_, rfl⟩
    rw [hu]
    have HU := Lib.hid hu
    have HSZU := Lib.hid hszu
    have HMU := Lib.hid (fun (W : World) (h : w1.Since w1.heap.size W) => git.matR.since h)
    have HS1 := Lib.hid hs1
    obtain ⟨ok, hok⟩ : ∃ ok, besideOk l u = ok := ⟨_, rfl⟩
    obtain ⟨M, hM⟩ : ∃ M, resT ok (besideL l u) = M := ⟨_, rfl⟩
    have E1 := implTableBeside_any a1 a6 c1 c6 nn nu l u w1 hn hu hsz hszu (hit.matR) (git.matR)
    have E2 := fun (W : World) (h : w1.Since w1.heap.size W) => specTableBeside_any a1 a6 c1 c6 nn nu l u W hn hu hsz hszu (hit.matR.since h) (git.matR.since h)
    have hMsz : szL M ≤ 1048576 := by
      rw [← hM]
      cases hok' : ok with
      | false => simp [resT, szL, sumTo]
      | true => rw [hok'] at hok; exact szL_besideOk l u hok
    unfold ImplT at E1
    unfold SpecT at E2
    rw [hok, hM] at E1
    simp only [hok, hM] at E2
    obtain ⟨q, hq⟩ : ∃ q, M.length = q := ⟨_, rfl⟩
    rw [hq] at E1
    simp only [hq] at E2
    have hq63 : q ≤ 9223372036854775807 := by unfold szL at hMsz; omega
    replace E1 := Lib.hid E1
    replace E2 := Lib.hid E2
    have HQ := Lib.hid hq
    have HMS := Lib.hid hMsz
    have HOK := Lib.hid hok
    have HMM := Lib.hid hM
    clear hn hsz hit hs1 h1 h5 hlens hq hMsz hok hM hu hszu git g1 g5 glens
    go_wp2_with fail
    refine (E1.out).mono ?_
    rintro e w2 ⟨a2, c2, rfl, hs2, ho2⟩
    have HO := Lib.hid (fun (W : World) (h : w2.Since w2.heap.size W) => ho2.matR.since h)
    have HS2 := Lib.hid hs2
    clear ho2 hs2
    go_wp2_with fail
    refine (E2.out w2 HS2.out).mono ?_
    rintro e w3 ⟨a3, c3, rfl, hs3, hi3⟩
    have ES := Lib.hid (fun (W : World) (h : w3.Since w3.heap.size W) => sameRows_same a2 a3 c2 c3 q M W HQ.out hq63 (rows_le HMS.out) (HO.out W (hs3.trans (since_mono h hs3.size))) (hi3.matR.since h))
    have HS3 := Lib.hid hs3
    clear hi3 hs3
    go_wp2_with fail
    refine (ES.out w3 (World.Since.refl _ _)).mono ?_
    rintro e w4 ⟨rfl, hd4⟩
    have hs4 := hd4.since w3.heap.size
    have hs14 : w1.Since w1.heap.size w4 := (HS2.out.trans (since_mono HS3.out HS2.out.size)).trans (since_mono hs4 (by have := HS2.out.size; have := HS3.out.size; omega))
    have HS4 := Lib.hid hs14
    have hs24 : w2.Since w2.heap.size w4 := HS3.out.trans (since_mono hs4 HS3.out.size)
    have HS24 := Lib.hid hs24
    cases ok with
    | false =>
      clear hs14 hs24 hd4
      go_wp2_with fail
      refine (ES.out w4 hs4).mono ?_
      rintro e w5 ⟨rfl, hd5⟩
      have HS5 := Lib.hid (hd5.since w4.heap.size)
      clear hd5
      go_wp2
      go_ret
      exact ⟨rfl, HS1.out.trans (since_mono (HS4.out.trans (since_mono HS5.out HS4.out.size)) HS1.out.size)⟩
    | true =>
      have hMl : M = besideL l u := HMM.out.symm
      clear hs4 hd4
      obtain ⟨hT, hTu, hMT⟩ := besideOk_of HOK.out
      obtain ⟨m, hmm⟩ : ∃ m, (l.getD 0 []).length = m := ⟨_, rfl⟩
      obtain ⟨mu, hmu⟩ : ∃ m, (u.getD 0 []).length = m := ⟨_, rfl⟩
      obtain ⟨k1, k2⟩ := beside_low HOK.out
      obtain ⟨k3, k4⟩ := beside_high HOK.out
      have hs := hT.sides
      have hsu := hTu.sides
      rw [HN.out, hmm] at hs
      rw [HU.out, hmu] at hsu
      rw [HN.out, hmm] at k1 k2
      rw [HU.out, hmu, HN.out, hmm] at k3 k4
      rw [← hMl] at k1 k2 k3 k4
      have hp1 := fun (W : World) (h : w2.Since w2.heap.size W) => implTablePart_any a2 c2 q M ((2 ^ nn - 1 : Nat) : Int) ((2 ^ m - 1 : Nat) : Int) W HQ.out HMS.out (HO.out W h)
      have hp2 := fun (W : World) (h : w2.Since w2.heap.size W) => implTablePart_any a2 c2 q M (((2 ^ nu - 1) * 2 ^ nn : Nat) : Int) (((2 ^ mu - 1) * 2 ^ m : Nat) : Int) W HQ.out HMS.out (HO.out W h)
      simp only [k1, Int.toNat_natCast, k2] at hp1
      simp only [k3, Int.toNat_natCast, k4] at hp2
      unfold ImplT at hp1 hp2
      simp only [show (resT true l).length = nn from HN.out] at hp1
      simp only [show (resT true u).length = nu from HU.out] at hp2
      have e1 := iwrap_fin ⟨nn, by omega⟩
      have e2 := iwrap_fin ⟨m, by omega⟩
      have e3 := iwrap_fin ⟨nu, by omega⟩
      have e4 := iwrap_fin ⟨mu, by omega⟩
      have e5 := ishl_fin ⟨nu, by omega⟩ ⟨nn, by omega⟩
      have e6 := ishl_fin ⟨mu, by omega⟩ ⟨m, by omega⟩
      simp only at e1 e2 e3 e4 e5 e6
      have m1 : min nn 64 = nn := by omega
      have m2 : min m 64 = m := by omega
      have m3 : min nu 64 = nu := by omega
      have m4 : min mu 64 = mu := by omega
      obtain ⟨X1, hX1⟩ : ∃ X : Int, ((2 ^ nn - 1 : Nat) : Int) = X := ⟨_, rfl⟩
      obtain ⟨X2, hX2⟩ : ∃ X : Int, ((2 ^ m - 1 : Nat) : Int) = X := ⟨_, rfl⟩
      obtain ⟨X3, hX3⟩ : ∃ X : Int, ((2 ^ nu - 1 : Nat) : Int) = X := ⟨_, rfl⟩
      obtain ⟨X4, hX4⟩ : ∃ X : Int, ((2 ^ mu - 1 : Nat) : Int) = X := ⟨_, rfl⟩
      obtain ⟨X5, hX5⟩ : ∃ X : Int, (((2 ^ nu - 1) * 2 ^ nn : Nat) : Int) = X := ⟨_, rfl⟩
      obtain ⟨X6, hX6⟩ : ∃ X : Int, (((2 ^ mu - 1) * 2 ^ m : Nat) : Int) = X := ⟨_, rfl⟩
      rw [hX1] at e1
      rw [hX2] at e2
      rw [hX3] at e3 e5
      rw [hX4] at e4 e6
      rw [hX5] at e5
      rw [hX6] at e6
      simp only [hX1, hX2] at hp1
      simp only [hX5, hX6] at hp2
      have HP1 := Lib.hid hp1
      have HP2 := Lib.hid hp2
      obtain ⟨bt, ot, At, Ct, ha1, hrt⟩ := HM.out w4 HS4.out (by rw [HN.out]; omega)
      obtain ⟨bu, ou, Au, Cu, ha6, hru⟩ := HMU.out w4 HS4.out (by rw [HU.out]; omega)
      have t0 := (hrt 0 (by rw [HN.out]; omega)).1
      have u0 := (hru 0 (by rw [HU.out]; omega)).1
      rw [Nat.add_zero, hmm] at t0
      rw [Nat.add_zero, hmu] at u0
      subst ha1
      subst ha6
      have hlu : bu < w4.heap.size := World.block_lt_of_cell? _ _ u0
      have z1 : 0 < nn := by omega
      have z2 : 0 < nu := by omega
      clear hT hTu hMT hmm hmu k1 k2 k3 k4 hMl hs hsu hp1 hp2 hX1 hX2 hX3 hX4 hX5 hX6 hrt hru
      go_wp2

      go_region_held3 (fun _ => True) (trivial)
        (first
          | (go_at_call_of 35 (Value.int IntKind.i64 X1); refine (HP1.out _ (HS24.out.drew)).mono ?_; rintro e w5 ⟨a5, c5, rfl, hs5, ho5⟩; have HT5 := Lib.hid (show w4.Since w4.heap.size w5 from since_of_drew hs5); have HR5 := Lib.hid (fun (W : World) (h : w5.Since w5.heap.size W) => ho5.matR.since h); clear hs5 ho5))
      clear t0
      have v0 := (HT5.out.cell (a := ⟨bu, ou, none⟩) hlu).trans u0
      have v1 : w5.drew.cell? ⟨bu, ou, none⟩ = some (.slice (Au 0) mu (Cu 0)) := v0
      have hlu5 : bu < w5.heap.size := World.block_lt_of_cell? _ _ v0
      clear u0
      go_wp2
      go_region_held3 (fun w' => w'.cell? ⟨bu, ou, none⟩ = some (.slice (Au 0) mu (Cu 0))) (first | exact v1 | exact v0)
        (first
          | (go_at_call_of 35 (Value.int IntKind.i64 X5); refine (HP2.out _ ((since_then HS24.out HT5.out).drew)).mono ?_; rintro e w6 ⟨a7, c7, rfl, hs6, ho6⟩; have hs6 := since_of_drew hs6; have v1 := (hs6.cell (a := ⟨bu, ou, none⟩) hlu5).trans v0; have HT6 := Lib.hid hs6; have HR6 := Lib.hid (fun (W : World) (h : w6.Since w6.heap.size W) => ho6.matR.since h); clear hs6 ho6))
      all_goals
        clear v0 v1
        have HS5 := Lib.hid (since_then HS4.out HT5.out)
        have HS6 := Lib.hid (since_then HS5.out HT6.out)
        have EL := Lib.hid (sameRows_same a5 _ c5 c1 nn l w6 HN.out (by have h := HSZ.out; have h2 := HN.out; unfold szL at h; omega) (rows_le HSZ.out) (HR5.out w6 HT6.out) (HM.out w6 HS6.out))
        go_wp2_with fail
        refine (EL.out).mono ?_
        rintro e w7 ⟨rfl, hd7⟩
        have HT7 := Lib.hid (hd7.since w6.heap.size)
        have HS7 := Lib.hid (since_then HS6.out HT7.out)
        clear hd7
        have EU := Lib.hid (sameRows_same a7 _ c7 c6 nu u w7 HU.out (by have h := HSZU.out; have h2 := HU.out; unfold szL at h; omega) (rows_le HSZU.out) (HR6.out w7 HT7.out) (HMU.out w7 HS7.out))
        go_wp2_with fail
        refine (EU.out).mono ?_
        rintro e w8 ⟨rfl, hd8⟩
        have HS8 := Lib.hid (HS7.out.trans (since_mono (hd8.since w7.heap.size) HS7.out.size))
        clear hd8
        go_wp2
        go_ret
        exact ⟨rfl, HS1.out.trans (since_mono HS8.out HS1.out.size)⟩

end Go.Proofs.Ytenkafcdachlkaa
