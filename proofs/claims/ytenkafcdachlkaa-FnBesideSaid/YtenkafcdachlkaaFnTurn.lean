/- The walk of laws.FnTurn. -/
import Derived.Test.YtenkafcdachlkaaDrawOne
import Derived.Test.YtenkafcdachlkaaSameRows
namespace Go.Proofs.Ytenkafcdachlkaa
open Go.RowKit Go.Deep

theorem szL_of {l : List (List Int)} {n k : Nat} (h1 : l.length ≤ n) (h2 : ∀ j, j < l.length → (l.getD j []).length ≤ k) (hnk : n * k + n ≤ 1048576) : szL l ≤ 1048576 := by
  have h3 := sumTo_le_mul l k h2 l.length (Nat.le_refl _)
  have h4 : l.length * k ≤ n * k := Nat.mul_le_mul_right _ h1
  have h5 : k * l.length = l.length * k := Nat.mul_comm _ _
  unfold szL
  omega
theorem rows_le {l : List (List Int)} (h : szL l ≤ 1048576) : ∀ r, r < l.length → (l.getD r []).length ≤ 9223372036854775807 := fun r hr => by
  have := row_le l hr
  unfold szL at h
  omega

theorem tab_self {l : List (List Int)} {n m : Nat} (hn : l.length = n) (hm : ∀ r, r < n → (l.getD r []).length = m) : tabF n m (at2 l) = l := by
  refine List.ext_getElem (by rw [tabF_length, hn]) fun r h1 h2 => ?_
  have hr : r < n := by rw [tabF_length] at h1; exact h1
  have e1 : (tabF n m (at2 l))[r] = (tabF n m (at2 l)).getD r [] := by simp [List.getD, h1]
  have e2 : l[r] = l.getD r [] := by simp [List.getD, h2]
  rw [e1, e2, tabF_get _ _ _ _ hr]
  refine List.ext_getElem (by rw [List.length_map, List.length_range, hm r hr]) fun k h3 h4 => ?_
  rw [List.getElem_map, List.getElem_range]
  unfold at2
  obtain ⟨x, hx⟩ : ∃ x, x = l.getD r [] := ⟨_, rfl⟩
  subst hx
  generalize l.getD r [] = x at *
  simp [List.getD, h4]

theorem turnL_turnL {l : List (List Int)} (hT : TabIn l) : turnL (turnL l) = l := by
  have h1 := hT.1
  have hw := hT.width
  have e0 : ((turnL l).getD 0 []).length = l.length := tabF_len _ _ _ _ hw.1
  have e1 : turnL (turnL l) = tabF l.length (l.getD 0 []).length fun k i => at2 (turnL l) i k := by
    show tabF ((turnL l).getD 0 []).length (turnL l).length _ = _
    rw [e0, turnL_length]
  rw [e1]
  have e2 : tabF l.length (l.getD 0 []).length (fun k i => at2 (turnL l) i k) = tabF l.length (l.getD 0 []).length (at2 l) := by
    unfold tabF
    refine List.map_congr_left fun r hr => List.map_congr_left fun k hk => ?_
    exact tabF_at _ _ _ _ _ (List.mem_range.1 hk) (List.mem_range.1 hr)
  rw [e2]
  exact tab_self rfl (fun r hr => hT.row hr)

set_option maxRecDepth 100000 in
set_option maxHeartbeats 2000000 in
theorem fnTurn (a : Option Addr) (cap n : Nat) (w : World) (hc : n ≤ cap) (h63 : cap ≤ 9223372036854775807) (hb : BytR w a n) :
    Calls Try.prog 7 #[.slice a n cap] w fun e w' => e = .returned (.bool true) ∧ w.Since w.heap.size w' := by
  by_cases hlen : 1048576 < n
  · have hl' : decide ((1048576 : Int) < (n : Int)) = true := by simp; omega
    clear hb
    go_enter Try.func7, Try.ntmps7
    go_wp2
    go_ret
    exact ⟨rfl, World.Since.refl _ _⟩
  · have hl' : decide ((1048576 : Int) < (n : Int)) = false := by simp; omega
    have ED := Lib.hid (drawTurn_any a n cap w hc h63 hb)
    clear hb
    go_enter Try.func7, Try.ntmps7
    go_wp2_with fail
    refine (ED.out).mono ?_
    rintro e w1 ⟨a1, c1, l, rfl, hs1, h1, h5, hlens, hit⟩
    have hsz : szL l ≤ 1048576 := szL_of h5 (fun j hj => (hlens j hj).2) (by decide)
    obtain ⟨nn, hn⟩ : ∃ nn, l.length = nn := ⟨_, rfl⟩
    rw [hn]
    have HN := Lib.hid hn
    have HSZ := Lib.hid hsz
    have HM := Lib.hid (fun (W : World) (h : w1.Since w1.heap.size W) => hit.matR.since h)
    have HS1 := Lib.hid hs1
    obtain ⟨ok, hok⟩ : ∃ ok, tabIn l = ok := ⟨_, rfl⟩
    obtain ⟨M, hM⟩ : ∃ M, resT ok (turnL l) = M := ⟨_, rfl⟩
    have E1 := implTableTurn_any a1 c1 nn l w1 hn hsz hit.matR
    have E2 := fun (W : World) (h : w1.Since w1.heap.size W) => specTableTurn_any a1 c1 nn l W hn hsz (hit.matR.since h)
    have hMsz : szL M ≤ 1048576 := by
      rw [← hM]
      cases hok' : ok with
      | false => simp [resT, szL, sumTo]
      | true => rw [hok'] at hok; exact szL_turn (tabIn_of hok)
    unfold ImplT at E1
    unfold SpecT at E2
    rw [hok, hM] at E1
    simp only [hok, hM] at E2
    obtain ⟨q, hq⟩ : ∃ q, M.length = q := ⟨_, rfl⟩
    rw [hq] at E1
    simp only [hq] at E2
    have hq63 : q ≤ 9223372036854775807 := by unfold szL at hMsz; omega
    replace E1 := Lib.hid E1
    replace E2 := Lib.hid E2
    have HQ := Lib.hid hq
    have HMS := Lib.hid hMsz
    have HOK := Lib.hid hok
    have HMM := Lib.hid hM
    clear hn hsz hit hs1 h1 h5 hlens hq hMsz hok hM
    go_wp2_with fail
    refine (E1.out).mono ?_
    rintro e w2 ⟨a2, c2, rfl, hs2, ho2⟩
    have HO := Lib.hid (fun (W : World) (h : w2.Since w2.heap.size W) => ho2.matR.since h)
    have HS2 := Lib.hid hs2
    clear ho2 hs2
    go_wp2_with fail
    refine (E2.out w2 HS2.out).mono ?_
    rintro e w3 ⟨a3, c3, rfl, hs3, hi3⟩
    have ES := Lib.hid (fun (W : World) (h : w3.Since w3.heap.size W) => sameRows_same a2 a3 c2 c3 q M W HQ.out hq63 (rows_le HMS.out) (HO.out W (hs3.trans (since_mono h hs3.size))) (hi3.matR.since h))
    have HS3 := Lib.hid hs3
    clear hi3 hs3
    go_wp2_with fail
    refine (ES.out w3 (World.Since.refl _ _)).mono ?_
    rintro e w4 ⟨rfl, hd4⟩
    have hs4 := hd4.since w3.heap.size
    have hs14 : w1.Since w1.heap.size w4 := (HS2.out.trans (since_mono HS3.out HS2.out.size)).trans (since_mono hs4 (by have := HS2.out.size; have := HS3.out.size; omega))
    have HS4 := Lib.hid hs14
    have hs24 : w2.Since w2.heap.size w4 := HS3.out.trans (since_mono hs4 HS3.out.size)
    have HS24 := Lib.hid hs24
    cases ok with
    | false =>
      clear hs14 hs24 hd4
      go_wp2_with fail
      refine (ES.out w4 hs4).mono ?_
      rintro e w5 ⟨rfl, hd5⟩
      have HS5 := Lib.hid (hd5.since w4.heap.size)
      clear hd5
      go_wp2
      go_ret
      exact ⟨rfl, HS1.out.trans (since_mono (HS4.out.trans (since_mono HS5.out HS4.out.size)) HS1.out.size)⟩
    | true =>
      have hT := tabIn_of HOK.out
      have hMl : M = turnL l := HMM.out.symm
      have E4 := implTableTurn_any a2 c2 q M w4 HQ.out HMS.out (HO.out w4 hs24)
      rw [hMl, tabIn_turn hT, turnL_turnL hT] at E4
      unfold ImplT at E4
      rw [show (resT true l).length = nn from HN.out] at E4
      replace E4 := Lib.hid E4
      clear hMl hs14 hs24 hd4 hT
      go_wp2_with fail
      refine (E4.out).mono ?_
      rintro e w5 ⟨a5, c5, rfl, hs5, ho5⟩
      have EL := Lib.hid (sameRows_same a5 a1 c5 c1 nn l w5 HN.out (by have h := HSZ.out; have h2 := HN.out; unfold szL at h; omega) (rows_le HSZ.out) ho5.matR (HM.out w5 (HS4.out.trans (since_mono hs5 HS4.out.size))))
      have HS5 := Lib.hid hs5
      clear hs5 ho5
      go_wp2_with fail
      refine (EL.out).mono ?_
      rintro e w6 ⟨rfl, hd6⟩
      have HS6 := Lib.hid (hd6.since w5.heap.size)
      clear hd6
      go_wp2
      go_ret
      exact ⟨rfl, HS1.out.trans (since_mono ((HS4.out.trans (since_mono HS5.out HS4.out.size)).trans (since_mono HS6.out (by have := HS4.out.size; have := HS5.out.size; omega))) HS1.out.size)⟩

end Go.Proofs.Ytenkafcdachlkaa
