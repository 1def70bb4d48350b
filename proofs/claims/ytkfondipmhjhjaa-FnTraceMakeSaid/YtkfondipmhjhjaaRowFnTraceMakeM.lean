import Derived.Test.YtkfondipmhjhjaaHarn2
import Derived.Test.YtkfondipmhjhjaaDrawOne
import Derived.Test.YtkfondipmhjhjaaDetMul
import Derived.Test.YtkfondipmhjhjaaMakeImpl
import Derived.Test.YtkfondipmhjhjaaSpecOrders
import Derived.Test.YtkfondipmhjhjaaDraws2
import Derived.Test.YtkfondipmhjhjaaMakeSpec
import Derived.Test.YtkfondipmhjhjaaTraceI
import Derived.Test.YtkfondipmhjhjaaRows
import Derived.Test.YtkfondipmhjhjaaData
import Derived.ProofKit
import Derived.Deep.Matrix
import Derived.Test.YtkfondipmhjhjaaDraw0

section
/- The contracts of laws.sameInts and laws.sameRows. -/
namespace Go.Proofs.Ytkfondipmhjhjaa
open Go.RowKit Go.Deep

set_option maxHeartbeats 1000000 in
/-- Two slices that read as one list are equal. -/
theorem sameInts_same (a b : Option Addr) (ca cb n : Nat) (l : List Int) (w : World) (hn : l.length = n) (h63 : n ≤ 9223372036854775807) (ha : RowR w a l) (hb : RowR w b l) :
    Calls Try.prog 23 #[.slice a n ca, .slice b n cb] w fun e w' => e = .returned (.bool true) ∧ Drawn w w' := by
  have H := Lib.hid hn; clear hn
  go_enter Try.func23, Try.ntmps23
  go_wp2
  go_loopg [5] n (fun g i wr => ∃ k : Nat, k ≤ n ∧ g = n - k ∧ i = .int .i64 k ∧ Drawn w wr)
  case atStart => exact ⟨0, Nat.zero_le _, rfl, rfl, Drawn.refl w⟩
  case round =>
    obtain ⟨k, hk, rfl, rfl, hD⟩ := hrel
    by_cases hlt : k < n
    · obtain ⟨b1, o1, rfl, hc1⟩ := ha (by rw [H.out]; omega)
      obtain ⟨b2, o2, rfl, hc2⟩ := hb (by rw [H.out]; omega)
      have c1 := hc1 k (by rw [H.out]; exact hlt)
      have c2 := hc2 k (by rw [H.out]; exact hlt)
      obtain ⟨x, hx⟩ : ∃ x, x = l.getD k 0 := ⟨_, rfl⟩
      rw [← hx] at c1 c2
      rw [← hD.cell] at c1 c2
      clear hx hc1 hc2 ha hb
      go_wp2
      go_quiet (fail)
      go_wp2
      go_roundg (n - (k + 1))
      case measure => omega
      case rel => exact ⟨k + 1, by omega, rfl, by go_num, hD.trans (Drawn.mk _ _)⟩
    · go_wp2
      go_ret
      exact ⟨rfl, hD⟩

set_option maxHeartbeats 1000000 in
/-- Two slices of slices that read as one list of lists are equal. -/
theorem sameRows_same (a b : Option Addr) (ca cb n : Nat) (l : List (List Int)) (w : World) (hn : l.length = n) (h63 : n ≤ 9223372036854775807) (hl : ∀ r, r < l.length → (l.getD r []).length ≤ 9223372036854775807)
    (ha : MatR w a l) (hb : MatR w b l) :
    Calls Try.prog 40 #[.slice a n ca, .slice b n cb] w fun e w' => e = .returned (.bool true) ∧ Drawn w w' := by
  have H := Lib.hid hn; clear hn
  go_enter Try.func40, Try.ntmps40
  go_wp2
  go_loopg [5] n (fun g i wr => ∃ k : Nat, k ≤ n ∧ g = n - k ∧ i = .int .i64 k ∧ Drawn w wr)
  case atStart => exact ⟨0, Nat.zero_le _, rfl, rfl, Drawn.refl w⟩
  case round =>
    obtain ⟨k, hk, rfl, rfl, hD⟩ := hrel
    by_cases hlt : k < n
    · obtain ⟨b1, o1, A1, C1, rfl, hc1⟩ := ha (by rw [H.out]; omega)
      obtain ⟨b2, o2, A2, C2, rfl, hc2⟩ := hb (by rw [H.out]; omega)
      obtain ⟨c1, r1⟩ := hc1 k (by rw [H.out]; exact hlt)
      obtain ⟨c2, r2⟩ := hc2 k (by rw [H.out]; exact hlt)
      have hlk := hl k (by rw [H.out]; exact hlt)
      obtain ⟨x, hx⟩ : ∃ x, x = l.getD k [] := ⟨_, rfl⟩
      rw [← hx] at c1 c2 r1 r2 hlk
      obtain ⟨m, hm⟩ : ∃ m, x.length = m := ⟨_, rfl⟩
      rw [hm] at c1 c2 hlk
      have HM := Lib.hid hm
      clear hx hc1 hc2 ha hb hl hm
      have r1 := r1.drawn hD
      have r2 := r2.drawn hD
      rw [← hD.cell] at c1 c2
      have e1 := fun (p : Nat) => sameInts_same (A1 k) (A2 k) (C1 k) (C2 k) m x (wr.drewN p) HM.out hlk r1 r2
      have E1 := Lib.hid e1; clear e1 r1 r2
      go_wp2
      go_quiet ((go_at_call 23; exact Calls.quiet_of (E1.out _)))
      go_wp2
      go_roundg (n - (k + 1))
      case measure => omega
      case rel => exact ⟨k + 1, by omega, rfl, by go_num, hD.trans (Drawn.mk _ _)⟩
    · go_wp2
      go_ret
      exact ⟨rfl, hD⟩

end Go.Proofs.Ytkfondipmhjhjaa
end

section
/- The walk of laws.FnTurn. -/
namespace Go.Proofs.Ytkfondipmhjhjaa
open Go.RowKit Go.Deep

theorem szL_of {l : List (List Int)} {n k : Nat} (h1 : l.length ≤ n) (h2 : ∀ j, j < l.length → (l.getD j []).length ≤ k) (hnk : n * k + n ≤ 1048576) : szL l ≤ 1048576 := by
  have h3 := sumTo_le_mul l k h2 l.length (Nat.le_refl _)
  have h4 : l.length * k ≤ n * k := Nat.mul_le_mul_right _ h1
  have h5 : k * l.length = l.length * k := Nat.mul_comm _ _
  unfold szL
  omega
theorem rows_le {l : List (List Int)} (h : szL l ≤ 1048576) : ∀ r, r < l.length → (l.getD r []).length ≤ 9223372036854775807 := fun r hr => by
  have := row_le l hr
  unfold szL at h
  omega

theorem tab_self {l : List (List Int)} {n m : Nat} (hn : l.length = n) (hm : ∀ r, r < n → (l.getD r []).length = m) : tabF n m (at2 l) = l := by
  refine List.ext_getElem (by rw [tabF_length, hn]) fun r h1 h2 => ?_
  have hr : r < n := by rw [tabF_length] at h1; exact h1
  have e1 : (tabF n m (at2 l))[r] = (tabF n m (at2 l)).getD r [] := by simp [List.getD, h1]
  have e2 : l[r] = l.getD r [] := by simp [List.getD, h2]
  rw [e1, e2, tabF_get _ _ _ _ hr]
  refine List.ext_getElem (by rw [List.length_map, List.length_range, hm r hr]) fun k h3 h4 => ?_
  rw [List.getElem_map, List.getElem_range]
  unfold at2
  obtain ⟨x, hx⟩ : ∃ x, x = l.getD r [] := ⟨_, rfl⟩
  subst hx
  generalize l.getD r [] = x at *
  simp [List.getD, h4]

theorem turnL_turnL {l : List (List Int)} (hT : TabIn l) : turnL (turnL l) = l := by
  have h1 := hT.1
  have hw := hT.width
  have e0 : ((turnL l).getD 0 []).length = l.length := tabF_len _ _ _ _ hw.1
  have e1 : turnL (turnL l) = tabF l.length (l.getD 0 []).length fun k i => at2 (turnL l) i k := by
    show tabF ((turnL l).getD 0 []).length (turnL l).length _ = _
    rw [e0, turnL_length]
  rw [e1]
  have e2 : tabF l.length (l.getD 0 []).length (fun k i => at2 (turnL l) i k) = tabF l.length (l.getD 0 []).length (at2 l) := by
    unfold tabF
    refine List.map_congr_left fun r hr => List.map_congr_left fun k hk => ?_
    exact tabF_at _ _ _ _ _ (List.mem_range.1 hk) (List.mem_range.1 hr)
  rw [e2]
  exact tab_self rfl (fun r hr => hT.row hr)

end Go.Proofs.Ytkfondipmhjhjaa
end

section
/- The sum of the middle of a product: the pure side. -/
namespace Go.Proofs.Ytkfondipmhjhjaa
open Go.RowKit Go.Deep

theorem makeOk_of {l u : List (List Int)} (h : makeOk l u = true) : TabIn l ∧ TabIn u ∧ (l.getD 0 []).length = u.length ∧ TabIn (makeL l u) := by
  unfold makeOk at h
  simp only [Bool.and_eq_true] at h
  exact ⟨tabIn_of h.1, tabIn_of h.2.1, by simpa using h.2.2.1, tabIn_of h.2.2.2⟩
theorem makeL_len (l u : List (List Int)) : (makeL l u).length = l.length := tabF_length _ _ _
theorem makeL_wid {l u : List (List Int)} (h : 0 < l.length) : ((makeL l u).getD 0 []).length = (u.getD 0 []).length := tabF_len _ _ _ _ h
theorem makeL_at2 {l u : List (List Int)} {i k : Nat} (hi : i < l.length) (hk : k < (u.getD 0 []).length) : at2 (makeL l u) i k = sumN (dotF l u i k) u.length := tabF_at _ _ _ i k hi hk
theorem sqB_true {l : List (List Int)} (h : TabIn l) (hw : l.length = (l.getD 0 []).length) : sqB l = true := by unfold sqB; rw [tabIn_true h, ← hw]; simp
theorem trace_make {l u : List (List Int)} (h : makeOk l u = true) (h2 : makeOk u l = true) : sqB (makeL l u) = true ∧ sqB (makeL u l) = true ∧ sumN (trF (makeL l u)) (makeL l u).length = sumN (trF (makeL u l)) (makeL u l).length := by
  obtain ⟨hT, hU, hw, hM⟩ := makeOk_of h
  obtain ⟨_, _, hw2, hM2⟩ := makeOk_of h2
  have h1 := hT.1
  have g1 := hU.1
  refine ⟨sqB_true hM (by rw [makeL_len, makeL_wid h1, hw2]), sqB_true hM2 (by rw [makeL_len, makeL_wid g1, hw]), ?_⟩
  rw [makeL_len, makeL_len]
  have e1 : sumN (trF (makeL l u)) l.length = sumN (fun i => sumN (fun j => at2 l i j * at2 u j i) u.length) l.length := sumN_congr _ fun i hi => makeL_at2 hi (by omega)
  have e2 : sumN (trF (makeL u l)) u.length = sumN (fun i => sumN (fun j => at2 u i j * at2 l j i) l.length) u.length := sumN_congr _ fun i hi => makeL_at2 hi (by omega)
  rw [e1, e2, sumN_comm]
  exact sumN_congr _ fun i _ => sumN_congr _ fun j _ => Int.mul_comm _ _
/-- The value of a product. -/
theorem value_make {l u : List (List Int)} (h : makeOk l u = true) (hl : sqB l = true) (hu : sqB u = true) : sqB (makeL l u) = true ∧ ordF (makeL l u) (makeL l u).length (makeL l u).length 0 = ordF l l.length l.length 0 * ordF u u.length u.length 0 := by
  obtain ⟨hT, hU, hw, hM⟩ := makeOk_of h
  obtain ⟨_, hl2⟩ := sqB_of hl
  obtain ⟨_, hu2⟩ := sqB_of hu
  have h1 := hT.1
  have h6 := hT.2.1
  have hn : u.length = l.length := by omega
  refine ⟨sqB_true hM (by rw [makeL_len, makeL_wid h1]; omega), ?_⟩
  rw [makeL_len, hn, ordF_all _ h6, ordF_all _ h6, ordF_all _ h6, ← dt_mul]
  exact dt_congr _ fun i j hi hj => by rw [makeL_at2 hi (by omega), hn]; rfl

end Go.Proofs.Ytkfondipmhjhjaa
end

section
/- The walk of laws.FnTraceMake. -/
namespace Go.Proofs.Ytkfondipmhjhjaa
open Go.RowKit Go.Deep

set_option maxRecDepth 100000 in
set_option maxHeartbeats 4000000 in
theorem fnTraceMake (a : Option Addr) (cap n : Nat) (w : World) (hc : n ≤ cap) (h63 : cap ≤ 9223372036854775807) (hb : BytR w a n) :
    Calls Try.prog 9 #[.slice a n cap] w fun e w' => e = .returned (.bool true) ∧ w.Since w.heap.size w' := by
  by_cases hlen : 1048576 < n
  · have hl' : decide ((1048576 : Int) < (n : Int)) = true := by simp; omega
    clear hb
    go_enter Try.func9, Try.ntmps9
    go_wp2
    go_ret
    exact ⟨rfl, World.Since.refl _ _⟩
  · have hl' : decide ((1048576 : Int) < (n : Int)) = false := by simp; omega
    have ED := Lib.hid (drawMake_any a n cap w hc h63 hb)
    clear hb
    go_enter Try.func9, Try.ntmps9
    go_wp2_with fail
    refine (ED.out).mono ?_
    rintro e w1 ⟨a1, c1, l, a6, c6, u, rfl, hs1, ⟨h1, h5, hlens, hit⟩, ⟨g1, g5, glens, git⟩⟩
    have hsz : szL l ≤ 1048576 := szL_of h5 (fun j hj => (hlens j hj).2) (by decide)
    obtain ⟨nn, hn⟩ : ∃ nn, l.length = nn := ⟨_, rfl⟩
    rw [hn]
    have HN := Lib.hid hn
    have HSZ := Lib.hid hsz
    have HM := Lib.hid (fun (W : World) (h : w1.Since w1.heap.size W) => hit.matR.since h)
    have hszu : szL u ≤ 1048576 := szL_of g5 (fun j hj => (glens j hj).2) (by decide)
    obtain ⟨nu, hu⟩ : ∃ nu, u.length = nu := ⟨_, rfl⟩
    rw [hu]
    have HU := Lib.hid hu
    have HSZU := Lib.hid hszu
    have HMU := Lib.hid (fun (W : World) (h : w1.Since w1.heap.size W) => git.matR.since h)
    have HS1 := Lib.hid hs1
    obtain ⟨ok, hok⟩ : ∃ ok, makeOk l u = ok := ⟨_, rfl⟩
    obtain ⟨M, hM⟩ : ∃ M, resT ok (makeL l u) = M := ⟨_, rfl⟩
    have E1 := implTableMake_any a1 a6 c1 c6 nn nu l u w1 hn hu hsz hszu (hit.matR) (git.matR)
    have E2 := fun (W : World) (h : w1.Since w1.heap.size W) => specTableMake_any a1 a6 c1 c6 nn nu l u W hn hu hsz hszu (hit.matR.since h) (git.matR.since h)
    have hMsz : szL M ≤ 1048576 := by
      rw [← hM]
      cases hok' : ok with
      | false => simp [resT, szL, sumTo]
      | true => rw [hok'] at hok; exact szL_makeOk l u hok
    unfold ImplT at E1
    unfold SpecT at E2
    rw [hok, hM] at E1
    simp only [hok, hM] at E2
    obtain ⟨q, hq⟩ : ∃ q, M.length = q := ⟨_, rfl⟩
    rw [hq] at E1
    simp only [hq] at E2
    have hq63 : q ≤ 9223372036854775807 := by unfold szL at hMsz; omega
    replace E1 := Lib.hid E1
    replace E2 := Lib.hid E2
    have HQ := Lib.hid hq
    have HMS := Lib.hid hMsz
    have HOK := Lib.hid hok
    have HMM := Lib.hid hM
    clear hn hsz hit hs1 h1 h5 hlens hq hMsz hok hM hu hszu git g1 g5 glens
    go_wp2_with fail
    refine (E1.out).mono ?_
    rintro e w2 ⟨a2, c2, rfl, hs2, ho2⟩
    have HO := Lib.hid (fun (W : World) (h : w2.Since w2.heap.size W) => ho2.matR.since h)
    have HS2 := Lib.hid hs2
    clear ho2 hs2
    go_wp2_with fail
    refine (E2.out w2 HS2.out).mono ?_
    rintro e w3 ⟨a3, c3, rfl, hs3, hi3⟩
    have ES := Lib.hid (fun (W : World) (h : w3.Since w3.heap.size W) => sameRows_same a2 a3 c2 c3 q M W HQ.out hq63 (rows_le HMS.out) (HO.out W (hs3.trans (since_mono h hs3.size))) (hi3.matR.since h))
    have HS3 := Lib.hid hs3
    clear hi3 hs3
    go_wp2_with fail
    refine (ES.out w3 (World.Since.refl _ _)).mono ?_
    rintro e w4 ⟨rfl, hd4⟩
    have hs4 := hd4.since w3.heap.size
    have hs14 : w1.Since w1.heap.size w4 := (HS2.out.trans (since_mono HS3.out HS2.out.size)).trans (since_mono hs4 (by have := HS2.out.size; have := HS3.out.size; omega))
    have HS4 := Lib.hid hs14
    have hs24 : w2.Since w2.heap.size w4 := HS3.out.trans (since_mono hs4 HS3.out.size)
    have HS24 := Lib.hid hs24
    cases ok with
    | false =>
      clear hs14 hs24 hd4
      go_wp2_with fail
      refine (ES.out w4 hs4).mono ?_
      rintro e w5 ⟨rfl, hd5⟩
      have HS5 := Lib.hid (hd5.since w4.heap.size)
      clear hd5
      go_wp2
      go_ret
      exact ⟨rfl, HS1.out.trans (since_mono (HS4.out.trans (since_mono HS5.out HS4.out.size)) HS1.out.size)⟩
    | true =>
      have hMl : M = makeL l u := HMM.out.symm
      clear hs4 hd4
      have HOK1 := Lib.hid HOK.out
      obtain ⟨ok2, hok2⟩ : ∃ ok, makeOk u l = ok := ⟨_, rfl⟩
      have E5 := implTableMake_any a6 a1 c6 c1 nu nn u l w4 HU.out HN.out HSZU.out HSZ.out (HMU.out w4 hs14) (HM.out w4 hs14)
      unfold ImplT at E5
      rw [hok2] at E5
      have hXsz : szL (resT ok2 (makeL u l)) ≤ 1048576 := by
        cases h : ok2 with
        | false => simp [resT, szL, sumTo]
        | true => rw [h] at hok2; exact szL_makeOk u l hok2
      obtain ⟨X, hX⟩ : ∃ X, resT ok2 (makeL u l) = X := ⟨_, rfl⟩
      rw [hX] at E5 hXsz
      obtain ⟨nx, hnx⟩ : ∃ n, X.length = n := ⟨_, rfl⟩
      rw [hnx] at E5
      have E6 := fun (W : World) (h : w2.Since w2.heap.size W) => implValueTrace_any a2 c2 q M W HQ.out HMS.out (HO.out W h)
      have E7 := fun (a' : Option Addr) (c' : Nat) (W : World) (h : MatR W a' X) => implValueTrace_any a' c' nx X W hnx hXsz h
      unfold SpecW at E6 E7
      have hall : ok2 = true → sqB M = true ∧ sqB X = true ∧ sumN (trF M) q = sumN (trF X) nx := fun h => by
        rw [h] at hok2 hX
        obtain ⟨k1, k2, k3⟩ := trace_make HOK.out hok2
        have hX' : X = makeL u l := hX.symm
        rw [← hMl, HQ.out, ← hX', hnx] at k3
        rw [← hMl] at k1
        rw [← hX'] at k2
        exact ⟨k1, k2, k3⟩
      replace E5 := Lib.hid E5
      clear hok2 hX hXsz hnx hMl hs14 hs24
      cases ok2 with
      | true =>
        obtain ⟨k1, k2, k3⟩ := hall rfl
        rw [k1, if_pos rfl, k3] at E6
        rw [k2, if_pos rfl] at E7
        generalize sumN (trF X) nx = v at E6 E7
        replace E6 := Lib.hid E6
        replace E7 := Lib.hid E7
        clear hall k1 k2 k3
        go_wp2_with fail
        refine (E5.out).mono ?_
        rintro e w5 ⟨a5, c5, rfl, hs5, ho5⟩
        have HS5 := Lib.hid (HS4.out.trans (since_mono hs5 HS4.out.size))
        have HS25 := Lib.hid (HS24.out.trans (since_mono hs5 HS24.out.size))
        have HX5 := Lib.hid (fun (W : World) (h : w5.Since w5.heap.size W) => ho5.matR.since h)
        clear hs5 ho5
        go_wp2_with fail
        refine (E6.out w5 HS25.out).mono ?_
        rintro e w6 ⟨rfl, hs6⟩
        have HS6 := Lib.hid (HS5.out.trans (since_mono hs6 HS5.out.size))
        have HX6 := Lib.hid (HX5.out w6 hs6)
        clear hs6
        go_wp2_with fail
        refine (E7.out a5 c5 w6 HX6.out).mono ?_
        rintro e w7 ⟨rfl, hs7⟩
        have HS7 := Lib.hid (HS6.out.trans (since_mono hs7 HS6.out.size))
        clear hs7
        go_wp2
        go_ret
        exact ⟨rfl, HS1.out.trans (since_mono HS7.out HS1.out.size)⟩
      | false =>
        generalize (if sqB M = true then sumN (trF M) q else 0) = v1 at E6
        generalize sqB M = b1 at E6
        generalize (if sqB X = true then sumN (trF X) nx else 0) = v2 at E7
        generalize sqB X = b2 at E7
        replace E6 := Lib.hid E6
        replace E7 := Lib.hid E7
        clear hall
        go_wp2_with fail
        refine (E5.out).mono ?_
        rintro e w5 ⟨a5, c5, rfl, hs5, ho5⟩
        have HS5 := Lib.hid (HS4.out.trans (since_mono hs5 HS4.out.size))
        have HS25 := Lib.hid (HS24.out.trans (since_mono hs5 HS24.out.size))
        have HX5 := Lib.hid (fun (W : World) (h : w5.Since w5.heap.size W) => ho5.matR.since h)
        clear hs5 ho5
        go_wp2_with fail
        refine (E6.out w5 HS25.out).mono ?_
        rintro e w6 ⟨rfl, hs6⟩
        have HS6 := Lib.hid (HS5.out.trans (since_mono hs6 HS5.out.size))
        have HX6 := Lib.hid (HX5.out w6 hs6)
        clear hs6
        go_wp2_with fail
        refine (E7.out a5 c5 w6 HX6.out).mono ?_
        rintro e w7 ⟨rfl, hs7⟩
        have HS7 := Lib.hid (HS6.out.trans (since_mono hs7 HS6.out.size))
        clear hs7
        go_wp2
        go_ret
        exact ⟨rfl, HS1.out.trans (since_mono HS7.out HS1.out.size)⟩

end Go.Proofs.Ytkfondipmhjhjaa
end

section
/- What an argument reads as, in the words of the walks; the last step of a row. -/
namespace Go.Proofs.Ytkfondipmhjhjaa
open Go.ChangeShapes Go.WideShapes Go.ChangeAt Go.RowKit Go.Deep

theorem below_since' {B : Nat} {w w' : World} (h : Below B w w') : w.Since B w' := ⟨h.os, h.tape, h.output, h.size, h.block⟩
theorem since_below' {B : Nat} {w w' : World} (h : w.Since B w') : Below B w w' := ⟨h.os, h.tape, h.output, h.size, h.block⟩

section
variable {H : Type} {enc : TypeId × Value → H} {P : Program}
theorem post_of_below {f : Func} {s : ChangeSpec} {apart fresh handsOn again : Bool} {W W' : World} {args : Array Value} {v : Value} {ds gs : List (DataW H)} {before pa pv : List MemPlace}
    (hW : DataW.Whole enc P f.params.toList s.vars apart W args.toList ds gs before)
    (hres : ∀ (b : Nat) (sp : Nat → Bool) (hd : Bool), DataW.TrodAll enc P W' b sp hd f.resultTypes.toList (v.resultList f.resultTypes.size) (s.fn H (ds ++ gs)).results [])
    (hargs : ∀ sp : Nat → Bool, (∀ p ∈ before, sp p.block = true) → DataW.TrodAll enc P W' 0 sp true f.params.toList args.toList (s.fn H (ds ++ gs)).args pa)
    (hvars : ∀ sp : Nat → Bool, (∀ p ∈ before, sp p.block = true) → DataW.TrodVars enc P W' sp s.vars (s.fn H (ds ++ gs)).vars pv)
    (hps : before = pa ++ pv) (hb : Below W.heap.size W W') (hag : again = false) :
    s.post enc P f apart fresh handsOn again W args v W' := by
  have hlt : ∀ p ∈ before, p.block < W.heap.size := fun p hp => hW.lt p hp
  have hold : ∀ p ∈ before, (fun b => decide (b < W.heap.size)) p.block = true := fun p hp => by simpa using hlt p hp
  refine ⟨ds, gs, before, [], pa, pv, hW, hres _ _ _, hargs _ hold, hvars _ hold, World.keptBut_mono (fun p hp => ⟨hp, ?_⟩) (hb.frame (· ∈ before)), fun h => ?_⟩
  · rw [hps, List.mem_append] at hp
    exact Or.inr hp
  · rw [hag] at h; cases h

/-- An argument of slices of integers reads as a list of lists. -/
theorem open_mat {W : World} {t e q : TypeId} {a : Option Addr} {n cap : Nat} {d : DataW H} {p : List MemPlace} (ht : P.underlying t = some (.slice e)) (he : P.underlying e = some (.slice q)) (hq : P.underlying q = some (.int .i64))
    (ce : P.cellsOf e = 1) (cq : P.cellsOf q = 1) (h : DataW.Trod enc P W 0 (fun _ => true) true t (.slice a n cap) d p) :
    ∃ l : List (List Int), l.length = n ∧ MatR W a l ∧ n ≤ 9223372036854775807 ∧ ∀ r, r < l.length → (l.getD r []).length ≤ 9223372036854775807 := by
  obtain ⟨fuel, hf⟩ := h
  rcases open_int_rows ht he hq ce cq hf with ⟨hcs, _⟩ | ⟨a', len', cap', A, L, C, Z, hcs, _, hl, hm, _, hrows⟩
  · simp [Value.cells] at hcs
    obtain ⟨rfl, rfl, rfl⟩ := hcs
    exact ⟨[], rfl, (fun h => by simp at h), by omega, fun r hr => by simp at hr⟩
  · simp [Value.cells] at hcs
    obtain ⟨rfl, rfl, rfl⟩ := hcs
    have hmx : maxLen = 9223372036854775807 := rfl
    have hlen : ∀ r, r < n → ((Z r).take (L r)).length = L r := fun r hr => by
      obtain ⟨_, h1, _, h2, _⟩ := hrows r (by omega)
      rw [List.length_take]; omega
    have hget : ∀ r, r < n → ((List.range n).map fun r => (Z r).take (L r)).getD r [] = (Z r).take (L r) := fun r hr => by simp [List.getD, hr]
    refine ⟨(List.range n).map fun r => (Z r).take (L r), by simp, fun h => ?_, by omega, fun r hr => ?_⟩
    · obtain ⟨b, o, spot⟩ := a'
      simp at h
      have hspot : spot = none := by simpa [Addr.add] using World.cell?_spot (hrows 0 (by omega)).1
      subst hspot
      refine ⟨b, o, A, C, rfl, fun r hr => ?_⟩
      simp at hr
      rw [hget r hr, hlen r hr]
      obtain ⟨g1, g2, g3, g4, g5, g6, g7⟩ := hrows r (by omega)
      refine ⟨by rw [← add_plain]; exact g1, fun h0 => ?_⟩
      rw [hlen r hr] at h0
      cases hA : A r with
      | none => have := g6 hA; omega
      | some a'' =>
        obtain ⟨_, hcell⟩ := g7 a'' hA
        obtain ⟨b', o', sp⟩ := a''
        have hs : sp = none := by simpa [Addr.add] using World.cell?_spot (hcell 0 (by omega))
        subst hs
        refine ⟨b', o', rfl, fun i hi => ?_⟩
        rw [hlen r hr] at hi
        rw [← add_plain, hcell i (by omega)]
        congr 2
        simp [List.getD, hi]
    · simp at hr
      rw [hget r hr, hlen r hr]
      obtain ⟨_, h1, h2, _⟩ := hrows r (by omega)
      omega
end

theorem Try.own : ownKnob Try.prog.godebug = none := by kernel_rfl
theorem Try.laidOut : laidOutB Try.prog = true := by kernel_rfl
theorem Try.cellsR : Try.prog.cellsOf 28 = 1 := by kernel_rfl
theorem Try.cellsI : Try.prog.cellsOf 3 = 1 := by kernel_rfl

end Go.Proofs.Ytkfondipmhjhjaa
end

section
/- An argument of bytes reads as bytes. -/
namespace Go.Proofs.Ytkfondipmhjhjaa
open Go.ChangeShapes Go.WideShapes Go.ChangeAt Go.RowKit Go.Deep

theorem wf_u8_of {n : Int} (h : (Lit.int .u8 n).wf = true) : 0 ≤ n ∧ n ≤ 255 := by
  have h2 : (0 : Int) ≤ n ∧ n ≤ 255 := by simpa [Lit.wf, IntKind.min, IntKind.max, IntKind.signed, IntKind.bits] using h
  exact h2

theorem open_bytes {H : Type} {enc : TypeId × Value → H} {P : Program} {W : World} {t e : TypeId} {a : Option Addr} {n cap : Nat} {d : DataW H} {p : List MemPlace} (ht : P.underlying t = some (.slice e)) (he : P.underlying e = some (.int .u8)) (ce : P.cellsOf e = 1)
    (h : DataW.Trod enc P W 0 (fun _ => true) true t (.slice a n cap) d p) : BytR W a n ∧ n ≤ cap ∧ cap ≤ 9223372036854775807 := by
  obtain ⟨fuel, hf⟩ := h
  rcases open_ints ht he ce hf with ⟨hcs, _⟩ | ⟨a', len, cap', zs, hcs, _, hl, hm, hlen, _, hcell, hwf⟩
  · simp [Value.cells] at hcs
    obtain ⟨rfl, rfl, rfl⟩ := hcs
    exact ⟨fun h => absurd h (by omega), by omega, by omega⟩
  · simp [Value.cells] at hcs
    obtain ⟨rfl, rfl, rfl⟩ := hcs
    have hmx : maxLen = 9223372036854775807 := rfl
    have hzl : zs.length = cap := by simpa using hlen
    refine ⟨fun h0 => ?_, by omega, by omega⟩
    obtain ⟨b, o, spot⟩ := a'
    have hspot : spot = none := by simpa [Addr.add] using World.cell?_spot (hcell 0 (by omega))
    subst hspot
    refine ⟨b, o, rfl, fun i hi => ?_⟩
    have hi' : i < zs.length := by omega
    have hw := wf_u8_of (hwf (zs.getD i 0) (by simp [List.getD, hi']))
    obtain ⟨z, hz⟩ := Int.eq_ofNat_of_zero_le hw.1
    refine ⟨z, by omega, ?_⟩
    rw [← add_plain, hcell i hi', hz]

theorem Try.cellsB : Try.prog.cellsOf 5 = 1 := by kernel_rfl

end Go.Proofs.Ytkfondipmhjhjaa
end

section
/- The statement FnTraceMake, proved: for every input the law returns true and the argument reads as before. No conditions. -/
namespace Go.Proofs.Ytkfondipmhjhjaa
open Go.ChangeShapes Go.WideShapes Go.ChangeAt Go.RowKit Go.Deep

set_option maxRecDepth 100000 in
theorem lifted_FnTraceMake (os : Os) (started : os.Started) (H : Type) (enc : TypeId × Value → H) :
    ReturnsInHanded {} Try.checked os 9 .any (Rows.fnTraceMakeSpec.pre6 enc Try.prog Try.f9 Rows.fnTraceMakeRow.domain false) (Rows.fnTraceMakeSpec.post enc Try.prog Try.f9 false true false false) := by
  refine returnsInHanded_of_change (C := Try.checked) Try.own started (by kernel_rfl) Try.func9
    (ChangeSpec.witness6 (enc := enc) (C := Try.checked) false ⟨#[], #[.slice none 0 0], []⟩ 8 (by kernel_rfl) (by kernel_rfl) (by kernel_rfl) (by kernel_rfl)) ?_
  intro W base args ds gs before hval0 hW _ _
  have hval : ∀ (j : Nat) t v, Try.f9.params[j]? = some t → args[j]? = some v → Value.okWide Try.prog W .any base t v := hval0
  have hW' := hW
  obtain ⟨p, q, hA0, hV, rfl, hfz, hnd⟩ := hW
  have hA : DataW.TrodAll enc Try.prog W 0 (fun _ => true) true Try.f9.params.toList args.toList ds p := hA0
  rw [Try.params9] at hA hval
  obtain ⟨v0, d0, rfl, rfl, h0⟩ := trodAll_one hA
  obtain ⟨p0, hp0⟩ : ∃ p0, p0 = p := ⟨_, rfl⟩
  subst hp0
  obtain ⟨rfl, rfl⟩ := trodVars_none hV
  obtain ⟨a0, n0, cap0, rfl⟩ := okWide_slice Try.underlying22 (hval 0 22 v0 rfl rfl)
  obtain ⟨hb0, hc0, h630⟩ := open_bytes Try.underlying22 Try.underlying5 Try.cellsB h0
  clear hA0 hval0
  simp only [List.append_nil] at hW'
  have hlt0 : ∀ x ∈ p0, x.block < W.heap.size := fun x hx => hW'.lt x (by simp [hx])
  refine (fnTraceMake a0 cap0 n0 W hc0 h630 hb0).mono fun e W' ⟨he, hs⟩ => ?_
  subst he
  have hb := since_below' hs
  have ht0 : ∀ sp : Nat → Bool, (∀ x ∈ p0, sp x.block = true) → DataW.Trod enc Try.prog W' 0 sp true 22 (.slice a0 n0 cap0) d0 p0 := fun sp hsp =>
    WideElems.Trod_stays Try.laidOut (by kernel_rfl) (of_decide_eq_true (by kernel_rfl)) h0 (fun x hx => hb.same (hlt0 x hx)) hsp
  have hargs : ∀ sp : Nat → Bool, (∀ x ∈ (p0), sp x.block = true) → DataW.TrodAll enc Try.prog W' 0 sp true [22] [.slice a0 n0 cap0] [d0] (p0) := fun sp hsp => by
    have := trodAll_mk1 (enc := enc) (P := Try.prog) (w := W') (base := 0) (spare := sp) (held := true) (ht0 sp (fun x hx => hsp x (by simp [hx])))
    simpa using this
  exact ⟨_, rfl, post_of_below (pa := p0) (pv := []) hW' (fun _ _ _ => trodAll_mk1 (shut_bool Try.underlying4 true)) (fun sp hsp => hargs sp (fun x hx => hsp x (by simpa using hx))) (fun _ _ => rfl) (by simp) hb rfl⟩

theorem FnTraceMake_holds : Rows.FnTraceMakeSaid :=
  OpenClaim.holds_of_wide 9 Try.f9 rfl rfl rfl rfl rfl rfl rfl ⟨rfl, rfl, rfl, rfl, rfl⟩ rfl rfl rfl rfl rfl (by kernel_rfl) Try.func9 (by kernel_rfl)
    (of_decide_eq_true (by kernel_rfl)) (by unfold Func.isWrapper; first | (rw [if_pos (by decide +kernel)]; kernel_rfl) | (rw [if_neg (by decide +kernel)]; exact ⟨rfl, rfl⟩))
    (fun os started H enc _ => lifted_FnTraceMake os started H enc)

end Go.Proofs.Ytkfondipmhjhjaa
end
