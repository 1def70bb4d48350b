import Derived.Test.YteaabemnolacdaaSquareV
import Derived.Test.YteaabemnolacdaaRowsI
import Derived.Test.YteaabemnolacdaaPivotsI
import Derived.Test.YteaabemnolacdaaOrdDet
import Derived.Test.YteaabemnolacdaaSquareD
import Derived.Test.YteaabemnolacdaaFnTurn
import Derived.Test.YteaabemnolacdaaDetMul
import Derived.Test.YteaabemnolacdaaDraw0
import Derived.Test.YteaabemnolacdaaOpen

section
namespace Go.Proofs.Yteaabemnolacdaa
open Go.RowKit Go.Deep

theorem implValueRows_any (a : Option Addr) (cap n : Nat) (l : List (List Int)) (w : World) (hn : l.length = n) (hsz : szL l ≤ 1048576) (hm : MatR w a l) :
    Calls Try.prog 27 #[.slice a n cap] w (SpecW w (sqB l) (rowF n l)) :=
  implValueRows_of a cap n l (rowF n l) w hn hsz hm fun hs W' hm' => by
    obtain ⟨hT, hw⟩ := sqB_of hs
    have h6 := hT.2.1
    exact byRows_any n (by omega) l a cap W' ⟨hn, fun _ => ⟨hT, by rw [← hw, hn]⟩⟩ hm'

end Go.Proofs.Yteaabemnolacdaa
end

section
namespace Go.Proofs.Yteaabemnolacdaa
open Go.RowKit Go.Deep

theorem implValuePivots_any (a : Option Addr) (cap n : Nat) (l : List (List Int)) (w : World) (hn : l.length = n) (hsz : szL l ≤ 1048576) (hm : MatR w a l) :
    Calls Try.prog 29 #[.slice a n cap] w (SpecW w (sqB l) (ordF l n n 0)) :=
  implValuePivots_of a cap n l (ordF l n n 0) w hn hsz hm fun hs W' hm' => by
    obtain ⟨hT, hw⟩ := sqB_of hs
    have h6 := hT.2.1
    rw [ordF_all l (by omega)]
    exact byPivots_any n l a cap W' ⟨hn, fun _ => ⟨hT, by rw [← hw, hn]⟩⟩ (by omega) hm'

end Go.Proofs.Yteaabemnolacdaa
end

section
namespace Go.Proofs.Yteaabemnolacdaa
open Go.RowKit Go.Deep

set_option maxRecDepth 100000 in
set_option maxHeartbeats 4000000 in
theorem fnByPivots (a : Option Addr) (cap n : Nat) (w : World) (hc : n ≤ cap) (h63 : cap ≤ 9223372036854775807) (hb : BytR w a n) :
    Calls Try.prog 5 #[.slice a n cap] w fun e w' => e = .returned (.bool true) ∧ w.Since w.heap.size w' := by
  by_cases hlen : 1048576 < n
  · have hl' : decide ((1048576 : Int) < (n : Int)) = true := by simp; omega
    clear hb
    go_enter Try.func5, Try.ntmps5
    go_wp2
    go_ret
    exact ⟨rfl, World.Since.refl _ _⟩
  · have hl' : decide ((1048576 : Int) < (n : Int)) = false := by simp; omega
    have ED := Lib.hid (drawValueRows_any a n cap w hc h63 hb)
    clear hb
    go_enter Try.func5, Try.ntmps5
    go_wp2_with fail
    refine (ED.out).mono ?_
    rintro e w1 ⟨a1, c1, l, rfl, hs1, h1, h5, hlens, hit⟩
    have hsz : szL l ≤ 1048576 := szL_of h5 (fun j hj => (hlens j hj).2) (by decide)
    obtain ⟨nn, hn⟩ : ∃ nn, l.length = nn := ⟨_, rfl⟩
    rw [hn]
    have HN := Lib.hid hn
    have HSZ := Lib.hid hsz
    have HM := Lib.hid (fun (W : World) (h : w1.Since w1.heap.size W) => hit.matR.since h)
    have HS1 := Lib.hid hs1
    obtain ⟨ok, hok⟩ : ∃ ok, sqB l = ok := ⟨_, rfl⟩
    obtain ⟨v, hv⟩ : ∃ v, (if ok = true then rowF nn l else 0) = v := ⟨_, rfl⟩
    have E1 := implValueRows_any a1 c1 nn l w1 hn hsz hit.matR
    have E2 := fun (W : World) (h : w1.Since w1.heap.size W) => specValueRows_any a1 c1 nn l W hn hsz (hit.matR.since h)
    unfold SpecW at E1
    unfold SpecW at E2
    rw [hok, hv] at E1
    simp only [hok, hv] at E2
    replace E1 := Lib.hid E1
    replace E2 := Lib.hid E2
    have HOK := Lib.hid hok
    have HV := Lib.hid hv
    clear hn hsz hit hs1 h1 h5 hlens hok hv
    go_wp2_with fail
    refine (E1.out).mono ?_
    rintro e w2 ⟨rfl, hs2⟩
    have HS2 := Lib.hid hs2
    clear hs2
    go_wp2_with fail
    refine (E2.out w2 HS2.out).mono ?_
    rintro e w3 ⟨rfl, hd3⟩
    have HS3 := Lib.hid (HS2.out.trans (since_mono (hd3) HS2.out.size))
    clear hd3
    cases ok with
    | false =>
      go_wp2
      go_ret
      exact ⟨rfl, HS1.out.trans (since_mono HS3.out HS1.out.size)⟩
    | true =>
      have hv := HV.out
      rw [if_pos rfl] at hv
      have hr : ordF l nn nn 0 = v := by
        obtain ⟨hT, hw⟩ := sqB_of HOK.out
        have h6 := hT.2.1
        have hn := HN.out
        rw [← hv, ordF_all l (by omega)]
        exact (rowF_dt nn l ⟨hn, fun _ => ⟨hT, by omega⟩⟩).symm
      clear hv

      have E5 := implValuePivots_any a1 c1 nn l w3 HN.out HSZ.out (HM.out w3 HS3.out)
      unfold SpecW at E5
      rw [HOK.out, if_pos rfl, hr] at E5
      replace E5 := Lib.hid E5
      go_wp2_with fail
      refine (E5.out).mono ?_
      rintro e w5 ⟨rfl, hs5⟩
      have HS5 := Lib.hid (HS3.out.trans (since_mono hs5 HS3.out.size))
      clear hs5
      go_wp2
      go_ret
      exact ⟨rfl, HS1.out.trans (since_mono HS5.out HS1.out.size)⟩

end Go.Proofs.Yteaabemnolacdaa
end

section
namespace Go.Proofs.Yteaabemnolacdaa
open Go.ChangeShapes Go.WideShapes Go.ChangeAt Go.RowKit Go.Deep

theorem wf_u8_of {n : Int} (h : (Lit.int .u8 n).wf = true) : 0 ≤ n ∧ n ≤ 255 := by
  have h2 : (0 : Int) ≤ n ∧ n ≤ 255 := by simpa [Lit.wf, IntKind.min, IntKind.max, IntKind.signed, IntKind.bits] using h
  exact h2

theorem open_bytes {H : Type} {enc : TypeId × Value → H} {P : Program} {W : World} {t e : TypeId} {a : Option Addr} {n cap : Nat} {d : DataW H} {p : List MemPlace} (ht : P.underlying t = some (.slice e)) (he : P.underlying e = some (.int .u8)) (ce : P.cellsOf e = 1)
    (h : DataW.Trod enc P W 0 (fun _ => true) true t (.slice a n cap) d p) : BytR W a n ∧ n ≤ cap ∧ cap ≤ 9223372036854775807 := by
  obtain ⟨fuel, hf⟩ := h
  rcases open_ints ht he ce hf with ⟨hcs, _⟩ | ⟨a', len, cap', zs, hcs, _, hl, hm, hlen, _, hcell, hwf⟩
  · simp [Value.cells] at hcs
    obtain ⟨rfl, rfl, rfl⟩ := hcs
    exact ⟨fun h => absurd h (by omega), by omega, by omega⟩
  · simp [Value.cells] at hcs
    obtain ⟨rfl, rfl, rfl⟩ := hcs
    have hmx : maxLen = 9223372036854775807 := rfl
    have hzl : zs.length = cap := by simpa using hlen
    refine ⟨fun h0 => ?_, by omega, by omega⟩
    obtain ⟨b, o, spot⟩ := a'
    have hspot : spot = none := by simpa [Addr.add] using World.cell?_spot (hcell 0 (by omega))
    subst hspot
    refine ⟨b, o, rfl, fun i hi => ?_⟩
    have hi' : i < zs.length := by omega
    have hw := wf_u8_of (hwf (zs.getD i 0) (by simp [List.getD, hi']))
    obtain ⟨z, hz⟩ := Int.eq_ofNat_of_zero_le hw.1
    refine ⟨z, by omega, ?_⟩
    rw [← add_plain, hcell i hi', hz]

theorem Try.cellsB : Try.prog.cellsOf 5 = 1 := by kernel_rfl

end Go.Proofs.Yteaabemnolacdaa
end

section
namespace Go.Proofs.Yteaabemnolacdaa
open Go.ChangeShapes Go.WideShapes Go.ChangeAt Go.RowKit Go.Deep

set_option maxRecDepth 100000 in
theorem lifted_FnByPivots (os : Os) (started : os.Started) (H : Type) (enc : TypeId × Value → H) :
    ReturnsInHanded {} Try.checked os 5 .any (Rows.fnByPivotsSpec.pre6 enc Try.prog Try.f5 Rows.fnByPivotsRow.domain false) (Rows.fnByPivotsSpec.post enc Try.prog Try.f5 false true false false) := by
  refine returnsInHanded_of_change (C := Try.checked) Try.own started (by kernel_rfl) Try.func5
    (ChangeSpec.witness6 (enc := enc) (C := Try.checked) false ⟨#[], #[.slice none 0 0], []⟩ 8 (by kernel_rfl) (by kernel_rfl) (by kernel_rfl) (by kernel_rfl)) ?_
  intro W base args ds gs before hval0 hW _ _
  have hval : ∀ (j : Nat) t v, Try.f5.params[j]? = some t → args[j]? = some v → Value.okWide Try.prog W .any base t v := hval0
  have hW' := hW
  obtain ⟨p, q, hA0, hV, rfl, hfz, hnd⟩ := hW
  have hA : DataW.TrodAll enc Try.prog W 0 (fun _ => true) true Try.f5.params.toList args.toList ds p := hA0
  rw [Try.params5] at hA hval
  obtain ⟨v0, d0, rfl, rfl, h0⟩ := trodAll_one hA
  obtain ⟨p0, hp0⟩ : ∃ p0, p0 = p := ⟨_, rfl⟩
  subst hp0
  obtain ⟨rfl, rfl⟩ := trodVars_none hV
  obtain ⟨a0, n0, cap0, rfl⟩ := okWide_slice Try.underlying22 (hval 0 22 v0 rfl rfl)
  obtain ⟨hb0, hc0, h630⟩ := open_bytes Try.underlying22 Try.underlying5 Try.cellsB h0
  clear hA0 hval0
  simp only [List.append_nil] at hW'
  have hlt0 : ∀ x ∈ p0, x.block < W.heap.size := fun x hx => hW'.lt x (by simp [hx])
  refine (fnByPivots a0 cap0 n0 W hc0 h630 hb0).mono fun e W' ⟨he, hs⟩ => ?_
  subst he
  have hb := since_below' hs
  have ht0 : ∀ sp : Nat → Bool, (∀ x ∈ p0, sp x.block = true) → DataW.Trod enc Try.prog W' 0 sp true 22 (.slice a0 n0 cap0) d0 p0 := fun sp hsp =>
    WideElems.Trod_stays Try.laidOut (by kernel_rfl) (of_decide_eq_true (by kernel_rfl)) h0 (fun x hx => hb.same (hlt0 x hx)) hsp
  have hargs : ∀ sp : Nat → Bool, (∀ x ∈ (p0), sp x.block = true) → DataW.TrodAll enc Try.prog W' 0 sp true [22] [.slice a0 n0 cap0] [d0] (p0) := fun sp hsp => by
    have := trodAll_mk1 (enc := enc) (P := Try.prog) (w := W') (base := 0) (spare := sp) (held := true) (ht0 sp (fun x hx => hsp x (by simp [hx])))
    simpa using this
  exact ⟨_, rfl, post_of_below (pa := p0) (pv := []) hW' (fun _ _ _ => trodAll_mk1 (shut_bool Try.underlying4 true)) (fun sp hsp => hargs sp (fun x hx => hsp x (by simpa using hx))) (fun _ _ => rfl) (by simp) hb rfl⟩

theorem FnByPivots_holds : Rows.FnByPivotsSaid :=
  OpenClaim.holds_of_wide 5 Try.f5 rfl rfl rfl rfl rfl rfl rfl ⟨rfl, rfl, rfl, rfl, rfl⟩ rfl rfl rfl rfl rfl (by kernel_rfl) Try.func5 (by kernel_rfl)
    (of_decide_eq_true (by kernel_rfl)) (by unfold Func.isWrapper; first | (rw [if_pos (by decide +kernel)]; kernel_rfl) | (rw [if_neg (by decide +kernel)]; exact ⟨rfl, rfl⟩))
    (fun os started H enc _ => lifted_FnByPivots os started H enc)

end Go.Proofs.Yteaabemnolacdaa
end
