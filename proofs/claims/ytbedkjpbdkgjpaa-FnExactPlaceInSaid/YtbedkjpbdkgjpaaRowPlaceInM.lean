import Derived.Test.YtbedkjpbdkgjpaaTold
import Derived.Test.YtbedkjpbdkgjpaaLawPlaceIn
import Derived.Test.YtbedkjpbdkgjpaaPlaceW
import Derived.Test.YtbedkjpbdkgjpaaOpen
import Derived.Test.YtbedkjpbdkgjpaaOpenR

section
/- The contract of impl.PlaceIn: it lies in Told. -/
namespace Go.Proofs.Ytbedkjpbdkgjpaa
end Go.Proofs.Ytbedkjpbdkgjpaa
end

section
/- The walk of laws.FnExactPlaceIn at any arguments. -/
namespace Go.Proofs.Ytbedkjpbdkgjpaa
open Go.RowKit Go.Deep

theorem lawPlaceIn (k n : Int) (a0 : Option Addr) (cap0 n0 : Nat) (l0 : List Int) (w : World) (hn0 : l0.length = n0) (h630 : n0 ≤ 9223372036854775807) (hm0 : RowR w a0 l0) :
    Calls Try.prog 3 #[.int .i64 k, .int .i64 n, .slice a0 n0 cap0] w fun e w' => e = .returned (.bool true) ∧ w.Since w.heap.size w' :=
  lawPlaceIn_aux k n a0 cap0 n0 l0 (placeB k n l0) w hn0 h630 hm0 (fun q0 W b0 c0 hb0 => specPlaceIn_any k n b0 c0 n0 l0 W hn0 q0 hb0) (fun q0 W b0 c0 hb0 => implPlaceIn_any k n b0 c0 n0 l0 W hn0 q0 hb0)

end Go.Proofs.Ytbedkjpbdkgjpaa
end

section
/- The statement FnExactPlaceIn, proved: for every input the law returns true and each argument reads as before. No conditions. -/
namespace Go.Proofs.Ytbedkjpbdkgjpaa
open Go.ChangeShapes Go.WideShapes Go.ChangeAt Go.RowKit Go.Deep

set_option maxRecDepth 100000 in
theorem lifted_PlaceIn (os : Os) (started : os.Started) (H : Type) (enc : TypeId × Value → H) :
    ReturnsInHanded {} Try.checked os 3 .any (Rows.fnExactPlaceInSpec.pre6 enc Try.prog Try.f3 Rows.fnExactPlaceInRow.domain false) (Rows.fnExactPlaceInSpec.post enc Try.prog Try.f3 false true false false) := by
  refine returnsInHanded_of_change (C := Try.checked) Try.own started (by kernel_rfl) Try.func3
    (ChangeSpec.witness6 (enc := enc) (C := Try.checked) false ⟨#[], #[.int .i64 0, .int .i64 0, .slice none 0 0], []⟩ 8 (by kernel_rfl) (by kernel_rfl) (by kernel_rfl) (by kernel_rfl)) ?_
  intro W base args ds gs before hval0 hW _ _
  have hval : ∀ (j : Nat) t v, Try.f3.params[j]? = some t → args[j]? = some v → Value.okWide Try.prog W .any base t v := hval0
  have hW' := hW
  obtain ⟨p, q, hA0, hV, rfl, hfz, hnd⟩ := hW
  have hA : DataW.TrodAll enc Try.prog W 0 (fun _ => true) true Try.f3.params.toList args.toList ds p := hA0
  rw [Try.params3] at hA hval
  obtain ⟨v0, v1, v2, d0, d1, d2, p0, p1, p2, rfl, rfl, rfl, h0, h1, h2⟩ := trodAll_three hA
  obtain ⟨rfl, rfl⟩ := trodVars_none hV
  obtain ⟨x0, rfl, rfl, rfl, wx0⟩ := open_int Try.underlying3 (hval 0 3 v0 rfl rfl) h0
  obtain ⟨x1, rfl, rfl, rfl, wx1⟩ := open_int Try.underlying3 (hval 1 3 v1 rfl rfl) h1
  obtain ⟨a2, n2, cap2, rfl⟩ := okWide_slice Try.underlying22 (hval 2 22 v2 rfl rfl)
  obtain ⟨l2, hl2, hm2, h632⟩ := open_row Try.underlying22 Try.underlying3 Try.cellsI h2
  clear hA0 hval0
  simp only [List.append_nil, List.nil_append] at hW'
  have hlt2 : ∀ x ∈ p2, x.block < W.heap.size := fun x hx => hW'.lt x (by simp [hx])
  refine (lawPlaceIn x0 x1 a2 cap2 n2 l2 W hl2 h632 hm2).mono fun e W' ⟨he, hs⟩ => ?_
  subst he
  have hb := since_below' hs
  have ht2 : ∀ sp : Nat → Bool, (∀ x ∈ p2, sp x.block = true) → DataW.Trod enc Try.prog W' 0 sp true 22 (.slice a2 n2 cap2) d2 p2 := fun sp hsp =>
    WideElems.Trod_stays Try.laidOut (by kernel_rfl) (of_decide_eq_true (by kernel_rfl)) h2 (fun x hx => hb.same (hlt2 x hx)) hsp
  have hargs : ∀ sp : Nat → Bool, (∀ x ∈ (p2), sp x.block = true) → DataW.TrodAll enc Try.prog W' 0 sp true [3, 3, 22] [.int .i64 x0, .int .i64 x1, .slice a2 n2 cap2] [.lit (.int .i64 x0), .lit (.int .i64 x1), d2] (p2) := fun sp hsp => by
    have := trodAll_mk3 (enc := enc) (P := Try.prog) (w := W') (base := 0) (spare := sp) (held := true) (shut_int Try.underlying3 wx0) (shut_int Try.underlying3 wx1) (ht2 sp (fun x hx => hsp x (by simp [hx])))
    simpa using this
  exact ⟨_, rfl, post_of_below (pa := p2) (pv := []) hW' (fun _ _ _ => trodAll_mk1 (shut_bool Try.underlying4 true)) (fun sp hsp => hargs sp (fun x hx => hsp x (by simpa using hx))) (fun _ _ => rfl) (by simp) hb rfl⟩

theorem FnExactPlaceIn_holds : Rows.FnExactPlaceInSaid :=
  OpenClaim.holds_of_wide 3 Try.f3 rfl rfl rfl rfl rfl rfl rfl ⟨rfl, rfl, rfl, rfl, rfl⟩ rfl rfl rfl rfl rfl (by kernel_rfl) Try.func3 (by kernel_rfl)
    (of_decide_eq_true (by kernel_rfl)) (by unfold Func.isWrapper; first | (rw [if_pos (by decide +kernel)]; kernel_rfl) | (rw [if_neg (by decide +kernel)]; exact ⟨rfl, rfl⟩))
    (fun os started H enc _ => lifted_PlaceIn os started H enc)

end Go.Proofs.Ytbedkjpbdkgjpaa
end
