/- slices.Collect over the sets of k of n. -/
import Derived.Test.YtbedkjpbdkgjpaaArr
import Derived.Test.YtbedkjpbdkgjpaaPartImpl
import Derived.RangeFuncBox
namespace Go.Proofs.Ytbedkjpbdkgjpaa
open Go.RowKit Go.Deep Go.Shelf
attribute [local go_sem] Oper.semAt_some

theorem sinceRow {lo : Nat} {w W W' : World} {row : Option Nat} (h : w.Since lo W) (hlo : lo ≤ w.heap.size) (hg : W.grownBy W' row) (hr : ∀ r, row = some r → lo ≤ r) : w.Since lo W' :=
  ⟨hg.os.trans h.os, hg.tape.trans h.tape, hg.output.trans h.output, Nat.le_trans h.size hg.size, fun k hk => (hg.block k (by have := h.size; omega) (fun e => by have := hr k e.symm; omega)).trans (h.block k hk)⟩

theorem own_kept {X Y : World} {n₀ : Nat} {e : TypeId} {size k : Nat} {v : Value} {xs : List Value} {row : Option Nat} (h : X.ownsRow n₀ e size v k xs) (hg : X.grownBy Y row) (hr : ∀ r, row = some r → ∃ o : Obj, X.heap[r]? = some o ∧ o.isCells = false) : Y.ownsRow n₀ e size v k xs := by
  refine h.kept hg ?_
  rcases h.2 with ⟨rfl, _⟩ | ⟨g, cap, cur, rfl, _, hgb, _⟩
  · exact .inl rfl
  · refine .inr fun e' => ?_
    obtain ⟨o, ho, hc⟩ := hr g (by simpa [Value.ownBlock] using e'.symm)
    rw [hgb] at ho; cases ho; cases hc

/-- The sets that have come, as numbers. -/
def preI {k M : Nat} (pre : List (SetK k M)) : List Int := pre.map fun x => (x.1 : Int)
theorem preI_all {k M : Nat} {ys : List (SetK k M)} (h : ys.map (·.1) = setsTo k M) : preI ys = setsI k M := by
  unfold preI setsI
  rw [← h, List.map_map]
  rfl

set_option maxRecDepth 100000 in
set_option maxHeartbeats 2000000 in
theorem appendSets_any (Bn Bk N k : Nat) (w : World) (h6 : N ≤ 6) (h1 : Bn < w.heap.size) (h2 : Bk < w.heap.size) (hBn : w.cell? ⟨Bn, 0, none⟩ = some (.int .i64 N)) (hBk : w.cell? ⟨Bk, 0, none⟩ = some (.int .i64 k)) :
    Calls Try.prog 86 #[.slice none 0 0, .func (.func 87) #[] #[.pointer (some ⟨Bn, 0, none⟩), .pointer (some ⟨Bk, 0, none⟩)]] w fun e w' => ∃ v, e = .returned v ∧ RB w w' v (setsI k (2 ^ N)) := by
  obtain ⟨i3, hi3⟩ := info3_parts
  have HJ := Lib.hid hi3
  have hM64 : 2 ^ N ≤ 2 ^ 6 := Nat.pow_le_pow_right (by omega) h6
  have hbC := cell_alloc_l (W := w) (.cells #[.slice none 0 0] 22) hBn
  have hbK := cell_alloc_l (W := w) (.cells #[.slice none 0 0] 22) hBk
  have hbx := Boxed.new w 22 (.slice none 0 0)
  have hsn : w.Since w.heap.size (w.alloc (.cells #[.slice none 0 0] 22)) := (World.Since.refl _ _).alloc (Nat.le_refl _) _
  have hzz : (w.alloc (.cells #[.slice none 0 0] 22)).heap.size = w.heap.size + 1 := by simp
  refine (callsIn_wide (n := 9)).1 ?_
  refine callsIn_of_wp_marks Try.func86 rfl trivial ?_ rfl
  simp only [Try.ntmps86, List.size_toArray, List.length_cons, List.length_nil, Nat.reduceAdd, Nat.reduceSub, Array.replicate_succ, Array.replicate_zero, List.push_toArray, List.append_toArray, List.nil_append, List.cons_append]
  clear hi3 hBn hBk
  gi_wp2
  obtain ⟨W0, hW0⟩ : ∃ W0, w.alloc (.cells #[.slice none 0 0] 22) = W0 := ⟨_, rfl⟩
  rw [hW0] at hbC hbK hbx hsn hzz ⊢
  clear hW0
  refine wpIn_rangeFunc_ownF (F := Fence.wide) (n := 9) rfl (by omega) (gf := 87) (lb := #[.pointer (some ⟨Bn, 0, none⟩), .pointer (some ⟨Bk, 0, none⟩)]) rfl trivial (enters_of Try.func87 (by kernel_rfl) rfl)
    (sets_stops 8 (by omega) Bn Bk N k (2 ^ N) h6 rfl W0 (by omega) (by omega) hbC hbK)
    (fun h k => h.trans k) (kp2_b (by omega) (by omega)) (Below.refl _ _) (fun _ => rfl)
    (fun pre W => ∃ v, Boxed W w.heap.size 22 v ∧ W.ownsRow w.heap.size 3 1 v (preI pre).length ((preI pre).map (Value.int .i64)) ∧ w.Since w.heap.size W)
    (fun _ _ _ => False)
    ?hI
    (fun c => fun s A B row hs hg hr => hs)
    ⟨_, hbx, World.ownsRow_nil _ _ _ _, hsn⟩
    (fun x => { tmps := #[.slice none 0 0, .func (.func 87) #[] #[.pointer (some ⟨Bn, 0, none⟩), .pointer (some ⟨Bk, 0, none⟩)], .pointer (some ⟨w.heap.size, 0, none⟩), undef, .slice none 0 0, .int .i64 (x.1 : Int),
      .func (.func 87) #[] #[.pointer (some ⟨Bn, 0, none⟩), .pointer (some ⟨Bk, 0, none⟩)], .int .i64 (x.1 : Int), undef, undef, undef, undef, undef], defers := [] }) ?assign ?body ?done ?stop
  case hI =>
    rintro s X Y row ⟨v, hv, hr, hS⟩ hg hrow
    exact ⟨v, hv.kept hg (fun e => by have := (hrow _ e.symm).1; omega), own_kept hr hg (fun r e => (hrow r e).2), sinceRow hS (Nat.le_refl _) hg (fun r e => by have := (hrow r e).1; omega)⟩
  case assign =>
    intro lp x W K hK
    gi_wp2
    exact hK
  case body =>
    rintro lp pre x W ⟨v, hv, hr, hS⟩ hlen
    have hz := hS.size
    have hzb := hv.lt
    have hcv := hv.cell
    have hL : (preI pre).length = pre.length := by simp [preI]
    have hP1 : preI (pre ++ [x]) = preI pre ++ [(x.1 : Int)] := by simp [preI]
    have HP1 := Lib.hid hP1
    have HS := Lib.hid hS
    have HV := Lib.hid hv
    obtain ⟨L, hLL⟩ : ∃ L, preI pre = L := ⟨_, rfl⟩
    rw [hLL] at hL hr HP1
    have HR := Lib.hid hr
    have hL64 : L.length ≤ 64 := by omega
    clear hP1 hr hv hS hL
    gi_wp2_with (gi_at_builtin; (refine wpListIn_append_own _ rfl _ _ 22 rfl w.heap.size 3 i3 (.int .i64 0) 1 8 Try.underlying22 HJ.out.1 HJ.out.2.1 HJ.out.2.2.1 HJ.out.2.2.2 rfl (by decide) _ _ _ rfl (HR.out.alloc _) ⟨W.heap.size, 0, none⟩ 1 1 [.int .i64 (x.1 : Int)] rfl rfl (cell_one_at _ _ _ rfl) (fun x hx => by simp at hx; subst hx; rfl) (by unfold maxLen; omega) (by omega) (by simp; omega) ?_); intro v' w1 hown' hgrow _; obtain ⟨b1, b2, b3, b4, b5⟩ := Boxed.appended HV.out (by decide) HR.out hz (Nat.le_refl _) hown' hgrow; have c1 := b1.cell; have f1 := b1.frozen; obtain ⟨g, cap, rfl⟩ := ownsRow_succ hown'; have HA := Lib.hid (And.intro b2 (And.intro b3 (And.intro b4 b5))); clear b1 b2 b3 b4 b5 hown' hgrow)
    obtain ⟨b2, b3, b4, b5⟩ := HA.out
    have hsn2 := HS.out
    have hsz2 := b5.size
    refine ⟨b4, ⟨b5.cell (p := ⟨Bn, 0, none⟩) h1, b5.cell (p := ⟨Bk, 0, none⟩) h2⟩, _, b2, ?_, ?_⟩
    · rw [HP1.out]
      simpa using b3
    · exact ⟨b5.os.trans hsn2.os, b5.tape.trans hsn2.tape, b5.output.trans hsn2.output, Nat.le_trans hsn2.size hsz2, fun j hj => (b5.block j hj).trans (hsn2.block j hj)⟩
  case done =>
    rintro D ys W hD hys ⟨v, hv, hr, hS⟩ hK
    have hcv := hv.cell
    have hzb := hv.lt
    rw [preI_all hys] at hr
    have HR := Lib.hid (own_kept hr (grownBy_putObj' W D (.deferred none)) (fun r e => by cases e; exact ⟨_, hK, rfl⟩))
    have HS := Lib.hid (sinceRow (row := some D) hS (Nat.le_refl _) (grownBy_putObj' W D (.deferred none)) (fun r e => by cases e; omega))
    clear hr hS hys hv
    gi_wp2
    refine ⟨by simp, .inl ⟨_, _, rfl, run_takeDeferred hK, ?_⟩⟩
    refine ⟨v, ?_, v, rfl, HS.out, HR.out⟩
    simp [results, Try.f86, go_sem]
  case stop =>
    rintro D c pre W hD hpre hF hK
    exact hF.elim

theorem sets_any (N k : Int) (w : World) :
    Calls Try.prog 70 #[.int .i64 N, .int .i64 k] w fun e w' => e = .returned (.func (.func 87) #[] #[.pointer (some ⟨w.heap.size, 0, none⟩), .pointer (some ⟨w.heap.size + 1, 0, none⟩)]) ∧ w' = (w.alloc (.cells #[.int .i64 N] 3)).alloc (.cells #[.int .i64 k] 3) :=
  (callsIn_wide (n := 9)).1 (sets_in 9 N k w)

set_option maxRecDepth 100000 in
set_option maxHeartbeats 1000000 in
theorem collectSets_any (Bn Bk N k : Nat) (w : World) (h6 : N ≤ 6) (h1 : Bn < w.heap.size) (h2 : Bk < w.heap.size) (hBn : w.cell? ⟨Bn, 0, none⟩ = some (.int .i64 N)) (hBk : w.cell? ⟨Bk, 0, none⟩ = some (.int .i64 k)) :
    Calls Try.prog 69 #[.func (.func 87) #[] #[.pointer (some ⟨Bn, 0, none⟩), .pointer (some ⟨Bk, 0, none⟩)]] w fun e w' => ∃ v, e = .returned v ∧ RB w w' v (setsI k (2 ^ N)) := by
  have E := Lib.hid (appendSets_any Bn Bk N k w h6 h1 h2 hBn hBk)
  clear hBn hBk
  go_enter Try.func69, Try.ntmps69
  go_wp2_with fail
  refine (E.out).mono ?_
  rintro e w2 ⟨v, rfl, hR⟩
  have HR := Lib.hid hR
  clear hR
  go_wp2
  go_ret
  exact ⟨_, rfl, HR.out⟩

end Go.Proofs.Ytbedkjpbdkgjpaa
