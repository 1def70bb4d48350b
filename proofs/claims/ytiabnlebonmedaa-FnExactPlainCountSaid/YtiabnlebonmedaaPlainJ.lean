/- The contract of countOrders. -/
import Derived.Test.YtiabnlebonmedaaPlainI
namespace Go.Proofs.Ytiabnlebonmedaa
open Go.RowKit Go.Deep Go.Shelf
attribute [local go_sem] Oper.semAt_some

/-- 1 for a list whose product is not 0. -/
def onP (l : List (List Int)) (cs : List Nat) : Int := if prodC l cs = 0 then 0 else 1
theorem prodN_one (l : List (List Int)) {n : Nat} {cs : List Nat} (hl : cs.length = n) (hc : ∀ c ∈ cs, c < n) : ∀ m, m ≤ n → prodN 1 (fun i => at2 (oneL l n) i (cs.getD i 0)) m = if prodN 1 (fun i => at2 l i (cs.getD i 0)) m = 0 then 0 else 1
  | 0, _ => by simp [prodN]
  | m + 1, h => by
    have hk : cs.getD m 0 < n := by
      have : cs.getD m 0 = cs[m]'(by omega) := by simp [List.getD, show m < cs.length by omega]
      rw [this]; exact hc _ (List.getElem_mem _)
    have e : at2 (oneL l n) m (cs.getD m 0) = oneN l m (cs.getD m 0) := tabF_at n n (oneN l) m _ (by omega) hk
    unfold prodN
    rw [prodN_one l hl hc m (by omega), e]
    unfold oneN
    by_cases h1 : prodN 1 (fun i => at2 l i (cs.getD i 0)) m = 0
    · rw [if_pos h1, h1]; simp
    · by_cases h2 : at2 l m (cs.getD m 0) = 0
      · rw [if_pos h2, h2]; simp
      · rw [if_neg h1, if_neg h2, if_neg (Int.mul_ne_zero h1 h2)]; rfl
theorem prodC_one (l : List (List Int)) {n : Nat} (_h1 : 1 ≤ n) (_h6 : n ≤ 6) {cs : List Nat} (hl : cs.length = n) (hc : ∀ c ∈ cs, c < n) : prodC (oneL l n) cs = onP l cs := by
  unfold onP prodC
  rw [hl]
  exact prodN_one l hl hc n (Nat.le_refl _)

set_option maxRecDepth 100000 in
set_option maxHeartbeats 2000000 in
theorem countOrders_any (a : Option Addr) (cap n : Nat) (l : List (List Int)) (w : World) (hn : l.length = n) (hT : TabIn l) (hw : (l.getD 0 []).length = n) (hm : MatR w a l) :
    Calls Try.prog 44 #[.slice a n cap] w fun e w' => e = .returned (.int .i64 (plF (oneL l n) n n 0)) ∧ w.Since w.heap.size w' := by
  have h6 := hT.2.1
  have h1 := hT.1
  rw [hn] at h6 h1
  have hE := entB_of hT hn hw
  have EP := Lib.hid (fun (x : OL) (V : World) (hs : w.Since w.heap.size V) (hx : olP n x V) => plainProduct_any a cap n l x.1 n x.2 V hn hT hw (hm.since hs) hx.1.1 hx.1.2 hx.2)
  refine (callsIn_wide (n := 9)).1 ?_
  refine callsIn_of_wp_marks Try.func44 rfl trivial ?_ rfl
  simp only [Try.ntmps44, List.size_toArray, List.length_cons, List.length_nil, Nat.reduceAdd, Nat.reduceSub, Array.replicate_succ, Array.replicate_zero, List.push_toArray, List.append_toArray, List.nil_append, List.cons_append]
  clear hm
  gi_wp2_with (refine ⟨trivial, ?_⟩; gi_at_call 66; refine (callsIn_wide.2 (orders_any _ _)).mono ?_; rintro e w' ⟨rfl, rfl⟩)
  have hP := pli_start w 37 (.slice a n cap) 0
  obtain ⟨W1, hW1⟩ : ∃ W1, (w.alloc (.cells #[.slice a n cap] 37)).alloc (.cells #[.int .i64 0] 3) = W1 := ⟨_, rfl⟩
  have hz : W1.heap.size = w.heap.size + 1 + 1 := by rw [← hW1]; simp
  rw [hW1] at hP ⊢
  clear hW1
  have hbn := (Boxed.new W1 3 (.int .i64 n)).cell
  rw [hz] at hbn
  have hP2 := hP.kept (World.grownBy_alloc W1 (.cells #[.int .i64 n] 3) none) (fun r e => by cases e)
  have hz2 : (W1.alloc (.cells #[.int .i64 n] 3)).heap.size = w.heap.size + 3 := by simp [hz]
  obtain ⟨W0, hW0⟩ : ∃ W0, W1.alloc (.cells #[.int .i64 n] 3) = W0 := ⟨_, rfl⟩
  rw [hW0] at hbn hP2 hz2 ⊢
  clear hW0 hP hz
  refine rangeC (F := Fence.wide) (n := 9) rfl (by omega) (gf := 82) (lb := #[.pointer (some ⟨w.heap.size + 1 + 1, 0, none⟩)]) rfl trivial (enters_of Try.func82 (by kernel_rfl) rfl)
    (orders_stops 8 (w.heap.size + 1 + 1) n h1 h6 W0 (by omega) hbn) (fun _ => rfl) (olP_put n) (fun k => k = w.heap.size + 1) (by rintro k rfl; exact ⟨by omega, by omega⟩) (by rintro k rfl; omega)
    (fun (pre : List OL) W => PLI w 37 (.slice a n cap) (lsumI (fun x : OL => onP l x.2) pre) W ∧ ∀ x ∈ pre, x.2.length = n ∧ ∀ c ∈ x.2, c < n)
    (fun pre X Y row hs hg hr => ⟨hs.1.kept hg (fun r e => by have := hr r e; omega), hs.2⟩)
    ⟨hP2, by simp⟩
    (fun x => { tmps := #[.slice a n cap, .pointer (some ⟨w.heap.size, 0, none⟩), .int .i64 0, .pointer (some ⟨w.heap.size + 1, 0, none⟩), .slice (some ⟨x.1, 0, none⟩) n n, .slice a n cap, .int .i64 n, .func (.func 82) #[] #[.pointer (some ⟨w.heap.size + 1 + 1, 0, none⟩)], .slice (some ⟨x.1, 0, none⟩) n n, undef, undef, undef, undef, undef, undef, undef], defers := [] }) ?assign ?body ?done
  case assign =>
    intro lp x W K hK
    simp only [olV]
    gi_wp2
    exact hK
  case body =>
    rintro lp pre x W hl ⟨hv, hpre⟩ hpx hlen
    have hxx := hpx.1
    have hpz : prodN 1 (fun i => at2 l i (x.2.getD i 0)) n = prodC l x.2 := by unfold prodC; rw [hxx.1]
    have hyb := lsumI_bd (f := fun x : OL => onP l x.2) (B := 1) (by omega) pre (fun x _ => by unfold onP; split <;> omega)
    have hsn := lsumI_snoc (fun x : OL => onP l x.2) pre x
    have hon : onP l x.2 = if prodC l x.2 = 0 then 0 else 1 := rfl
    have E := EP.out x W hv.sn hpx
    rw [hpz] at E
    obtain ⟨y, hy⟩ : ∃ y, lsumI (fun x : OL => onP l x.2) pre = y := ⟨_, rfl⟩
    obtain ⟨z, hz⟩ : ∃ z, prodC l x.2 = z := ⟨_, rfl⟩
    rw [hy] at hv hyb hsn
    rw [hz] at E hon
    rw [hon] at hsn
    replace E := Lib.hid E
    have cT : W.cell? ⟨w.heap.size, 0, none⟩ = _ := hv.bt.cell
    have HS0 := Lib.hid (fun h : z = 0 => show lsumI (fun x : OL => onP l x.2) (pre ++ [x]) = y from by rw [hsn, if_pos h, Int.add_zero])
    have HS1 := Lib.hid (fun h : ¬ z = 0 => show lsumI (fun x : OL => onP l x.2) (pre ++ [x]) = y + 1 from by rw [hsn, if_neg h])
    have HV := Lib.hid hv
    have hmix : Try.prog.follows .mixedOrders = true := by kernel_rfl
    have HPRE := Lib.hid (show ∀ x' ∈ pre ++ [x], x'.2.length = n ∧ ∀ c ∈ x'.2, c < n from fun x' hx' => by
      rcases List.mem_append.1 hx' with h | h
      · exact hpre x' h
      · simp at h; subst h; exact hxx)
    have hws : IntKind.i64.wrap (y + 1) = y + 1 := IntWalk.i64_in _ ⟨by omega, by omega⟩
    clear hyb hsn hv hpre hpz hy hz hon hmix
    by_cases hz0 : z = 0
    · subst hz0
      gi_wp2_with (refine ⟨trivial, ?_⟩; gi_at_call 67; refine (CallsIn.inRound lp (callsIn_wide.2 (E.out))).mono ?_; rintro e w2 ⟨rfl, hs2⟩; have HG := Lib.hid (grown_of_since (row := none) hs2); clear hs2)
      exact ⟨Keeps.grown HG.out (fun r e => by cases e), by rw [HS0.out trivial]; exact HV.out.kept HG.out (fun r e => by cases e), HPRE.out⟩
    · have hzn : (z != 0) = true := by simpa using hz0
      gi_wp2_with (refine ⟨trivial, ?_⟩; gi_at_call 67; refine (CallsIn.inRound lp (callsIn_wide.2 (E.out))).mono ?_; rintro e w2 ⟨rfl, hs2⟩; have hg := grown_of_since (row := none) hs2; have cS2 := (HV.out.bs.kept hg (by simp)).cell; have fS2 := (HV.out.bs.kept hg (by simp)).frozen; have HG := Lib.hid hg; clear hs2 hg)
      exact ⟨(Keeps.grown HG.out (fun r e => by cases e)).trans (Keeps.grown (grownBy_setCell' w2 (w.heap.size + 1) _) (fun r e => by cases e; rfl)), by rw [HS1.out hz0]; exact (HV.out.kept HG.out (fun r e => by cases e)).set _, HPRE.out⟩
  case done =>
    rintro D ys W hD hS ⟨hv, hv0⟩ hK
    have hy : lsumI (fun x : OL => onP l x.2) ys = plF (oneL l n) n n 0 := by
      rw [← plS_all _ n h6, ← ordL_sum _ n n [], ← hS, lsumI_map]
      refine lsumI_congr ys fun x hx => ?_
      exact (prodC_one l h1 h6 (hv0 x hx).1 (hv0 x hx).2).symm
    rw [hy] at hv
    have cS := hv.bs.cell
    have hlt := hv.bs.lt
    have HS := Lib.hid (since_rowC hv.sn (grownBy_putObj' W D (.deferred none)) (fun r e => by cases e; omega))
    obtain ⟨y, hyy⟩ : ∃ y, plF (oneL l n) n n 0 = y := ⟨_, rfl⟩
    rw [hyy] at cS
    have HYY := Lib.hid hyy
    clear hv hv0 hS hy hyy
    gi_wp2
    refine ⟨by simp, .inl ⟨_, _, rfl, run_takeDeferred hK, ?_⟩⟩
    refine ⟨.int .i64 y, ?_, by rw [HYY.out], HS.out⟩
    simp [results, Try.f44, go_sem]

end Go.Proofs.Ytiabnlebonmedaa
