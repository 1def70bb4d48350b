/- The contracts of plainByOrders and countOrders. -/
import Derived.Test.YtiabnlebonmedaaOrdersD
import Derived.Test.YtiabnlebonmedaaRound
import Derived.Test.YtiabnlebonmedaaPlainC
namespace Go.Proofs.Ytiabnlebonmedaa
open Go.RowKit Go.Deep Go.Shelf
attribute [local go_sem] Oper.semAt_some

theorem since_rowC {w X Y : World} {row : Option Nat} (h : w.Since w.heap.size X) (hg : X.grownBy Y row) (hr : ∀ r, row = some r → w.heap.size ≤ r) : w.Since w.heap.size Y :=
  ⟨hg.os.trans h.os, hg.tape.trans h.tape, hg.output.trans h.output, Nat.le_trans h.size hg.size, fun k hk => (hg.block k (by have := h.size; omega) (fun e => by have := hr k e.symm; omega)).trans (h.block k hk)⟩
theorem olP_put (n : Nat) (x : OL) (W : World) (l : Nat) (o o' : Obj) (h : olP n x W) (hl : W.heap[l]? = some o) (ho : o.isCells = false) : olP n x (W.putObj l o') := by
  refine ⟨h.1, fun hp => ?_⟩
  obtain ⟨b, p, e, hc⟩ := h.2 hp
  exact ⟨b, p, e, fun i hi => cell_kept (hc i hi) (grownBy_putObj' W l o') (fun r e => by cases e; exact ⟨o, hl, ho⟩)⟩

theorem prodC_bd {l : List (List Int)} {n : Nat} (hE : EntB l n) {cs : List Nat} (hl : cs.length = n) (hc : ∀ c ∈ cs, c < n) : -(p180 n) ≤ prodC l cs ∧ prodC l cs ≤ p180 n := by
  unfold prodC
  rw [hl]
  exact prodN_bd (by omega) n (fun j hj => hE.2 j _ hj (by
    have : cs.getD j 0 = cs[j]'(by omega) := by simp [List.getD, show j < cs.length by omega]
    rw [this]; exact hc _ (List.getElem_mem _)))

/-- What lies while lists are added up. -/
structure PLI (w : World) (t : TypeId) (tv : Value) (y : Int) (W : World) : Prop where
  bt : Boxed W w.heap.size t tv
  bs : Boxed W (w.heap.size + 1) 3 (.int .i64 y)
  sn : w.Since w.heap.size W
theorem PLI.kept {w W W' : World} {t : TypeId} {tv : Value} {y : Int} {row : Option Nat} (h : PLI w t tv y W) (hg : W.grownBy W' row) (hr : ∀ r, row = some r → w.heap.size + 2 ≤ r) : PLI w t tv y W' :=
  ⟨h.bt.kept hg (fun e => by have := hr _ e.symm; omega), h.bs.kept hg (fun e => by have := hr _ e.symm; omega), since_rowC h.sn hg (fun r e => by have := hr r e; omega)⟩
theorem PLI.set {w W : World} {t : TypeId} {tv : Value} {y : Int} (h : PLI w t tv y W) (z : Int) : PLI w t tv z (W.setCell ⟨w.heap.size + 1, 0, none⟩ (.int .i64 z)) :=
  ⟨h.bt.kept (grownBy_setCell' W _ _) (by simp), h.bs.set _, since_rowC h.sn (grownBy_setCell' W _ _) (fun r e => by cases e; omega)⟩
theorem pli_start (w : World) (t : TypeId) (tv : Value) (y : Int) : PLI w t tv y ((w.alloc (.cells #[tv] t)).alloc (.cells #[.int .i64 y] 3)) := by
  have b1 := (Boxed.new w t tv).alloc (.cells #[.int .i64 y] 3)
  have b2 := Boxed.new (w.alloc (.cells #[tv] t)) 3 (.int .i64 y)
  rw [World.size_alloc] at b2
  exact ⟨b1, b2, ((World.Since.refl _ w).alloc (Nat.le_refl _) _).alloc (by simp) _⟩

set_option maxRecDepth 100000 in
set_option maxHeartbeats 2000000 in
theorem plainByOrders_any (a : Option Addr) (cap n : Nat) (l : List (List Int)) (w : World) (hn : l.length = n) (hT : TabIn l) (hw : (l.getD 0 []).length = n) (hm : MatR w a l) :
    Calls Try.prog 38 #[.slice a n cap] w fun e w' => e = .returned (.int .i64 (plF l n n 0)) ∧ w.Since w.heap.size w' := by
  have h6 := hT.2.1
  have h1 := hT.1
  rw [hn] at h6 h1
  have hE := entB_of hT hn hw
  have EP := Lib.hid (fun (x : OL) (V : World) (hs : w.Since w.heap.size V) (hx : olP n x V) => plainProduct_any a cap n l x.1 n x.2 V hn hT hw (hm.since hs) hx.1.1 hx.1.2 hx.2)
  refine (callsIn_wide (n := 9)).1 ?_
  refine callsIn_of_wp_marks Try.func38 rfl trivial ?_ rfl
  simp only [Try.ntmps38, List.size_toArray, List.length_cons, List.length_nil, Nat.reduceAdd, Nat.reduceSub, Array.replicate_succ, Array.replicate_zero, List.push_toArray, List.append_toArray, List.nil_append, List.cons_append]
  clear hm
  gi_wp2_with (refine ⟨trivial, ?_⟩; gi_at_call 66; refine (callsIn_wide.2 (orders_any _ _)).mono ?_; rintro e w' ⟨rfl, rfl⟩)
  have hP := pli_start w 37 (.slice a n cap) 0
  obtain ⟨W1, hW1⟩ : ∃ W1, (w.alloc (.cells #[.slice a n cap] 37)).alloc (.cells #[.int .i64 0] 3) = W1 := ⟨_, rfl⟩
  have hz : W1.heap.size = w.heap.size + 1 + 1 := by rw [← hW1]; simp
  rw [hW1] at hP ⊢
  clear hW1
  have hbn := (Boxed.new W1 3 (.int .i64 n)).cell
  rw [hz] at hbn
  have hP2 := hP.kept (World.grownBy_alloc W1 (.cells #[.int .i64 n] 3) none) (fun r e => by cases e)
  have hz2 : (W1.alloc (.cells #[.int .i64 n] 3)).heap.size = w.heap.size + 3 := by simp [hz]
  obtain ⟨W0, hW0⟩ : ∃ W0, W1.alloc (.cells #[.int .i64 n] 3) = W0 := ⟨_, rfl⟩
  rw [hW0] at hbn hP2 hz2 ⊢
  clear hW0 hP hz
  refine rangeC (F := Fence.wide) (n := 9) rfl (by omega) (gf := 82) (lb := #[.pointer (some ⟨w.heap.size + 1 + 1, 0, none⟩)]) rfl trivial (enters_of Try.func82 (by kernel_rfl) rfl)
    (orders_stops 8 (w.heap.size + 1 + 1) n h1 h6 W0 (by omega) hbn) (fun _ => rfl) (olP_put n) (fun k => k = w.heap.size + 1) (by rintro k rfl; exact ⟨by omega, by omega⟩) (by rintro k rfl; omega)
    (fun (pre : List OL) W => PLI w 37 (.slice a n cap) (lsumI (fun x : OL => prodC l x.2) pre) W ∧ ∀ x ∈ pre, x.2.length = n ∧ ∀ c ∈ x.2, c < n)
    (fun pre X Y row hs hg hr => ⟨hs.1.kept hg (fun r e => by have := hr r e; omega), hs.2⟩)
    ⟨hP2, by simp⟩
    (fun x => { tmps := #[.slice a n cap, .pointer (some ⟨w.heap.size, 0, none⟩), .int .i64 0, .pointer (some ⟨w.heap.size + 1, 0, none⟩), .slice (some ⟨x.1, 0, none⟩) n n, .slice a n cap, .int .i64 n, .func (.func 82) #[] #[.pointer (some ⟨w.heap.size + 1 + 1, 0, none⟩)], .slice (some ⟨x.1, 0, none⟩) n n, undef, undef, undef, undef, undef, undef], defers := [] }) ?assign ?body ?done
  case assign =>
    intro lp x W K hK
    simp only [olV]
    gi_wp2
    exact hK
  case body =>
    rintro lp pre x W hl ⟨hv, hpre⟩ hpx hlen
    have hxx := hpx.1
    have hpz : prodN 1 (fun i => at2 l i (x.2.getD i 0)) n = prodC l x.2 := by unfold prodC; rw [hxx.1]
    have hzb := prodC_bd hE hxx.1 hxx.2
    have hyb := lsumI_bd (f := fun x : OL => prodC l x.2) (B := p180 n) (by have := p180_pos n; omega) pre (fun x hx => prodC_bd hE (hpre x hx).1 (hpre x hx).2)
    have hp6 := p180_le n h6
    have hmul : (pre.length : Int) * p180 n ≤ 46656 * 34012224000000 := Int.mul_le_mul (by omega) hp6 (by have := p180_pos n; omega) (by omega)
    have hsn := lsumI_snoc (fun x : OL => prodC l x.2) pre x
    have E := EP.out x W.drew hv.sn.drew (show olP n x W.drew from hpx)
    rw [hpz] at E
    obtain ⟨y, hy⟩ : ∃ y, lsumI (fun x : OL => prodC l x.2) pre = y := ⟨_, rfl⟩
    obtain ⟨z, hz⟩ : ∃ z, prodC l x.2 = z := ⟨_, rfl⟩
    rw [hy] at hv hyb hsn
    rw [hz] at E hzb hsn
    replace E := Lib.hid E
    have hws : IntKind.i64.wrap (y + z) = y + z := IntWalk.i64_in _ ⟨by omega, by omega⟩
    have cT : W.drew.cell? ⟨w.heap.size, 0, none⟩ = _ := hv.bt.cell
    have cS : W.drew.cell? ⟨w.heap.size + 1, 0, none⟩ = _ := hv.bs.cell
    have HSN := Lib.hid hsn
    have HV := Lib.hid hv
    have hmix : Try.prog.follows .mixedOrders = true := by kernel_rfl
    have HPRE := Lib.hid (show ∀ x' ∈ pre ++ [x], x'.2.length = n ∧ ∀ c ∈ x'.2, c < n from fun x' hx' => by
      rcases List.mem_append.1 hx' with h | h
      · exact hpre x' h
      · simp at h; subst h; exact hxx)
    clear hyb hzb hmul hsn hv hpre hpz hy hz hp6
    gi_wp2
    gi_region_with_o (first
      | (refine ⟨trivial, ?_⟩; gi_at_call 67; refine (CallsIn.inRound lp (callsIn_wide.2 (E.out))).mono ?_; rintro e w2 ⟨rfl, hs2⟩; have hg2 := grown_of_since (row := none) hs2; have hg := undrew hg2; have cS2 := (HV.out.bs.kept hg (by simp)).cell; have fS2 := (HV.out.bs.kept hg (by simp)).frozen; have HG := Lib.hid hg; clear hs2 hg2 hg))
    all_goals
      gi_wp2
      exact ⟨(Keeps.grown HG.out (fun r e => by cases e)).trans (Keeps.grown (grownBy_setCell' w2 (w.heap.size + 1) _) (fun r e => by cases e; rfl)), by rw [HSN.out]; exact (HV.out.kept HG.out (fun r e => by cases e)).set _, HPRE.out⟩
  case done =>
    rintro D ys W hD hS ⟨hv, _⟩ hK
    have hy : lsumI (fun x : OL => prodC l x.2) ys = plF l n n 0 := by
      rw [← plS_all l n h6, ← ordL_sum l n n [], ← hS, lsumI_map]
    rw [hy] at hv
    have cS := hv.bs.cell
    have hlt := hv.bs.lt
    have HS := Lib.hid (since_rowC hv.sn (grownBy_putObj' W D (.deferred none)) (fun r e => by cases e; omega))
    obtain ⟨y, hyy⟩ : ∃ y, plF l n n 0 = y := ⟨_, rfl⟩
    rw [hyy] at cS
    have HYY := Lib.hid hyy
    clear hv hS hy hyy
    gi_wp2
    refine ⟨by simp, .inl ⟨_, _, rfl, run_takeDeferred hK, ?_⟩⟩
    refine ⟨.int .i64 y, ?_, by rw [HYY.out], HS.out⟩
    simp [results, Try.f38, go_sem]

end Go.Proofs.Ytiabnlebonmedaa
