/- Whether a chip is in a net: impl.Chip.isIn. -/
import Derived.Test.YtggmiojhglkcgaaChipI
import Derived.RangeFuncNested
namespace Go.Proofs.Ytggmiojhglkcgaa
open Go.RowKit Go.Deep Go.Shelf
attribute [local go_sem] Oper.semAt_some

/-- A block that holds a chip. -/
def Box3 (W : World) (B : Nat) (K : ByteArray) (L V : Int) : Prop := W.heap[B]? = some (.cells #[.string K, .int .i64 L, .int .i64 V] 35 (0, 0))
theorem Box3.lt {W : World} {B : Nat} {K : ByteArray} {L V : Int} (h : Box3 W B K L V) : B < W.heap.size := (Array.getElem?_eq_some_iff.1 h).1
theorem Box3.cells {W : World} {B : Nat} {K : ByteArray} {L V : Int} (h : Box3 W B K L V) : W.cell? ⟨B, 0, none⟩ = some (.string K) ∧ W.cell? ⟨B, 1, none⟩ = some (.int .i64 L) ∧ W.cell? ⟨B, 2, none⟩ = some (.int .i64 V) := by
  have h' : W.heap[B]? = _ := h
  refine ⟨?_, ?_, ?_⟩ <;> (unfold World.cell?; rw [h']; rfl)
theorem Box3.new (W : World) (K : ByteArray) (L V : Int) : Box3 (W.alloc (.cells #[.string K, .int .i64 L, .int .i64 V] 35)) W.heap.size K L V := World.alloc_heap_new W _
theorem Box3.kept {W W' : World} {row : Option Nat} {B : Nat} {K : ByteArray} {L V : Int} (h : Box3 W B K L V) (hg : W.grownBy W' row) (hne : some B ≠ row) : Box3 W' B K L V := (hg.block B h.lt hne).trans h
theorem Box3.alloc {W : World} {B : Nat} {K : ByteArray} {L V : Int} (h : Box3 W B K L V) (o : Obj) : Box3 (W.alloc o) B K L V := h.kept (World.grownBy_alloc W o none) (by simp)
theorem Box3.own {W W' : World} {row : Option Nat} {B : Nat} {K : ByteArray} {L V : Int} (h : Box3 W B K L V) (hg : W.grownBy W' row) (hr : ∀ r, row = some r → ∃ o : Obj, W.heap[r]? = some o ∧ o.isCells = false) : Box3 W' B K L V := h.kept hg (fun e => by
  obtain ⟨o, ho, hc⟩ := hr B e.symm
  have h' : W.heap[B]? = _ := h
  rw [h'] at ho; cases ho; cases hc)
/-- A chip's kind and line are those. -/
def isC (K : ByteArray) (L : Int) (x : Nat × Nat) : Prop := K.toList = (kS x.1).toList ∧ L = x.2
theorem kS_list : (kS 0).toList = [117] ∧ (kS 1).toList = [100] ∧ (kS 2).toList = [104] := by decide +kernel
theorem kind_some {n : Nat} {K : ByteArray} {L V : Int} {x : Nat × Nat} (hx : x ∈ posTo n n) (h : isC K L x) : kindB n ⟨K, L, V⟩ = true := by
  obtain ⟨k, i⟩ := x
  obtain ⟨h1, h2⟩ := h
  simp only at h1 h2
  subst h2
  obtain ⟨h3, h4⟩ := (posTo_mem (Nat.le_refl n)).1 hx
  obtain ⟨s0, s1, s2⟩ := kS_list
  unfold kindB inB
  simp only
  rcases h4 with rfl | ⟨rfl | rfl, h5⟩
  · rw [s2] at h1
    rw [if_pos h1]
    exact decide_eq_true ⟨by omega, by omega⟩
  · rw [s0] at h1
    rw [if_neg (by rw [h1]; decide), if_pos (.inl h1)]
    exact decide_eq_true ⟨by omega, by omega⟩
  · rw [s1] at h1
    rw [if_neg (by rw [h1]; decide), if_pos (.inr h1)]
    exact decide_eq_true ⟨by omega, by omega⟩
theorem kind_none {n : Nat} {K : ByteArray} {L V : Int} (h : ∀ x ∈ posTo n n, ¬ isC K L x) : kindB n ⟨K, L, V⟩ = false := by
  obtain ⟨s0, s1, s2⟩ := kS_list
  cases e : kindB n ⟨K, L, V⟩ with
  | false => rfl
  | true =>
    exfalso
    unfold kindB inB at e
    simp only at e
    by_cases hH : K.toList = [104]
    · rw [if_pos hH] at e
      have e := of_decide_eq_true e
      exact h (2, L.toNat) ((posTo_mem (Nat.le_refl n)).2 ⟨by omega, .inl rfl⟩) ⟨by rw [s2]; exact hH, by show L = ((L.toNat : Nat) : Int); omega⟩
    · rw [if_neg hH] at e
      by_cases hu : K.toList = [117]
      · rw [if_pos (.inl hu)] at e
        have e := of_decide_eq_true e
        exact h (0, L.toNat) ((posTo_mem (Nat.le_refl n)).2 ⟨by omega, .inr ⟨.inl rfl, by omega⟩⟩) ⟨by rw [s0]; exact hu, by show L = ((L.toNat : Nat) : Int); omega⟩
      · by_cases hd : K.toList = [100]
        · rw [if_pos (.inr hd)] at e
          have e := of_decide_eq_true e
          exact h (1, L.toNat) ((posTo_mem (Nat.le_refl n)).2 ⟨by omega, .inr ⟨.inr rfl, by omega⟩⟩) ⟨by rw [s1]; exact hd, by show L = ((L.toNat : Nat) : Int); omega⟩
        · rw [if_neg (fun h => h.elim hu hd)] at e
          cases e

set_option maxRecDepth 100000 in
set_option maxHeartbeats 1000000 in
theorem isIn_any (K : ByteArray) (L V : Int) (n : Nat) (hn2 : 2 ≤ n) (hn5 : n ≤ 5) (w : World) :
    Calls Try.prog 59 #[.agg #[.string K, .int .i64 L, .int .i64 V], .int .i64 n] w fun e w' => e = .returned (.bool (chipB n ⟨K, L, V⟩)) ∧ w.Since w.heap.size w' := by
  refine (callsIn_wide (n := 9)).1 ?_
  refine callsIn_of_wp_marks Try.func59 rfl trivial ?_ rfl
  simp only [Try.ntmps59, List.size_toArray, List.length_cons, List.length_nil, Nat.reduceAdd, Nat.reduceSub, Array.replicate_succ, Array.replicate_zero, List.push_toArray, List.append_toArray, List.nil_append, List.cons_append]
  obtain ⟨d1, d2, d3⟩ := chip_box w K L V 35
  gi_wp2_with (first
    | (refine ⟨trivial, ?_⟩; gi_at_call 105; refine (callsIn_wide.2 (possibleChips_any _ _ _)).mono ?_; rintro e w' ⟨rfl, rfl⟩))
  obtain ⟨W0, hW0⟩ : ∃ W0, W0 = ((((w.alloc (.cells #[.string K, .int .i64 L, .int .i64 V] 35)).alloc (.cells #[.bool false] 4)).alloc (.cells #[.int .i64 n] 3)).alloc (.cells #[.int .i64 V] 3)) := ⟨_, rfl⟩
  rw [← hW0]
  have hsz0 : W0.heap.size = w.heap.size + 4 := by rw [hW0]; simp
  have hB0 : Below w.heap.size w W0 := by rw [hW0]; exact ((((Below.refl _ w).alloc (Nat.le_refl _) _).alloc (by simp) _).alloc (by simp; omega) _).alloc (by simp; omega) _
  have b3 : Box3 W0 w.heap.size K L V := by rw [hW0]; exact (((Box3.new w K L V).alloc _).alloc _).alloc _
  have bR : Boxed W0 (w.heap.size + 1) 4 (.bool false) := by
    have h := Boxed.new (w.alloc (.cells #[.string K, .int .i64 L, .int .i64 V] 35)) 4 (.bool false)
    rw [World.size_alloc] at h
    rw [hW0]; exact (h.alloc _).alloc _
  have bN : Boxed W0 (w.heap.size + 1 + 1) 3 (.int .i64 n) := by
    have h := Boxed.new ((w.alloc (.cells #[.string K, .int .i64 L, .int .i64 V] 35)).alloc (.cells #[.bool false] 4)) 3 (.int .i64 n)
    rw [World.size_alloc, World.size_alloc] at h
    rw [hW0]; exact h.alloc _
  have bV : Boxed W0 (w.heap.size + 1 + 1 + 1) 3 (.int .i64 V) := by
    have h := Boxed.new (((w.alloc (.cells #[.string K, .int .i64 L, .int .i64 V] 35)).alloc (.cells #[.bool false] 4)).alloc (.cells #[.int .i64 n] 3)) 3 (.int .i64 V)
    rw [World.size_alloc, World.size_alloc, World.size_alloc] at h
    rw [hW0]; exact h
  clear hW0 d1 d2 d3
  refine wpIn_rangeFunc_ownH (F := Fence.wide) (n := 9) rfl (by omega) (gf := 128) (lb := #[.pointer (some ⟨w.heap.size + 1 + 1, 0, none⟩), .pointer (some ⟨w.heap.size + 1 + 1 + 1, 0, none⟩)]) rfl trivial (enters_of Try.func128 (by kernel_rfl) rfl)
    (possible_stops 8 (by omega) (w.heap.size + 1 + 1) (w.heap.size + 1 + 1 + 1) n W0.heap.size V ⟨by omega, hn5⟩ W0 (Nat.le_refl _) (by omega) (by omega) bN.cell bV.cell)
    (fun h k => h.trans k) (belowK_b (Nat.le_refl _)) (Below.refl _ _) (fun _ => rfl)
    (fun pre W => (Box3 W w.heap.size K L V ∧ Boxed W (w.heap.size + 1) 4 (.bool false) ∧ w.heap.size + 4 ≤ W.heap.size ∧ ∀ x ∈ pre, ¬ isC K L x) ∧ Below w.heap.size w W)
    (fun c pre W => (c = .ret ∧ Boxed W (w.heap.size + 1) 4 (.bool (inB V (-9) 9)) ∧ ∃ x ∈ pre, isC K L x) ∧ Below w.heap.size w W)
    (OwnFrom.and (Own.from (fun s A B row hs hg hr => ⟨hs.1.own hg hr, boxed_own (w.heap.size + 1) 4 (fun (_ : Unit) => Value.bool false) () A B row hs.2.1 hg hr, Nat.le_trans hs.2.2.1 hg.size, hs.2.2.2⟩) _) (ownFrom_below (Nat.le_refl _) (by omega)))
    (fun c => OwnFrom.and (Own.from (fun s A B row hs hg hr => ⟨hs.1, boxed_own (w.heap.size + 1) 4 (fun (_ : Unit) => Value.bool (inB V (-9) 9)) () A B row hs.2.1 hg hr, hs.2.2⟩) _) (ownFrom_below (Nat.le_refl _) (by omega)))
    ⟨⟨b3, bR, by omega, by simp⟩, hB0⟩
    (fun x a' W => ∃ Bx, w.heap.size + 4 ≤ Bx ∧ Box3 W Bx (kS x.1) (x.2 : Int) V ∧ a' = { tmps := #[.agg #[.string K, .int .i64 L, .int .i64 V], .int .i64 n, .pointer (some ⟨w.heap.size, 0, none⟩), undef, .pointer (some ⟨w.heap.size + 1, 0, none⟩), .pointer (some ⟨Bx, 0, none⟩), .int .i64 n, .pointer (some ⟨w.heap.size, 2, none⟩), .int .i64 V, .func (.func 128) #[] #[.pointer (some ⟨w.heap.size + 1 + 1, 0, none⟩), .pointer (some ⟨w.heap.size + 1 + 1 + 1, 0, none⟩)], .agg #[.string (kS x.1), .int .i64 (x.2 : Int), .int .i64 V], undef, undef, undef, undef, undef, undef], defers := [] })
    (fun x a' _ X Y row hs hg hr => by obtain ⟨Bx, h1, h2, h3⟩ := hs; exact ⟨Bx, h1, h2.own hg (fun r e => (hr r e).2), h3⟩)
    ?assign ?body ?done ?stop
  case assign =>
    rintro l2 pre x W Kq ⟨⟨h1, h2, h3, h4⟩, hb⟩ hK
    simp only [encC]
    gi_wp2
    exact hK _ _ ((KeepsOthers.alloc _ _).from _) ((Below.refl _ _).alloc (by omega) _) ⟨⟨h1.alloc _, h2.alloc _, by simp; omega, h4⟩, hb.alloc (by omega) _⟩ ⟨W.heap.size, h3, Box3.new W _ _ _, rfl⟩
  case body =>
    rintro l2 pre x a' W hl ⟨r, hr⟩ ⟨⟨h1, h2, h3, h4⟩, hb⟩ ⟨Bx, hBx, bX, rfl⟩ hlt
    obtain ⟨c1, c2, c3⟩ := h1.cells
    obtain ⟨e1, e2, e3⟩ := bX.cells
    have cR := h2.cell
    have fR := h2.frozen
    have HF := Lib.hid (fun (h : ¬ isC K L x) => show ∀ y ∈ pre ++ [x], ¬ isC K L y from fun y hy => by
      rcases List.mem_append.1 hy with hy | hy
      · exact h4 y hy
      · simp at hy; subst hy; exact h)
    have HT := Lib.hid (fun (h : isC K L x) => show ∃ y ∈ pre ++ [x], isC K L y from ⟨x, by simp, h⟩)
    have H1 := Lib.hid h1
    have H2 := Lib.hid h2
    have HB := Lib.hid hb
    clear h1 h2 h4 hb
    by_cases hk : K.toList = (kS x.1).toList
    · by_cases hL : L = x.2
      · have HC := Lib.hid (HT.out ⟨hk, hL⟩)
        have hL' : (L == (x.2 : Int)) = true := by simpa using hL
        have HLL := Lib.hid hL
        clear hL
        gi_wp2_with (first
          | (refine ⟨trivial, ?_⟩; gi_at_call 56; refine (CallsIn.inRound l2 (callsIn_wide.2 (inRange_any _ _ _ _))).mono ?_; rintro e w' ⟨rfl, rfl⟩))
        exact ⟨(KeepsOthers.setCell _ _ _).from _, ⟨rfl, H2.out.set _, HC.out⟩, HB.out.setCell (p := ⟨w.heap.size + 1, 0, none⟩) (by simp) _⟩
      · have HC := Lib.hid (HF.out (fun h => hL h.2))
        have hL' : (L == (x.2 : Int)) = false := by simpa using hL
        gi_wp2_with fail
        exact ⟨(KeepsOthers.refl _).from _, Below.refl _ _, ⟨H1.out, H2.out, h3, HC.out⟩, HB.out⟩
    · have HC := Lib.hid (HF.out (fun h => hk h.1))
      have hk' : (K.toList == (kS x.1).toList) = false := by simpa using hk
      gi_wp2_with fail
      exact ⟨(KeepsOthers.refl _).from _, Below.refl _ _, ⟨H1.out, H2.out, h3, HC.out⟩, HB.out⟩
  case done =>
    rintro D ys W hD rfl ⟨⟨h1, h2, h3, h4⟩, hb⟩ hK
    have hv : chipB n ⟨K, L, V⟩ = false := by unfold chipB; rw [kind_none h4, Bool.false_and]
    have HV := Lib.hid hv
    have cR := h2.cell
    have fR := h2.frozen
    have H2 := Lib.hid (h2.set (.bool false))
    have HB := Lib.hid hb
    clear h1 h2 h4 hv hb b3 bR bN bV hB0
    gi_wp2
    have hK' := (KeepsOthers.setCell W ⟨w.heap.size + 1, 0, none⟩ (.bool false)).same D _ hK rfl
    refine ⟨by simp, .inl ⟨_, _, rfl, run_takeDeferred hK', ?_⟩⟩
    have hc5 := (H2.out.kept (grownBy_putObj' _ D (.deferred none)) (fun e => by injection e; omega)).cell
    refine ⟨.bool false, ?_, ret_bool HV.out.symm, below_since ((HB.out.setCell (p := ⟨w.heap.size + 1, 0, none⟩) (by simp) _).trans (belowK_b (w := w) (Nat.le_refl _) _ D _ _ (by omega) hK' rfl rfl))⟩
    simp [results, Try.f59, go_sem, hc5]
  case stop =>
    rintro D c pre W hD hpre ⟨⟨rfl, h2, x, hx, hc⟩, hb⟩ hK
    have hv : chipB n ⟨K, L, V⟩ = inB V (-9) 9 := by unfold chipB; rw [kind_some (hpre x hx) hc, Bool.true_and]
    have HV := Lib.hid hv
    have H2 := Lib.hid h2
    have HB := Lib.hid hb
    clear h2 hv hb b3 bR bN bV hB0
    gi_wp2
    refine ⟨by simp, .inl ⟨_, _, rfl, run_takeDeferred hK, ?_⟩⟩
    have hc5 := (H2.out.kept (grownBy_putObj' _ D (.deferred none)) (fun e => by injection e; omega)).cell
    refine ⟨.bool (inB V (-9) 9), ?_, ret_bool HV.out.symm, below_since (HB.out.trans (belowK_b (w := w) (Nat.le_refl _) W D _ _ (by omega) hK rfl rfl))⟩
    simp [results, Try.f59, go_sem, hc5]

end Go.Proofs.Ytggmiojhglkcgaa
