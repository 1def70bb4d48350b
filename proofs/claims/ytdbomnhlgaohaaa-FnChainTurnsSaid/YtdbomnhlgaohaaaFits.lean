/- The contract of impl's test of a table. -/
import Derived.RangeFuncFrom
import Derived.Test.YtdbomnhlgaohaaaIter
namespace Go.Proofs.Ytdbomnhlgaohaaa
open Go.RowKit Go.Deep Go.Shelf
attribute [local go_sem] Oper.semAt_some

theorem below_since {B : Nat} {w w' : World} (h : Below B w w') : w.Since B w' := ⟨h.os, h.tape, h.output, h.size, h.block⟩
theorem since_below {B : Nat} {w w' : World} (h : w.Since B w') : Below B w w' := ⟨h.os, h.tape, h.output, h.size, h.block⟩

theorem cell_new_l (W : World) (v : Value) (t : TypeId) : (W.alloc (.cells #[v] t)).cell? ⟨W.heap.size, 0, none⟩ = some v ∧ (W.alloc (.cells #[v] t)).frozen? ⟨W.heap.size, 0, none⟩ = false := by
  have h : (W.alloc (.cells #[v] t)).heap[W.heap.size]? = some (.cells #[v] t) := World.alloc_heap_new W _
  constructor
  · simp only [World.cell?, h]; simp
  · simp only [World.frozen?, h]; simp
theorem cell_alloc_l {W : World} {a : Addr} {v : Value} (o : Obj) (h : W.cell? a = some v) : (W.alloc o).cell? a = some v := cell_kept h (World.grownBy_alloc W o none) (fun r e => by cases e)
theorem frozen_alloc_l {W : World} {a : Addr} {v : Value} (o : Obj) (h : W.cell? a = some v) (hf : W.frozen? a = false) : (W.alloc o).frozen? a = false := (frozen_kept h (World.grownBy_alloc W o none) (fun r e => by cases e)).trans hf

set_option maxRecDepth 100000 in
set_option maxHeartbeats 2000000 in
theorem fits_small (a : Option Addr) (cap n : Nat) (l : List (List Int)) (w : World) (hn : l.length = n) (h6 : 1 ≤ n ∧ n ≤ 6) (hsz : szL l ≤ 1048576) (hm : MatR w a l) :
    Calls Try.prog 76 #[.slice a n cap] w fun e w' => e = .returned (.bool (tabIn l)) ∧ w.Since w.heap.size w' := by
  obtain ⟨h1, h6⟩ := h6
  have hw0 : (l.getD 0 []).length ≤ 1048576 := by have := row_le l (r := 0) (by omega); unfold szL at hsz; omega
  have hinn : inB (n : Int) 1 6 = true := by simp [inB]; omega
  refine (callsIn_wide (n := 9)).1 ?_
  refine callsIn_of_wp_marks Try.func76 rfl trivial ?_ rfl
  simp only [Try.ntmps76, List.size_toArray, List.length_cons, List.length_nil, Nat.reduceAdd, Nat.reduceSub, Array.replicate_succ, Array.replicate_zero, List.push_toArray, List.append_toArray, List.nil_append, List.cons_append]
  have E2 := Lib.hid (fun (W : World) (hB : Below w.heap.size w W) => width_any a cap n l W hn (by omega) (by omega) (hm.since (below_since hB)))
  obtain ⟨m0, hm0⟩ : ∃ m, (l.getD 0 []).length = m := ⟨_, rfl⟩
  rw [hm0] at E2 hw0
  have HM0 := Lib.hid hm0
  have HN := Lib.hid hn
  have hB2 : Below w.heap.size w ((w.alloc (.cells #[.slice a n cap] 50)).alloc (.cells #[.bool false] 4)) := ((Below.refl _ w).alloc (Nat.le_refl _) _).alloc (by simp) _
  have HB2 := Lib.hid hB2
  clear hm0 hn hB2
  cases hin : inB (m0 : Int) 1 6 with
  | false =>
    clear hm
    gi_wp2_with (first
      | (refine ⟨trivial, ?_⟩; gi_at_call 71; refine (callsIn_wide.2 (isSide_any _ _)).mono ?_; rintro e w' ⟨rfl, rfl⟩)
      | (refine ⟨trivial, ?_⟩; gi_at_call 83; refine (callsIn_wide.2 (E2.out _ HB2.out)).mono ?_; rintro e w' ⟨rfl, rfl⟩))
    refine ⟨.bool false, ?_, ret_bool (tabIn_false fun hT => ?_).symm, below_since HB2.out⟩
    · simp [results, Try.f76, go_sem]
    · have h2 := of_decide_eq_false hin
      have h3 := hT.2.2 0 (by rw [HN.out]; omega)
      have h4 := h3.2.1
      have h5 := h3.2.2.1
      rw [HM0.out] at h4 h5
      omega
  | true =>
    have hmix : Try.prog.follows .mixedOrders = true := by kernel_rfl
    gi_wp2_with (first
      | (refine ⟨trivial, ?_⟩; gi_at_call 71; refine (callsIn_wide.2 (isSide_any _ _)).mono ?_; rintro e w' ⟨rfl, rfl⟩)
      | (refine ⟨trivial, ?_⟩; gi_at_call 83; refine (callsIn_wide.2 (E2.out _ HB2.out)).mono ?_; rintro e w' ⟨rfl, rfl⟩))
    gi_region_with_o (first
      | (refine ⟨trivial, ?_⟩; gi_at_call 88; refine (callsIn_wide.2 (allRows_any _ _ _ _ h6)).mono ?_; rintro e w' ⟨rfl, rfl⟩)
      | (refine ⟨trivial, ?_⟩; gi_at_call 87; refine (callsIn_wide.2 (rows_any _ _ _ _ _)).mono ?_; rintro e w' ⟨rfl, rfl⟩))
    all_goals
      gi_wp2
      obtain ⟨b, o, A, C, ha, hc⟩ := hm (by rw [HN.out]; omega)
      have hc0 := (hc 0 (by rw [HN.out]; omega)).1
      have hbl : b < w.heap.size := World.block_lt_of_cell? _ _ hc0
      obtain ⟨W0, hW0⟩ : ∃ W0, W0 = ((((w.alloc (.cells #[.slice a n cap] 50)).alloc (.cells #[.bool false] 4)).alloc (.cells #[.slice a n cap] 50)).alloc (.cells #[.int .i64 (2 ^ n - 1 : Nat)] 3)).drew := ⟨_, rfl⟩
      rw [← hW0]
      have hsz0 : W0.heap.size = w.heap.size + 1 + 1 + 1 + 1 := by rw [hW0]; simp
      have hB0 : Below w.heap.size w W0 := by rw [hW0]; exact ((HB2.out.alloc (by simp; omega) _).alloc (by simp; omega) _).drew
      have c0 := cell_new_l w (.slice a n cap) 50
      have c1 := cell_new_l (w.alloc (.cells #[.slice a n cap] 50)) (.bool false) 4
      have c2 := cell_new_l ((w.alloc (.cells #[.slice a n cap] 50)).alloc (.cells #[.bool false] 4)) (.slice a n cap) 50
      have c3 := cell_new_l (((w.alloc (.cells #[.slice a n cap] 50)).alloc (.cells #[.bool false] 4)).alloc (.cells #[.slice a n cap] 50)) (.int .i64 (2 ^ n - 1 : Nat)) 3
      simp only [World.size_alloc] at c1 c2 c3
      have d0 : W0.cell? ⟨w.heap.size, 0, none⟩ = some (.slice a n cap) := by rw [hW0]; exact cell_alloc_l _ (cell_alloc_l _ (cell_alloc_l _ c0.1))
      have d1 : W0.cell? ⟨w.heap.size + 1, 0, none⟩ = some (.bool false) := by rw [hW0]; exact cell_alloc_l _ (cell_alloc_l _ c1.1)
      have d1f : W0.frozen? ⟨w.heap.size + 1, 0, none⟩ = false := by rw [hW0]; exact frozen_alloc_l _ (cell_alloc_l _ c1.1) (frozen_alloc_l _ c1.1 c1.2)
      have d2 : W0.cell? ⟨w.heap.size + 1 + 1, 0, none⟩ = some (.slice (some ⟨b, o, none⟩) n cap) := by rw [hW0, ← ha]; exact cell_alloc_l _ c2.1
      have d3 : W0.cell? ⟨w.heap.size + 1 + 1 + 1, 0, none⟩ = some (.int .i64 (2 ^ n - 1 : Nat)) := by rw [hW0]; exact c3.1
      clear c0 c1 c2 c3
      have hc0' : ∀ k, k < n → W0.cell? ⟨b, o + k, none⟩ = some (.slice (A k) (l.getD k []).length (C k)) := fun k hk => (hB0.cell (p := ⟨b, o + k, none⟩) hbl).trans (hc k (by rw [HN.out]; exact hk)).1
      have hpow : 2 ^ n - 1 ≤ 63 := by have : 2 ^ n ≤ 2 ^ 6 := Nat.pow_le_pow_right (by omega) h6; omega
      have hstops := rows_stops 8 (by omega) (w.heap.size + 1 + 1) (w.heap.size + 1 + 1 + 1) b o n cap (2 ^ n - 1) W0.heap.size (by omega) hpow A (fun k => (l.getD k []).length) C W0 (Nat.le_refl _) (by omega) (by omega) (by omega) d2 d3 hc0'
      have HMM := Lib.hid hm
      have HC := Lib.hid hc
      have HA := Lib.hid ha
      clear hm hc hc0 ha hc0' d2 d3
      refine wpIn_rangeFunc_ownF (F := Fence.wide) (n := 9) rfl (by omega) (gf := 96) (lb := #[.pointer (some ⟨w.heap.size + 1 + 1, 0, none⟩), .pointer (some ⟨w.heap.size + 1 + 1 + 1, 0, none⟩)]) rfl trivial (enters_of Try.func96 (by kernel_rfl) rfl)
        hstops belowK_t (belowK_b (Nat.le_refl _)) (Below.refl _ _) (fun _ => rfl)
        (fun pre W => (W.cell? ⟨w.heap.size, 0, none⟩ = some (.slice a n cap) ∧ W.cell? ⟨w.heap.size + 1, 0, none⟩ = some (.bool false) ∧ W.frozen? ⟨w.heap.size + 1, 0, none⟩ = false ∧ ∀ x ∈ pre, RowIn m0 (l.getD x.1 [])) ∧ Below w.heap.size w W)
        (fun c _ W => (c = .ret ∧ ¬ TabIn l ∧ W.cell? ⟨w.heap.size + 1, 0, none⟩ = some (.bool false)) ∧ Below w.heap.size w W)
        (OwnFrom.and (Own.from (fun s A B row hs hg hr => ⟨cell_kept hs.1 hg hr, cell_kept hs.2.1 hg hr, (frozen_kept hs.2.1 hg hr).trans hs.2.2.1, hs.2.2.2⟩) _) (ownFrom_below (Nat.le_refl _) (by omega)))
        (fun c => OwnFrom.and (Own.from (fun s A B row hs hg hr => ⟨hs.1, hs.2.1, cell_kept hs.2.2 hg hr⟩) _) (ownFrom_below (Nat.le_refl _) (by omega)))
        ⟨⟨d0, d1, d1f, by simp⟩, hB0⟩
        (fun x => { tmps := #[.slice a n cap, .pointer (some ⟨w.heap.size, 0, none⟩), .pointer (some ⟨w.heap.size + 1, 0, none⟩), undef, .slice (A x.1) (l.getD x.1 []).length (C x.1), .slice a n cap,
            .int .i64 n, .bool true, .bool false, .bool false, .slice a n cap, .int .i64 m0, .bool true, .bool false, .bool false, .slice a n cap, .slice a n cap, .int .i64 (2 ^ n - 1 : Nat),
            .func (.func 96) #[] #[.pointer (some ⟨w.heap.size + 1 + 1, 0, none⟩), .pointer (some ⟨w.heap.size + 1 + 1 + 1, 0, none⟩)],
            .int .i64 x.1, .slice (A x.1) (l.getD x.1 []).length (C x.1), undef, undef, undef, undef, undef, undef, undef, undef, undef, undef], defers := [] }) ?assign ?body ?done ?stop
      case assign =>
        intro lp x W K hK
        gi_wp2
        exact hK
      case body =>
        rintro lp pre x W ⟨⟨g0, g1, g2, g3⟩, gB⟩ hlen
        have hxl := (HC.out x.1 (by rw [HN.out]; exact x.2)).2
        have hrow : RowR W (A x.1) (l.getD x.1 []) := hxl.since (below_since gB)
        have hml : (l.getD x.1 []).length ≤ 1048576 := by have := row_le l (r := x.1) (by rw [HN.out]; exact x.2); unfold szL at hsz; omega
        obtain ⟨r, hr⟩ : ∃ r, r = l.getD x.1 [] := ⟨_, rfl⟩
        rw [← hr] at hrow hml ⊢
        obtain ⟨m, hmr⟩ : ∃ m, r.length = m := ⟨_, rfl⟩
        rw [hmr] at hml ⊢
        have E5 := Lib.hid (entriesIn_any (A x.1) (C x.1) m r W hmr hml hrow)
        have HR := Lib.hid hr
        have HMR := Lib.hid hmr
        have E6 := Lib.hid (E2.out W gB)
        have hnot : ¬ RowIn m0 r → ¬ TabIn l := fun h hT => h (by have := hT.2.2 x.1 (by rw [HN.out]; exact x.2); rw [← HR.out, HM0.out] at this; exact this)
        have HNOT := Lib.hid hnot
        clear hr hmr hrow hxl hnot
        by_cases hmm : m = m0
        · subst hmm
          cases hni : numsIn r with
          | true =>
            have HNI := Lib.hid hni
            rw [hni] at E5
            clear hni
            gi_wp2_with (first
              | (refine ⟨trivial, ?_⟩; gi_at_call 83; refine (CallsIn.inRound lp (callsIn_wide.2 E6.out)).mono ?_; rintro e w' ⟨rfl, rfl⟩)
              | (refine ⟨trivial, ?_⟩; gi_at_call 89; refine (CallsIn.inRound lp (callsIn_wide.2 E5.out)).mono ?_; rintro e w' ⟨rfl, rfl⟩))
            have h66 := of_decide_eq_true hin
            refine ⟨KeepsOthers.refl _, Below.refl _ _, ⟨g0, g1, g2, fun y hy => ?_⟩, gB⟩
            rcases List.mem_append.1 hy with hy | hy
            · exact g3 y hy
            · simp at hy
              subst hy
              rw [← HR.out]
              exact ⟨HMR.out, by rw [HMR.out]; omega, by rw [HMR.out]; omega, numsIn_of HNI.out⟩
          | false =>
            have HNI := Lib.hid hni
            rw [hni] at E5
            clear hni
            gi_wp2_with (first
              | (refine ⟨trivial, ?_⟩; gi_at_call 83; refine (CallsIn.inRound lp (callsIn_wide.2 E6.out)).mono ?_; rintro e w' ⟨rfl, rfl⟩)
              | (refine ⟨trivial, ?_⟩; gi_at_call 89; refine (CallsIn.inRound lp (callsIn_wide.2 E5.out)).mono ?_; rintro e w' ⟨rfl, rfl⟩))
            exact ⟨KeepsOthers.setCell _ _ _, ⟨rfl, HNOT.out fun h => numsIn_not HNI.out h.2.2.2, World.cell?_setCell_same' _ _ _ (by rw [g1]; rfl)⟩, gB.setCell (p := ⟨w.heap.size + 1, 0, none⟩) (by simp) _⟩
        · have hne1 : ((m : Int) != (m0 : Int)) = true := by simp; omega
          gi_wp2_with (first
            | (refine ⟨trivial, ?_⟩; gi_at_call 83; refine (CallsIn.inRound lp (callsIn_wide.2 E6.out)).mono ?_; rintro e w' ⟨rfl, rfl⟩))
          refine ⟨trivial, ?_⟩
          gi_wp2
          exact ⟨KeepsOthers.setCell _ _ _, ⟨rfl, HNOT.out fun h => hmm (by rw [← HMR.out]; exact h.1), World.cell?_setCell_same' _ _ _ (by rw [g1]; rfl)⟩, gB.setCell (p := ⟨w.heap.size + 1, 0, none⟩) (by simp) _⟩
      case done =>
        rintro D ys W hD rfl ⟨⟨g0, g1, g2, g3⟩, gB⟩ hK
        have hT : TabIn l := ⟨by rw [HN.out]; exact h1, by rw [HN.out]; exact h6, fun r hr => by
          rw [HN.out] at hr
          rw [HM0.out]
          exact g3 ⟨r, hr⟩ (sel_mem (2 ^ n - 1) n hr (Nat.le_refl _) (by rw [Nat.testBit_two_pow_sub_one]; simpa using hr))⟩
        gi_wp2
        have hK' := (KeepsOthers.setCell W ⟨w.heap.size + 1, 0, none⟩ (.bool true)).same D _ hK rfl
        refine ⟨by simp, .inl ⟨_, _, rfl, run_takeDeferred hK', ?_⟩⟩
        have hc5 := cell_kept (World.cell?_setCell_same' W ⟨w.heap.size + 1, 0, none⟩ (.bool true) (by rw [g1]; rfl)) (grownBy_putObj' _ D (.deferred none)) (fun r e => by cases e; exact ⟨_, hK', rfl⟩)
        refine ⟨.bool true, ?_, ret_bool (tabIn_true hT).symm, below_since ((gB.setCell (p := ⟨w.heap.size + 1, 0, none⟩) (by simp) _).trans (belowK_b (w := w) (Nat.le_refl _) _ D _ _ (by omega) hK' rfl rfl))⟩
        simp [results, Try.f76, go_sem, hc5]
      case stop =>
        rintro D c pre W hD hpre ⟨⟨rfl, hnot, hcr⟩, gB⟩ hK
        gi_wp2
        refine ⟨by simp, .inl ⟨_, _, rfl, run_takeDeferred hK, ?_⟩⟩
        have hc5 := cell_kept hcr (grownBy_putObj' _ D (.deferred none)) (fun r e => by cases e; exact ⟨_, hK, rfl⟩)
        refine ⟨.bool false, ?_, ret_bool (tabIn_false hnot).symm, below_since (gB.trans (belowK_b (w := w) (Nat.le_refl _) W D _ _ (by omega) hK rfl rfl))⟩
        simp [results, Try.f76, go_sem, hc5]

end Go.Proofs.Ytdbomnhlgaohaaa
