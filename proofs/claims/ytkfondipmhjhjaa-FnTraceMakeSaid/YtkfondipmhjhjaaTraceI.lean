/- The contract of impl.ValueTrace. -/
import Derived.Test.YtkfondipmhjhjaaSig
import Derived.Test.YtkfondipmhjhjaaLSum
import Derived.Test.YtkfondipmhjhjaaSpecOrders
import Derived.RangeFuncFrom
namespace Go.Proofs.Ytkfondipmhjhjaa
open Go.RowKit Go.Deep Go.Shelf
attribute [local go_sem] Oper.semAt_some

theorem trace_world (w : World) (v0 v1 v2 : Value) (t : TypeId) (W0 : World) (h : W0 = (((w.alloc (.cells #[v0] 3)).alloc (.cells #[v1] t)).alloc (.cells #[v2] 3))) :
    W0.heap.size = w.heap.size + 1 + 1 + 1 ∧ Below w.heap.size w W0 ∧ W0.cell? ⟨w.heap.size, 0, none⟩ = some v0 ∧ W0.frozen? ⟨w.heap.size, 0, none⟩ = false ∧ W0.cell? ⟨w.heap.size + 1, 0, none⟩ = some v1 ∧ W0.cell? ⟨w.heap.size + 1 + 1, 0, none⟩ = some v2 := by
  have c0 := cell_new_l w v0 3
  have c1 := cell_new_l (w.alloc (.cells #[v0] 3)) v1 t
  have c2 := cell_new_l ((w.alloc (.cells #[v0] 3)).alloc (.cells #[v1] t)) v2 3
  simp only [World.size_alloc] at c1 c2
  refine ⟨by rw [h]; simp, ?_, ?_, ?_, ?_, ?_⟩
  · rw [h]; exact (((Below.refl _ w).alloc (Nat.le_refl _) _).alloc (by simp) _).alloc (by simp; omega) _
  · rw [h]; exact cell_alloc_l _ (cell_alloc_l _ c0.1)
  · rw [h]; exact frozen_alloc_l _ (cell_alloc_l _ c0.1) (frozen_alloc_l _ c0.1 c0.2)
  · rw [h]; exact cell_alloc_l _ c1.1
  · rw [h]; exact c2.1

theorem lsum_bd30 {n : Nat} (f : Nat → Int) (hf : ∀ j, j < n → -30 ≤ f j ∧ f j ≤ 30) (pre : List {i : Nat // i < n}) : -(900 * (pre.length : Int)) ≤ lsum f pre ∧ lsum f pre ≤ 900 * (pre.length : Int) :=
  lsum_bd f (fun j hj => by have := hf j hj; omega) pre

set_option maxRecDepth 100000 in
set_option maxHeartbeats 2000000 in
theorem traceM_any (a : Option Addr) (cap n : Nat) (l : List (List Int)) (w1 : World) (hn : l.length = n) (hT : TabIn l) (hw : n = (l.getD 0 []).length) (hm : MatR w1 a l) :
    Calls Try.prog 70 #[.slice a n cap] w1 fun e w' => e = .returned (.int .i64 (sumN (trF l) n)) ∧ w1.Since w1.heap.size w' := by
  have h6 := hT.2.1
  have h1 := hT.1
  rw [hn] at h6 h1
  obtain ⟨b, o, A, C, rfl, hlen, hcell⟩ := hm.grid hn hT hw.symm
  have hbl1 : b < w1.heap.size := World.block_lt_of_cell? _ _ (hlen 0 (by omega))
  have hpow : 2 ^ n - 1 ≤ 63 := by have : 2 ^ n ≤ 2 ^ 6 := Nat.pow_le_pow_right (by omega) h6; omega
  have HC := Lib.hid hcell
  have HL := Lib.hid hlen
  obtain ⟨f, hf⟩ : ∃ f, f = trF l := ⟨_, rfl⟩
  rw [← hf]
  have HF := Lib.hid hf
  have hmix : Try.prog.follows .mixedOrders = true := by kernel_rfl
  clear hm hn hT hw hlen hcell hf
  refine (callsIn_wide (n := 9)).1 ?_
  refine callsIn_of_wp_marks Try.func70 rfl trivial ?_ rfl
  simp only [Try.ntmps70, List.size_toArray, List.length_cons, List.length_nil, Nat.reduceAdd, Nat.reduceSub, Array.replicate_succ, Array.replicate_zero, List.push_toArray, List.append_toArray, List.nil_append, List.cons_append]
  gi_wp2_with (first
    | (refine ⟨trivial, ?_⟩; gi_at_call 107; refine (callsIn_wide.2 (allRows_any _ _ _ _ h6)).mono ?_; rintro e w' ⟨rfl, rfl⟩)
    | (refine ⟨trivial, ?_⟩; gi_at_call 106; refine (callsIn_wide.2 (rows_any _ _ _ _ _)).mono ?_; rintro e w' ⟨rfl, rfl⟩))
  obtain ⟨W0, hW0⟩ : ∃ W0, W0 = (((w1.alloc (.cells #[.int .i64 0] 3)).alloc (.cells #[.slice (some ⟨b, o, none⟩) n cap] 58)).alloc (.cells #[.int .i64 (2 ^ n - 1 : Nat)] 3)) := ⟨_, rfl⟩
  rw [← hW0]
  obtain ⟨hsz0, hB0, d0, d0f, d1, d2⟩ := trace_world w1 (.int .i64 0) (.slice (some ⟨b, o, none⟩) n cap) (.int .i64 (2 ^ n - 1 : Nat)) 58 W0 hW0
  have hc0' : ∀ j, j < n → W0.cell? ⟨b, o + j, none⟩ = some (.slice (A j) n (C j)) := fun j hj => (hB0.cell (p := ⟨b, o + j, none⟩) hbl1).trans (HL.out j hj)
  have hstops := rows_stopsB 8 (by omega) w1.heap.size W0.heap.size (w1.heap.size + 1) (w1.heap.size + 1 + 1) b o n cap (2 ^ n - 1) (by omega) hpow A (fun _ => n) C W0 (Nat.le_refl _) (by omega) (by omega) (by omega) (by omega) (by omega) d1 d2 hc0'
  clear hc0' d1 d2 hW0
  refine wpIn_rangeFunc_ownF (F := Fence.wide) (n := 9) rfl (by omega) (gf := 125) (lb := #[.pointer (some ⟨w1.heap.size + 1, 0, none⟩), .pointer (some ⟨w1.heap.size + 1 + 1, 0, none⟩)]) rfl trivial (enters_of Try.func125 (by kernel_rfl) rfl)
    hstops kpB_t (kpB_b (Nat.le_refl _)) (Below.refl _ _) (fun _ => rfl)
    (fun pre W => (W.cell? ⟨w1.heap.size, 0, none⟩ = some (.int .i64 (lsum f pre)) ∧ W.frozen? ⟨w1.heap.size, 0, none⟩ = false) ∧ Below w1.heap.size w1 W)
    (fun _ _ _ => False)
    (OwnFrom.and (Own.from (fun s A B row hs hg hr => ⟨cell_kept hs.1 hg hr, (frozen_kept hs.1 hg hr).trans hs.2⟩) _) (ownFrom_below (Nat.le_refl _) (by omega)))
    (fun c => fun s A B row hs hg hr => hs)
    ⟨⟨d0, d0f⟩, hB0⟩
    (fun x => { tmps := #[.slice (some ⟨b, o, none⟩) n cap, undef, .int .i64 0, .pointer (some ⟨w1.heap.size, 0, none⟩), .int .i64 x.1, .slice (A x.1) n (C x.1),
        .slice (some ⟨b, o, none⟩) n cap, .slice (some ⟨b, o, none⟩) n cap, .int .i64 (2 ^ n - 1 : Nat),
        .func (.func 125) #[] #[.pointer (some ⟨w1.heap.size + 1, 0, none⟩), .pointer (some ⟨w1.heap.size + 1 + 1, 0, none⟩)],
        .int .i64 x.1, .slice (A x.1) n (C x.1), undef, undef, undef, undef, undef, undef, undef], defers := [] }) ?assign ?body ?done ?stop
  case assign =>
    intro lp x W K hK
    gi_wp2
    exact hK
  case body =>
    rintro lp pre x W ⟨⟨g0, g0f⟩, gB⟩ hlen
    have hx2 := x.2
    obtain ⟨j, hj⟩ : ∃ j, x.1 = j := ⟨_, rfl⟩
    rw [hj] at hx2 ⊢
    obtain ⟨bj, oj, e1, e2, e3⟩ := HC.out j j hx2 hx2
    have hA : A j = some ⟨bj, oj, none⟩ := by
      have := (HL.out j hx2).symm.trans e1
      simp at this
      exact this
    rw [hA]
    have hsn := lsum_snoc f pre x
    rw [hj] at hsn
    have hfj : f j = at2 l j j := by rw [HF.out]; rfl
    have hlb := lsum_bd30 f (fun j hj => by
      obtain ⟨_, _, _, _, b1⟩ := HC.out j j hj hj
      rw [HF.out]; exact b1) pre
    obtain ⟨p, hp⟩ : ∃ p, at2 l j j = p := ⟨_, rfl⟩
    obtain ⟨s, hs⟩ : ∃ s, lsum f pre = s := ⟨_, rfl⟩
    rw [hp] at e2 e3 hfj
    rw [hs] at g0 hsn hlb
    have hw2 : IntKind.i64.wrap (s + p) = s + p := IntWalk.i64_in _ ⟨by omega, by omega⟩
    rw [hfj] at hsn
    have HSN := Lib.hid hsn
    have hbj : bj < w1.heap.size := World.block_lt_of_cell? _ _ e2
    have E2 := (gB.cell (p := ⟨bj, oj + j, none⟩) hbj).trans e2
    clear hj hp hs hsn hlb hfj e1 e2 hA
    gi_wp2
    refine round_still_tail 6 hmix (by kernel_rfl) (by kernel_rfl) ?hno ?_
    case hno =>
      rintro ⟨a, w, h⟩
      exact h
    simp only [List.take_succ_cons, List.take_zero, List.drop_succ_cons, List.drop_zero]
    repeat still_step
    refine wpStill_nil ?_
    go_wp2
    rw [← HSN.out] at hw2 ⊢
    refine ⟨(KeepsOthers.setCell _ _ _).trans (KeepsOthers.drew _), ⟨?_, fun b h1 _ => ?_⟩, ⟨?_, ?_⟩, (gB.setCell (p := ⟨w1.heap.size, 0, none⟩) (by simp) _).drew⟩
    · simp
    · exact Below.heap_setCell _ _ _ _ h1
    · exact World.cell?_setCell_same' _ _ _ (by rw [g0]; rfl)
    · exact (World.frozen?_setCell _ _ _ _).trans g0f
  case done =>
    rintro D ys W hD rfl ⟨⟨g0, g0f⟩, gB⟩ hK
    gi_wp2
    refine ⟨by simp, .inl ⟨_, _, rfl, run_takeDeferred hK, ?_⟩⟩
    have hls := lsum_sel f (2 ^ n - 1) n (fun i hi => by rw [Nat.testBit_two_pow_sub_one]; simpa using hi) n (Nat.le_refl _)
    refine ⟨.int .i64 (sumN f n), ?_, rfl, below_since (gB.trans (belowK_b (w := w1) (Nat.le_refl _) W D _ _ (by omega) hK rfl rfl))⟩
    simp [results, Try.f70, go_sem, hls]
  case stop =>
    rintro D c pre W hD hpre hF hK
    exact hF.elim

set_option maxHeartbeats 1000000 in
theorem implValueTrace_any (a : Option Addr) (cap n : Nat) (l : List (List Int)) (w : World) (hn : l.length = n) (hsz : szL l ≤ 1048576) (hm : MatR w a l) :
    Calls Try.prog 33 #[.slice a n cap] w (SpecW w (sqB l) (sumN (trF l) n)) := by
  have E := isSquare_any a cap n l w hn hsz hm
  cases hs : sqB l with
  | false =>
    rw [hs] at E
    replace E := Lib.hid E
    clear hs hm hn hsz
    go_enter Try.func33, Try.ntmps33
    go_wp2_with fail
    refine (E.out).mono ?_
    rintro e w1 ⟨rfl, hd⟩
    have HD := Lib.hid hd
    clear hd
    go_wp2
    go_ret2
    exact ⟨rfl, HD.out⟩
  | true =>
    rw [hs] at E
    replace E := Lib.hid E
    obtain ⟨hT, hw⟩ := sqB_of hs
    have E2 := Lib.hid (fun (W : World) (h : w.Since w.heap.size W) => traceM_any a cap n l W hn hT (by rw [← hw, hn]) (hm.since h))
    clear hs hm hn hsz hT hw
    go_enter Try.func33, Try.ntmps33
    go_wp2_with fail
    refine (E.out).mono ?_
    rintro e w1 ⟨rfl, hd⟩
    have HD := Lib.hid hd
    clear hd
    go_wp2_with fail
    refine (E2.out w1 HD.out).mono ?_
    rintro e w2 ⟨rfl, hs2⟩
    have HS2 := Lib.hid (HD.out.trans (since_mono hs2 HD.out.size))
    clear hs2
    go_wp2
    go_ret2
    exact ⟨rfl, HS2.out⟩

end Go.Proofs.Ytkfondipmhjhjaa
