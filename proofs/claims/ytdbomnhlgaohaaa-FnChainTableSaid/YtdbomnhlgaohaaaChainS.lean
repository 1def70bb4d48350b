/- Chapter 9: the contract of spec.ChainTable. -/
import Derived.Test.YtdbomnhlgaohaaaChainV
import Derived.Test.YtdbomnhlgaohaaaUnitSpec
namespace Go.Proofs.Ytdbomnhlgaohaaa
open Go.RowKit Go.Deep

def chL (f : Nat → Int) (n i : Nat) : List (List Int) := tabF i n (chF f)
theorem chL_succ (f : Nat → Int) (n i : Nat) : chL f n (i + 1) = chL f n i ++ [(List.range n).map fun k => chF f i k] := by simp [chL, tabF, List.range_succ]
theorem chL_length (f : Nat → Int) (n i : Nat) : (chL f n i).length = i := tabF_length _ _ _
theorem made_at (n i : Nat) (h : i < n) : (madeCells #[Value.int .i64 0] n)[i]? = some (.int .i64 0) := by
  obtain ⟨c, h1, _, h3⟩ := World.rowIs_made default (.int .i64 0) n 3
  have := World.alloc_heap_new default (.cells (madeCells #[Value.int .i64 0] n) 3)
  rw [this] at h1
  simp at h1
  rw [h1]; exact h3 i h
theorem made_size (n : Nat) : (madeCells #[Value.int .i64 0] n).size = n := by
  obtain ⟨c, h1, h2, _⟩ := World.rowIs_made default (.int .i64 0) n 3
  have := World.alloc_heap_new default (.cells (madeCells #[Value.int .i64 0] n) 3)
  rw [this] at h1
  simp at h1
  rw [h1]; exact h2
theorem row_cells (W : World) (n : Nat) (C : Array Value) (g : Nat → Int) (h : ∀ i, i < n → C[i]? = some (.int .i64 (g i))) : RowB (W.alloc (.cells C 3)) W.heap.size ((List.range n).map g) :=
  ⟨C, World.alloc_heap_new W _, fun i hi => by
    simp at hi
    rw [h i hi]
    simp [List.getD, hi]⟩
theorem cells_set (W : World) (C : Array Value) (k : Nat) (v : Value) (h : C[k]? = some v) : (W.alloc (.cells C 3)).cell? ⟨W.heap.size, k, none⟩ = some v ∧ (W.alloc (.cells C 3)).frozen? ⟨W.heap.size, k, none⟩ = false := by
  have hb := World.alloc_heap_new W (.cells C 3)
  constructor
  · unfold World.cell?
    rw [hb]
    exact h
  · unfold World.frozen?
    rw [hb]
    rfl

set_option maxRecDepth 100000 in
set_option maxHeartbeats 4000000 in
set_option linter.unusedSimpArgs false in
theorem specChainTable_ok (a : Option Addr) (cap n : Nat) (x : List Int) (w : World) (hn : x.length = n) (hc : n ≤ cap) (h63 : cap ≤ 9223372036854775807) (hm : RowR w a x) (hok : l9B x = true) (h1 : 0 < n) :
    Calls Try.prog 20 #[.slice a n cap] w fun e w' => ∃ a cap, e = .returned (.tuple #[.slice a n cap, .bool true]) ∧ w.Since w.heap.size w' ∧ InT w.heap.size w'.heap.size w' a (chL (fun i => x.getD i 0) n n) := by
  have E := l9Chain_any a cap n x w hn (by omega) hm
  rw [hok] at E
  replace E := Lib.hid E
  have h6 := (l9B_of hok).2
  rw [hn] at h6
  obtain ⟨f, hf⟩ : ∃ f : Nat → Int, f = fun i => x.getD i 0 := ⟨_, rfl⟩
  have hm' : CelR w a f n := by rw [hf, ← hn]; exact CelR.row hm
  rw [← hf]
  obtain ⟨b, o, rfl, hcx⟩ := hm' h1
  have HC := Lib.hid hcx
  clear hok hm hn hf hm' hcx
  obtain ⟨i42, hi, hz0, hz1, hz2⟩ := info_parts Try.info23
  have hst := bt_start w (fun _ => none) (fun _ => 0) #[] rfl
  have hmk := run_make_row' (P := Try.prog) 23 3 (.int .i64 0) 8 Try.underlying23 Try.info3 rfl .i64 .i64 n (by omega) (by omega)
  have HI := Lib.hid hi
  have HZ := Lib.hid (And.intro hz0 (And.intro hz1 hz2))
  clear hi hz0 hz1 hz2
  have hn0 : ((n : Int) == 0) = false := by simp; omega
  go_enter Try.func20, Try.ntmps20
  go_wp2_with fail
  refine (E.out).mono ?_
  rintro e w' ⟨rfl, rfl⟩
  go_wp2
  go_loopg [4, 5, 6] n (fun g v i _ wr => ∃ r : Nat, ∃ A C, r ≤ n ∧ g = n - r ∧ i = .int .i64 r ∧ BT w wr v (chL f n r) A C)
  case atStart => exact ⟨0, _, _, Nat.zero_le _, rfl, rfl, hst⟩
  case round =>
    obtain ⟨r, A, C, hr, rfl, rfl, hR⟩ := hrel
    clear hst
    by_cases hlt : r < n
    · have HR := Lib.hid hR
      have hsz := hR.since.size
      have hS := hR.since
      have hcells : ∀ k, k < n → (wr.alloc (.cells (madeCells #[.int .i64 0] n) 3)).cell? ⟨wr.heap.size, k, none⟩ = some (.int .i64 0) := fun k hk => (World.rowIs_made wr (.int .i64 0) n 3).cell hk
      have hcell := hcells r hlt
      have hfzs : ∀ k, (wr.alloc (.cells (madeCells #[.int .i64 0] n) 3)).frozen? ⟨wr.heap.size, k, none⟩ = false := fun k => (World.rowIs_made wr (.int .i64 0) n 3).frozen k
      have hfz := hfzs r
      have hlen := chL_length f n r
      have cx := (hS.cell (a := ⟨b, o + r, none⟩) (World.block_lt_of_cell? _ _ (HC.out r hlt))).trans (HC.out r hlt)
      obtain ⟨y, hy⟩ : ∃ y, f r = y := ⟨_, rfl⟩
      rw [hy] at cx
      replace cx := (((World.Since.refl wr.heap.size wr).alloc (Nat.le_refl _) (.cells (madeCells #[.int .i64 0] n) 3)).cell (a := ⟨b, o + r, none⟩) (World.block_lt_of_cell? _ _ cx)).trans cx
      have HY := Lib.hid hy
      clear hR hy hS
      by_cases hup : r + 1 < n
      · by_cases hdn : 0 < r
        · obtain ⟨q, rfl⟩ : ∃ q, r = q + 1 := ⟨r - 1, by omega⟩
          have hcu := hcells (q + 1 + 1) hup
          have hcd := hcells q (by omega)
          have hfu := hfzs (q + 1 + 1)
          have hfd := hfzs q
          have hd1 : decide ((q : Int) + 1 + 1 < (n : Int)) = true := by simp <;> omega
          have hd2 : decide ((0 : Int) < (q : Int) + 1) = true := by simp <;> omega
          obtain ⟨g1c, g1f⟩ := cells_set wr ((madeCells #[.int .i64 0] n).setIfInBounds (q + 1) (.int .i64 y)) (q + 1 + 1) (.int .i64 0) (by have hz := made_size n; have hm := made_at n (q + 1 + 1) (by omega); simp only [Array.getElem?_setIfInBounds, Array.size_setIfInBounds, hz, hm]; grind)
          obtain ⟨g2c, g2f⟩ := cells_set wr (((madeCells #[.int .i64 0] n).setIfInBounds (q + 1) (.int .i64 y)).setIfInBounds (q + 1 + 1) (.int .i64 1)) (q) (.int .i64 0) (by have hz := made_size n; have hm := made_at n (q) (by omega); simp only [Array.getElem?_setIfInBounds, Array.size_setIfInBounds, hz, hm]; grind)
          have hrow : RowB (wr.alloc (.cells ((((madeCells #[.int .i64 0] n).setIfInBounds (q + 1) (.int .i64 y)).setIfInBounds (q + 1 + 1) (.int .i64 1)).setIfInBounds q (.int .i64 (-1))) 3)) wr.heap.size ((List.range n).map fun k => chF f (q + 1) k) := row_cells wr n _ _ fun i hi => by
            have hm := made_at n i hi
            have hz := made_size n
            simp only [Array.getElem?_setIfInBounds, Array.size_setIfInBounds, hz, hm, chF, HY.out]
            grind
          have hwr : wr.Since wr.heap.size (wr.alloc (.cells ((((madeCells #[.int .i64 0] n).setIfInBounds (q + 1) (.int .i64 y)).setIfInBounds (q + 1 + 1) (.int .i64 1)).setIfInBounds q (.int .i64 (-1))) 3)) := (World.Since.refl _ _).alloc (Nat.le_refl _) _
          go_wp2_with (at_builtin; (refine wpList_append_own _ rfl _ _ 28 rfl w.heap.size 23 i42 (.slice none 0 0) 1 24 Try.underlying28 HI.out HZ.out.1 HZ.out.2.1 HZ.out.2.2 rfl (by decide) _ _ _ rfl ((HR.out.own.alloc _).alloc _) ⟨wr.heap.size + 1, 0, none⟩ 1 1 [.slice (some ⟨wr.heap.size, 0, none⟩) n n] rfl rfl (cell_one_at _ _ _ (by simp)) (fun x hx => by simp at hx; subst hx; rfl) (by unfold maxLen; omega) (by omega) (by simp; omega) ?_); intro v' w1 hown' hgrow _)
          have hP := (HR.out.later hwr).push (rv := .slice (some ⟨wr.heap.size, 0, none⟩) n n) (x := (List.range n).map fun k => chF f (q + 1) k) (a := some ⟨wr.heap.size, 0, none⟩) (cp := n) (by simp)
            (fun _ => ⟨wr.heap.size, rfl, hsz, hrow⟩) (fun _ => HR.out.fresh rfl (Nat.le_refl _)) hown' hgrow
          rw [← chL_succ] at hP
          have HP := Lib.hid hP
          clear hP hrow hwr hown' hgrow hcells hfzs
          go_roundg (n - (q + 1 + 1))
          case measure => omega
          case rel => exact ⟨q + 1 + 1, _, _, by omega, rfl, by go_num, HP.out⟩
        · obtain rfl : r = 0 := by omega
          rw [Nat.add_zero] at cx
          have hcu := hcells 1 hup
          have hfu := hfzs 1
          have hd1 : decide ((0 : Int) + 1 < (n : Int)) = true := by simp <;> omega
          have hd2 : decide ((1 : Int) < (n : Int)) = true := by simp <;> omega
          obtain ⟨g1c, g1f⟩ := cells_set wr ((madeCells #[.int .i64 0] n).setIfInBounds 0 (.int .i64 y)) 1 (.int .i64 0) (by have hz := made_size n; have hm := made_at n 1 (by omega); simp only [Array.getElem?_setIfInBounds, Array.size_setIfInBounds, hz, hm]; grind)
          have hrow : RowB (wr.alloc (.cells (((madeCells #[.int .i64 0] n).setIfInBounds 0 (.int .i64 y)).setIfInBounds 1 (.int .i64 1)) 3)) wr.heap.size ((List.range n).map fun k => chF f (0) k) := row_cells wr n _ _ fun i hi => by
            have hm := made_at n i hi
            have hz := made_size n
            simp only [Array.getElem?_setIfInBounds, Array.size_setIfInBounds, hz, hm, chF, HY.out]
            grind
          have hwr : wr.Since wr.heap.size (wr.alloc (.cells (((madeCells #[.int .i64 0] n).setIfInBounds 0 (.int .i64 y)).setIfInBounds 1 (.int .i64 1)) 3)) := (World.Since.refl _ _).alloc (Nat.le_refl _) _
          go_wp2_with (at_builtin; (refine wpList_append_own _ rfl _ _ 28 rfl w.heap.size 23 i42 (.slice none 0 0) 1 24 Try.underlying28 HI.out HZ.out.1 HZ.out.2.1 HZ.out.2.2 rfl (by decide) _ _ _ rfl ((HR.out.own.alloc _).alloc _) ⟨wr.heap.size + 1, 0, none⟩ 1 1 [.slice (some ⟨wr.heap.size, 0, none⟩) n n] rfl rfl (cell_one_at _ _ _ (by simp)) (fun x hx => by simp at hx; subst hx; rfl) (by unfold maxLen; omega) (by omega) (by simp; omega) ?_); intro v' w1 hown' hgrow _)
          have hP := (HR.out.later hwr).push (rv := .slice (some ⟨wr.heap.size, 0, none⟩) n n) (x := (List.range n).map fun k => chF f (0) k) (a := some ⟨wr.heap.size, 0, none⟩) (cp := n) (by simp)
            (fun _ => ⟨wr.heap.size, rfl, hsz, hrow⟩) (fun _ => HR.out.fresh rfl (Nat.le_refl _)) hown' hgrow
          rw [← chL_succ] at hP
          have HP := Lib.hid hP
          clear hP hrow hwr hown' hgrow hcells hfzs
          go_roundg (n - (0 + 1))
          case measure => omega
          case rel => exact ⟨0 + 1, _, _, by omega, rfl, by go_num, HP.out⟩
      · by_cases hdn : 0 < r
        · obtain ⟨q, rfl⟩ : ∃ q, r = q + 1 := ⟨r - 1, by omega⟩
          have hcd := hcells q (by omega)
          have hfd := hfzs q
          have hd1 : decide ((q : Int) + 1 + 1 < (n : Int)) = false := by simp <;> omega
          have hd2 : decide ((0 : Int) < (q : Int) + 1) = true := by simp <;> omega
          obtain ⟨g2c, g2f⟩ := cells_set wr ((madeCells #[.int .i64 0] n).setIfInBounds (q + 1) (.int .i64 y)) (q) (.int .i64 0) (by have hz := made_size n; have hm := made_at n (q) (by omega); simp only [Array.getElem?_setIfInBounds, Array.size_setIfInBounds, hz, hm]; grind)
          have hrow : RowB (wr.alloc (.cells (((madeCells #[.int .i64 0] n).setIfInBounds (q + 1) (.int .i64 y)).setIfInBounds q (.int .i64 (-1))) 3)) wr.heap.size ((List.range n).map fun k => chF f (q + 1) k) := row_cells wr n _ _ fun i hi => by
            have hm := made_at n i hi
            have hz := made_size n
            simp only [Array.getElem?_setIfInBounds, Array.size_setIfInBounds, hz, hm, chF, HY.out]
            grind
          have hwr : wr.Since wr.heap.size (wr.alloc (.cells (((madeCells #[.int .i64 0] n).setIfInBounds (q + 1) (.int .i64 y)).setIfInBounds q (.int .i64 (-1))) 3)) := (World.Since.refl _ _).alloc (Nat.le_refl _) _
          go_wp2_with (at_builtin; (refine wpList_append_own _ rfl _ _ 28 rfl w.heap.size 23 i42 (.slice none 0 0) 1 24 Try.underlying28 HI.out HZ.out.1 HZ.out.2.1 HZ.out.2.2 rfl (by decide) _ _ _ rfl ((HR.out.own.alloc _).alloc _) ⟨wr.heap.size + 1, 0, none⟩ 1 1 [.slice (some ⟨wr.heap.size, 0, none⟩) n n] rfl rfl (cell_one_at _ _ _ (by simp)) (fun x hx => by simp at hx; subst hx; rfl) (by unfold maxLen; omega) (by omega) (by simp; omega) ?_); intro v' w1 hown' hgrow _)
          have hP := (HR.out.later hwr).push (rv := .slice (some ⟨wr.heap.size, 0, none⟩) n n) (x := (List.range n).map fun k => chF f (q + 1) k) (a := some ⟨wr.heap.size, 0, none⟩) (cp := n) (by simp)
            (fun _ => ⟨wr.heap.size, rfl, hsz, hrow⟩) (fun _ => HR.out.fresh rfl (Nat.le_refl _)) hown' hgrow
          rw [← chL_succ] at hP
          have HP := Lib.hid hP
          clear hP hrow hwr hown' hgrow hcells hfzs
          go_roundg (n - (q + 1 + 1))
          case measure => omega
          case rel => exact ⟨q + 1 + 1, _, _, by omega, rfl, by go_num, HP.out⟩
        · obtain rfl : r = 0 := by omega
          rw [Nat.add_zero] at cx
          have hd1 : decide ((0 : Int) + 1 < (n : Int)) = false := by simp <;> omega
          have hd2 : decide ((1 : Int) < (n : Int)) = false := by simp <;> omega
          have hrow : RowB (wr.alloc (.cells ((madeCells #[.int .i64 0] n).setIfInBounds 0 (.int .i64 y)) 3)) wr.heap.size ((List.range n).map fun k => chF f (0) k) := row_cells wr n _ _ fun i hi => by
            have hm := made_at n i hi
            have hz := made_size n
            simp only [Array.getElem?_setIfInBounds, Array.size_setIfInBounds, hz, hm, chF, HY.out]
            grind
          have hwr : wr.Since wr.heap.size (wr.alloc (.cells ((madeCells #[.int .i64 0] n).setIfInBounds 0 (.int .i64 y)) 3)) := (World.Since.refl _ _).alloc (Nat.le_refl _) _
          go_wp2_with (at_builtin; (refine wpList_append_own _ rfl _ _ 28 rfl w.heap.size 23 i42 (.slice none 0 0) 1 24 Try.underlying28 HI.out HZ.out.1 HZ.out.2.1 HZ.out.2.2 rfl (by decide) _ _ _ rfl ((HR.out.own.alloc _).alloc _) ⟨wr.heap.size + 1, 0, none⟩ 1 1 [.slice (some ⟨wr.heap.size, 0, none⟩) n n] rfl rfl (cell_one_at _ _ _ (by simp)) (fun x hx => by simp at hx; subst hx; rfl) (by unfold maxLen; omega) (by omega) (by simp; omega) ?_); intro v' w1 hown' hgrow _)
          have hP := (HR.out.later hwr).push (rv := .slice (some ⟨wr.heap.size, 0, none⟩) n n) (x := (List.range n).map fun k => chF f (0) k) (a := some ⟨wr.heap.size, 0, none⟩) (cp := n) (by simp)
            (fun _ => ⟨wr.heap.size, rfl, hsz, hrow⟩) (fun _ => HR.out.fresh rfl (Nat.le_refl _)) hown' hgrow
          rw [← chL_succ] at hP
          have HP := Lib.hid hP
          clear hP hrow hwr hown' hgrow hcells hfzs
          go_roundg (n - (0 + 1))
          case measure => omega
          case rel => exact ⟨0 + 1, _, _, by omega, rfl, by go_num, HP.out⟩
    · have : r = n := by omega
      subst this
      clear hmk
      obtain ⟨a, cap, rfl, hin⟩ := hR.slice
      have hsc := hR.since
      have hll := chL_length f r r
      have HLL := Lib.hid hll
      clear hll
      go_wp2
      go_ret2
      exact ⟨a, cap, by rw [HLL.out]; rfl, hsc, hin⟩
end Go.Proofs.Ytdbomnhlgaohaaa
