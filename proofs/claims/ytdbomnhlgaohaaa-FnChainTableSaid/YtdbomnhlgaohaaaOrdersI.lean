/- The contracts of pairsTurned, orderedProduct, sumOfOrders and valueByOrders. -/
import Derived.Test.YtdbomnhlgaohaaaOrdP
import Derived.Test.YtdbomnhlgaohaaaSeek
import Derived.Test.YtdbomnhlgaohaaaSig
import Derived.Test.YtdbomnhlgaohaaaLSum
import Derived.RangeFuncFrom
namespace Go.Proofs.Ytdbomnhlgaohaaa
open Go.RowKit Go.Deep Go.Shelf
attribute [local go_sem] Oper.semAt_some

/-- The numbers of a list of columns. -/
def ints (cs : List Nat) : List Int := cs.map fun c : Nat => (c : Int)
theorem ints_length (cs : List Nat) : (ints cs).length = cs.length := by simp [ints]
theorem ints_getD (cs : List Nat) (i : Nat) : (ints cs).getD i 0 = (cs.getD i 0 : Nat) := by
  simp only [ints, List.getD, List.getElem?_map]
  cases cs[i]? <;> rfl
theorem take_succ_getD (cs : List Nat) {i : Nat} (h : i < cs.length) : cs.take (i + 1) = cs.take i ++ [cs.getD i 0] := by
  rw [List.take_add_one]; simp [List.getD, h]

set_option maxRecDepth 100000 in
set_option maxHeartbeats 1000000 in
theorem pairsTurned_any (a : Option Addr) (cap m : Nat) (cs : List Nat) (w : World) (hx : cs.length = m) (hm : m ≤ 6) (hcap : m ≤ cap) (hc63 : cap ≤ 9223372036854775807) (ha : RowR w a (ints cs)) :
    Calls Try.prog 119 #[.slice a m cap] w fun e w' => e = .returned (.int .i64 (inv cs)) ∧ w = w' := by
  have HX := Lib.hid hx
  have hinv : inv cs = invTo cs m := by unfold inv; rw [hx]
  rw [hinv]
  have HB := Lib.hid (fun i (h : i ≤ m) => invTo_le cs i (by omega))
  clear hx hinv
  go_enter Try.func119, Try.ntmps119
  go_wp2
  go_loopg [3, 4, 5, 7, 10] m (fun g s _ _ _ i wr => ∃ k : Nat, k ≤ m ∧ g = m - k ∧ i = .int .i64 k ∧ s = .int .i64 (invTo cs k) ∧ w = wr)
  case atStart => exact ⟨0, Nat.zero_le _, rfl, rfl, rfl, rfl⟩
  case round =>
    obtain ⟨k, hk, rfl, rfl, rfl, rfl⟩ := hrel
    by_cases hlt : k < m
    · obtain ⟨b, o, rfl, hc⟩ := ha (by rw [ints_length, HX.out]; omega)
      have cj := hc k (by rw [ints_length, HX.out]; exact hlt)
      have HC := Lib.hid hc
      rw [ints_getD] at cj
      obtain ⟨y, hy⟩ : ∃ y, y = cs.getD k 0 := ⟨_, rfl⟩
      rw [← hy] at cj
      have HY := Lib.hid hy
      have hib := HB.out k (by omega)
      rw [HX.out] at hib
      obtain ⟨I, hI⟩ : ∃ I, I = invTo cs k := ⟨_, rfl⟩
      rw [← hI] at hib
      have hib2 : k * m ≤ 6 * 6 := Nat.mul_le_mul (by omega) hm
      have HI := Lib.hid hI
      clear hc hy
      rw [← hI]
      clear hI
      go_wp2
      go_loopg [3, 7, 19] k (fun g s _ i wi => ∃ j : Nat, j ≤ k ∧ g = k - j ∧ i = .int .i64 j ∧ s = .int .i64 ((I + cnt y (cs.take j) : Nat) : Int) ∧ w = wi)
      case atStart => exact ⟨0, Nat.zero_le _, rfl, rfl, by simp [cnt], rfl⟩
      case round =>
        obtain ⟨j, hj, rfl, rfl, rfl, rfl⟩ := hrel
        by_cases hjk : j < k
        · have cz := HC.out j (by rw [ints_length, HX.out]; omega)
          rw [ints_getD] at cz
          have hts := take_succ_getD cs (i := j) (by rw [HX.out]; omega)
          obtain ⟨z, hz⟩ : ∃ z, z = cs.getD j 0 := ⟨_, rfl⟩
          rw [← hz] at cz hts
          have hcn := cnt_snoc y (cs.take j) z
          rw [← hts] at hcn
          have hcl := cnt_le y (cs.take j)
          have hcl2 : (cs.take j).length ≤ j := by simp; omega
          obtain ⟨S, hS⟩ : ∃ S, S = I + cnt y (cs.take j) := ⟨_, rfl⟩
          rw [← hS]
          have HS : S ≤ 100 := by omega
          have HN : (I + cnt y (cs.take (j + 1)) : Nat) = S + (if y < z then 1 else 0) := by rw [hcn]; omega
          have HNN := Lib.hid HN
          clear hcn hcl hcl2 hS hts hz HN
          by_cases hyz : y < z
          · have hg : ((y : Int) < (z : Int)) := by omega
            go_wp2
            go_roundg (k - (j + 1))
            case measure => omega
            case rel => exact ⟨j + 1, by omega, rfl, by go_num, by rw [HNN.out, if_pos hyz]; go_num, rfl⟩
          · have hg : ¬ ((y : Int) < (z : Int)) := by omega
            go_wp2
            go_roundg (k - (j + 1))
            case measure => omega
            case rel => exact ⟨j + 1, by omega, rfl, by go_num, by rw [HNN.out, if_neg hyz]; go_num, rfl⟩
        · have : k = j := by omega
          subst this
          have e : I + cnt y (cs.take k) = invTo cs (k + 1) := by rw [HI.out, HY.out]; rfl
          rw [e]
          go_wp2
          go_roundg (m - (k + 1))
          case measure => omega
          case rel => exact ⟨k + 1, by omega, rfl, by go_num, rfl, rfl⟩
    · have : m = k := by omega
      subst this
      go_wp2
      go_ret
      exact ⟨rfl, rfl⟩

/-- The product of f at the numbers that have come, begun with s. -/
def lprod {n : Nat} (s : Int) (f : Nat → Int) (pre : List {i : Nat // i < n}) : Int := pre.foldl (fun s x => s * f x.1) s
theorem lprod_snoc {n : Nat} (s : Int) (f : Nat → Int) (pre : List {i : Nat // i < n}) (x : {i : Nat // i < n}) : lprod s f (pre ++ [x]) = lprod s f pre * f x.1 := by simp [lprod]
theorem lprod_sel (s0 : Int) (f : Nat → Int) (s n : Nat) (hs : ∀ i, i < n → s.testBit i = true) : ∀ k, k ≤ n → lprod s0 f (sel s n k) = prodN s0 f k
  | 0, _ => rfl
  | k + 1, hk => by
    rw [sel_yes s n k (by omega) (hs k (by omega)), lprod_snoc, lprod_sel s0 f s n hs k (by omega)]; rfl
theorem lprod_bd {n : Nat} {s : Int} (hs : -1 ≤ s ∧ s ≤ 1) (f : Nat → Int) (hf : ∀ j, j < n → -30 ≤ f j ∧ f j ≤ 30) (pre : List {i : Nat // i < n}) : -(p180 pre.length) ≤ lprod s f pre ∧ lprod s f pre ≤ p180 pre.length := by
  have H : ∀ (pre : List {i : Nat // i < n}) (s B : Int), -B ≤ s → s ≤ B → 1 ≤ B → -(B * p180 pre.length) ≤ pre.foldl (fun s x => s * f x.1) s ∧ pre.foldl (fun s x => s * f x.1) s ≤ B * p180 pre.length := by
    intro pre
    induction pre with
    | nil => intro s B h1 h2 h3; simp only [List.length_nil, p180, List.foldl_nil]; omega
    | cons x xs ih =>
      intro s B h1 h2 h3
      have h4 := hf x.1 x.2
      have h5 := mul_bdB h4.1 h4.2 h1 h2
      have hc := Int.mul_comm s (f x.1)
      have h6 := ih (s * f x.1) (180 * B) (by omega) (by omega) (by omega)
      simp only [List.foldl_cons, List.length_cons, p180]
      rw [show B * (180 * p180 xs.length) = 180 * B * p180 xs.length by rw [← Int.mul_assoc, Int.mul_comm B 180]]
      exact h6
  have := H pre s 1 (by omega) (by omega) (by omega)
  rw [Int.one_mul] at this
  exact this

theorem prodO_world (w : World) (v0 v1 v2 v3 : Value) (t t' : TypeId) (W0 : World) (h : W0 = ((((w.alloc (.cells #[v0] t')).alloc (.cells #[v1] 3)).alloc (.cells #[v2] t)).alloc (.cells #[v3] 3))) :
    W0.heap.size = w.heap.size + 1 + 1 + 1 + 1 ∧ Below w.heap.size w W0 ∧ W0.cell? ⟨w.heap.size, 0, none⟩ = some v0 ∧ W0.cell? ⟨w.heap.size + 1, 0, none⟩ = some v1 ∧ W0.frozen? ⟨w.heap.size + 1, 0, none⟩ = false ∧ W0.cell? ⟨w.heap.size + 1 + 1, 0, none⟩ = some v2 ∧ W0.cell? ⟨w.heap.size + 1 + 1 + 1, 0, none⟩ = some v3 := by
  have c0 := cell_new_l w v0 t'
  have c1 := cell_new_l (w.alloc (.cells #[v0] t')) v1 3
  have c2 := cell_new_l ((w.alloc (.cells #[v0] t')).alloc (.cells #[v1] 3)) v2 t
  have c3 := cell_new_l (((w.alloc (.cells #[v0] t')).alloc (.cells #[v1] 3)).alloc (.cells #[v2] t)) v3 3
  simp only [World.size_alloc] at c1 c2 c3
  refine ⟨by rw [h]; simp, ?_, ?_, ?_, ?_, ?_, ?_⟩
  · rw [h]; exact ((((Below.refl _ w).alloc (Nat.le_refl _) _).alloc (by simp) _).alloc (by simp; omega) _).alloc (by simp; omega) _
  · rw [h]; exact cell_alloc_l _ (cell_alloc_l _ (cell_alloc_l _ c0.1))
  · rw [h]; exact cell_alloc_l _ (cell_alloc_l _ c1.1)
  · rw [h]; exact frozen_alloc_l _ (cell_alloc_l _ c1.1) (frozen_alloc_l _ c1.1 c1.2)
  · rw [h]; exact cell_alloc_l _ c2.1
  · rw [h]; exact c3.1

set_option maxRecDepth 100000 in
set_option maxHeartbeats 2000000 in
theorem plainProduct_any (a : Option Addr) (cap n : Nat) (l : List (List Int)) (g ccap : Nat) (cs : List Nat) (w : World) (hn : l.length = n) (hT : TabIn l) (hw : (l.getD 0 []).length = n) (hm : MatR w a l) (hx : cs.length = n) (hcs : ∀ c ∈ cs, c < n) (hr : RowR w (some ⟨g, 0, none⟩) (ints cs)) :
    Calls Try.prog 120 #[.slice a n cap, .slice (some ⟨g, 0, none⟩) n ccap] w fun e w' => e = .returned (.int .i64 (prodN 1 (fun i => at2 l i (cs.getD i 0)) n)) ∧ w.Since w.heap.size w' := by
  have h6 := hT.2.1
  have h1 := hT.1
  rw [hn] at h6 h1
  obtain ⟨b, o, A, C, rfl, hlen, hcell⟩ := hm.grid hn hT hw
  have hbl : b < w.heap.size := World.block_lt_of_cell? _ _ (hlen 0 (by omega))
  have hpow : 2 ^ n - 1 ≤ 63 := by have : 2 ^ n ≤ 2 ^ 6 := Nat.pow_le_pow_right (by omega) h6; omega
  have hrow : ∀ j, j < n → w.cell? ⟨g, j, none⟩ = some (.int .i64 (cs.getD j 0 : Nat)) := fun j hj => by
    obtain ⟨b2, o2, e, hc⟩ := hr (by rw [ints_length]; omega)
    injection e with e
    injection e with e1 e2 _
    subst e1 e2
    have := hc j (by rw [ints_length]; omega)
    rw [ints_getD, Nat.zero_add] at this
    exact this
  have hgl : g < w.heap.size := World.block_lt_of_cell? _ _ (hrow 0 (by omega))
  have hcj : ∀ j, j < n → cs.getD j 0 < n := fun j hj => by
    have : cs.getD j 0 = cs[j]'(by omega) := by simp [List.getD, show j < cs.length by omega]
    rw [this]; exact hcs _ (List.getElem_mem _)
  have HC := Lib.hid hcell
  have HL := Lib.hid hlen
  have HROW := Lib.hid hrow
  have HCJ := Lib.hid hcj
  obtain ⟨f, hf⟩ : ∃ f : Nat → Int, f = fun i => at2 l i (cs.getD i 0) := ⟨_, rfl⟩
  rw [← hf]
  have hsb : -1 ≤ (1 : Int) ∧ (1 : Int) ≤ 1 := by omega
  have HSB := Lib.hid hsb
  have HF := Lib.hid hf
  have hmix : Try.prog.follows .mixedOrders = true := by kernel_rfl
  clear hm hn hT hw hlen hcell hf hsb hr hrow hcj hcs hx
  refine (callsIn_wide (n := 9)).1 ?_
  refine callsIn_of_wp_marks Try.func120 rfl trivial ?_ rfl
  simp only [Try.ntmps120, List.size_toArray, List.length_cons, List.length_nil, Nat.reduceAdd, Nat.reduceSub, Array.replicate_succ, Array.replicate_zero, List.push_toArray, List.append_toArray, List.nil_append, List.cons_append]
  gi_wp2_with (first
    | (refine ⟨trivial, ?_⟩; gi_at_call 88; refine (callsIn_wide.2 (allRows_any _ _ _ _ h6)).mono ?_; rintro e w' ⟨rfl, rfl⟩)
    | (refine ⟨trivial, ?_⟩; gi_at_call 87; refine (callsIn_wide.2 (rows_any _ _ _ _ _)).mono ?_; rintro e w' ⟨rfl, rfl⟩))
  obtain ⟨W0, hW0⟩ : ∃ W0, W0 = ((((w.alloc (.cells #[.slice (some ⟨g, 0, none⟩) n ccap] 23)).alloc (.cells #[.int .i64 1] 3)).alloc (.cells #[.slice (some ⟨b, o, none⟩) n cap] 50)).alloc (.cells #[.int .i64 (2 ^ n - 1 : Nat)] 3)) := ⟨_, rfl⟩
  rw [← hW0]
  obtain ⟨hsz0, hB0, d0, d1, d1f, d2, d3⟩ := prodO_world w (.slice (some ⟨g, 0, none⟩) n ccap) (.int .i64 1) (.slice (some ⟨b, o, none⟩) n cap) (.int .i64 (2 ^ n - 1 : Nat)) 50 23 W0 hW0
  have hc0' : ∀ j, j < n → W0.cell? ⟨b, o + j, none⟩ = some (.slice (A j) n (C j)) := fun j hj => (hB0.cell (p := ⟨b, o + j, none⟩) hbl).trans (HL.out j hj)
  have hstops := rows_stopsB 8 (by omega) (w.heap.size + 1) W0.heap.size (w.heap.size + 1 + 1) (w.heap.size + 1 + 1 + 1) b o n cap (2 ^ n - 1) (by omega) hpow A (fun _ => n) C W0 (Nat.le_refl _) (by omega) (by omega) (by omega) (by omega) (by omega) d2 d3 hc0'
  clear hc0' d2 d3 hW0
  refine wpIn_rangeFunc_ownF (F := Fence.wide) (n := 9) rfl (by omega) (gf := 96) (lb := #[.pointer (some ⟨w.heap.size + 1 + 1, 0, none⟩), .pointer (some ⟨w.heap.size + 1 + 1 + 1, 0, none⟩)]) rfl trivial (enters_of Try.func96 (by kernel_rfl) rfl)
    hstops kpB_t (kpB_b (Nat.le_refl _)) (Below.refl _ _) (fun _ => rfl)
    (fun pre W => (W.cell? ⟨w.heap.size, 0, none⟩ = some (.slice (some ⟨g, 0, none⟩) n ccap) ∧ W.cell? ⟨w.heap.size + 1, 0, none⟩ = some (.int .i64 (lprod 1 f pre)) ∧ W.frozen? ⟨w.heap.size + 1, 0, none⟩ = false) ∧ Below w.heap.size w W)
    (fun _ _ _ => False)
    (OwnFrom.and (Own.from (fun s A B row hs hg hr => ⟨cell_kept hs.1 hg hr, cell_kept hs.2.1 hg hr, (frozen_kept hs.2.1 hg hr).trans hs.2.2⟩) _) (ownFrom_below (Nat.le_refl _) (by omega)))
    (fun c => fun s A B row hs hg hr => hs)
    ⟨⟨d0, d1, d1f⟩, hB0⟩
    (fun x => { tmps := #[.slice (some ⟨b, o, none⟩) n cap, .slice (some ⟨g, 0, none⟩) n ccap, undef, .pointer (some ⟨w.heap.size, 0, none⟩), .int .i64 0, .pointer (some ⟨w.heap.size + 1, 0, none⟩), .int .i64 x.1, .slice (A x.1) n (C x.1),
        .slice (some ⟨b, o, none⟩) n cap, .slice (some ⟨b, o, none⟩) n cap, .int .i64 (2 ^ n - 1 : Nat),
        .func (.func 96) #[] #[.pointer (some ⟨w.heap.size + 1 + 1, 0, none⟩), .pointer (some ⟨w.heap.size + 1 + 1 + 1, 0, none⟩)],
        .int .i64 x.1, .slice (A x.1) n (C x.1), undef, undef, undef, undef, undef, undef, undef, undef, undef, undef], defers := [] }) ?assign ?body ?done ?stop
  case assign =>
    intro lp x W K hK
    gi_wp2
    exact hK
  case body =>
    rintro lp pre x W ⟨⟨q0, q1, q1f⟩, gB⟩ hlen
    have hx2 := x.2
    obtain ⟨j, hj⟩ : ∃ j, x.1 = j := ⟨_, rfl⟩
    rw [hj] at hx2 ⊢
    have hcj := HCJ.out j hx2
    have hgj := HROW.out j hx2
    obtain ⟨c, hc⟩ : ∃ c, cs.getD j 0 = c := ⟨_, rfl⟩
    obtain ⟨bj, oj, e1, e2, e3⟩ := HC.out j (cs.getD j 0) hx2 hcj
    have hA : A j = some ⟨bj, oj, none⟩ := by
      have := (HL.out j hx2).symm.trans e1
      simp at this
      exact this
    rw [hA]
    have hsn := lprod_snoc 1 f pre x
    rw [hj] at hsn
    have hfj : f j = at2 l j (cs.getD j 0) := by rw [HF.out]
    have hlb := lprod_bd HSB.out f (fun j hj => by
      obtain ⟨_, _, _, _, b1⟩ := HC.out j (cs.getD j 0) hj (HCJ.out j hj)
      rw [HF.out]; exact b1) pre
    have hp6 := p180_le pre.length (by omega)
    obtain ⟨p, hp⟩ : ∃ p, at2 l j (cs.getD j 0) = p := ⟨_, rfl⟩
    obtain ⟨s, hs⟩ : ∃ s, lprod 1 f pre = s := ⟨_, rfl⟩
    rw [hp] at e2 e3 hfj
    rw [hs] at q1 hsn hlb
    rw [hc] at e2 hcj hgj
    have hmb := mul_bdB e3.1 e3.2 hlb.1 hlb.2
    have hcm := Int.mul_comm p s
    have hw2 : IntKind.i64.wrap (s * p) = s * p := IntWalk.i64_in _ ⟨by omega, by omega⟩
    rw [hfj] at hsn
    have HSN := Lib.hid hsn
    have hbj : bj < w.heap.size := World.block_lt_of_cell? _ _ e2
    have E2 := (gB.cell (p := ⟨bj, oj + c, none⟩) hbj).trans e2
    have E3 := (gB.cell (p := ⟨g, j, none⟩) hgl).trans hgj
    clear hj hp hs hsn hlb hfj e1 e2 hA hmb hcm hc hgj
    gi_wp2
    refine round_still_tail 9 hmix (by kernel_rfl) (by kernel_rfl) ?hno ?_
    case hno =>
      rintro ⟨a, w, h⟩
      exact h
    simp only [List.take_succ_cons, List.take_zero, List.drop_succ_cons, List.drop_zero]
    repeat still_step
    refine wpStill_nil ?_
    go_wp2
    rw [← HSN.out] at hw2 ⊢
    refine ⟨(KeepsOthers.setCell _ _ _).trans (KeepsOthers.drew _), ⟨?_, fun b h1 _ => ?_⟩, ⟨?_, ?_, ?_⟩, (gB.setCell (p := ⟨w.heap.size + 1, 0, none⟩) (by simp) _).drew⟩
    · simp
    · exact Below.heap_setCell _ _ _ _ h1
    · exact (World.cell?_setCell_other _ _ _ _ (fun e => by injection e with e1; omega)).trans q0
    · exact World.cell?_setCell_same' _ _ _ (by rw [q1]; rfl)
    · exact (World.frozen?_setCell _ _ _ _).trans q1f
  case done =>
    rintro D ys W hD rfl ⟨⟨q0, q1, q1f⟩, gB⟩ hK
    gi_wp2
    refine ⟨by simp, .inl ⟨_, _, rfl, run_takeDeferred hK, ?_⟩⟩
    have hls := lprod_sel 1 f (2 ^ n - 1) n (fun i hi => by rw [Nat.testBit_two_pow_sub_one]; simpa using hi) n (Nat.le_refl _)
    refine ⟨.int .i64 (prodN 1 f n), ?_, rfl, below_since (gB.trans (belowK_b (w := w) (Nat.le_refl _) W D _ _ (by omega) hK rfl rfl))⟩
    simp [results, Try.f120, go_sem, hls]
  case stop =>
    rintro D c pre W hD hpre hF hK
    exact hF.elim

theorem ordS_plain (l : List (List Int)) (n : Nat) {cs : List Nat} (hx : cs.length = n) : ordS l n 0 cs = sn (inv cs) * prodN 1 (fun i => at2 l i (cs.getD i 0)) n := by
  show prodN (sn (inv cs)) _ cs.length = _
  rw [hx, ← prodN_neg, Int.mul_one]

set_option maxRecDepth 100000 in
set_option maxHeartbeats 2000000 in
theorem orderedProduct_any (a : Option Addr) (cap n : Nat) (l : List (List Int)) (g ccap : Nat) (cs : List Nat) (w : World) (hn : l.length = n) (hT : TabIn l) (hw : (l.getD 0 []).length = n) (hm : MatR w a l) (hx : cs.length = n) (hcs : ∀ c ∈ cs, c < n) (hcap : n ≤ ccap) (hc63 : ccap ≤ 9223372036854775807) (hr : RowR w (some ⟨g, 0, none⟩) (ints cs)) :
    Calls Try.prog 110 #[.slice a n cap, .slice (some ⟨g, 0, none⟩) n ccap] w fun e w' => e = .returned (.int .i64 (ordS l n 0 cs)) ∧ w.Since w.heap.size w' := by
  have h6 := hT.2.1
  rw [hn] at h6
  have hib := invTo_le cs n (by omega)
  rw [hx] at hib
  have hib2 : n * n ≤ 6 * 6 := Nat.mul_le_mul h6 h6
  have hi64 : inv cs < 64 := by unfold inv; rw [hx]; omega
  have EP := Lib.hid (pairsTurned_any (some ⟨g, 0, none⟩) ccap n cs w hx h6 hcap hc63 hr)
  have ES := fun (W : World) => signOf_any (inv cs) hi64 W
  have EQ := plainProduct_any a cap n l g ccap cs w hn hT hw hm hx hcs hr
  have hsb := sn_bd (inv cs)
  have hob := ordS_bd (l := l) (n := n) h6 (fun i j hi hj => hT.at (by omega) (by omega)) 0 cs (by omega) hcs
  have hb0 : b6 0 = 34012224000000 := rfl
  rw [ordS_plain l n hx] at hob ⊢
  obtain ⟨s0, hs0⟩ : ∃ s, s = sn (inv cs) := ⟨_, rfl⟩
  obtain ⟨p, hp⟩ : ∃ p, p = prodN 1 (fun i => at2 l i (cs.getD i 0)) n := ⟨_, rfl⟩
  rw [← hs0, ← hp] at hob ⊢
  rw [← hp] at EQ
  simp only [← hs0] at ES
  replace ES := Lib.hid ES
  replace EQ := Lib.hid EQ
  have hwr : IntKind.i64.wrap (s0 * p) = s0 * p := IntWalk.i64_in _ ⟨by omega, by omega⟩
  obtain ⟨I, hI⟩ : ∃ I, I = inv cs := ⟨_, rfl⟩
  simp only [← hI] at EP ES
  clear hm hn hT hw hr hcs hx hib hib2 hi64 hI hs0 hp hob hsb
  go_enter Try.func110, Try.ntmps110
  go_wp2_with (first
    | (go_at_call 119; refine (EP.out).mono ?_; rintro e w' ⟨rfl, rfl⟩)
    | (go_at_call 101; refine (ES.out _).mono ?_; rintro e w' ⟨rfl, rfl⟩)
    | (go_at_call 120; refine (EQ.out).mono ?_; rintro e w' ⟨rfl, hs⟩; have HS := Lib.hid hs; clear hs))
  go_ret
  exact ⟨rfl, HS.out⟩

end Go.Proofs.Ytdbomnhlgaohaaa
