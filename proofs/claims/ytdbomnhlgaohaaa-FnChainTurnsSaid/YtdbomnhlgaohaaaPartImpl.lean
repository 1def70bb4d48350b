/- The contracts of impl.chosen and of the method part. -/
import Derived.Test.YtdbomnhlgaohaaaLSum
import Derived.Test.YtdbomnhlgaohaaaPartPure
namespace Go.Proofs.Ytdbomnhlgaohaaa
open Go.RowKit Go.Deep Go.Shelf
attribute [local go_sem] Oper.semAt_some

/-- Rows of one width, as many as in a table, of any numbers. -/
structure Rec (l : List (List Int)) : Prop where
  low : 1 ≤ l.length
  high : l.length ≤ 6
  width : 1 ≤ (l.getD 0 []).length ∧ (l.getD 0 []).length ≤ 6
  row : ∀ {r : Nat}, r < l.length → (l.getD r []).length = (l.getD 0 []).length
/-- .. and one row and one column more. -/
structure Rec7 (l : List (List Int)) : Prop where
  low : 1 ≤ l.length
  high : l.length ≤ 7
  width : 1 ≤ (l.getD 0 []).length ∧ (l.getD 0 []).length ≤ 7
  row : ∀ {r : Nat}, r < l.length → (l.getD r []).length = (l.getD 0 []).length
theorem Rec.rec7 {l : List (List Int)} (h : Rec l) : Rec7 l := ⟨h.low, by have := h.high; omega, by have := h.width; omega, fun hr => h.row hr⟩
theorem TabIn.rec {l : List (List Int)} (h : TabIn l) : Rec l := ⟨h.1, h.2.1, h.width, fun hr => h.row hr⟩

theorem rb_nil (w : World) : RB w w (.slice none 0 0) [] := ⟨World.Since.refl _ _, World.ownsRow_nil _ _ _ _⟩
set_option maxRecDepth 100000 in
set_option maxHeartbeats 1000000 in
theorem chosen_any (a : Option Addr) (cap m s : Nat) (x : List Int) (w : World) (hx : x.length = m) (h6 : m ≤ 7) (hs : s ≤ 63) (ha : RowR w a x) :
    Calls Try.prog 122 #[.slice a m cap, .int .i64 s] w fun e w' => ∃ v, e = .returned v ∧ RB w w' v (pickTo s x m m) := by
  obtain ⟨i3, hi3⟩ := info3_parts
  have HJ := Lib.hid hi3
  have HST := Lib.hid (rb_nil w)
  have HX := Lib.hid hx
  have HA := Lib.hid ha
  clear hi3 hx ha
  go_enter Try.func122, Try.ntmps122
  go_wp2
  go_loopg [5, 6, 7, 10] m (fun g v _ _ i wr => ∃ k : Nat, k ≤ m ∧ g = m - k ∧ i = .int .i64 k ∧ RB w wr v (pickTo s x m k))
  case atStart => exact ⟨0, Nat.zero_le _, rfl, rfl, HST.out⟩
  case round =>
    obtain ⟨k, hk, rfl, rfl, hR⟩ := hrel
    clear HST
    by_cases hlt : k < m
    · obtain ⟨b, o, rfl, hc⟩ := HA.out (by rw [HX.out]; omega)
      have hce := hc k (by rw [HX.out]; exact hlt)
      rw [← hR.since.cell (a := ⟨b, o + k, none⟩) (World.block_lt_of_cell? _ _ hce)] at hce
      obtain ⟨y, hy⟩ : ∃ y, x.getD k 0 = y := ⟨_, rfl⟩
      rw [hy] at hce
      have HY := Lib.hid hy
      have HR := Lib.hid hR
      have E := Lib.hid (inSet_any s k hs (by omega) wr)
      have hle := pickTo_length s x m k
      have hzi := hR.since.size
      clear hy hR hc HA
      cases hb : s.testBit k with
      | true =>
        have HB := Lib.hid hb
        rw [hb] at E
        clear hb
        go_wp2_with (first
          | (go_at_call 97; refine (E.out).mono ?_; rintro e w' ⟨rfl, rfl⟩)
          | (at_builtin; (refine wpList_append_own _ rfl _ _ 23 rfl w.heap.size 3 i3 (.int .i64 0) 1 8 Try.underlying23 HJ.out.1 HJ.out.2.1 HJ.out.2.2.1 HJ.out.2.2.2 rfl (by decide) _ _ _ rfl (HR.out.own.alloc _) ⟨wr.heap.size, 0, none⟩ 1 1 [.int .i64 y] rfl rfl (cell_one_at _ _ _ rfl) (fun x hx => by simp at hx; subst hx; rfl) (by unfold maxLen; omega) (by omega) (by simp; omega) ?_); intro v' w1 hown' hgrow _))
        have hP := HR.out.push hown' hgrow
        rw [← HY.out, ← pickTo_yes s x m k hlt HB.out] at hP
        have HP := Lib.hid hP
        clear hP hown' hgrow hle hce
        go_roundg (m - (k + 1))
        case measure => omega
        case rel => exact ⟨k + 1, by omega, rfl, by go_num, HP.out⟩
      | false =>
        have HB := Lib.hid hb
        rw [hb] at E
        clear hb
        go_wp2_with (first
          | (go_at_call 97; refine (E.out).mono ?_; rintro e w' ⟨rfl, rfl⟩))
        go_roundg (m - (k + 1))
        case measure => omega
        case rel => exact ⟨k + 1, by omega, rfl, by go_num, by rw [pickTo_no s x m k HB.out]; exact HR.out⟩
    · have : k = m := by omega
      subst this
      have HR := Lib.hid hR
      clear hR
      go_wp2
      go_ret
      exact ⟨_, rfl, HR.out⟩

/-- Wb is W0 but for block g. -/
structure Tnd (W0 Wb : World) (g : Nat) : Prop where
  os : Wb.os = W0.os
  tape : Wb.tape = W0.tape
  output : Wb.output = W0.output
  size : Wb.heap.size = W0.heap.size
  block : ∀ b, b < W0.heap.size → b ≠ g → Wb.heap[b]? = W0.heap[b]?
theorem Tnd.refl (W0 : World) (g : Nat) : Tnd W0 W0 g := ⟨rfl, rfl, rfl, rfl, fun _ _ _ => rfl⟩
theorem Tnd.set {W0 Wb : World} {g : Nat} (h : Tnd W0 Wb g) (u : Value) : Tnd W0 (Wb.setCell ⟨g, 0, none⟩ u) g :=
  ⟨h.os, h.tape, h.output, (World.size_setCell _ _ _).trans h.size, fun b hb hn => (Below.heap_setCell _ _ _ _ hn).trans (h.block b hb hn)⟩

theorem BT.turn {w W W' : World} {v : Value} {l : List (List Int)} {A : Nat → Option Addr} {C : Nat → Nat} {row : Option Nat} (h : BT w W v l A C) (hg : W.grownBy W' row) (hr : ∀ r, row = some r → w.heap.size ≤ r ∧ ∃ o : Obj, W.heap[r]? = some o ∧ o.isCells = false) : BT w W' v l A C := by
  have hne : ∀ G cs t z, W.heap[G]? = some (.cells cs t z) → some G ≠ row := fun G cs t z h1 e => by
    obtain ⟨_, o, h2, h3⟩ := hr G e.symm
    rw [h1] at h2
    injection h2 with h2
    rw [← h2] at h3
    cases h3
  refine ⟨h.since.grown hg h.since.size (fun k e => (hr k e).1), ?_, fun r hr h0 => ?_, h.apart⟩
  · refine h.own.kept hg ?_
    rcases h.own.2 with ⟨hv, _⟩ | ⟨g, cap, cur, hv, _, hgg, _⟩
    · exact .inl (by rw [hv]; rfl)
    · exact .inr (by rw [hv]; exact hne _ _ _ _ hgg)
  · obtain ⟨G, e, h1, h2⟩ := h.rows r hr h0
    have hB := h2
    obtain ⟨cs, h3, _⟩ := h2
    exact ⟨G, e, h1, hB.of_block (hg.block G hB.lt (hne _ _ _ _ h3))⟩

theorem BT.setBelow {w W : World} {v : Value} {l : List (List Int)} {A : Nat → Option Addr} {C : Nat → Nat} {g : Nat} (h : BT w W v l A C) (hg : g < w.heap.size) (u : Value) : BT (w.setCell ⟨g, 0, none⟩ u) (W.setCell ⟨g, 0, none⟩ u) v l A C := by
  refine ⟨⟨h.since.os, h.since.tape, h.since.output, by simpa using h.since.size, fun k hk => ?_⟩, ?_, fun r hr h0 => ?_, h.apart⟩
  · have hk' : k < w.heap.size := by simpa using hk
    simp [World.setCell, Array.getElem?_modify, h.since.block k hk']
  · rw [World.size_setCell]
    refine h.own.kept (row := some g) ⟨rfl, rfl, rfl, by simp, fun k hk hne => Below.heap_setCell _ _ _ _ (fun e => hne (by rw [e]))⟩ ?_
    cases hv : v.ownBlock with
    | none => exact .inl rfl
    | some k => exact .inr (fun e => by injection e with e; have := (h.own.lt k hv).1; omega)
  · obtain ⟨G, e, h1, h2⟩ := h.rows r hr h0
    exact ⟨G, e, by simpa using h1, h2.of_block (Below.heap_setCell _ _ _ _ (by show G ≠ g; omega))⟩

/-- What is known in each round. -/
def PI (W0 : World) (g : Nat) (L : List (List Int)) (W : World) : Prop :=
  ∃ Wb v A C, Tnd W0 Wb g ∧ Wb.heap[g]? = some (.cells #[v] 50 (0, 0)) ∧ BT Wb W v L A C
theorem PI.kp {W0 : World} {g : Nat} {L : List (List Int)} {W : World} (h : PI W0 g L W) : W0.heap.size ≤ W.heap.size ∧ ∀ b, b ≠ g → b < W0.heap.size → W.heap[b]? = W0.heap[b]? := by
  obtain ⟨Wb, v, A, C, hT, _, hB⟩ := h
  have h1 := hT.size
  exact ⟨by have := hB.since.size; omega, fun b hb hlt => (hB.since.block b (by omega)).trans (hT.block b hlt hb)⟩
theorem PI.own (W0 : World) (g : Nat) {n : Nat} (f : List {i : Nat // i < n} → List (List Int)) : OwnFrom W0.heap.size (fun (pre : List {i : Nat // i < n}) W => PI W0 g (f pre) W) := by
  rintro s A B row ⟨Wb, v, A', C', hT, hb, hB⟩ hg hr
  exact ⟨Wb, v, A', C', hT, hb, hB.turn hg (fun r e => by rw [hT.size]; exact hr r e)⟩
theorem PI.since {w W0 W : World} {g : Nat} {L : List (List Int)} (h : PI W0 g L W) (hB : Below w.heap.size w W0) (hg : w.heap.size ≤ g) : w.Since w.heap.size W := by
  obtain ⟨Wb, v, A, C, hT, _, hBT⟩ := h
  have h1 := hT.size
  have h0 := hB.size
  exact ⟨hBT.since.os.trans (hT.os.trans hB.os), hBT.since.tape.trans (hT.tape.trans hB.tape), hBT.since.output.trans (hT.output.trans hB.output), by have := hBT.since.size; omega,
    fun k hk => ((hBT.since.block k (by omega)).trans (hT.block k (by omega) (by omega))).trans (hB.block k hk)⟩

theorem part_box {Wb W w1 w2 : World} {v rv : Value} {t : TypeId} {l : List (List Int)} {A : Nat → Option Addr} {C : Nat → Nat} {g : Nat} {cs : Array Value} {z : Nat × Nat} (h : BT Wb W v l A C) (hs : W.Since W.heap.size w1) (hb : Wb.heap[g]? = some (.cells cs t z)) (hg : g < Wb.heap.size) (hgr : (w1.alloc (.cells #[rv] 23)).grownBy w2 v.ownBlock) :
    w2.heap[g]? = some (.cells cs t z) := by
  have h0 := h.since.size
  have h1 := hs.size
  rw [hgr.block g (by simp; omega) (fun e => by have := (h.own.lt g e.symm).1; omega), Below.heap_alloc _ _ _ (by omega), hs.block g (by omega), h.since.block g hg]
  exact hb

theorem part_keeps {Wb W w1 w2 : World} {v rv : Value} {l : List (List Int)} {A : Nat → Option Addr} {C : Nat → Nat} (h : BT Wb W v l A C) (hs : W.Since W.heap.size w1) (hgr : (w1.alloc (.cells #[rv] 23)).grownBy w2 v.ownBlock) : KeepsOthers W w2 := by
  have h1 := hs.size
  refine ⟨by have := hgr.size; simp at this; omega, fun k o hk ho => ?_⟩
  have hlt := (Array.getElem?_eq_some_iff.1 hk).1
  rw [hgr.block k (by simp; omega) (fun e => ?_), Below.heap_alloc _ _ _ (by omega), hs.block k hlt]
  · exact hk
  · rcases h.own.2 with ⟨rfl, _⟩ | ⟨g, cap, cur, rfl, _, hgg, _⟩
    · cases e
    · injection e with e
      rw [e] at hk
      rw [hgg] at hk
      injection hk with hk
      rw [← hk] at ho
      cases ho

theorem part_next {W0 Wb w2 : World} {v v' : Value} {L : List (List Int)} {A : Nat → Option Addr} {C : Nat → Nat} {g : Nat} (hT : Tnd W0 Wb g) (hb : Wb.heap[g]? = some (.cells #[v] 50 (0, 0))) (h : BT Wb w2 v' L A C) (hg : g < Wb.heap.size) :
    PI W0 g L (w2.setCell ⟨g, 0, none⟩ v') :=
  ⟨_, v', A, C, hT.set v', by simp [World.setCell, Array.getElem?_modify, hb], h.setBelow hg v'⟩

theorem part_world (w : World) (v0 v1 v2 v3 : Value) (t : TypeId) (W0 : World) (h : W0 = (((w.alloc (.cells #[v0] 3)).alloc (.cells #[v1] t)).alloc (.cells #[v2] t)).alloc (.cells #[v3] 3)) :
    W0.heap.size = w.heap.size + 1 + 1 + 1 + 1 ∧ Below w.heap.size w W0 ∧ W0.cell? ⟨w.heap.size, 0, none⟩ = some v0 ∧ W0.heap[w.heap.size + 1]? = some (.cells #[v1] t (0, 0)) ∧
      W0.cell? ⟨w.heap.size + 1 + 1, 0, none⟩ = some v2 ∧ W0.cell? ⟨w.heap.size + 1 + 1 + 1, 0, none⟩ = some v3 := by
  have c0 := cell_new_l w v0 3
  have e1 := World.alloc_heap_new (w.alloc (.cells #[v0] 3)) (.cells #[v1] t)
  have c2 := cell_new_l ((w.alloc (.cells #[v0] 3)).alloc (.cells #[v1] t)) v2 t
  have c3 := cell_new_l (((w.alloc (.cells #[v0] 3)).alloc (.cells #[v1] t)).alloc (.cells #[v2] t)) v3 3
  simp only [World.size_alloc] at e1 c2 c3
  refine ⟨by rw [h]; simp, ?_, ?_, ?_, ?_, ?_⟩
  · rw [h]; exact ((((Below.refl _ w).alloc (Nat.le_refl _) _).alloc (by simp) _).alloc (by simp; omega) _).alloc (by simp; omega) _
  · rw [h]; exact cell_alloc_l _ (cell_alloc_l _ (cell_alloc_l _ c0.1))
  · rw [h]; exact ((Below.heap_alloc _ _ _ (by simp)).trans (Below.heap_alloc _ _ _ (by simp))).trans e1
  · rw [h]; exact cell_alloc_l _ c2.1
  · rw [h]; exact c3.1

set_option maxRecDepth 100000 in
set_option maxHeartbeats 4000000 in
theorem part_rec7 (a : Option Addr) (cap n s c : Nat) (l : List (List Int)) (w : World) (hn : l.length = n) (hT : Rec7 l) (hs : s ≤ 63) (hc63 : c ≤ 63) (hm : MatR w a l) :
    Calls Try.prog 112 #[.slice a n cap, .int .i64 s, .int .i64 c] w fun e w' => ∃ a' cap', e = .returned (.slice a' (partL l s c).length cap') ∧ w.Since w.heap.size w' ∧ OwnT w.heap.size w'.heap.size w' a' (partL l s c) ∧ FreeTop w' a' (partL l s c).length := by
  obtain ⟨i42, hi42⟩ := info42_parts
  have HI := Lib.hid hi42
  have h6 := hT.high
  have h1 := hT.low
  have hw := hT.width
  rw [hn] at h6 h1
  obtain ⟨m, hmm⟩ : ∃ m, (l.getD 0 []).length = m := ⟨_, rfl⟩
  rw [hmm] at hw
  have hrow : ∀ r, r < n → (l.getD r []).length = m := fun r hr => by rw [hT.row (by omega), hmm]
  have hpl : partL l s c = partRows c l m n (sel s n n) := by unfold partL; rw [hmm, hn]
  rw [hpl]
  obtain ⟨b, o, A, C, rfl, hcc⟩ := hm (by omega)
  have hc1 : ∀ r, r < n → w.cell? ⟨b, o + r, none⟩ = some (.slice (A r) m (C r)) ∧ RowR w (A r) (l.getD r []) := fun r hr => by
    have := hcc r (by omega); rw [hrow r hr] at this; exact this
  have hbl : b < w.heap.size := World.block_lt_of_cell? _ _ (hc1 0 (by omega)).1
  have HC := Lib.hid hc1
  have HROW := Lib.hid hrow
  have hmix : Try.prog.follows .mixedOrders = true := by kernel_rfl
  clear hm hn hmm hcc hT hi42 hrow hpl hc1
  refine (callsIn_wide (n := 9)).1 ?_
  refine callsIn_of_wp_marks Try.func112 rfl trivial ?_ rfl
  simp only [Try.ntmps112, List.size_toArray, List.length_cons, List.length_nil, Nat.reduceAdd, Nat.reduceSub, Array.replicate_succ, Array.replicate_zero, List.push_toArray, List.append_toArray, List.nil_append, List.cons_append]
  gi_wp2_with (first
    | (refine ⟨trivial, ?_⟩; gi_at_call 87; refine (callsIn_wide.2 (rows_any _ _ _ _ _)).mono ?_; rintro e w' ⟨rfl, rfl⟩))
  obtain ⟨W0, hW0⟩ : ∃ W0, W0 = (((w.alloc (.cells #[.int .i64 c] 3)).alloc (.cells #[.slice none 0 0] 50)).alloc (.cells #[.slice (some ⟨b, o, none⟩) n cap] 50)).alloc (.cells #[.int .i64 s] 3) := ⟨_, rfl⟩
  rw [← hW0]
  obtain ⟨hsz0, hB0, d0, d1, d2, d3⟩ := part_world w (.int .i64 c) (.slice none 0 0) (.slice (some ⟨b, o, none⟩) n cap) (.int .i64 s) 50 W0 hW0
  have hc0' : ∀ j, j < n → W0.cell? ⟨b, o + j, none⟩ = some (.slice (A j) m (C j)) := fun j hj => (hB0.cell (p := ⟨b, o + j, none⟩) hbl).trans (HC.out j hj).1
  obtain ⟨g, hg⟩ : ∃ g, g = w.heap.size + 1 := ⟨_, rfl⟩
  rw [← hg] at d1 d2 d3 ⊢
  have hstops := rows_stopsB 8 (by omega) g W0.heap.size (g + 1) (g + 1 + 1) b o n cap s h6 hs A (fun _ => m) C W0 (Nat.le_refl _) (by omega) (by omega) (by omega) (by omega) (by omega) d2 d3 hc0'
  have hP0 : PI W0 g (partRows c l m n []) W0 := ⟨W0, _, fun _ => none, fun _ => 0, Tnd.refl _ _, d1, World.Since.refl _ _, World.ownsRow_nil _ _ _ _, fun r hr => by simp [partRows] at hr, fun r _ hr => by simp [partRows] at hr⟩
  have hg1 : w.heap.size < g := by omega
  have hg2 : g + 1 + 1 < W0.heap.size := by omega
  clear hc0' d2 d3 d1 hg hsz0
  refine wpIn_rangeFunc_ownF (F := Fence.wide) (n := 9) rfl (by omega) (gf := 96) (lb := #[.pointer (some ⟨g + 1, 0, none⟩), .pointer (some ⟨g + 1 + 1, 0, none⟩)]) rfl trivial (enters_of Try.func96 (by kernel_rfl) rfl)
    hstops kpB_t (kpB_b (Nat.le_refl _)) (Below.refl _ _) (fun _ => rfl)
    (fun pre W => PI W0 g (partRows c l m n pre) W)
    (fun _ _ _ => False)
    (PI.own W0 g (partRows c l m n))
    (fun c => fun s A B row hs hg hr => hs)
    hP0
    (fun x => { tmps := #[.slice (some ⟨b, o, none⟩) n cap, .int .i64 s, .int .i64 c, undef, undef, .pointer (some ⟨w.heap.size, 0, none⟩), .slice none 0 0, .pointer (some ⟨g, 0, none⟩), undef, .slice (A x.1) m (C x.1),
        .slice (some ⟨b, o, none⟩) n cap, .int .i64 s, .func (.func 96) #[] #[.pointer (some ⟨g + 1, 0, none⟩), .pointer (some ⟨g + 1 + 1, 0, none⟩)],
        .int .i64 x.1, .slice (A x.1) m (C x.1), undef, undef, undef, undef, undef, undef, undef], defers := [] }) ?assign ?body ?done ?stop
  case assign =>
    intro lp x W K hK
    gi_wp2
    exact hK
  case body =>
    rintro lp pre x W hI hlen
    have hkp := hI.kp
    have hS := hI.since hB0 (by omega)
    obtain ⟨Wb, v, A', C', hTd, hbx, hBT⟩ := hI
    have hx2 := x.2
    have HSN := Lib.hid (partRows_snoc c l m n pre x)
    obtain ⟨j, hj⟩ : ∃ j, x.1 = j := ⟨_, rfl⟩
    have hlp : (partRows c l m n pre).length ≤ 7 := by simp [partRows]; omega
    rw [hj] at hx2 HSN ⊢
    obtain ⟨L, hL⟩ : ∃ L, partRows c l m n pre = L := ⟨_, rfl⟩
    rw [hL] at HSN hBT hlp
    obtain ⟨_, hr1⟩ := HC.out j hx2
    have hXm := HROW.out j hx2
    obtain ⟨X, hX⟩ : ∃ X, l.getD j [] = X := ⟨_, rfl⟩
    rw [hX] at hr1 hXm HSN
    have E := Lib.hid (chosen_any (A j) (C j) m c X W.drew hXm (by omega) hc63 (hr1.since hS.drew))
    have hple := pickTo_length c X m m
    obtain ⟨R, hR⟩ : ∃ R, pickTo c X m m = R := ⟨_, rfl⟩
    rw [hR] at E HSN hple
    have hgb : g < Wb.heap.size := by rw [hTd.size]; omega
    have hbW : W.heap[g]? = some (.cells #[v] 50 (0, 0)) := (hBT.since.block g hgb).trans hbx
    have hpc : W.cell? ⟨g, 0, none⟩ = some v := by simp [World.cell?, hbW]
    have hcc : W.cell? ⟨w.heap.size, 0, none⟩ = some (.int .i64 c) := by
      rw [World.cell?_of_block (w := W0) (a := ⟨w.heap.size, 0, none⟩) (hkp.2 _ (by show w.heap.size ≠ g; omega) (by show w.heap.size < _; omega))]; exact d0
    have hgW : g < W.heap.size := by omega
    have HBW := Lib.hid hbW
    have HBT := Lib.hid hBT
    have HTD := Lib.hid hTd
    have HBX := Lib.hid hbx
    have HKP := Lib.hid hkp
    have hWb : Wb.heap.size ≤ W.heap.size := hBT.since.size
    clear hbW hBT hTd hbx hr1 hX hXm hR hj hstops hP0 hL hS hkp
    gi_wp2
    refine wpIn_region_any hmix (wpAnyIn_of_wpAny ?hno (noDefer_of (by kernel_rfl)) _ _ _ _ ?_)
    case hno =>
      rintro ⟨a, w, h⟩
      exact h
    change wpAny _ _ _ _ _ _ _ (World.drew _)
    refine wpAny_take (i := 1) (v := .slice (A j) m (C j)) rfl (by kernel_rfl) (by kernel_rfl) (by kernel_rfl) (fun _ _ _ h => h) (Or.inl ⟨by rfl, fun w => by go_simp⟩) ?_
    simp only [Act.put, List.setIfInBounds_toArray]
    refine wpAny_ready (rs := [0, 2]) (by kernel_rfl) (by simp) (AllReady.cons rfl (fun K hK => ?p0) (AllReady.cons rfl (fun K hK => ?p2) AllReady.nil))
    case p0 =>
      go_simp
      refine hK _ _ ?_
      clear hK K
      refine wpAny_ready (rs := [2]) (by kernel_rfl) (by simp) (AllReady.cons rfl (fun K hK => ?_) AllReady.nil)
      go_simp
      refine hK _ _ ?_
      clear hK K
      refine wpAny_ready (rs := [3]) (by kernel_rfl) (by simp) (AllReady.cons rfl (fun K hK => ?_) AllReady.nil)
      go_simp
      go_at_call 122
      refine (E.out).mono ?_
      rintro e w1 ⟨rv, rfl, hrb⟩
      go_wp2_with fail
      have hs1 := since_of_drew hrb.since
      obtain ⟨ra, rcp, rfl, hrw⟩ := hrb.slice
      have hp1 := (hs1.cell (a := ⟨g, 0, none⟩) hgW).trans hpc
      have hp2 := fun ob => cell_alloc_l ob hp1
      have hz1 := hs1.size
      have HS1 := Lib.hid hs1
      have HRW := Lib.hid hrw
      have HBL := Lib.hid (HBT.out.later hs1)
      clear hrb hs1 hrw
      refine wpAny_ready (rs := [4]) (by kernel_rfl) (by simp) (AllReady.cons rfl (fun K hK => ?_) AllReady.nil)
      go_simp
      refine hK _ _ ?_
      clear hK K
      refine wpAny_ready (rs := [5]) (by kernel_rfl) (by simp) (AllReady.cons rfl (fun K hK => ?_) AllReady.nil)
      rw [if_pos (by rfl)]
      refine wp_append_own _ (.tmp 15) (.tmp 19) 50 rfl Wb.heap.size 23 i42 (.slice none 0 0) 1 24 Try.underlying50 HI.out.1 HI.out.2.1 HI.out.2.2.1 HI.out.2.2.2 rfl (by decide) _ _ _ rfl (HBL.out.own.alloc _) ⟨w1.heap.size, 0, none⟩ 1 1 [.slice ra R.length rcp] rfl rfl (cell_one_at _ _ _ rfl) (fun x hx => by simp at hx; subst hx; rfl) (by unfold maxLen; omega) (by omega) (by simp; omega) ?_
      intro v' w2 hown' hgrow _
      refine hK _ _ ?_
      clear hK K
      have hb2 := part_box HBT.out HS1.out HBX.out hgb hgrow
      have hp3 : w2.cell? ⟨g, 0, none⟩ = some v := by simp [World.cell?, hb2]
      have hf3 : w2.frozen? ⟨g, 0, none⟩ = false := by simp [World.frozen?, hb2]
      have hP := HBL.out.push (rv := .slice ra R.length rcp) (x := R) (a := ra) (cp := rcp) rfl (fun h => by obtain ⟨G, e, h2, h3⟩ := HRW.out h; exact ⟨G, e, by have h4 : W.heap.size ≤ G := h2; omega, h3⟩) (fun h => by obtain ⟨G, e, h2, _⟩ := HRW.out h; exact HBT.out.fresh e h2) hown' hgrow
      have hk2 : KeepsOthers W w2 := part_keeps HBT.out HS1.out hgrow
      obtain ⟨va, vcap, hv', _⟩ := hP.slice
      rw [show (L ++ [R]).length = L.length + 1 by simp] at hv'
      subst hv'
      have HP := Lib.hid hP
      have HK2 := Lib.hid hk2
      clear hP hk2 hown' hgrow
      simp only [Act.put, List.setIfInBounds_toArray]
      refine wpAny_ready (rs := [6]) (by kernel_rfl) (by simp) (AllReady.cons rfl (fun K hK => ?_) AllReady.nil)
      go_simp
      refine hK _ _ ?_
      clear hK K
      refine wpAny_done (by kernel_rfl) ?_ _
      have hfin := part_next HTD.out HBX.out HP.out hgb
      have hkp2 := hfin.kp
      rw [← HSN.out] at hfin
      exact ⟨HK2.out.trans (KeepsOthers.setCell _ _ _), ⟨by have := HK2.out.size; simpa using this, fun b h1 h2 => (hkp2.2 b h1 h2).trans (HKP.out.2 b h1 h2).symm⟩, hfin⟩
    case p2 =>
      go_simp
      refine hK _ _ ?_
      clear hK K
      refine wpAny_ready (rs := [0, 3]) (by kernel_rfl) (by simp) (AllReady.cons rfl (fun K hK => ?p20) (AllReady.cons rfl (fun K hK => ?p23) AllReady.nil))
      case p20 =>
        go_simp
        refine hK _ _ ?_
        clear hK K
        refine wpAny_ready (rs := [3]) (by kernel_rfl) (by simp) (AllReady.cons rfl (fun K hK => ?_) AllReady.nil)
        go_simp
        go_at_call 122
        refine (E.out).mono ?_
        rintro e w1 ⟨rv, rfl, hrb⟩
        go_wp2_with fail
        have hs1 := since_of_drew hrb.since
        obtain ⟨ra, rcp, rfl, hrw⟩ := hrb.slice
        have hp1 := (hs1.cell (a := ⟨g, 0, none⟩) hgW).trans hpc
        have hp2 := fun ob => cell_alloc_l ob hp1
        have hz1 := hs1.size
        have HS1 := Lib.hid hs1
        have HRW := Lib.hid hrw
        have HBL := Lib.hid (HBT.out.later hs1)
        clear hrb hs1 hrw
        refine wpAny_ready (rs := [4]) (by kernel_rfl) (by simp) (AllReady.cons rfl (fun K hK => ?_) AllReady.nil)
        go_simp
        refine hK _ _ ?_
        clear hK K
        refine wpAny_ready (rs := [5]) (by kernel_rfl) (by simp) (AllReady.cons rfl (fun K hK => ?_) AllReady.nil)
        rw [if_pos (by rfl)]
        refine wp_append_own _ (.tmp 15) (.tmp 19) 50 rfl Wb.heap.size 23 i42 (.slice none 0 0) 1 24 Try.underlying50 HI.out.1 HI.out.2.1 HI.out.2.2.1 HI.out.2.2.2 rfl (by decide) _ _ _ rfl (HBL.out.own.alloc _) ⟨w1.heap.size, 0, none⟩ 1 1 [.slice ra R.length rcp] rfl rfl (cell_one_at _ _ _ rfl) (fun x hx => by simp at hx; subst hx; rfl) (by unfold maxLen; omega) (by omega) (by simp; omega) ?_
        intro v' w2 hown' hgrow _
        refine hK _ _ ?_
        clear hK K
        have hb2 := part_box HBT.out HS1.out HBX.out hgb hgrow
        have hp3 : w2.cell? ⟨g, 0, none⟩ = some v := by simp [World.cell?, hb2]
        have hf3 : w2.frozen? ⟨g, 0, none⟩ = false := by simp [World.frozen?, hb2]
        have hP := HBL.out.push (rv := .slice ra R.length rcp) (x := R) (a := ra) (cp := rcp) rfl (fun h => by obtain ⟨G, e, h2, h3⟩ := HRW.out h; exact ⟨G, e, by have h4 : W.heap.size ≤ G := h2; omega, h3⟩) (fun h => by obtain ⟨G, e, h2, _⟩ := HRW.out h; exact HBT.out.fresh e h2) hown' hgrow
        have hk2 : KeepsOthers W w2 := part_keeps HBT.out HS1.out hgrow
        obtain ⟨va, vcap, hv', _⟩ := hP.slice
        rw [show (L ++ [R]).length = L.length + 1 by simp] at hv'
        subst hv'
        have HP := Lib.hid hP
        have HK2 := Lib.hid hk2
        clear hP hk2 hown' hgrow
        simp only [Act.put, List.setIfInBounds_toArray]
        refine wpAny_ready (rs := [6]) (by kernel_rfl) (by simp) (AllReady.cons rfl (fun K hK => ?_) AllReady.nil)
        go_simp
        refine hK _ _ ?_
        clear hK K
        refine wpAny_done (by kernel_rfl) ?_ _
        have hfin := part_next HTD.out HBX.out HP.out hgb
        have hkp2 := hfin.kp
        rw [← HSN.out] at hfin
        exact ⟨HK2.out.trans (KeepsOthers.setCell _ _ _), ⟨by have := HK2.out.size; simpa using this, fun b h1 h2 => (hkp2.2 b h1 h2).trans (HKP.out.2 b h1 h2).symm⟩, hfin⟩
      case p23 =>
        go_simp
        go_at_call 122
        refine (E.out).mono ?_
        rintro e w1 ⟨rv, rfl, hrb⟩
        go_wp2_with fail
        have hs1 := since_of_drew hrb.since
        obtain ⟨ra, rcp, rfl, hrw⟩ := hrb.slice
        have hp1 := (hs1.cell (a := ⟨g, 0, none⟩) hgW).trans hpc
        have hp2 := fun ob => cell_alloc_l ob hp1
        have hz1 := hs1.size
        have HS1 := Lib.hid hs1
        have HRW := Lib.hid hrw
        have HBL := Lib.hid (HBT.out.later hs1)
        clear hrb hs1 hrw
        refine wpAny_ready (rs := [0, 4]) (by kernel_rfl) (by simp) (AllReady.cons rfl (fun K hK => ?p230) (AllReady.cons rfl (fun K hK => ?p234) AllReady.nil))
        case p230 =>
          go_simp
          refine hK _ _ ?_
          clear hK K
          refine wpAny_ready (rs := [4]) (by kernel_rfl) (by simp) (AllReady.cons rfl (fun K hK => ?_) AllReady.nil)
          go_simp
          refine hK _ _ ?_
          clear hK K
          refine wpAny_ready (rs := [5]) (by kernel_rfl) (by simp) (AllReady.cons rfl (fun K hK => ?_) AllReady.nil)
          rw [if_pos (by rfl)]
          refine wp_append_own _ (.tmp 15) (.tmp 19) 50 rfl Wb.heap.size 23 i42 (.slice none 0 0) 1 24 Try.underlying50 HI.out.1 HI.out.2.1 HI.out.2.2.1 HI.out.2.2.2 rfl (by decide) _ _ _ rfl (HBL.out.own.alloc _) ⟨w1.heap.size, 0, none⟩ 1 1 [.slice ra R.length rcp] rfl rfl (cell_one_at _ _ _ rfl) (fun x hx => by simp at hx; subst hx; rfl) (by unfold maxLen; omega) (by omega) (by simp; omega) ?_
          intro v' w2 hown' hgrow _
          refine hK _ _ ?_
          clear hK K
          have hb2 := part_box HBT.out HS1.out HBX.out hgb hgrow
          have hp3 : w2.cell? ⟨g, 0, none⟩ = some v := by simp [World.cell?, hb2]
          have hf3 : w2.frozen? ⟨g, 0, none⟩ = false := by simp [World.frozen?, hb2]
          have hP := HBL.out.push (rv := .slice ra R.length rcp) (x := R) (a := ra) (cp := rcp) rfl (fun h => by obtain ⟨G, e, h2, h3⟩ := HRW.out h; exact ⟨G, e, by have h4 : W.heap.size ≤ G := h2; omega, h3⟩) (fun h => by obtain ⟨G, e, h2, _⟩ := HRW.out h; exact HBT.out.fresh e h2) hown' hgrow
          have hk2 : KeepsOthers W w2 := part_keeps HBT.out HS1.out hgrow
          obtain ⟨va, vcap, hv', _⟩ := hP.slice
          rw [show (L ++ [R]).length = L.length + 1 by simp] at hv'
          subst hv'
          have HP := Lib.hid hP
          have HK2 := Lib.hid hk2
          clear hP hk2 hown' hgrow
          simp only [Act.put, List.setIfInBounds_toArray]
          refine wpAny_ready (rs := [6]) (by kernel_rfl) (by simp) (AllReady.cons rfl (fun K hK => ?_) AllReady.nil)
          go_simp
          refine hK _ _ ?_
          clear hK K
          refine wpAny_done (by kernel_rfl) ?_ _
          have hfin := part_next HTD.out HBX.out HP.out hgb
          have hkp2 := hfin.kp
          rw [← HSN.out] at hfin
          exact ⟨HK2.out.trans (KeepsOthers.setCell _ _ _), ⟨by have := HK2.out.size; simpa using this, fun b h1 h2 => (hkp2.2 b h1 h2).trans (HKP.out.2 b h1 h2).symm⟩, hfin⟩
        case p234 =>
          go_simp
          refine hK _ _ ?_
          clear hK K
          refine wpAny_ready (rs := [0]) (by kernel_rfl) (by simp) (AllReady.cons rfl (fun K hK => ?_) AllReady.nil)
          go_simp
          refine hK _ _ ?_
          clear hK K
          refine wpAny_ready (rs := [5]) (by kernel_rfl) (by simp) (AllReady.cons rfl (fun K hK => ?_) AllReady.nil)
          rw [if_pos (by rfl)]
          refine wp_append_own _ (.tmp 15) (.tmp 19) 50 rfl Wb.heap.size 23 i42 (.slice none 0 0) 1 24 Try.underlying50 HI.out.1 HI.out.2.1 HI.out.2.2.1 HI.out.2.2.2 rfl (by decide) _ _ _ rfl (HBL.out.own.alloc _) ⟨w1.heap.size, 0, none⟩ 1 1 [.slice ra R.length rcp] rfl rfl (cell_one_at _ _ _ rfl) (fun x hx => by simp at hx; subst hx; rfl) (by unfold maxLen; omega) (by omega) (by simp; omega) ?_
          intro v' w2 hown' hgrow _
          refine hK _ _ ?_
          clear hK K
          have hb2 := part_box HBT.out HS1.out HBX.out hgb hgrow
          have hp3 : w2.cell? ⟨g, 0, none⟩ = some v := by simp [World.cell?, hb2]
          have hf3 : w2.frozen? ⟨g, 0, none⟩ = false := by simp [World.frozen?, hb2]
          have hP := HBL.out.push (rv := .slice ra R.length rcp) (x := R) (a := ra) (cp := rcp) rfl (fun h => by obtain ⟨G, e, h2, h3⟩ := HRW.out h; exact ⟨G, e, by have h4 : W.heap.size ≤ G := h2; omega, h3⟩) (fun h => by obtain ⟨G, e, h2, _⟩ := HRW.out h; exact HBT.out.fresh e h2) hown' hgrow
          have hk2 : KeepsOthers W w2 := part_keeps HBT.out HS1.out hgrow
          obtain ⟨va, vcap, hv', _⟩ := hP.slice
          rw [show (L ++ [R]).length = L.length + 1 by simp] at hv'
          subst hv'
          have HP := Lib.hid hP
          have HK2 := Lib.hid hk2
          clear hP hk2 hown' hgrow
          simp only [Act.put, List.setIfInBounds_toArray]
          refine wpAny_ready (rs := [6]) (by kernel_rfl) (by simp) (AllReady.cons rfl (fun K hK => ?_) AllReady.nil)
          go_simp
          refine hK _ _ ?_
          clear hK K
          refine wpAny_done (by kernel_rfl) ?_ _
          have hfin := part_next HTD.out HBX.out HP.out hgb
          have hkp2 := hfin.kp
          rw [← HSN.out] at hfin
          exact ⟨HK2.out.trans (KeepsOthers.setCell _ _ _), ⟨by have := HK2.out.size; simpa using this, fun b h1 h2 => (hkp2.2 b h1 h2).trans (HKP.out.2 b h1 h2).symm⟩, hfin⟩
  case done =>
    rintro D ys W hD rfl hI hK
    have hS := hI.since hB0 (by omega)
    have hI2 := PI.own W0 g (fun _ : List {i : Nat // i < n} => partRows c l m n (sel s n n)) [] _ _ _ hI (grownBy_putObj' W D (.deferred none)) (fun r e => by cases e; exact ⟨hD, _, hK, rfl⟩)
    obtain ⟨Wb, v, A', C', hTd, hbx, hBT⟩ := hI
    have hgb : g < Wb.heap.size := by rw [hTd.size]; omega
    have hbW : W.heap[g]? = some (.cells #[v] 50 (0, 0)) := (hBT.since.block g hgb).trans hbx
    have hpc : W.cell? ⟨g, 0, none⟩ = some v := by simp [World.cell?, hbW]
    have HI2 := Lib.hid hI2
    have HBT := Lib.hid hBT
    have HS := Lib.hid hS
    have hsz : w.heap.size ≤ Wb.heap.size := by rw [hTd.size]; omega
    have hszD : Wb.heap.size ≤ D := by rw [hTd.size]; exact hD
    clear hI2 hBT hbx hbW hS hTd
    gi_wp2
    refine ⟨by simp, .inl ⟨_, _, rfl, run_takeDeferred hK, ?_⟩⟩
    have hBT2 := HBT.out.turn (row := some D) (grownBy_putObj' W D (.deferred none)) (fun r e => by cases e; exact ⟨hszD, _, hK, rfl⟩)
    obtain ⟨va, vcap, hv, hown⟩ := hBT2.ownT
    have hfree := hBT2.free hv
    subst hv
    refine ⟨.slice va _ vcap, ?_, va, ⟨vcap, rfl⟩, HS.out.grown (row := some D) (grownBy_putObj' W D (.deferred none)) HS.out.size (fun k e => by cases e; omega), hown.mono hsz (Nat.le_refl _), hfree⟩
    simp [results, Try.f112, go_sem]
  case stop =>
    rintro D c pre W hD hpre hF hK
    exact hF.elim

theorem part_rec (a : Option Addr) (cap n s c : Nat) (l : List (List Int)) (w : World) (hn : l.length = n) (hT : Rec l) (hs : s ≤ 63) (hc63 : c ≤ 63) (hm : MatR w a l) :
    Calls Try.prog 112 #[.slice a n cap, .int .i64 s, .int .i64 c] w fun e w' => ∃ a' cap', e = .returned (.slice a' (partL l s c).length cap') ∧ w.Since w.heap.size w' ∧ OwnT w.heap.size w'.heap.size w' a' (partL l s c) ∧ FreeTop w' a' (partL l s c).length :=
  part_rec7 a cap n s c l w hn hT.rec7 hs hc63 hm
theorem part_top (a : Option Addr) (cap n s c : Nat) (l : List (List Int)) (w : World) (hn : l.length = n) (hT : TabIn l) (hs : s ≤ 63) (hc63 : c ≤ 63) (hm : MatR w a l) :
    Calls Try.prog 112 #[.slice a n cap, .int .i64 s, .int .i64 c] w fun e w' => ∃ a' cap', e = .returned (.slice a' (partL l s c).length cap') ∧ w.Since w.heap.size w' ∧ OwnT w.heap.size w'.heap.size w' a' (partL l s c) ∧ FreeTop w' a' (partL l s c).length :=
  part_rec a cap n s c l w hn hT.rec hs hc63 hm
theorem part_any (a : Option Addr) (cap n s c : Nat) (l : List (List Int)) (w : World) (hn : l.length = n) (hT : TabIn l) (hs : s ≤ 63) (hc63 : c ≤ 63) (hm : MatR w a l) :
    Calls Try.prog 112 #[.slice a n cap, .int .i64 s, .int .i64 c] w fun e w' => ∃ a' cap', e = .returned (.slice a' (partL l s c).length cap') ∧ w.Since w.heap.size w' ∧ OwnT w.heap.size w'.heap.size w' a' (partL l s c) :=
  (part_top a cap n s c l w hn hT hs hc63 hm).mono fun _ _ ⟨a', c', h1, h2, h3, _⟩ => ⟨a', c', h1, h2, h3⟩

end Go.Proofs.Ytdbomnhlgaohaaa
