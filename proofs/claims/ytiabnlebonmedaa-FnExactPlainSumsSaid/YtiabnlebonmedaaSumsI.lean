/- The contracts of productOfSums and plainBySums. -/
import Derived.Test.YtiabnlebonmedaaOrdersI
import Derived.Test.YtiabnlebonmedaaOrdL
import Derived.Test.YtiabnlebonmedaaPartImpl
import Derived.Test.YtiabnlebonmedaaPlainS
import Derived.Test.YtiabnlebonmedaaPlainI
namespace Go.Proofs.Ytiabnlebonmedaa
open Go.RowKit Go.Deep Go.Shelf
attribute [local go_sem] Oper.semAt_some

theorem prS_prod (l : List (List Int)) (n s : Nat) : ∀ i, prS l n s i = prodN 1 (fun i => rwS l s i n) i
  | 0 => rfl
  | i + 1 => by unfold prS prodN; rw [prS_prod l n s i]
theorem lprod_bd180 {n : Nat} (f : Nat → Int) (hf : ∀ j, j < n → -180 ≤ f j ∧ f j ≤ 180) (pre : List {i : Nat // i < n}) : -(p180 pre.length) ≤ lprod 1 f pre ∧ lprod 1 f pre ≤ p180 pre.length := by
  have H : ∀ (k : Nat) (pre : List {i : Nat // i < n}), pre.length = k → -(p180 k) ≤ lprod 1 f pre ∧ lprod 1 f pre ≤ p180 k := by
    intro k
    induction k with
    | zero =>
      intro pre h
      obtain rfl := List.length_eq_zero_iff.1 h
      simp [lprod, p180]
    | succ k ih =>
      intro pre h
      obtain ⟨xs, x, rfl⟩ : ∃ xs x, pre = xs ++ [x] := ⟨pre.dropLast, pre.getLast (by intro e; simp [e] at h), (List.dropLast_concat_getLast _).symm⟩
      have h1 := ih xs (by simp at h; exact h)
      have h2 := hf x.1 x.2
      rw [lprod_snoc]
      exact mul_bd180 h2.1 h2.2 h1.1 h1.2
  exact H _ pre rfl
/-- The numbers of a row in a set's columns add up to the row's sum; part of them is small. -/
theorem pick_sum {l : List (List Int)} {n j : Nat} (hE : EntB l n) (hj : j < n) (_hl : (l.getD j []).length = n) (s : Nat) : lsumI id (pickTo s (l.getD j []) n n) = rwS l s j n ∧ ∀ q, -180 ≤ lsumI id ((pickTo s (l.getD j []) n n).take q) ∧ lsumI id ((pickTo s (l.getD j []) n n).take q) ≤ 180 := by
  have H : ∀ k, k ≤ n → lsumI id (pickTo s (l.getD j []) n k) = rwS l s j k := by
    intro k
    induction k with
    | zero => intro _; rfl
    | succ k ih =>
      intro h
      have e : rwS l s j (k + 1) = rwS l s j k + ((s / 2 ^ k % 2 : Nat) : Int) * at2 l j k := rfl
      rw [e]
      cases hb : s.testBit k with
      | true =>
        have hd : s / 2 ^ k % 2 = 1 := by rw [Nat.testBit_eq_decide_div_mod_eq] at hb; simpa using hb
        rw [pickTo_yes s _ n k (by omega) hb, lsumI_snoc, ih (by omega), hd]
        show _ + at2 l j k = _
        omega
      | false =>
        have hd : s / 2 ^ k % 2 = 0 := by rw [Nat.testBit_eq_decide_div_mod_eq] at hb; have : ¬ s / 2 ^ k % 2 = 1 := by simpa using hb
                                          omega
        rw [pickTo_no s _ n k hb, ih (by omega), hd]
        omega
  refine ⟨H n (Nat.le_refl _), fun q => ?_⟩
  have hlen := pickTo_length s (l.getD j []) n n
  have h6 := hE.1
  have := lsumI_bd (f := id) (B := 30) (by omega) ((pickTo s (l.getD j []) n n).take q) (fun y hy => by
    have := List.mem_of_mem_take hy
    simp only [pickTo, List.mem_map] at this
    obtain ⟨c, _, rfl⟩ := this
    exact hE.2 j c.1 hj c.2)
  have h2 : ((pickTo s (l.getD j []) n n).take q).length ≤ 6 := by rw [List.length_take]; omega
  omega

set_option maxRecDepth 100000 in
set_option maxHeartbeats 2000000 in
theorem productOfSums_any (a : Option Addr) (cap n s : Nat) (l : List (List Int)) (w : World) (hn : l.length = n) (hT : TabIn l) (hw : (l.getD 0 []).length = n) (hm : MatR w a l) (hs : s ≤ 63) :
    Calls Try.prog 71 #[.slice a n cap, .int .i64 s] w fun e w' => e = .returned (.int .i64 (prS l n s n)) ∧ w.Since w.heap.size w' := by
  have h6 := hT.2.1
  have h1 := hT.1
  rw [hn] at h6 h1
  obtain ⟨b, o, A, C, rfl, hlen, hcell⟩ := hm.grid hn hT hw
  have hbl : b < w.heap.size := World.block_lt_of_cell? _ _ (hlen 0 (by omega))
  have hpow : 2 ^ n - 1 ≤ 63 := by have : 2 ^ n ≤ 2 ^ 6 := Nat.pow_le_pow_right (by omega) h6; omega
  have hE := entB_of hT hn hw
  have hrl : ∀ j, j < n → (l.getD j []).length = n := fun j hj => by rw [hT.row (by omega), hw]
  have hrowj : ∀ j, j < n → RowR w (A j) (l.getD j []) := fun j hj _ => by
    obtain ⟨bj, oj, e1, e2, _⟩ := hcell j 0 hj (by omega)
    have hA : A j = some ⟨bj, oj, none⟩ := by
      have := (hlen j hj).symm.trans e1
      simp at this
      exact this
    refine ⟨bj, oj, hA, fun i hi => ?_⟩
    obtain ⟨b2, o2, f1, f2, _⟩ := hcell j i hj (by rw [hrl j hj] at hi; exact hi)
    have := e1.symm.trans f1
    simp at this
    obtain ⟨rfl, rfl⟩ := this
    exact f2
  have HCH := Lib.hid (fun (j : Nat) (hj : j < n) (V : World) (hV : w.Since w.heap.size V) => chosen_any (A j) (C j) n s (l.getD j []) V (hrl j hj) (by omega) hs ((hrowj j hj).since hV))
  have HBND := Lib.hid (fun (j : Nat) (hj : j < n) => pick_sum hE hj (hrl j hj) s)
  have HC := Lib.hid hcell
  have HL := Lib.hid hlen
  obtain ⟨f, hf⟩ : ∃ f : Nat → Int, f = fun i => rwS l s i n := ⟨_, rfl⟩
  rw [prS_prod l n s n, ← hf]
  have HFB := Lib.hid (show ∀ i, i < n → -180 ≤ f i ∧ f i ≤ 180 from fun i hi => by rw [hf]; exact rwS_bd hE s hi (Nat.le_refl _))
  have HF := Lib.hid hf
  clear hm hn hT hw hcell hf hrowj hrl hE
  refine (callsIn_wide (n := 9)).1 ?_
  refine callsIn_of_wp_marks Try.func71 rfl trivial ?_ rfl
  simp only [Try.ntmps71, List.size_toArray, List.length_cons, List.length_nil, Nat.reduceAdd, Nat.reduceSub, Array.replicate_succ, Array.replicate_zero, List.push_toArray, List.append_toArray, List.nil_append, List.cons_append]
  gi_wp2_with (first
    | (refine ⟨trivial, ?_⟩; gi_at_call 80; refine (callsIn_wide.2 (allRows_any _ _ _ _ h6)).mono ?_; rintro e w' ⟨rfl, rfl⟩)
    | (refine ⟨trivial, ?_⟩; gi_at_call 79; refine (callsIn_wide.2 (rows_any _ _ _ _ _)).mono ?_; rintro e w' ⟨rfl, rfl⟩))
  obtain ⟨W0, hW0⟩ : ∃ W0, W0 = ((((w.alloc (.cells #[.int .i64 s] 3)).alloc (.cells #[.int .i64 1] 3)).alloc (.cells #[.slice (some ⟨b, o, none⟩) n cap] 37)).alloc (.cells #[.int .i64 (2 ^ n - 1 : Nat)] 3)) := ⟨_, rfl⟩
  rw [← hW0]
  obtain ⟨hsz0, hB0, d0, d1, d1f, d2, d3⟩ := prodO_world w (.int .i64 s) (.int .i64 1) (.slice (some ⟨b, o, none⟩) n cap) (.int .i64 (2 ^ n - 1 : Nat)) 37 3 W0 hW0
  have hc0' : ∀ j, j < n → W0.cell? ⟨b, o + j, none⟩ = some (.slice (A j) n (C j)) := fun j hj => (hB0.cell (p := ⟨b, o + j, none⟩) hbl).trans (HL.out j hj)
  have hstops := rows_stopsB 8 (by omega) (w.heap.size + 1) W0.heap.size (w.heap.size + 1 + 1) (w.heap.size + 1 + 1 + 1) b o n cap (2 ^ n - 1) (by omega) hpow A (fun _ => n) C W0 (Nat.le_refl _) (by omega) (by omega) (by omega) (by omega) (by omega) d2 d3 hc0'
  clear hc0' d2 d3 hW0
  refine wpIn_rangeFunc_ownF (F := Fence.wide) (n := 9) rfl (by omega) (gf := 92) (lb := #[.pointer (some ⟨w.heap.size + 1 + 1, 0, none⟩), .pointer (some ⟨w.heap.size + 1 + 1 + 1, 0, none⟩)]) rfl trivial (enters_of Try.func92 (by kernel_rfl) rfl)
    hstops kpB_t (kpB_b (Nat.le_refl _)) (Below.refl _ _) (fun _ => rfl)
    (fun pre W => (W.cell? ⟨w.heap.size, 0, none⟩ = some (.int .i64 s) ∧ W.cell? ⟨w.heap.size + 1, 0, none⟩ = some (.int .i64 (lprod 1 f pre)) ∧ W.frozen? ⟨w.heap.size + 1, 0, none⟩ = false) ∧ Below w.heap.size w W ∧ W0.heap.size ≤ W.heap.size)
    (fun _ _ _ => False)
    (OwnFrom.and (Own.from (fun s A B row hs hg hr => ⟨cell_kept hs.1 hg hr, cell_kept hs.2.1 hg hr, (frozen_kept hs.2.1 hg hr).trans hs.2.2⟩) _) (OwnFrom.and (ownFrom_below (Nat.le_refl _) (by omega)) (fun s A B row hs hg hr => Nat.le_trans hs hg.size)))
    (fun c => fun s A B row hs hg hr => hs)
    ⟨⟨d0, d1, d1f⟩, hB0, Nat.le_refl _⟩
    (fun x => { tmps := #[.slice (some ⟨b, o, none⟩) n cap, .int .i64 s, undef, .pointer (some ⟨w.heap.size, 0, none⟩), .int .i64 0, .pointer (some ⟨w.heap.size + 1, 0, none⟩), undef, .slice (A x.1) n (C x.1), undef, undef, undef,
        .slice (some ⟨b, o, none⟩) n cap, .slice (some ⟨b, o, none⟩) n cap, .int .i64 (2 ^ n - 1 : Nat),
        .func (.func 92) #[] #[.pointer (some ⟨w.heap.size + 1 + 1, 0, none⟩), .pointer (some ⟨w.heap.size + 1 + 1 + 1, 0, none⟩)],
        .int .i64 x.1, .slice (A x.1) n (C x.1), undef, undef, undef, undef, undef, undef, undef, undef, undef, undef, undef, undef, undef, undef, undef, undef], defers := [] }) ?assign ?body ?done ?stop
  case assign =>
    intro lp x W K hK
    gi_wp2
    exact hK
  case body =>
    rintro lp pre x W ⟨⟨q0, q1, q1f⟩, gB, gZ⟩ hlen
    have hx2 := x.2
    obtain ⟨j, hj⟩ : ∃ j, x.1 = j := ⟨_, rfl⟩
    rw [hj] at hx2 ⊢
    have hsn := lprod_snoc 1 f pre x
    rw [hj] at hsn
    have hlb := lprod_bd180 f HFB.out pre
    have hp6 := p180_le pre.length (by omega)
    have hfb := HFB.out j hx2
    obtain ⟨hp1, hp2⟩ := HBND.out j hx2
    have hfj : f j = rwS l s j n := by rw [HF.out]
    rw [← hfj] at hp1
    have EC := HCH.out j hx2 W (below_since gB)
    obtain ⟨xs, hxs⟩ : ∃ xs, pickTo s (l.getD j []) n n = xs := ⟨_, rfl⟩
    have hml : xs.length ≤ n := by rw [← hxs]; exact pickTo_length _ _ _ _
    rw [hxs] at hp1 hp2 EC
    obtain ⟨p, hp⟩ : ∃ p, f j = p := ⟨_, rfl⟩
    obtain ⟨y, hy⟩ : ∃ y, lprod 1 f pre = y := ⟨_, rfl⟩
    rw [hp] at hsn hfb hp1
    rw [hy] at q1 hsn hlb
    have hmb := mul_bd180 hfb.1 hfb.2 hlb.1 hlb.2
    have hw2 : IntKind.i64.wrap (y * p) = y * p := IntWalk.i64_in _ ⟨by omega, by omega⟩
    have HSN := Lib.hid hsn
    have HP1 := Lib.hid hp1
    have HP2 := Lib.hid hp2
    have HGB := Lib.hid gB
    replace EC := Lib.hid EC
    clear hj hp hy hsn hlb hfj hmb hxs hp6 hp1 hp2 hfb
    gi_wp2_with (refine ⟨trivial, ?_⟩; gi_at_call 86; refine (CallsIn.inRound lp (callsIn_wide.2 (EC.out))).mono ?_; rintro e w2 ⟨v, rfl, hR⟩; obtain ⟨a2, cp, rfl, hr2⟩ := hR.slice; have hs2 := hR.since)
    have hlW : w.heap.size + 1 < W.heap.size := World.block_lt_of_cell? _ _ q1
    have c1 := (hs2.cell (a := ⟨w.heap.size + 1, 0, none⟩) hlW).trans q1
    have c1f := (hs2.frozen hlW).trans q1f
    have c0 := (hs2.cell (a := ⟨w.heap.size, 0, none⟩) (by show w.heap.size < _; omega)).trans q0
    have HR2 := Lib.hid hr2
    have HS2 := Lib.hid hs2
    obtain ⟨m, hm⟩ : ∃ m, xs.length = m := ⟨_, rfl⟩
    have HM := Lib.hid hm
    rw [hm] at hml ⊢
    clear hr2 hs2 hR hm gB q0 q1 q1f
    gi_loopw [8, 10, 21] (fun sv _ i wr => ∃ q : Nat, q ≤ m ∧ i = .int .i64 q ∧ sv = .int .i64 (lsumI id (xs.take q)) ∧ w2 = wr) (fun _ _ i _ => m - (intOf i).toNat)
    case atStart => exact ⟨0, Nat.zero_le _, rfl, rfl, rfl⟩
    case round =>
      obtain ⟨q, hq, rfl, rfl, rfl⟩ := hrel
      by_cases hlt : q < m
      · obtain ⟨G, rfl, hG, hrb⟩ := HR2.out (by rw [HM.out]; omega)
        have cq : w2.cell? ⟨G, q, none⟩ = _ := hrb.cell (i := q) (by rw [HM.out]; exact hlt)
        have ht : xs.take (q + 1) = xs.take q ++ [xs.getD q 0] := by rw [List.take_add_one]; simp [List.getD, show q < xs.length by rw [HM.out]; exact hlt]
        have hb0 := HP2.out q
        have hb1 := HP2.out (q + 1)
        have e : lsumI id (xs.take (q + 1)) = lsumI id (xs.take q) + xs.getD q 0 := by rw [ht, lsumI_snoc]; rfl
        obtain ⟨u, hu⟩ : ∃ u, xs.getD q 0 = u := ⟨_, rfl⟩
        obtain ⟨z, hz⟩ : ∃ z, lsumI id (xs.take q) = z := ⟨_, rfl⟩
        rw [hz, hu] at e
        rw [hu] at cq
        rw [e] at hb1
        rw [hz]
        have hws : IntKind.i64.wrap (z + u) = z + u := IntWalk.i64_in _ ⟨by omega, by omega⟩
        have hwq : IntKind.i64.wrap ((q : Int) + 1) = ((q + 1 : Nat) : Int) := (IntWalk.i64_in _ ⟨by omega, by omega⟩).trans (by omega)
        have HE := Lib.hid e
        clear ht hb0 hb1 e hu hz hrb
        gi_wp2
        go_roundw
        case rel => exact ⟨q + 1, by omega, rfl, by rw [HE.out], trivial⟩
        case measure => simp [intOf]; omega
      · obtain rfl : q = m := by omega
        have hps : lsumI id (xs.take q) = p := by rw [← HM.out, List.take_length]; exact HP1.out
        rw [hps]
        clear hps
        gi_wp2
        rw [← HSN.out] at hw2 ⊢
        refine ⟨(KeepsOthers.of_grownBy (grown_of_since (row := none) HS2.out) (fun j o e => by cases e)).trans (KeepsOthers.setCell _ _ _), ⟨?_, fun b h1 h2 => ?_⟩, ⟨?_, ?_, ?_⟩, ?_, ?_⟩
        · simpa using HS2.out.size
        · exact (Below.heap_setCell _ _ _ _ h1).trans (HS2.out.block b (by omega))
        · exact (World.cell?_setCell_other _ _ _ _ (fun e => by injection e with e1; omega)).trans c0
        · exact World.cell?_setCell_same' _ _ _ (by rw [c1]; rfl)
        · exact (World.frozen?_setCell _ _ _ _).trans c1f
        · exact (HGB.out.trans ⟨HS2.out.os, HS2.out.tape, HS2.out.output, HS2.out.size, fun k hk => HS2.out.block k (by have := HGB.out.size; omega)⟩).setCell (p := ⟨w.heap.size + 1, 0, none⟩) (by simp) _
        · simpa using Nat.le_trans gZ HS2.out.size
  case done =>
    rintro D ys W hD rfl ⟨⟨q0, q1, q1f⟩, gB, _⟩ hK
    gi_wp2
    refine ⟨by simp, .inl ⟨_, _, rfl, run_takeDeferred hK, ?_⟩⟩
    have hls := lprod_sel 1 f (2 ^ n - 1) n (fun i hi => by rw [Nat.testBit_two_pow_sub_one]; simpa using hi) n (Nat.le_refl _)
    refine ⟨.int .i64 (prodN 1 f n), ?_, rfl, below_since (gB.trans (belowK_b (w := w) (Nat.le_refl _) W D _ _ (by omega) hK rfl rfl))⟩
    simp [results, Try.f71, go_sem, hls]
  case stop =>
    rintro D c pre W hD hpre hF hK
    exact hF.elim


end Go.Proofs.Ytiabnlebonmedaa
