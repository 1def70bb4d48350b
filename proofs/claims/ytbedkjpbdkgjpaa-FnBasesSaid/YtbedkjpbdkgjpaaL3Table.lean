/- The contract of spec.l3Table: all minors of k rows. -/
import Derived.Test.YtbedkjpbdkgjpaaL3Sets
import Derived.Test.YtbedkjpbdkgjpaaMinorV
import Derived.Test.YtbedkjpbdkgjpaaOtherV
import Derived.Maps.AppendAt
namespace Go.Proofs.Ytbedkjpbdkgjpaa
open Go.RowKit Go.Deep

/-- One minor. -/
def mnv (l : List (List Int)) (k r c : Nat) : Int := ordF (partL l r c) k k 0
/-- The first j minors by a set of rows. -/
def mnR (l : List (List Int)) (k m r j : Nat) : List Int := ((setsTo k (2 ^ m)).take j).map (mnv l k r)
/-- The minors by the first i sets of rows. -/
def mnT (l : List (List Int)) (k n m i : Nat) : List (List Int) := ((setsTo k (2 ^ n)).take i).map fun r => mnR l k m r (setsTo k (2 ^ m)).length
/-- All minors. -/
def mnA (l : List (List Int)) (k n m : Nat) : List (List Int) := (setsTo k (2 ^ n)).map fun r => (setsTo k (2 ^ m)).map (mnv l k r)
theorem mnT_all (l : List (List Int)) (k n m : Nat) : mnT l k n m (setsTo k (2 ^ n)).length = mnA l k n m := by
  unfold mnT mnR mnA
  simp only [List.take_length]
theorem mnR_succ {l : List (List Int)} {k m r j c : Nat} (h : (setsTo k (2 ^ m))[j]? = some c) : mnR l k m r (j + 1) = mnR l k m r j ++ [mnv l k r c] := by
  unfold mnR
  rw [List.take_add_one, h, List.map_append]
  rfl
theorem mnT_succ {l : List (List Int)} {k n m r i : Nat} (h : (setsTo k (2 ^ n))[i]? = some r) : mnT l k n m (i + 1) = mnT l k n m i ++ [mnR l k m r (setsTo k (2 ^ m)).length] := by
  unfold mnT
  rw [List.take_add_one, h, List.map_append]
  rfl
theorem mnR_le (l : List (List Int)) (k m r j : Nat) : (mnR l k m r j).length ≤ j := by
  unfold mnR; rw [List.length_map, List.length_take]; omega
theorem mnT_le (l : List (List Int)) (k n m i : Nat) : (mnT l k n m i).length ≤ i := by
  unfold mnT; rw [List.length_map, List.length_take]; omega

theorem setsI_at {k M i : Nat} (h : i < (setsTo k M).length) : ∃ s, (setsI k M).getD i 0 = ((s : Nat) : Int) ∧ (setsTo k M)[i]? = some s ∧ s < M ∧ popcS s = k := by
  have e : (setsTo k M)[i]? = some (setsTo k M)[i] := List.getElem?_eq_getElem h
  obtain ⟨_, h2, h3⟩ := setsTo_idx k M e
  refine ⟨_, ?_, e, h3, h2⟩
  unfold setsI
  rw [List.getD_eq_getElem?_getD, List.getElem?_map, e]
  rfl

/-- A row that something else grows beside. -/
theorem rowB_push {wr w1 : World} {v v' : Value} {c : Obj} {G : Nat} {x : List Int} (h : v.ownBlock ≠ some G) (hr : RowB wr G x) (hg : (wr.alloc c).grownBy w1 v.ownBlock) (hat : v'.ownBlock = v.ownBlock ∨ v'.ownBlock = some (wr.alloc c).heap.size) :
    v'.ownBlock ≠ some G ∧ RowB w1 G x := by
  have hlt := hr.lt
  have e1 : (wr.alloc c).heap[G]? = wr.heap[G]? := Below.heap_alloc wr _ G hlt
  refine ⟨fun e => ?_, hr.of_block ((hg.block G (by simp; omega) (fun e => h e.symm)).trans e1)⟩
  rcases hat with q | q
  · exact h (q.symm.trans e)
  · rw [e] at q
    have : G = (wr.alloc c).heap.size := by injection q
    simp at this
    omega
/-- The sets of one kind, apart from what is being built. -/
def SetsAt (w : World) (a : Option Addr) (v : Value) (k M L : Nat) : Prop := 0 < L → ∃ G, a = some ⟨G, 0, none⟩ ∧ v.ownBlock ≠ some G ∧ RowB w G (setsI k M)
theorem SetsAt.since {w w' : World} {a : Option Addr} {v : Value} {k M L : Nat} (h : SetsAt w a v k M L) (hs : w.Since w.heap.size w') : SetsAt w' a v k M L := fun h0 => by
  obtain ⟨G, e, h1, h2⟩ := h h0
  exact ⟨G, e, h1, h2.of_block (hs.block G h2.lt)⟩
theorem SetsAt.push {wr w1 : World} {a : Option Addr} {v v' : Value} {c : Obj} {k M L : Nat} (h : SetsAt wr a v k M L) (hg : (wr.alloc c).grownBy w1 v.ownBlock) (hat : v'.ownBlock = v.ownBlock ∨ v'.ownBlock = some (wr.alloc c).heap.size) : SetsAt w1 a v' k M L := fun h0 => by
  obtain ⟨G, e, h1, h2⟩ := h h0
  obtain ⟨h3, h4⟩ := rowB_push h1 h2 hg hat
  exact ⟨G, e, h3, h4⟩

set_option maxRecDepth 100000 in
set_option maxHeartbeats 4000000 in
theorem l3Table_any (a : Option Addr) (cap n m k : Nat) (l : List (List Int)) (w : World) (hn : l.length = n) (hmm : (l.getD 0 []).length = m) (hT : TabIn l) (_hk : k ≤ 6) (hm : MatR w a l) :
    Calls Try.prog 90 #[.slice a n cap, .int .i64 k] w fun e w' => ∃ a' cap', e = .returned (.slice a' (mnA l k n m).length cap') ∧ w.Since w.heap.size w' ∧ OwnT w.heap.size w'.heap.size w' a' (mnA l k n m) := by
  obtain ⟨i42, hi42⟩ := info42_parts
  obtain ⟨i3, hi3⟩ := info3_parts
  have HI := Lib.hid hi42
  have HJ := Lib.hid hi3
  have hst := bt_start w (fun _ => none) (fun _ => 0) #[] rfl
  have hs1 : w.Since w.heap.size (w.alloc (.cells #[] 22)) := (World.Since.refl _ w).alloc (Nat.le_refl _) _
  have hw := hT.width
  have h6 := hT.2.1
  have h1 := hT.1
  rw [hn] at h6 h1
  rw [hmm] at hw
  obtain ⟨b1, o1, A1, C1, rfl, hc1⟩ := id hm (by omega)
  have c1 := (hc1 0 (by omega)).1
  rw [Nat.add_zero, hmm] at c1
  have ES1 := Lib.hid (fun (W : World) => l3Sets_any n k h6 W)
  have ES2 := Lib.hid (fun (W : World) => l3Sets_any m k hw.2 W)
  have EP := Lib.hid (fun (r c : Nat) (hr : r < 2 ^ n) (hc : c < 2 ^ m) (W : World) (hs : w.Since w.heap.size W) =>
    l1Part_any (some ⟨b1, o1, none⟩) cap n r c l W hn hT (by have := Nat.pow_le_pow_right (n := 2) (by omega) h6; omega) (by have := Nat.pow_le_pow_right (n := 2) (by omega) hw.2; omega) (hm.since hs))
  have ESQ := Lib.hid (fun (r c : Nat) (hr : r < 2 ^ n) (hc : c < 2 ^ m) (hrk : popcS r = k) (hck : popcS c = k) =>
    (show SqD k (partL l r c) from hrk ▸ part_sq hT (s := r) (c := c) (by rw [hn]; exact hr) (by rw [hmm]; exact hc) (by rw [hrk, hck])))
  have hp1 := Nat.pow_le_pow_right (n := 2) (by omega) h6
  have hp2 := Nat.pow_le_pow_right (n := 2) (by omega) hw.2
  have HL1 := setsI_length k (2 ^ n)
  have HL2 := setsI_length k (2 ^ m)
  have HB1 := setsTo_len k (2 ^ n)
  have HB2 := setsTo_len k (2 ^ m)
  have HG1 := Lib.hid (fun (i : Nat) => @setsI_at k (2 ^ n) i)
  have HG2 := Lib.hid (fun (i : Nat) => @setsI_at k (2 ^ m) i)
  have HTS := Lib.hid (fun (i r : Nat) => @mnT_succ l k n m r i)
  have HRS := Lib.hid (fun (r j c : Nat) => @mnR_succ l k m r j c)
  have hTle := mnT_le l k n m
  have hRle := mnR_le l k m
  have hT0 : mnT l k n m 0 = [] := rfl
  rw [← mnT_all]
  obtain ⟨M1, e1⟩ : ∃ x, 2 ^ n = x := ⟨_, rfl⟩
  obtain ⟨M2, e2⟩ : ∃ x, 2 ^ m = x := ⟨_, rfl⟩
  simp only [e1] at ES1 EP ESQ hp1 HL1 HB1 HG1 HTS ⊢
  simp only [e2] at ES2 EP ESQ hp2 HL2 HB2 HG2 HTS HRS ⊢
  obtain ⟨LA, e3⟩ : ∃ x, (setsTo k M1).length = x := ⟨_, rfl⟩
  obtain ⟨LB, e4⟩ : ∃ x, (setsTo k M2).length = x := ⟨_, rfl⟩
  simp only [e3] at HL1 HB1 HG1 ⊢
  simp only [e4] at HL2 HB2 HG2 HTS ⊢
  replace HL1 := Lib.hid HL1
  replace HL2 := Lib.hid HL2
  have HST := Lib.hid (show BT w (w.alloc (.cells #[] 22)) (.slice (some ⟨w.heap.size, 0, none⟩) 0 0) (mnT l k n m 0) _ _ by rw [hT0]; exact hst)
  have HS1 := Lib.hid hs1
  clear hi42 hi3 hm hT hn hmm hc1 e1 e2 e3 e4 hst hs1 hT0
  go_enter Try.func90, Try.ntmps90
  go_wp2_with fail
  refine (ES1.out _).mono ?_
  rintro e w2 ⟨v1, rfl, hR1⟩
  obtain ⟨a1, q1, rfl, ha1⟩ := hR1.slice
  rw [HL1.out] at ha1 ⊢
  have HB2w := Lib.hid (HST.out.later hR1.since)
  have HS2 := Lib.hid (HS1.out.trans (since_mono hR1.since HS1.out.size))
  have HA1 := Lib.hid (show SetsAt w2 a1 (.slice (some ⟨w.heap.size, 0, none⟩) 0 0) k M1 LA from fun h => by
    obtain ⟨G, e, h2, h3⟩ := ha1 h
    refine ⟨G, e, fun q => ?_, h3⟩
    have : w.heap.size = G := by simpa [Value.ownBlock] using q
    simp at h2
    omega)
  have c12 := (HS2.out.cell (a := ⟨b1, o1, none⟩) (World.block_lt_of_cell? _ _ c1)).trans c1
  have hz2 := hR1.since.size
  have HZ2 := Lib.hid (show w.heap.size < w2.heap.size by simp at hz2; omega)
  clear hR1 ha1 hz2 HST
  go_wp2_with fail
  refine (ES2.out _).mono ?_
  rintro e w3 ⟨v2, rfl, hR2⟩
  obtain ⟨a2, q2, rfl, ha2⟩ := hR2.slice
  rw [HL2.out] at ha2 ⊢
  have HB3w := Lib.hid (HB2w.out.later hR2.since)
  have HS3 := Lib.hid (HS2.out.trans (since_mono hR2.since HS2.out.size))
  have HA13 := Lib.hid (HA1.out.since hR2.since)
  have HA2 := Lib.hid (show SetsAt w3 a2 (.slice (some ⟨w.heap.size, 0, none⟩) 0 0) k M2 LB from fun h => by
    obtain ⟨G, e, h2, h3⟩ := ha2 h
    refine ⟨G, e, fun q => ?_, h3⟩
    have : w.heap.size = G := by simpa [Value.ownBlock] using q
    have := HZ2.out
    omega)
  clear hR2 ha2 HB2w HA1
  go_wp2
  go_loopg [5, 8, 9, 10] LA (fun g v i _ _ wr => ∃ i0 : Nat, ∃ A C, i0 ≤ LA ∧ g = LA - i0 ∧ i = .int .i64 i0 ∧ BT w wr v (mnT l k n m i0) A C ∧ SetsAt wr a1 v k M1 LA ∧ SetsAt wr a2 v k M2 LB)
  case atStart => exact ⟨0, _, _, Nat.zero_le _, rfl, rfl, HB3w.out, HA13.out, HA2.out⟩
  case round =>
    obtain ⟨i0, A, C, hi0, rfl, rfl, hR, hG1, hG2⟩ := hrel
    clear HB3w HA13 HA2
    by_cases hlt : i0 < LA
    · obtain ⟨GA, rfl, hvA, hrowA⟩ := id hG1 (by omega)
      obtain ⟨r, er, ir, hrM, hrk⟩ := HG1.out i0 hlt
      have ca0 := hrowA.cell (i := i0) (by rw [HL1.out]; exact hlt)
      rw [er] at ca0
      have CA := Lib.hid ca0
      have HR := Lib.hid hR
      have HGA := Lib.hid hG1
      have HGB := Lib.hid hG2
      have HTS2 := Lib.hid (HTS.out i0 r ir)
      have HEP := Lib.hid (fun c (hc : c < M2) => EP.out r c hrM hc)
      have HSQ := Lib.hid (fun c (hc : c < M2) (hck : popcS c = k) => ESQ.out r c hrM hc hrk hck)
      have hsz := hR.since.size
      have hle := hTle i0
      have hrb := rb_start wr #[] rfl
      have HRB := Lib.hid (show RB wr (wr.alloc (.cells #[] 3)) (.slice (some ⟨wr.heap.size, 0, none⟩) 0 0) (mnR l k m r 0) from hrb)
      obtain ⟨wo, rfl⟩ : ∃ wo : World, wo = wr := ⟨_, rfl⟩
      clear hR hG1 hG2 hvA hrowA er ir ca0 hrb hrk
      go_wp2
      go_loopg [9, 10] LB (fun g v j wi => ∃ j0 : Nat, j0 ≤ LB ∧ g = LB - j0 ∧ j = .int .i64 j0 ∧ RB wo wi v (mnR l k m r j0))
      case atStart => exact ⟨0, Nat.zero_le _, rfl, rfl, HRB.out⟩
      case round =>
        obtain ⟨j0, hj0, rfl, rfl, hI⟩ := hrel
        clear HRB
        have hzi := hI.since.size
        have hleR := hRle r j0
        by_cases hltj : j0 < LB
        · obtain ⟨GB, rfl, hvB, hrowB⟩ := HGB.out (by omega)
          obtain ⟨c, ec, ic, hcM, hck⟩ := HG2.out j0 hltj
          have cb0 := hrowB.cell (i := j0) (by rw [HL2.out]; exact hltj)
          rw [ec] at cb0
          have cellA := (hI.since.cell (a := ⟨GA, i0, none⟩) (World.block_lt_of_cell? _ _ CA.out)).trans CA.out
          have HCB := Lib.hid cb0
          have cellB := (hI.since.cell (a := ⟨GB, j0, none⟩) (World.block_lt_of_cell? _ _ cb0)).trans cb0
          have HRS2 := Lib.hid (HRS.out r j0 c ic)
          have hsq := HSQ.out c hcM hck
          have EP2 := HEP.out c hcM wr.drew (HR.out.since.trans (since_mono hI.since hsz)).drew
          have hmv : mnv l k r c = ordF (partL l r c) k k 0 := rfl
          obtain ⟨L, hL⟩ : ∃ L, partL l r c = L := ⟨_, rfl⟩
          rw [hL] at hsq EP2 hmv
          rw [hsq.1] at EP2
          obtain ⟨y, hy⟩ : ∃ y, ordF L k k 0 = y := ⟨_, rfl⟩
          have E6 := fun (a3 : Option Addr) (k3 : Nat) (V : World) (h : MatR V a3 L) => l2Value_sq a3 k3 k L hsq V h
          simp only [hy] at E6
          rw [hy] at hmv
          have HMV := Lib.hid hmv
          replace E6 := Lib.hid E6
          replace EP2 := Lib.hid EP2
          have HII := Lib.hid hI
          clear hI hvB hrowB ec ic cb0 hck hsq hmv hL hy
          have hmix : Try.prog.follows .mixedOrders = true := by kernel_rfl
          have hlA := World.block_lt_of_cell? _ _ CA.out
          have hlB := World.block_lt_of_cell? _ _ HCB.out
          have pA : ((i0 : Nat) : Int) < ((LA : Nat) : Int) := by omega
          have pB : ((j0 : Nat) : Int) < ((LB : Nat) : Int) := by omega
          go_wp2
          refine wp_region_held_drew (S := fun W => W.cell? ⟨GA, i0, none⟩ = some (.int .i64 r) ∧ W.cell? ⟨GB, j0, none⟩ = some (.int .i64 c)) hmix ⟨cellA, cellB⟩ (fun hS => ?_)
          refine wpAnyH_take (i := 0) (v := u9) rfl (by kernel_rfl) (by kernel_rfl) (by kernel_rfl) (fun _ _ _ h => h) (Or.inl ⟨by rfl, fun W' h => by go_simp⟩) hS ?_
          simp only [Act.put, List.setIfInBounds_toArray]
          refine wpAnyH_take (i := 1) (v := .slice (some ⟨b1, o1, none⟩) n cap) rfl (by kernel_rfl) (by kernel_rfl) (by kernel_rfl) (fun _ _ _ h => h) (Or.inl ⟨by rfl, fun W' h => by go_simp⟩) hS ?_
          simp only [Act.put]
          refine wpAnyH_take (i := 2) (v := .slice (some ⟨GA, 0, none⟩) LA q1) rfl (by kernel_rfl) (by kernel_rfl) (by kernel_rfl) (fun _ _ _ h => h) (Or.inl ⟨by rfl, fun W' h => by go_simp⟩) hS ?_
          simp only [Act.put]
          refine wpAnyH_take (i := 3) (v := .int .i64 i0) rfl (by kernel_rfl) (by kernel_rfl) (by kernel_rfl) (fun _ _ _ h => h) (Or.inl ⟨by rfl, fun W' h => by go_simp⟩) hS ?_
          simp only [Act.put]
          refine wpAnyH_take (i := 4) (v := .pointer (some ⟨GA, i0, none⟩)) rfl (by kernel_rfl) (by kernel_rfl) (by kernel_rfl) (fun _ _ _ h => h) (Or.inl ⟨by rfl, fun W' h => by go_simp⟩) hS ?_
          simp only [Act.put]
          refine wpAnyH_take (i := 5) (v := .int .i64 r) rfl (by kernel_rfl) (by kernel_rfl) (by kernel_rfl) (fun _ _ _ h => h) (Or.inl ⟨by rfl, fun W' h => by have hc := h.1; go_simp⟩) hS ?_
          simp only [Act.put]
          refine wpAnyH_take (i := 6) (v := .slice (some ⟨GB, 0, none⟩) LB q2) rfl (by kernel_rfl) (by kernel_rfl) (by kernel_rfl) (fun _ _ _ h => h) (Or.inl ⟨by rfl, fun W' h => by go_simp⟩) hS ?_
          simp only [Act.put]
          refine wpAnyH_take (i := 7) (v := .int .i64 j0) rfl (by kernel_rfl) (by kernel_rfl) (by kernel_rfl) (fun _ _ _ h => h) (Or.inl ⟨by rfl, fun W' h => by go_simp⟩) hS ?_
          simp only [Act.put]
          refine wpAnyH_take (i := 8) (v := .pointer (some ⟨GB, j0, none⟩)) rfl (by kernel_rfl) (by kernel_rfl) (by kernel_rfl) (fun _ _ _ h => h) (Or.inl ⟨by rfl, fun W' h => by go_simp⟩) hS ?_
          simp only [Act.put]
          refine wpAnyH_take (i := 9) (v := .int .i64 c) rfl (by kernel_rfl) (by kernel_rfl) (by kernel_rfl) (fun _ _ _ h => h) (Or.inl ⟨by rfl, fun W' h => by have hc := h.2; go_simp⟩) hS ?_
          simp only [Act.put]
          refine wpAnyH_ready (rs := [10]) (by kernel_rfl) (by simp) (AllReadyH.cons rfl (fun K hK => ?_) AllReadyH.nil)
          go_simp
          go_at_call 98
          refine (EP2.out).mono ?_
          rintro e w4 ⟨a3, k3, rfl, hs4, hin⟩
          go_wp2_with fail
          replace hs4 : wr.Since wr.heap.size w4 := (World.Since.refl _ _).drew.trans hs4
          have HII4 := Lib.hid (HII.out.later hs4)
          have hz4 := hs4.size
          have HIN := Lib.hid hin
          refine hK.out _ _ ⟨(hs4.cell (a := ⟨GA, i0, none⟩) (World.block_lt_of_cell? _ _ cellA)).trans cellA, (hs4.cell (a := ⟨GB, j0, none⟩) (World.block_lt_of_cell? _ _ cellB)).trans cellB⟩ (fun _ => ?_)
          clear hK K hs4 hin hS
          refine wpAnyH_ready (rs := [11]) (by kernel_rfl) (by simp) (AllReadyH.cons rfl (fun K hK => ?_) AllReadyH.nil)
          go_simp
          go_at_call 97
          refine (E6.out a3 k3 w4 HIN.out.matR).mono ?_
          rintro e w5 ⟨rfl, hd5⟩
          go_wp2_with fail
          have HII5 := Lib.hid (HII4.out.later (hd5.since w4.heap.size))
          have hz5 := (hd5.since w4.heap.size).size
          have cA5 := (HII5.out.since.cell (a := ⟨GA, i0, none⟩) hlA).trans CA.out
          have cB5 := (HII5.out.since.cell (a := ⟨GB, j0, none⟩) hlB).trans HCB.out
          refine hK.out _ _ ⟨cA5, cB5⟩ (fun _ => ?_)
          clear hK K hd5 HII4 HII cellA cellB HIN
          refine wpAnyH_ready (rs := [12]) (by kernel_rfl) (by simp) (AllReadyH.cons rfl (fun K hK => ?_) AllReadyH.nil)
          go_simp
          refine hK.out _ _ ⟨cell_alloc_l _ cA5, cell_alloc_l _ cB5⟩ (fun _ => ?_)
          clear hK K
          refine wpAnyH_ready (rs := [13]) (by kernel_rfl) (by simp) (AllReadyH.cons rfl (fun K hK => ?_) AllReadyH.nil)
          rw [if_pos (by rfl)]
          refine wp_append_own _ (.tmp 35) (.tmp 47) 22 rfl wo.heap.size 3 i3 (.int .i64 0) 1 8 Try.underlying22 HJ.out.1 HJ.out.2.1 HJ.out.2.2.1 HJ.out.2.2.2 rfl (by decide) _ _ _ rfl (HII5.out.own.alloc _) ⟨w5.heap.size, 0, none⟩ 1 1 [.int .i64 y] rfl rfl (cell_one_at _ _ _ rfl) (fun x hx => by simp at hx; subst hx; rfl) (by unfold maxLen; omega) (by omega) (by simp; omega) ?_
          intro v' w6 hown' hgrow _
          have hP := HII5.out.push hown' hgrow
          have cA6 := (hP.since.cell (a := ⟨GA, i0, none⟩) hlA).trans CA.out
          have cB6 := (hP.since.cell (a := ⟨GB, j0, none⟩) hlB).trans HCB.out
          rw [← HMV.out, ← HRS2.out] at hP
          have HP := Lib.hid hP
          refine hK.out _ _ ⟨cA6, cB6⟩ (fun _ => ?_)
          clear hK K hP hown' hgrow
          refine wpAnyH_ready (rs := [14]) (by kernel_rfl) (by simp) (AllReadyH.cons rfl (fun K hK => ?_) AllReadyH.nil)
          go_simp
          refine hK.out _ _ ⟨cA6, cB6⟩ (fun _ => ?_)
          clear hK K cA6 cB6 cA5 cB5
          refine wpAnyH_done (by kernel_rfl) ?_ _
          go_wp2
          go_roundg (LB - (j0 + 1))
          case measure => omega
          case rel => exact ⟨j0 + 1, by omega, rfl, by go_num, HP.out⟩
        · have hjl : j0 = LB := by omega
          subst hjl
          obtain ⟨ra, rcp, hv, hrow⟩ := hI.slice
          obtain ⟨R, hRR⟩ : ∃ R, mnR l k m r j0 = R := ⟨_, rfl⟩
          rw [hRR] at hv hrow hleR
          subst hv
          have HROW := Lib.hid hrow
          have HBT := Lib.hid (HR.out.later hI.since)
          have HG1' := Lib.hid (HGA.out.since hI.since)
          have HG2' := Lib.hid (HGB.out.since hI.since)
          have HRR := Lib.hid hRR
          have hz := hI.since.size
          clear hI hrow hRR
          go_wp2_with (at_builtin; (refine wpList_append_own_at _ rfl _ _ 36 rfl w.heap.size 22 i42 (.slice none 0 0) 1 24 Try.underlying36 HI.out.1 HI.out.2.1 HI.out.2.2.1 HI.out.2.2.2 rfl (by decide) _ _ _ rfl (HBT.out.own.alloc _) ⟨wr.heap.size, 0, none⟩ 1 1 [.slice ra R.length rcp] rfl rfl (cell_one_at _ _ _ rfl) (fun x hx => by simp at hx; subst hx; rfl) (by unfold maxLen; omega) (by omega) (by simp; omega) ?_); intro v' w6 hown' hgrow _ hat')
          have hP := HBT.out.push (rv := .slice ra R.length rcp) (x := R) (a := ra) (cp := rcp) rfl (fun h => by obtain ⟨G, e, h2, h3⟩ := HROW.out h; exact ⟨G, e, by omega, h3⟩) (fun h => by obtain ⟨G, e, h2, _⟩ := HROW.out h; exact HR.out.fresh e h2) hown' hgrow
          have hQ1 := HG1'.out.push hgrow hat'
          have hQ2 := HG2'.out.push hgrow hat'
          have hsn := HTS2.out
          rw [HRR.out] at hsn
          rw [← hsn] at hP
          have HP := Lib.hid (And.intro hP (And.intro hQ1 hQ2))
          clear hP hQ1 hQ2 hown' hgrow hat' hsn
          go_roundg (LA - (i0 + 1))
          case measure => omega
          case rel => exact ⟨i0 + 1, _, _, by omega, rfl, by go_num, HP.out.1, HP.out.2.1, HP.out.2.2⟩
    · have hil : i0 = LA := by omega
      subst hil
      obtain ⟨ra, rcp, hv, hin⟩ := hR.ownT
      have HS := Lib.hid hR.since
      have HIN := Lib.hid hin
      subst hv
      clear hR hin hG1 hG2
      go_wp2
      go_ret
      exact ⟨ra, rcp, rfl, HS.out, HIN.out⟩

end Go.Proofs.Ytbedkjpbdkgjpaa
