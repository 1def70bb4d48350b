/- Contracts of spec.l6cTable and spec.NetTable. -/
import Derived.Test.YtbclpbgomkfabaaNetT
namespace Go.Proofs.Ytbclpbgomkfabaa
open Go.RowKit Go.Deep

set_option maxRecDepth 100000 in
set_option maxHeartbeats 400000 in
theorem cTable_h (K : ByteArray) (L n : Nat) (V : Int) (w : World) (h1 : 1 ≤ n) (h5 : n ≤ 5) (hL : L < n) (hK : K.toList = [104]) :
    Calls Try.prog 85 #[.int .i64 n, .agg #[.string K, .int .i64 L, .int .i64 V]] w fun e w' => ∃ a cap, e = .returned (.slice a n cap) ∧ w.Since w.heap.size w' ∧ MatR w' a (chT n L L V) := by
  obtain ⟨d1, d2, d3⟩ := chip_box w K L V 36
  have HS := Lib.hid ((World.Since.refl w.heap.size w).alloc (Nat.le_refl _) (.cells #[.string K, .int .i64 L, .int .i64 V] 36))
  have E := Lib.hid (fun (W : World) => specUnitO_any n W (by omega))
  have hq1 : (K.toList == [117]) = false := by rw [hK]; decide
  have hq2 : (K.toList == [100]) = false := by rw [hK]; decide
  have HUL := Lib.hid (unitL_length n n)
  have HUR := Lib.hid (unit_row (show L < n by omega))
  have hmix : Try.prog.follows .mixedOrders = true := by kernel_rfl
  go_enter Try.func85, Try.ntmps85
  go_wp2_with (go_at_call 83; refine (E.out _).mono ?_; rintro e w1 ⟨a, cap, rfl, hs1, ho1⟩; obtain ⟨b, g, c, rfl, t1, t2, t3, t4, t5⟩ := ho1.put (r := L) (k := L) (by rw [HUL.out]; omega) (by rw [HUR.out]; omega); rw [HUR.out] at t1; have HT5 := Lib.hid t5; have e2 := (hs1.cell (a := ⟨w.heap.size, 1, none⟩) (by simp)).trans d2; have e3 := (hs1.cell (a := ⟨w.heap.size, 2, none⟩) (by simp)).trans d3; have e1 := (hs1.cell (a := ⟨w.heap.size, 0, none⟩) (by simp)).trans d1; have HSA := Lib.hid (HS.out.trans (since_mono hs1 HS.out.size)); have HG := Lib.hid t4; clear hs1 ho1 t5 t4)
  go_still_tail 10, hmix
  go_wp2
  go_ret
  exact ⟨_, _, rfl, (HSA.out.setCell (a := ⟨g, L, none⟩) (by have := HG.out.1; simp at this; show w.heap.size ≤ g; omega) _).drew, HT5.out V⟩

set_option maxRecDepth 100000 in
set_option maxHeartbeats 400000 in
theorem cTable_u (K : ByteArray) (L n : Nat) (V : Int) (w : World) (h1 : 1 ≤ n) (h5 : n ≤ 5) (hL : L + 1 < n) (hK : K.toList = [117]) :
    Calls Try.prog 85 #[.int .i64 n, .agg #[.string K, .int .i64 L, .int .i64 V]] w fun e w' => ∃ a cap, e = .returned (.slice a n cap) ∧ w.Since w.heap.size w' ∧ MatR w' a (chT n L (L + 1) V) := by
  obtain ⟨d1, d2, d3⟩ := chip_box w K L V 36
  have HS := Lib.hid ((World.Since.refl w.heap.size w).alloc (Nat.le_refl _) (.cells #[.string K, .int .i64 L, .int .i64 V] 36))
  have E := Lib.hid (fun (W : World) => specUnitO_any n W (by omega))
  have hw1 : IntKind.i64.wrap ((L : Int) + 1) = (L : Int) + 1 := IntWalk.i64_in _ ⟨by omega, by omega⟩
  have hw2 : (0 : Int) ≤ (L : Int) + 1 := by omega
  have hw3 : ((L : Int) + 1).toNat = L + 1 := by omega
  have hw4 : (L : Int) + 1 < (n : Int) := by omega
  have hw5 : L < n := by omega
  have HUL := Lib.hid (unitL_length n n)
  have HUR := Lib.hid (unit_row (show L < n by omega))
  have hmix : Try.prog.follows .mixedOrders = true := by kernel_rfl
  go_enter Try.func85, Try.ntmps85
  go_wp2_with (go_at_call 83; refine (E.out _).mono ?_; rintro e w1 ⟨a, cap, rfl, hs1, ho1⟩; obtain ⟨b, g, c, rfl, t1, t2, t3, t4, t5⟩ := ho1.put (r := L) (k := (L + 1)) (by rw [HUL.out]; omega) (by rw [HUR.out]; omega); rw [HUR.out] at t1; have HT5 := Lib.hid t5; have e2 := (hs1.cell (a := ⟨w.heap.size, 1, none⟩) (by simp)).trans d2; have e3 := (hs1.cell (a := ⟨w.heap.size, 2, none⟩) (by simp)).trans d3; have e1 := (hs1.cell (a := ⟨w.heap.size, 0, none⟩) (by simp)).trans d1; have HSA := Lib.hid (HS.out.trans (since_mono hs1 HS.out.size)); have HG := Lib.hid t4; clear hs1 ho1 t5 t4)
  go_still_tail 11, hmix
  go_wp2
  go_ret
  exact ⟨_, _, rfl, (HSA.out.setCell (a := ⟨g, (L + 1), none⟩) (by have := HG.out.1; simp at this; show w.heap.size ≤ g; omega) _).drew, HT5.out V⟩

set_option maxRecDepth 100000 in
set_option maxHeartbeats 400000 in
theorem cTable_d (K : ByteArray) (L n : Nat) (V : Int) (w : World) (h1 : 1 ≤ n) (h5 : n ≤ 5) (hL : L + 1 < n) (hK : K.toList = [100]) :
    Calls Try.prog 85 #[.int .i64 n, .agg #[.string K, .int .i64 L, .int .i64 V]] w fun e w' => ∃ a cap, e = .returned (.slice a n cap) ∧ w.Since w.heap.size w' ∧ MatR w' a (chT n (L + 1) L V) := by
  obtain ⟨d1, d2, d3⟩ := chip_box w K L V 36
  have HS := Lib.hid ((World.Since.refl w.heap.size w).alloc (Nat.le_refl _) (.cells #[.string K, .int .i64 L, .int .i64 V] 36))
  have E := Lib.hid (fun (W : World) => specUnitO_any n W (by omega))
  have hq1 : (K.toList == [117]) = false := by rw [hK]; decide
  have hw1 : IntKind.i64.wrap ((L : Int) + 1) = (L : Int) + 1 := IntWalk.i64_in _ ⟨by omega, by omega⟩
  have hw2 : (0 : Int) ≤ (L : Int) + 1 := by omega
  have hw3 : ((L : Int) + 1).toNat = L + 1 := by omega
  have hw4 : (L : Int) + 1 < (n : Int) := by omega
  have hw5 : L < n := by omega
  have HUL := Lib.hid (unitL_length n n)
  have HUR := Lib.hid (unit_row (show (L + 1) < n by omega))
  have hmix : Try.prog.follows .mixedOrders = true := by kernel_rfl
  go_enter Try.func85, Try.ntmps85
  go_wp2_with (go_at_call 83; refine (E.out _).mono ?_; rintro e w1 ⟨a, cap, rfl, hs1, ho1⟩; obtain ⟨b, g, c, rfl, t1, t2, t3, t4, t5⟩ := ho1.put (r := (L + 1)) (k := L) (by rw [HUL.out]; omega) (by rw [HUR.out]; omega); rw [HUR.out] at t1; have HT5 := Lib.hid t5; have e2 := (hs1.cell (a := ⟨w.heap.size, 1, none⟩) (by simp)).trans d2; have e3 := (hs1.cell (a := ⟨w.heap.size, 2, none⟩) (by simp)).trans d3; have e1 := (hs1.cell (a := ⟨w.heap.size, 0, none⟩) (by simp)).trans d1; have HSA := Lib.hid (HS.out.trans (since_mono hs1 HS.out.size)); have HG := Lib.hid t4; clear hs1 ho1 t5 t4)
  go_still_tail 11, hmix
  go_wp2
  go_ret
  exact ⟨_, _, rfl, (HSA.out.setCell (a := ⟨g, L, none⟩) (by have := HG.out.1; simp at this; show w.heap.size ≤ g; omega) _).drew, HT5.out V⟩


theorem l6cTable_any (c : RC) (n : Nat) (w : World) (h1 : 1 ≤ n) (h5 : n ≤ 5) (hok : RCok c ∧ chOk n (toC c)) :
    Calls Try.prog 85 #[.int .i64 n, .agg #[.string c.k, .int .i64 c.l, .int .i64 c.w]] w fun e w' => ∃ a cap, e = .returned (.slice a n cap) ∧ w.Since w.heap.size w' ∧ MatR w' a (chT n (chR (toC c)) (chK (toC c)) (toC c).2.2) := by
  obtain ⟨K, l, V⟩ := c
  obtain ⟨⟨hk, hl, hv⟩, hc⟩ := hok
  simp only at hk hl hv
  obtain ⟨L, rfl⟩ : ∃ L : Nat, l = L := ⟨l.toNat, by omega⟩
  rcases hk with h | h | h
  · rw [toC_h h] at hc ⊢
    have := hc.2
    rw [if_pos rfl] at this
    exact cTable_h K L n V w h1 h5 this h
  · have e : toC ⟨K, (L : Int), V⟩ = (0, L, V) := by unfold toC; simp [h]
    rw [e] at hc ⊢
    have := hc.2
    rw [if_neg (by simp)] at this
    exact cTable_u K L n V w h1 h5 this h
  · have e : toC ⟨K, (L : Int), V⟩ = (1, L, V) := by unfold toC; simp [h]
    rw [e] at hc ⊢
    have := hc.2
    rw [if_neg (by simp)] at this
    exact cTable_d K L n V w h1 h5 this h

theorem toC_w (c : RC) : (toC c).2.2 = c.w := rfl
/-- The table of the first chips. -/
noncomputable def outC (n : Nat) (cs : List RC) : List (List Int) := outT n (cs.map toC)
theorem outC_step {n : Nat} {cs : List RC} (ho : NetOk n cs) {r : Nat} (hr : r < cs.length) : makeL (outC n (cs.take r)) (chT n (chR (toC (cs.getD r rc0))) (chK (toC (cs.getD r rc0))) (toC (cs.getD r rc0)).2.2) = outC n (cs.take (r + 1)) := by
  have hm : cs.getD r rc0 ∈ cs := by
    have : cs.getD r rc0 = cs[r] := by simp [List.getD, hr]
    rw [this]; exact List.getElem_mem _
  unfold outC
  rw [outT_snoc (by have := ho.lo; omega) _ (ho.ok _ hm).2]
  congr 1
  rw [List.take_succ_eq_append_getElem hr, List.map_append]
  congr 2
  simp [List.getD, hr]
theorem outC_bd {n : Nat} {cs : List RC} (ho : NetOk n cs) {r : Nat} (hr : r < cs.length) : ∀ i j k, i < n → j < n → k < n → -1000000000000 ≤ at2 (outC n (cs.take r)) i j * at2 (chT n (chR (toC (cs.getD r rc0))) (chK (toC (cs.getD r rc0))) (toC (cs.getD r rc0)).2.2) j k ∧ at2 (outC n (cs.take r)) i j * at2 (chT n (chR (toC (cs.getD r rc0))) (chK (toC (cs.getD r rc0))) (toC (cs.getD r rc0)).2.2) j k ≤ 1000000000000 := by
  have hm : cs.getD r rc0 ∈ cs := by
    have : cs.getD r rc0 = cs[r] := by simp [List.getD, hr]
    rw [this]; exact List.getElem_mem _
  have h10 := ho.len
  refine outT_bd (fun c hc => ?_) (fun c hc => ?_) (by rw [List.length_map, List.length_take]; omega) (ho.ok _ hm).2 (ho.rc _ hm).2.2
  · obtain ⟨d, hd, rfl⟩ := List.mem_map.1 hc
    exact (ho.ok d (List.mem_of_mem_take hd)).2
  · obtain ⟨d, hd, rfl⟩ := List.mem_map.1 hc
    exact (ho.rc d (List.mem_of_mem_take hd)).2.2
/-- Whether a net has a table. -/
noncomputable def ntabB (n : Int) (cs : List RC) : Bool := netB n cs && tabIn (outC n.toNat cs)
noncomputable def ntabL (n : Int) (cs : List RC) : List (List Int) := resT (ntabB n cs) (outC n.toNat cs)

set_option maxRecDepth 100000 in
set_option maxHeartbeats 400000 in
theorem specNetTable_any (a : Option Addr) (cap N : Nat) (n : Int) (cs : List RC) (w : World) (hN : cs.length = N) (h63 : N ≤ 9223372036854775807) (hm : ChipsR w a cs) :
    Calls Try.prog 33 #[.int .i64 n, .slice a N cap] w fun e w' => ∃ a' cap', e = .returned (.tuple #[.slice a' (ntabL n cs).length cap', .bool (ntabB n cs)]) ∧ w.Since w.heap.size w' ∧ InT w.heap.size w'.heap.size w' a' (ntabL n cs) := by
  have E := specNetIn_any a cap N n cs w hN h63 hm
  cases hb : netB n cs with
  | false =>
    have hf : ntabB n cs = false := by unfold ntabB; rw [hb, Bool.false_and]
    unfold ntabL
    rw [hf]
    rw [hb] at E
    replace E := Lib.hid E
    have E2 := Lib.hid (fun (W : World) => l1None_any W)
    clear hb hm hN hf
    go_enter Try.func33, Try.ntmps33
    go_wp2_with (first
      | (go_at_call 60; refine (E.out).mono ?_; rintro e w1 ⟨rfl, hs1⟩; have HS1 := Lib.hid hs1; clear hs1)
      | (go_at_call 82; refine (E2.out _).mono ?_; rintro e w2 ⟨rfl, hs2⟩; have HS2 := Lib.hid (HS1.out.trans (since_mono hs2 HS1.out.size)); clear hs2))
    go_ret2
    exact ⟨_, _, rfl, HS2.out, InT.nil _ _ _ _⟩
  | true =>
    obtain ⟨m, rfl, ho⟩ := netB_ok hb
    rw [hb] at E
    replace E := Lib.hid E
    have hn2 := ho.lo
    have hn5 := ho.hi
    have h10 := ho.len
    rw [hN] at h10
    have hfB : ntabB m cs = tabIn (outC m cs) := by unfold ntabB; rw [hb, Bool.true_and]; rfl
    have hfL : ntabL m cs = resT (tabIn (outC m cs)) (outC m cs) := by unfold ntabL; rw [hfB]; rfl
    rw [hfB, hfL]
    have HN := Lib.hid hN
    have HM := Lib.hid hm
    have HO := Lib.hid ho
    have EU := Lib.hid (fun (W : World) => specUnitO_any m W (by omega))
    clear hb hm hN ho hfB hfL
    go_enter Try.func33, Try.ntmps33
    go_wp2_with (first
      | (go_at_call 60; refine (E.out).mono ?_; rintro e w1 ⟨rfl, hs1⟩; have HS1 := Lib.hid hs1; clear hs1)
      | (go_at_call 83; refine (EU.out _).mono ?_; rintro e w2 ⟨a0, c0, rfl, hs2, hu2⟩; have HS2 := Lib.hid (HS1.out.trans (since_mono hs2 HS1.out.size)); have HU2 := Lib.hid (hu2.mono HS1.out.size (Nat.le_refl _)); clear hs2 hu2))
    go_loopg [6, 7] N (fun g v i wr => ∃ (r : Nat) (a' : Option Addr) (cap' : Nat), r ≤ N ∧ g = N - r ∧ i = .int .i64 r ∧ v = .slice a' m cap' ∧ w.Since w.heap.size wr ∧ OwnT w.heap.size wr.heap.size wr a' (outC m (cs.take r)))
    case atStart => exact ⟨0, _, _, Nat.zero_le _, rfl, rfl, rfl, HS2.out, by show OwnT _ _ _ _ (outT m []); rw [outT_nil]; exact HU2.out⟩
    case round =>
      obtain ⟨r, a', cap', hr, rfl, rfl, rfl, hS, hT⟩ := hrel
      by_cases hlt : r < N
      · have hlt' : r < cs.length := by rw [HN.out]; exact hlt
        obtain ⟨b, o, rfl, k1, k2, k3⟩ := HM.out.at hlt'
        have c1 := (hS.cell (World.block_lt_of_cell? _ _ k1)).trans k1
        have c2 := (hS.cell (World.block_lt_of_cell? _ _ k2)).trans k2
        have c3 := (hS.cell (World.block_lt_of_cell? _ _ k3)).trans k3
        have hmem : cs.getD r rc0 ∈ cs := by
          have : cs.getD r rc0 = cs[r] := by simp [List.getD, hlt']
          rw [this]; exact List.getElem_mem _
        have ET := Lib.hid (fun (W : World) => l6cTable_any (cs.getD r rc0) m W (by omega) hn5 (HO.out.ok _ hmem))
        have hstep := outC_step HO.out hlt'
        have hrec2 := chT_rec (v := (toC (cs.getD r rc0)).2.2) (k := chK (toC (cs.getD r rc0))) (show 1 ≤ m by omega) (show m ≤ 6 by omega) (chRK (HO.out.ok _ hmem).2).1
        have hlen2 := chT_length m (chR (toC (cs.getD r rc0))) (chK (toC (cs.getD r rc0))) (toC (cs.getD r rc0)).2.2
        have hrow2 := chT_row (v := (toC (cs.getD r rc0)).2.2) (k := chK (toC (cs.getD r rc0))) (chRK (HO.out.ok _ hmem).2).1 (show 0 < m by omega)
        have hbd := outC_bd HO.out hlt'
        obtain ⟨c, hcc⟩ : ∃ c, cs.getD r rc0 = c := ⟨_, rfl⟩
        rw [hcc] at c1 c2 c3 ET hstep hrec2 hlen2 hrow2 hbd
        obtain ⟨U, hU⟩ : ∃ U, chT m (chR (toC c)) (chK (toC c)) (toC c).2.2 = U := ⟨_, rfl⟩
        rw [hU] at ET hstep hrec2 hlen2 hrow2 hbd
        have EM := Lib.hid (fun (W : World) (a2 : Option Addr) (cp2 : Nat) (h1 : wr.Since wr.heap.size W) (h2 : MatR W a2 U) => l1MakeR_any a' a2 cap' cp2 m m (outC m (cs.take r)) U W (outT_length _ _) hlen2 (hT.since h1).matR h2 (outT_rec (by omega) (by omega) _) hrec2 (outT_row _ (by omega)) (fun i j k hi hj hk => hbd i j k hi hj (by rw [hrow2] at hk; exact hk)))
        rw [hstep] at EM
        have HS' := Lib.hid hS
        clear k1 k2 k3 hstep hrec2 hlen2 hrow2 hbd hU hT hS hcc hmem hlt'
        obtain ⟨K, L, V⟩ := c
        simp only at c1 c2 c3 ET
        go_wp2_with (first
          | (go_at_call 85; refine (ET.out _).mono ?_; rintro e w3 ⟨a3, cp3, rfl, hs3, hm3⟩; have H3 := Lib.hid (And.intro hs3 hm3); clear hs3 hm3)
          | (go_at_call 84; refine (EM.out _ _ _ H3.out.1 H3.out.2).mono ?_; rintro e w4 ⟨a4, cp4, rfl, hs4, ho4⟩; have H4 := Lib.hid (And.intro (H3.out.1.trans (since_mono hs4 H3.out.1.size)) (ho4.mono H3.out.1.size (Nat.le_refl _))); clear hs4 ho4))
        go_roundg (N - (r + 1))
        case measure => omega
        case rel => exact ⟨r + 1, _, _, by omega, rfl, by go_num, rfl, HS'.out.trans (since_mono H4.out.1 HS'.out.size), H4.out.2.mono HS'.out.size (Nat.le_refl _)⟩
      · obtain rfl : r = N := by omega
        rw [List.take_of_length_le (by rw [HN.out]; exact Nat.le_refl _)] at hT
        have ED := Lib.hid (l1Done_any a' cap' m w.heap.size wr.heap.size (outC m cs) wr (outT_length _ _) (szL_outT hn5 _) hT.inT)
        have HS' := Lib.hid hS
        clear hT hS
        go_wp2_with (go_at_call 86; refine (ED.out).mono ?_; rintro e w3 ⟨a3, cp3, rfl, hs3, hm3⟩; have H3 := Lib.hid (And.intro (HS'.out.trans (since_mono hs3 HS'.out.size)) (hm3.mono (Nat.le_refl _) hs3.size)); clear hs3 hm3)
        go_ret2
        exact ⟨_, _, rfl, H3.out.1, H3.out.2⟩

end Go.Proofs.Ytbclpbgomkfabaa
