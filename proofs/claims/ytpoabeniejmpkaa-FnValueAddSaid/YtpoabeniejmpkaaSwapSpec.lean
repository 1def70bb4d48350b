/- The contract of spec.TableSwap. -/
import Derived.Test.YtpoabeniejmpkaaSwapImpl
import Derived.Test.YtpoabeniejmpkaaAddSpec
namespace Go.Proofs.Ytpoabeniejmpkaa
open Go.RowKit Go.Deep

/-- A table of one's own whose outer row is written. -/
structure SW (w1 w' : World) (b n m : Nat) (A : Nat → Option Addr) (G C : Nat → Nat) (Z : Nat → Nat → Int) (hi : Nat) : Prop where
  since : w1.Since w1.heap.size w'
  size : hi ≤ w'.heap.size
  own : OwnD w1.heap.size hi w' b A G C n (fun _ => m) Z
  free : ∀ r, r < n → w'.frozen? ⟨b, r, none⟩ = false
  inb : w1.heap.size ≤ b ∧ b < hi

theorem SW.later {w1 w' w2 : World} {b n m : Nat} {A : Nat → Option Addr} {G C : Nat → Nat} {Z : Nat → Nat → Int} {hi : Nat} (h : SW w1 w' b n m A G C Z hi) (hs : w'.Since w'.heap.size w2) : SW w1 w2 b n m A G C Z hi :=
  ⟨h.since.trans (since_mono hs h.since.size), Nat.le_trans h.size hs.size, h.own.later hs, fun r hr => by rw [hs.frozen (a := ⟨b, r, none⟩) (World.block_lt_of_cell? _ _ (h.own.top r hr))]; exact h.free r hr, h.inb⟩

/-- One row is replaced by a new one. -/
theorem SW.put {w1 w2 w3 : World} {b n m : Nat} {A : Nat → Option Addr} {G C : Nat → Nat} {Z : Nat → Nat → Int} {hi : Nat} (h : SW w1 w2 b n m A G C Z hi) (hs : w2.Since w2.heap.size w3) {g cp : Nat} {x : List Int} (hg : w2.heap.size ≤ g) (hx : RowB w3 g x) (hxl : x.length = m)
    (hm : 0 < m) {i : Nat} (hi' : i < n) : SW w1 (w3.setCell ⟨b, i, none⟩ (.slice (some ⟨g, 0, none⟩) m cp)) b n m (fun r => if r = i then some ⟨g, 0, none⟩ else A r) (fun r => if r = i then g else G r) (fun r => if r = i then cp else C r) (fun r c => if r = i then x.getD c 0 else Z r c) w3.heap.size := by
  have h3 := h.later hs
  have hgl := hx.lt
  have hsz := h.size
  have hb := h.inb
  have hss := h.since.size
  have hsz3 := hs.size
  have hgb : g ≠ b := by omega
  refine ⟨h3.since.setCell hb.1 _, by simp, ⟨fun r hr => ?_, fun r hr h0 => ?_, fun r hr h0 => ?_, fun r hr c hc => ?_, fun r hr c hc => ?_, fun r r' hr hr' h0 h0' e => ?_⟩, fun r hr => by rw [World.frozen?_setCell]; exact h3.free r hr, hb.1, by omega⟩
  · by_cases e : r = i
    · subst e
      rw [if_pos rfl, if_pos rfl]
      exact World.cell?_setCell_same' _ _ _ (by rw [h3.own.top r hr]; rfl)
    · rw [if_neg e, if_neg e, World.cell?_setCell_other _ _ _ _ (fun e' => e (by injection e' with _ e'; exact e'.symm))]
      exact h3.own.top r hr
  · by_cases e : r = i
    · rw [if_pos e, if_pos e]
    · rw [if_neg e, if_neg e]; exact h3.own.addr r hr h0
  · by_cases e : r = i
    · rw [if_pos e]; exact ⟨by omega, hgl, hgb⟩
    · rw [if_neg e]; have := h3.own.inside r hr h0; exact ⟨this.1, by omega, this.2.2⟩
  · by_cases e : r = i
    · rw [if_pos e, if_pos e, World.cell?_setCell_other _ _ _ _ (fun e' => hgb (by injection e' with e'; exact e'.symm))]
      exact hx.cell (by rw [hxl]; exact hc)
    · rw [if_neg e, if_neg e, World.cell?_setCell_other _ _ _ _ (fun e' => (h3.own.inside r hr (by omega)).2.2 (by injection e' with e'; exact e'.symm))]
      exact h3.own.cell r hr c hc
  · rw [World.frozen?_setCell]
    by_cases e : r = i
    · rw [if_pos e]; exact hx.frozen c
    · rw [if_neg e]; exact h3.own.free r hr c hc
  · by_cases e1 : r = i <;> by_cases e2 : r' = i
    · omega
    · rw [if_pos e1, if_neg e2] at e
      have := (h.own.inside r' hr' h0').2.1
      omega
    · rw [if_neg e1, if_pos e2] at e
      have := (h.own.inside r hr h0).2.1
      omega
    · rw [if_neg e1, if_neg e2] at e
      exact h3.own.apart r r' hr hr' h0 h0' e

theorem OwnT.sw {w w1 : World} {a : Option Addr} {l : List (List Int)} {n m : Nat} (h : OwnT w.heap.size w1.heap.size w1 a l) (hn : l.length = n) (h1 : 0 < n) (hm : ∀ r, r < n → (l.getD r []).length = m) (hs : w.Since w.heap.size w1) (hf : FreeTop w1 a n) :
    ∃ b A G C, a = some ⟨b, 0, none⟩ ∧ SW w w1 b n m A G C (fun r c => at2 l r c) w1.heap.size := by
  obtain ⟨b, A, G, C, e, hb, hW⟩ := h.wr hn h1 hm hs (fun _ _ => 0)
  exact ⟨b, A, G, C, e, hs, Nat.le_refl _, hW.own.congr fun r _ c _ => by unfold updF; rw [if_neg (by omega)], fun r hr => hf b r e hr, hb⟩

theorem SW.ownT {w1 w' : World} {b n m : Nat} {A : Nat → Option Addr} {G C : Nat → Nat} {Z : Nat → Nat → Int} {hi : Nat} {l : List (List Int)} (h : SW w1 w' b n m A G C Z hi) (hn : l.length = n) (hm : ∀ r, r < n → (l.getD r []).length = m) (hZ : ∀ r c, r < n → c < m → at2 l r c = Z r c) : OwnT w1.heap.size w'.heap.size w' (some ⟨b, 0, none⟩) l :=
  (h.own.ownT h.inb hn hm fun r hr c hc => hZ r c hr hc).mono (Nat.le_refl _) h.size

/-- The row that was made by append, and what may be kept of the world before. -/
theorem own_row (W : World) : (W.alloc (.cells #[] 3)).ownsRow W.heap.size 3 1 (.slice (some ⟨W.heap.size, 0, none⟩) 0 0) 0 [] := World.ownsRow_made W #[] 0 (Nat.le_refl _) (Nat.zero_le _) rfl
theorem row_cells {w W : World} {b' o' m : Nat} {x : List Int} (hx : x.length = m) (hs : w.Since w.heap.size W) (hce : ∀ j, j < m → w.cell? ⟨b', o' + j, none⟩ = some (.int .i64 (x.getD j 0))) (o : Obj) : ∀ (j : Nat) (u : Value), (x.map (Value.int .i64))[j]? = some u → (W.alloc o).cell? ((⟨b', o', none⟩ : Addr).add j) = some u := fun j u hj => by
  rw [Go.WideShapes.add_plain]
  obtain ⟨hjl, he⟩ := List.getElem?_eq_some_iff.1 hj
  have hjx : j < m := by rw [← hx]; simpa using hjl
  have h2 := hce j hjx
  refine cell_alloc_l _ ?_
  rw [hs.cell (a := ⟨b', o' + j, none⟩) (World.block_lt_of_cell? _ _ h2), h2, ← he]
  simp [List.getD, show j < x.length by omega]

set_option maxRecDepth 100000 in
set_option maxHeartbeats 2000000 in
theorem specTableSwap_yes (a : Option Addr) (cap n : Nat) (l : List (List Int)) (i k : Nat) (w : World) (hn : l.length = n) (hsz : szL l ≤ 1048576) (hm : MatR w a l) (hT : TabIn l) (hi : i < n) (hk : k < n) :
    Calls Try.prog 44 #[.slice a n cap, .int .i64 i, .int .i64 k] w (SpecT w true (swapL l i k)) := by
  obtain ⟨i3, hi3⟩ := info3_parts
  have HJ := Lib.hid hi3
  have E := specTableIn_any a cap n l w hn hsz hm
  rw [tabIn_true hT] at E
  replace E := Lib.hid E
  have hw := hT.width
  have h6 := hT.2.1
  have h1 := hT.1
  rw [hn] at h6 h1
  have E2 := fun W => l6In_row i n W
  have E3 := fun W => l6In_row k n W
  rw [show rowB (i : Int) n = true from by simp [rowB, inB]; omega] at E2
  rw [show rowB (k : Int) n = true from by simp [rowB, inB]; omega] at E3
  replace E2 := Lib.hid E2
  replace E3 := Lib.hid E3
  have HE3 := Lib.hid (fun (W : World) (hs : w.Since w.heap.size W) => l1Copy_top a cap n l W hn hT (hm.since hs))
  obtain ⟨m, hmm⟩ : ∃ m, (l.getD 0 []).length = m := ⟨_, rfl⟩
  have hrow : ∀ r, r < n → (l.getD r []).length = m := fun r hr => by rw [hT.row (by omega), hmm]
  rw [hmm] at hw
  obtain ⟨bt, ot, At, Ct, rfl, hcc⟩ := hm (by omega)
  have htop : ∀ r, r < n → w.cell? ⟨bt, ot + r, none⟩ = some (.slice (At r) m (Ct r)) := fun r hr => by have := (hcc r (by omega)).1; rw [hrow r hr] at this; exact this
  have hrowr : ∀ r, r < n → ∃ b' o', At r = some ⟨b', o', none⟩ ∧ ∀ j, j < m → w.cell? ⟨b', o' + j, none⟩ = some (.int .i64 ((l.getD r []).getD j 0)) := fun r hr => by
    obtain ⟨b', o', e, h⟩ := (hcc r (by omega)).2 (by rw [hrow r hr]; omega)
    exact ⟨b', o', e, fun j hj => h j (by rw [hrow r hr]; exact hj)⟩
  have HTOP := Lib.hid htop
  have HROWR := Lib.hid hrowr
  have HROW := Lib.hid hrow
  have HN := Lib.hid hn
  clear hm hn hmm hrow hcc htop hrowr hT hsz hi3
  go_enter Try.func44, Try.ntmps44
  go_wp2_with fail
  refine (E.out).mono ?_
  rintro e w1 ⟨rfl, hd⟩
  have hs := hd.since w.heap.size
  clear hd
  go_wp2_with fail
  refine (E2.out w1).mono ?_
  rintro e w2 ⟨rfl, rfl⟩
  go_wp2_with fail
  refine (E3.out w1).mono ?_
  rintro e w2 ⟨rfl, rfl⟩
  go_wp2_with fail
  refine (HE3.out w1 hs).mono ?_
  rintro e w2 ⟨a2, cap2, rfl, hs2, ho2, hfr2⟩
  obtain ⟨b, A, G, C, rfl, hSW⟩ := ho2.sw HN.out (by omega) HROW.out hs2 hfr2
  have HS := Lib.hid (fun (W : World) (h : w1.Since w1.heap.size W) => hs.trans (since_mono h hs.size))
  have HW1 := Lib.hid hSW
  have hz1 := hs.size
  clear hs hs2 ho2 hfr2 hSW
  obtain ⟨b1, o1, hA1, hce1⟩ := HROWR.out k hk
  have d1 := HTOP.out k hk
  rw [hA1] at d1
  rw [← (HS.out w2 HW1.out.since).cell (a := ⟨bt, ot + k, none⟩) (World.block_lt_of_cell? _ _ d1)] at d1
  obtain ⟨x1, hx1⟩ : ∃ x, x = l.getD k [] := ⟨_, rfl⟩
  have hl1 := HROW.out k hk
  rw [← hx1] at hce1 hl1
  have HCE1 := Lib.hid (row_cells hl1 (HS.out w2 HW1.out.since) hce1 (.cells #[] 3))
  have d1a := fun ob => cell_alloc_l ob d1
  have HX1 := Lib.hid hx1
  have HL1 := Lib.hid hl1
  have HOR1 := Lib.hid (own_row w2)
  clear hA1 hce1 hx1 hl1
  go_upto_region 5 with (first
    | (at_builtin; (refine wpList_append_own _ rfl (.tmp 35) (.tmp 39) 32 rfl w2.heap.size 3 i3 (.int .i64 0) 1 8 Try.underlying32 HJ.out.1 HJ.out.2.1 HJ.out.2.2.1 HJ.out.2.2.2 rfl (by decide) _ 0 [] rfl HOR1.out ⟨b1, o1, none⟩ m _ (x1.map (Value.int .i64)) rfl (by rw [List.length_map, HL1.out]; omega) HCE1.out (fun u hu => by obtain ⟨z, _, rfl⟩ := List.mem_map.1 hu; rfl) (by unfold maxLen; omega) (by omega) (by simp) ?_);
        intro v1 w3 hown1 hgrow1 _; have hrb1 := RB.of_append #[] HL1.out hown1 hgrow1; obtain ⟨ra1, rcp1, hv1, hrow1⟩ := hrb1.slice; rw [HL1.out] at hv1; obtain ⟨g1, rfl, hg1, hrow1⟩ := hrow1 (by rw [HL1.out]; omega); subst hv1;
        have HRW1 := Lib.hid hrow1; have HSI1 := Lib.hid hrb1.since; have h31 := HW1.out.later hrb1.since; have k1 := h31.own.top i hi; have f1 := h31.free i hi; clear hown1 hgrow1 hrb1 hrow1 h31))
  have hP := HW1.out.put HSI1.out hg1 HRW1.out HL1.out (by omega) hi (cp := rcp1)
  obtain ⟨w4, hw4⟩ : ∃ w4, w4 = w3.setCell ⟨b, i, none⟩ (.slice (some ⟨g1, 0, none⟩) m rcp1) := ⟨_, rfl⟩
  rw [← hw4] at hP ⊢
  have HW2 := Lib.hid hP
  clear hP hw4 k1 f1 d1 d1a HCE1 HOR1 HRW1 HSI1
  obtain ⟨b2, o2, hA2, hce2⟩ := HROWR.out i hi
  have d2 := HTOP.out i hi
  rw [hA2] at d2
  rw [← (HS.out w4 HW2.out.since).cell (a := ⟨bt, ot + i, none⟩) (World.block_lt_of_cell? _ _ d2)] at d2
  obtain ⟨x2, hx2⟩ : ∃ x, x = l.getD i [] := ⟨_, rfl⟩
  have hl2 := HROW.out i hi
  rw [← hx2] at hce2 hl2
  have HCE2 := Lib.hid (row_cells hl2 (HS.out w4 HW2.out.since) hce2 (.cells #[] 3))
  have d2a := fun ob => cell_alloc_l ob d2
  have HX2 := Lib.hid hx2
  have HL2 := Lib.hid hl2
  have HOR2 := Lib.hid (own_row w4)
  clear hA2 hce2 hx2 hl2
  go_wp2_with (first
    | (at_builtin; (refine wpList_append_own _ rfl (.tmp 44) (.tmp 48) 32 rfl w4.heap.size 3 i3 (.int .i64 0) 1 8 Try.underlying32 HJ.out.1 HJ.out.2.1 HJ.out.2.2.1 HJ.out.2.2.2 rfl (by decide) _ 0 [] rfl HOR2.out ⟨b2, o2, none⟩ m _ (x2.map (Value.int .i64)) rfl (by rw [List.length_map, HL2.out]; omega) HCE2.out (fun u hu => by obtain ⟨z, _, rfl⟩ := List.mem_map.1 hu; rfl) (by unfold maxLen; omega) (by omega) (by simp) ?_);
        intro v2 w5 hown2 hgrow2 _; have hrb2 := RB.of_append #[] HL2.out hown2 hgrow2; obtain ⟨ra2, rcp2, hv2, hrow2⟩ := hrb2.slice; rw [HL2.out] at hv2; obtain ⟨g2, rfl, hg2, hrow2⟩ := hrow2 (by rw [HL2.out]; omega); subst hv2;
        have HRW2 := Lib.hid hrow2; have HSI2 := Lib.hid hrb2.since; have h32 := HW2.out.later hrb2.since; have k2 := h32.own.top k hk; have f2 := h32.free k hk; clear hown2 hgrow2 hrb2 hrow2 h32))
  have hP := HW2.out.put HSI2.out hg2 HRW2.out HL2.out (by omega) hk (cp := rcp2)
  have hO := hP.ownT (l := swapL l i k) ((swapL_length l i k).trans HN.out) (fun r hr => by rw [swapL_get l i k (by rw [HN.out]; exact hr)]; exact HROW.out _ (sw_lt hi hk hr)) (fun r c hr hc => by
    unfold at2
    rw [swapL_get l i k (by rw [HN.out]; exact hr), HX1.out, HX2.out]
    unfold sw
    by_cases e1 : r = k
    · rw [if_pos e1, if_pos e1]
    · rw [if_neg e1, if_neg e1]
      by_cases e2 : r = i
      · rw [if_pos e2, if_pos e2]
      · rw [if_neg e2, if_neg e2])
  have hSS := HS.out _ hP.since
  have HF := Lib.hid (hO.inT.mono hz1 (Nat.le_refl _))
  have HSS := Lib.hid hSS
  have HRL := Lib.hid ((swapL_length l i k).trans HN.out)
  clear hP hO hSS
  go_wp2
  go_ret2
  exact ⟨some ⟨b, 0, none⟩, cap2, by unfold resT; rw [if_pos rfl, HRL.out]; rfl, HSS.out, HF.out⟩

set_option maxHeartbeats 1000000 in
theorem specTableSwap_any (a : Option Addr) (cap n : Nat) (l : List (List Int)) (i k : Int) (w : World) (hn : l.length = n) (hsz : szL l ≤ 1048576) (hm : MatR w a l) :
    Calls Try.prog 44 #[.slice a n cap, .int .i64 i, .int .i64 k] w (SpecT w (swapOk l i k) (swapL l i.toNat k.toNat)) := by
  have E := Lib.hid (specTableIn_any a cap n l w hn hsz hm)
  cases hT : tabIn l with
  | false =>
    have hok : swapOk l i k = false := by unfold swapOk; rw [hT]; rfl
    rw [hT] at E
    rw [hok]
    clear hT hsz hm hn hok
    go_enter Try.func44, Try.ntmps44
    go_wp2_with fail
    refine (E.out).mono ?_
    rintro e w1 ⟨rfl, hd⟩
    have hs := hd.since w.heap.size
    clear hd
    go_wp2_with fail
    refine (l1None_any w1).mono ?_
    rintro e w2 ⟨rfl, hs2⟩
    go_wp2
    go_ret2
    exact ⟨_, _, rfl, hs.trans (since_mono hs2 hs.size), InT.nil _ _ _ _⟩
  | true =>
    have hTT := tabIn_of hT
    have h1 := hTT.1
    have h6 := hTT.2.1
    rw [hn] at h1 h6
    rw [hT] at E
    have E2 := Lib.hid (fun W => l6In_row i n W)
    have E3 := Lib.hid (fun W => l6In_row k n W)
    cases hfr : rowB i n with
    | false =>
      have hok : swapOk l i k = false := by unfold swapOk; rw [hT, hn, hfr]; rfl
      rw [hfr] at E2
      rw [hok]
      clear hT hsz hm hn hok hTT hfr E3
      go_enter Try.func44, Try.ntmps44
      go_wp2_with fail
      refine (E.out).mono ?_
      rintro e w1 ⟨rfl, hd⟩
      have hs := hd.since w.heap.size
      clear hd
      go_wp2_with fail
      refine (E2.out w1).mono ?_
      rintro e w2 ⟨rfl, rfl⟩
      go_wp2_with fail
      refine (l1None_any w1).mono ?_
      rintro e w2 ⟨rfl, hs2⟩
      go_wp2
      go_ret2
      exact ⟨_, _, rfl, hs.trans (since_mono hs2 hs.size), InT.nil _ _ _ _⟩
    | true =>
      rw [hfr] at E2
      cases hto : rowB k n with
      | false =>
        have hok : swapOk l i k = false := by unfold swapOk; rw [hT, hn, hfr, hto]; rfl
        rw [hto] at E3
        rw [hok]
        clear hT hsz hm hn hok hTT hfr hto
        go_enter Try.func44, Try.ntmps44
        go_wp2_with fail
        refine (E.out).mono ?_
        rintro e w1 ⟨rfl, hd⟩
        have hs := hd.since w.heap.size
        clear hd
        go_wp2_with fail
        refine (E2.out w1).mono ?_
        rintro e w2 ⟨rfl, rfl⟩
        go_wp2_with fail
        refine (E3.out w1).mono ?_
        rintro e w2 ⟨rfl, rfl⟩
        go_wp2_with fail
        refine (l1None_any w1).mono ?_
        rintro e w2 ⟨rfl, hs2⟩
        go_wp2
        go_ret2
        exact ⟨_, _, rfl, hs.trans (since_mono hs2 hs.size), InT.nil _ _ _ _⟩
      | true =>
        have hok : swapOk l i k = true := by unfold swapOk; rw [hT, hn, hfr, hto]; rfl
        obtain ⟨i, rfl, hfl⟩ := rowB_of hfr
        obtain ⟨k, rfl, htl⟩ := rowB_of hto
        rw [hok]
        simp only [Int.toNat_natCast]
        exact specTableSwap_yes a cap n l i k w hn hsz hm hTT hfl htl

end Go.Proofs.Ytpoabeniejmpkaa
