/- The contract of spec.TableAdd. -/
import Derived.Test.YteaabemnolacdaaAddImpl
import Derived.Test.YteaabemnolacdaaSumSpec
namespace Go.Proofs.Yteaabemnolacdaa
open Go.RowKit Go.Deep

theorem WR.start {w1 wr : World} {b n m : Nat} {A : Nat → Option Addr} {G C : Nat → Nat} {F : Nat → Nat → Int} {l : List (List Int)} {i hi : Nat} (h : WR w1 wr b n m A G C F l 0 0 hi) (hF : ∀ r c, r < i → F r c = at2 l r c) : WR w1 wr b n m A G C F l i 0 hi :=
  ⟨h.since, h.size, h.own.congr fun r _ c _ => by
    unfold updF
    rw [if_neg (by omega)]
    by_cases h2 : r < i ∨ (r = i ∧ c < 0)
    · rw [if_pos h2, hF r c (by omega)]
    · rw [if_neg h2]⟩
theorem WR.finish {w1 wr : World} {b n m : Nat} {A : Nat → Option Addr} {G C : Nat → Nat} {F : Nat → Nat → Int} {l : List (List Int)} {i hi : Nat} (h : WR w1 wr b n m A G C F l i m hi) (hF : ∀ r c, i < r → F r c = at2 l r c) : WR w1 wr b n m A G C F l n 0 hi :=
  ⟨h.since, h.size, h.own.congr fun r hr c hc => by
    have hc' : c < m := hc
    unfold updF
    rw [if_pos (show r < n ∨ (r = n ∧ c < 0) from .inl hr)]
    by_cases h2 : r < i ∨ (r = i ∧ c < m)
    · rw [if_pos h2]
    · rw [if_neg h2, hF r c (by omega)]⟩

theorem l6In_row (i : Int) (n : Nat) (w : World) : Calls Try.prog 64 #[.int .i64 i, .int .i64 0, .int .i64 ((n : Int) - 1)] w fun e w' => e = .returned (.bool (rowB i n)) ∧ w = w' := l6In_any i 0 ((n : Int) - 1) w

set_option maxRecDepth 100000 in
set_option maxHeartbeats 2000000 in
theorem specTableAdd_yes (a : Option Addr) (cap n : Nat) (l : List (List Int)) (fr to : Nat) (f : Int) (w : World) (hn : l.length = n) (hsz : szL l ≤ 1048576) (hm : MatR w a l) (hT : TabIn l) (hfr : fr < n) (hto : to < n) (hne : fr ≠ to) (hf : inB f (-30) 30 = true) :
    Calls Try.prog 51 #[.slice a n cap, .int .i64 fr, .int .i64 to, .int .i64 f] w (SpecT w (tabIn (addL l fr to f)) (addL l fr to f)) := by
  have E := specTableIn_any a cap n l w hn hsz hm
  rw [tabIn_true hT] at E
  replace E := Lib.hid E
  have hw := hT.width
  have h6 := hT.2.1
  have h1 := hT.1
  rw [hn] at h6 h1
  have E2 := fun W => l6In_row fr n W
  have E3 := fun W => l6In_row to n W
  rw [show rowB (fr : Int) n = true from by simp [rowB, inB]; omega] at E2
  rw [show rowB (to : Int) n = true from by simp [rowB, inB]; omega] at E3
  replace E2 := Lib.hid E2
  replace E3 := Lib.hid E3
  have E5 := Lib.hid (fun W => l6In_at f (-30) 30 true W hf)
  have HE3 := Lib.hid (fun (W : World) (hs : w.Since w.heap.size W) => l1Copy_any a cap n l W hn hT (hm.since hs))
  have hff := of_decide_eq_true hf
  have hszl := szL_add fr to f hT
  have htl := (addL_length l fr to f).trans hn
  obtain ⟨m, hmm⟩ : ∃ m, (l.getD 0 []).length = m := ⟨_, rfl⟩
  have hrow : ∀ r, r < n → (l.getD r []).length = m := fun r hr => by rw [hT.row (by omega), hmm]
  have htf : addL l fr to f = tabF n m (addF l fr to f) := by unfold addL; rw [hmm, hn]
  obtain ⟨bt, ot, At, Ct, rfl, hlen, hcell⟩ := hm.grid hn hT hmm
  rw [hmm] at hw
  have heq : ((fr : Int) == (to : Int)) = false := by simp; omega
  have HC := Lib.hid hcell
  have HLEN := Lib.hid hlen
  have HROW := Lib.hid hrow
  have HTL := Lib.hid htl
  have HTF := Lib.hid htf
  have HN := Lib.hid hn
  clear hm hn hmm hrow hcell hlen htf htl hT hf hsz
  go_enter Try.func51, Try.ntmps51
  go_wp2_with fail
  refine (E.out).mono ?_
  rintro e w1 ⟨rfl, hd⟩
  have hs := hd.since w.heap.size
  clear hd
  go_wp2_with fail
  refine (E2.out w1).mono ?_
  rintro e w2 ⟨rfl, rfl⟩
  go_wp2_with fail
  refine (E3.out w1).mono ?_
  rintro e w2 ⟨rfl, rfl⟩
  go_wp2_with fail
  refine (E5.out w1).mono ?_
  rintro e w2 ⟨rfl, rfl⟩
  go_wp2_with fail
  refine (HE3.out w1 hs).mono ?_
  rintro e w2 ⟨a2, cap2, rfl, hs2, ho2⟩
  obtain ⟨b, A, G, C, rfl, hb, hWR⟩ := ho2.wr HN.out (by omega) HROW.out hs2 (addF l fr to f)
  have hWR2 := hWR.start (i := to) (fun r c hr => by unfold addF; rw [if_neg (by omega)])
  have HB := Lib.hid hb
  have HWR := Lib.hid hWR2
  have hz2 := hs2.size
  have hz1 := hs.size
  clear hb hWR ho2 hWR2
  go_wp2
  go_loopg [11] m (fun g j wi => ∃ c : Nat, c ≤ m ∧ g = m - c ∧ j = .int .i64 c ∧ WR w1 wi b n m A G C (addF l fr to f) l to c w2.heap.size)
  case atStart => exact ⟨0, Nat.zero_le _, rfl, rfl, HWR.out⟩
  case round =>
    obtain ⟨c, hc, rfl, rfl, hI⟩ := hrel
    clear HWR
    have hS := hs.trans (since_mono hI.since hz1)
    have hlr := HLEN.out to hto
    rw [← hS.cell (a := ⟨bt, ot + to, none⟩) (World.block_lt_of_cell? _ _ hlr)] at hlr
    by_cases hcm : c < m
    · clear hlr
      obtain ⟨b', o', e1, e2, e3, e4⟩ := HC.out to c hto hcm
      obtain ⟨d', q', g1, g2, g3, g4⟩ := HC.out fr c hfr hcm
      obtain ⟨f1, f2, f3, f4, f5⟩ := hI.facts hto hcm
      have hb1 : bt < w.heap.size := World.block_lt_of_cell? _ _ e1
      have hb2 : b' < w.heap.size := World.block_lt_of_cell? _ _ e2
      have hb4 : d' < w.heap.size := World.block_lt_of_cell? _ _ g2
      rw [← hS.cell (a := ⟨bt, ot + to, none⟩) hb1] at e1
      rw [← hS.cell (a := ⟨b', o' + c, none⟩) hb2] at e2
      rw [← hS.cell (a := ⟨bt, ot + fr, none⟩) hb1] at g1
      rw [← hS.cell (a := ⟨d', q' + c, none⟩) hb4] at g2
      obtain ⟨g, hg⟩ : ∃ g, G to = g := ⟨_, rfl⟩
      rw [hg] at f1 f2 f3 f4 f5
      obtain ⟨y, hy⟩ : ∃ y, at2 l to c = y := ⟨_, rfl⟩
      obtain ⟨z, hz⟩ : ∃ z, at2 l fr c = z := ⟨_, rfl⟩
      rw [hy] at e2 e3 e4 f2
      rw [hz] at g2 g3 g4
      have hp := mul_bd hff.1 hff.2 g3 g4
      have hwr1 : IntKind.i64.wrap (f * z) = f * z := IntWalk.i64_in _ ⟨by omega, by omega⟩
      have hwr2 : IntKind.i64.wrap (y + f * z) = y + f * z := IntWalk.i64_in _ ⟨by omega, by omega⟩
      have k1 := cell_set_ne (j := c) (v := .int .i64 (y + f * z)) f1 (show b ≠ g from fun e => f5 e.symm)
      have k2 := cell_set_ne (g := g) (j := c) (v := .int .i64 (y + f * z)) e1 (show bt ≠ g by omega)
      have k3 := cell_set_ne (g := g) (j := c) (v := .int .i64 (y + f * z)) e2 (show b' ≠ g by omega)
      have k4 := cell_set_ne (g := g) (j := c) (v := .int .i64 (y + f * z)) g1 (show bt ≠ g by omega)
      have k5 := cell_set_ne (g := g) (j := c) (v := .int .i64 (y + f * z)) g2 (show d' ≠ g by omega)
      have HII := Lib.hid hI
      have HY := Lib.hid hy
      have HZ := Lib.hid hz
      have HG := Lib.hid hg
      clear hI hy hg hz
      go_wp2
      go_region_held3 (fun w' => w'.cell? ⟨b, to, none⟩ = some (.slice (some ⟨g, 0, none⟩) m (C to)) ∧ w'.cell? ⟨bt, ot + to, none⟩ = some (.slice (some ⟨b', o', none⟩) m (Ct to)) ∧ w'.cell? ⟨b', o' + c, none⟩ = some (.int .i64 y)
        ∧ w'.cell? ⟨bt, ot + fr, none⟩ = some (.slice (some ⟨d', q', none⟩) m (Ct fr)) ∧ w'.cell? ⟨d', q' + c, none⟩ = some (.int .i64 z)) (go_keep) (fail)
      have hN := HII.out.store hto hcm 1
      rw [HG.out] at hN
      have hval : addF l fr to f to c = y + f * z := by unfold addF; rw [if_pos rfl, HY.out, HZ.out]
      rw [hval] at hN
      have HNN := Lib.hid hN
      clear hN hval k1 k2 k3 k4 k5 e1 e2 g1 g2 f1 f2 f3 hwr1 hwr2 hS
      all_goals
        go_wp2
        go_roundg (m - (c + 1))
        case measure => omega
        case rel => exact ⟨c + 1, by omega, rfl, by go_num, HNN.out⟩
    · have : c = m := by omega
      subst this
      have hR := hI.finish (fun r c hr => by unfold addF; rw [if_neg (by omega)])
      have hfin := hR.ownT HB.out
      have hS2 := hR.since
      have hsz3 : w2.heap.size ≤ wr.heap.size := hR.size
      rw [← HTF.out] at hfin
      have HF := Lib.hid hfin.inT
      clear hR hfin hI hS
      go_wp2_with fail
      refine (l1Done_any _ _ _ _ _ (addL l fr to f) wr HTL.out hszl HF.out).mono ?_
      rintro e w4 ⟨a', cap', rfl, hs4, ho4⟩
      go_wp2
      go_ret2
      exact ⟨a', cap', rfl, (hs.trans (since_mono hS2 hz1)).trans (since_mono hs4 (by have := hS2.size; omega)), ho4.mono hz1 (by have := hs4.size; omega)⟩

set_option maxHeartbeats 1000000 in
theorem specTableAdd_any (a : Option Addr) (cap n : Nat) (l : List (List Int)) (fr to f : Int) (w : World) (hn : l.length = n) (hsz : szL l ≤ 1048576) (hm : MatR w a l) :
    Calls Try.prog 51 #[.slice a n cap, .int .i64 fr, .int .i64 to, .int .i64 f] w (SpecT w (addOk l fr to f) (addL l fr.toNat to.toNat f)) := by
  have E := Lib.hid (specTableIn_any a cap n l w hn hsz hm)
  cases hT : tabIn l with
  | false =>
    have hok : addOk l fr to f = false := by unfold addOk; rw [hT]; rfl
    rw [hT] at E
    rw [hok]
    clear hT hsz hm hn hok
    go_enter Try.func51, Try.ntmps51
    go_wp2_with fail
    refine (E.out).mono ?_
    rintro e w1 ⟨rfl, hd⟩
    have hs := hd.since w.heap.size
    clear hd
    go_wp2_with fail
    refine (l1None_any w1).mono ?_
    rintro e w2 ⟨rfl, hs2⟩
    go_wp2
    go_ret2
    exact ⟨_, _, rfl, hs.trans (since_mono hs2 hs.size), InT.nil _ _ _ _⟩
  | true =>
    have hTT := tabIn_of hT
    have h1 := hTT.1
    have h6 := hTT.2.1
    rw [hn] at h1 h6
    rw [hT] at E
    have E2 := Lib.hid (fun W => l6In_row fr n W)
    have E3 := Lib.hid (fun W => l6In_row to n W)
    cases hfr : rowB fr n with
    | false =>
      have hok : addOk l fr to f = false := by unfold addOk; rw [hT, hn, hfr]; rfl
      rw [hfr] at E2
      rw [hok]
      clear hT hsz hm hn hok hTT hfr E3
      go_enter Try.func51, Try.ntmps51
      go_wp2_with fail
      refine (E.out).mono ?_
      rintro e w1 ⟨rfl, hd⟩
      have hs := hd.since w.heap.size
      clear hd
      go_wp2_with fail
      refine (E2.out w1).mono ?_
      rintro e w2 ⟨rfl, rfl⟩
      go_wp2_with fail
      refine (l1None_any w1).mono ?_
      rintro e w2 ⟨rfl, hs2⟩
      go_wp2
      go_ret2
      exact ⟨_, _, rfl, hs.trans (since_mono hs2 hs.size), InT.nil _ _ _ _⟩
    | true =>
      rw [hfr] at E2
      cases hto : rowB to n with
      | false =>
        have hok : addOk l fr to f = false := by unfold addOk; rw [hT, hn, hfr, hto]; rfl
        rw [hto] at E3
        rw [hok]
        clear hT hsz hm hn hok hTT hfr hto
        go_enter Try.func51, Try.ntmps51
        go_wp2_with fail
        refine (E.out).mono ?_
        rintro e w1 ⟨rfl, hd⟩
        have hs := hd.since w.heap.size
        clear hd
        go_wp2_with fail
        refine (E2.out w1).mono ?_
        rintro e w2 ⟨rfl, rfl⟩
        go_wp2_with fail
        refine (E3.out w1).mono ?_
        rintro e w2 ⟨rfl, rfl⟩
        go_wp2_with fail
        refine (l1None_any w1).mono ?_
        rintro e w2 ⟨rfl, hs2⟩
        go_wp2
        go_ret2
        exact ⟨_, _, rfl, hs.trans (since_mono hs2 hs.size), InT.nil _ _ _ _⟩
      | true =>
        rw [hto] at E3
        cases heq : (fr == to) with
        | true =>
          have hok : addOk l fr to f = false := by unfold addOk; rw [hT, hn, hfr, hto, heq]; rfl
          rw [hok]
          clear hT hsz hm hn hok hTT hfr hto
          go_enter Try.func51, Try.ntmps51
          go_wp2_with fail
          refine (E.out).mono ?_
          rintro e w1 ⟨rfl, hd⟩
          have hs := hd.since w.heap.size
          clear hd
          go_wp2_with fail
          refine (E2.out w1).mono ?_
          rintro e w2 ⟨rfl, rfl⟩
          go_wp2_with fail
          refine (E3.out w1).mono ?_
          rintro e w2 ⟨rfl, rfl⟩
          go_wp2_with fail
          refine (l1None_any w1).mono ?_
          rintro e w2 ⟨rfl, hs2⟩
          go_wp2
          go_ret2
          exact ⟨_, _, rfl, hs.trans (since_mono hs2 hs.size), InT.nil _ _ _ _⟩
        | false =>
          have E5 := Lib.hid (fun W => l6In_at f (-30) 30 (inB f (-30) 30) W rfl)
          cases hf : inB f (-30) 30 with
          | false =>
            have hok : addOk l fr to f = false := by unfold addOk; rw [hT, hn, hfr, hto, heq, hf]; rfl
            rw [hf] at E5
            rw [hok]
            clear hT hsz hm hn hok hTT hfr hto hf
            go_enter Try.func51, Try.ntmps51
            go_wp2_with fail
            refine (E.out).mono ?_
            rintro e w1 ⟨rfl, hd⟩
            have hs := hd.since w.heap.size
            clear hd
            go_wp2_with fail
            refine (E2.out w1).mono ?_
            rintro e w2 ⟨rfl, rfl⟩
            go_wp2_with fail
            refine (E3.out w1).mono ?_
            rintro e w2 ⟨rfl, rfl⟩
            go_wp2_with fail
            refine (E5.out w1).mono ?_
            rintro e w2 ⟨rfl, rfl⟩
            go_wp2_with fail
            refine (l1None_any w1).mono ?_
            rintro e w2 ⟨rfl, hs2⟩
            go_wp2
            go_ret2
            exact ⟨_, _, rfl, hs.trans (since_mono hs2 hs.size), InT.nil _ _ _ _⟩
          | true =>
            have hok : addOk l fr to f = tabIn (addL l fr.toNat to.toNat f) := by unfold addOk; rw [hT, hn, hfr, hto, heq, hf]; rfl
            obtain ⟨fr, rfl, hfl⟩ := rowB_of hfr
            obtain ⟨to, rfl, htl⟩ := rowB_of hto
            rw [hok]
            simp only [Int.toNat_natCast]
            have hne : fr ≠ to := by
              rintro rfl
              simp at heq
            exact specTableAdd_yes a cap n l fr to f w hn hsz hm hTT hfl htl hne hf

theorem szL_addOk (l : List (List Int)) (fr to f : Int) (h : addOk l fr to f = true) : szL (addL l fr.toNat to.toNat f) ≤ 1048576 := by
  unfold addOk at h
  rw [Bool.and_eq_true] at h
  exact szL_add _ _ f (tabIn_of h.1)

end Go.Proofs.Yteaabemnolacdaa
