/- The contract of spec.TableTimes. -/
import Derived.Test.YtkfondipmhjhjaaWR
import Derived.Test.YtkfondipmhjhjaaTimesImpl
namespace Go.Proofs.Ytkfondipmhjhjaa
open Go.RowKit Go.Deep


set_option maxRecDepth 100000 in
set_option maxHeartbeats 2000000 in
theorem specTableTimes_yes (a : Option Addr) (cap n : Nat) (l : List (List Int)) (f : Int) (w : World) (hn : l.length = n) (hsz : szL l ≤ 1048576) (hm : MatR w a l) (hT : TabIn l) (hf : inB f (-30) 30 = true) :
    Calls Try.prog 46 #[.slice a n cap, .int .i64 f] w (SpecT w (tabIn (timesL l f)) (timesL l f)) := by
  have E1 := specTableIn_any a cap n l w hn hsz hm
  rw [tabIn_true hT] at E1
  have HE1 := Lib.hid E1
  have HE2 := Lib.hid (fun W => l6In_at f (-30) 30 true W hf)
  have HE3 := Lib.hid (fun (W : World) (hs : w.Since w.heap.size W) => l1Copy_any a cap n l W hn hT (hm.since hs))
  have hff := of_decide_eq_true hf
  have hw := hT.width
  have h6 := hT.2.1
  have h1 := hT.1
  rw [hn] at h6 h1
  have hszl := szL_times f hT
  have htl := (timesL_length l f).trans hn
  obtain ⟨bt, ot, At, Ct, rfl, hc⟩ := hm (by omega)
  obtain ⟨m, hmm⟩ : ∃ m, (l.getD 0 []).length = m := ⟨_, rfl⟩
  have hrow : ∀ r, r < n → (l.getD r []).length = m := fun r hr => by rw [hT.row (by omega), hmm]
  have hcell : ∀ i j, i < n → j < m → ∃ b' o', w.cell? ⟨bt, ot + i, none⟩ = some (.slice (some ⟨b', o', none⟩) m (Ct i)) ∧ w.cell? ⟨b', o' + j, none⟩ = some (.int .i64 (at2 l i j)) ∧ -30 ≤ at2 l i j ∧ at2 l i j ≤ 30 := fun i j hi hj => by
    have hrl := hrow i hi
    obtain ⟨hc1, hc2⟩ := hc i (by omega)
    obtain ⟨b', o', e, h3⟩ := hc2 (by omega)
    rw [e, hrl] at hc1
    exact ⟨b', o', hc1, h3 j (by omega), hT.at (by omega) (by rw [hmm]; exact hj)⟩
  have hlen : ∀ i, i < n → w.cell? ⟨bt, ot + i, none⟩ = some (.slice (At i) m (Ct i)) := fun i hi => by rw [(hc i (by omega)).1, hrow i hi]
  have htf : timesL l f = tabF n m fun i k => at2 l i k * f := by unfold timesL; rw [hmm, hn]
  rw [hmm] at hw
  have HC := Lib.hid hcell
  have HLEN := Lib.hid hlen
  have HROW := Lib.hid hrow
  have HTL := Lib.hid htl
  have HTF := Lib.hid htf
  have HN := Lib.hid hn
  clear hc hm hn hmm hrow hcell hlen htf htl hT hf E1 hsz
  go_enter Try.func46, Try.ntmps46
  go_wp2_with fail
  refine (HE1.out).mono ?_
  rintro e w1 ⟨rfl, hd⟩
  have hs1 := hd.since w.heap.size
  clear hd
  go_wp2_with fail
  refine (HE2.out w1).mono ?_
  rintro e w2 ⟨rfl, rfl⟩
  go_wp2_with fail
  refine (HE3.out w1 hs1).mono ?_
  rintro e w2 ⟨a2, cap2, rfl, hs2, ho2⟩
  obtain ⟨b, A, G, C, rfl, hb, hWR⟩ := ho2.wr HN.out (by omega) HROW.out hs2 (fun i k => at2 l i k * f)
  have HB := Lib.hid hb
  have HWR := Lib.hid hWR
  have hz2 := hs2.size
  have hz1 := hs1.size
  clear hb hWR ho2
  go_wp2
  go_loopg [7, 8] n (fun g i _ wr => ∃ r : Nat, r ≤ n ∧ g = n - r ∧ i = .int .i64 r ∧ WR w1 wr b n m A G C (fun i k => at2 l i k * f) l r 0 w2.heap.size)
  case atStart => exact ⟨0, Nat.zero_le _, rfl, rfl, HWR.out⟩
  case round =>
    obtain ⟨r, hr, rfl, rfl, hR⟩ := hrel
    clear HWR
    by_cases hlt : r < n
    · have HR := Lib.hid hR
      clear hR
      go_wp2
      go_loopg [8] m (fun g j wi => ∃ c : Nat, c ≤ m ∧ g = m - c ∧ j = .int .i64 c ∧ WR w1 wi b n m A G C (fun i k => at2 l i k * f) l r c w2.heap.size)
      case atStart => exact ⟨0, Nat.zero_le _, rfl, rfl, HR.out⟩
      case round =>
        obtain ⟨c, hc, rfl, rfl, hI⟩ := hrel
        clear HR
        have hS := hs1.trans (since_mono hI.since hz1)
        have hlr := HLEN.out r hlt
        rw [← hS.cell (a := ⟨bt, ot + r, none⟩) (World.block_lt_of_cell? _ _ hlr)] at hlr
        by_cases hcm : c < m
        · clear hlr
          obtain ⟨b', o', e1, e2, e3, e4⟩ := HC.out r c hlt hcm
          obtain ⟨f1, f2, f3, f4, f5⟩ := hI.facts hlt hcm
          have hb1 : bt < w.heap.size := World.block_lt_of_cell? _ _ e1
          have hb2 : b' < w.heap.size := World.block_lt_of_cell? _ _ e2
          rw [← hS.cell (a := ⟨bt, ot + r, none⟩) hb1] at e1
          rw [← hS.cell (a := ⟨b', o' + c, none⟩) hb2] at e2
          obtain ⟨g, hg⟩ : ∃ g, G r = g := ⟨_, rfl⟩
          rw [hg] at f1 f2 f3 f4 f5
          obtain ⟨y, hy⟩ : ∃ y, at2 l r c = y := ⟨_, rfl⟩
          rw [hy] at e2 e3 e4 f2
          have hp := mul_bd hff.1 hff.2 e3 e4
          have hwr : IntKind.i64.wrap (f * y) = f * y := IntWalk.i64_in _ ⟨by omega, by omega⟩
          have k1 := cell_set_ne (j := c) (v := .int .i64 (f * y)) f1 (show b ≠ g from fun e => f5 e.symm)
          have k2 := cell_set_ne (g := g) (j := c) (v := .int .i64 (f * y)) e1 (show bt ≠ g by omega)
          have k3 := cell_set_ne (g := g) (j := c) (v := .int .i64 (f * y)) e2 (show b' ≠ g by omega)
          have HII := Lib.hid hI
          have HY := Lib.hid hy
          have HG := Lib.hid hg
          clear hI hy hg
          go_wp2
          go_region_held3 (fun w' => w'.cell? ⟨b, r, none⟩ = some (.slice (some ⟨g, 0, none⟩) m (C r)) ∧ w'.cell? ⟨bt, ot + r, none⟩ = some (.slice (some ⟨b', o', none⟩) m (Ct r)) ∧ w'.cell? ⟨b', o' + c, none⟩ = some (.int .i64 y)) (go_keep) (fail)
          have hN := HII.out.store hlt hcm 1
          rw [HG.out] at hN
          have hval : at2 l r c * f = f * y := by rw [HY.out]; exact Int.mul_comm _ _
          rw [hval] at hN
          have HNN := Lib.hid hN
          clear hN hval k1 k2 k3 e1 e2 f1 f2 f3 hwr hS
          all_goals
            go_wp2
            go_roundg (m - (c + 1))
            case measure => omega
            case rel => exact ⟨c + 1, by omega, rfl, by go_num, HNN.out⟩
        · have hcc : c = m := by omega
          subst hcc
          have HNN := Lib.hid hI.next
          clear hI hS
          go_wp2
          go_roundg (n - (r + 1))
          case measure => omega
          case rel => exact ⟨r + 1, by omega, rfl, by go_num, HNN.out⟩
    · have : r = n := by omega
      subst this
      have hfin := hR.ownT HB.out
      have hS := hR.since
      have hsz3 : w2.heap.size ≤ wr.heap.size := hR.size
      rw [← HTF.out] at hfin
      have HF := Lib.hid hfin.inT
      clear hR hfin
      go_wp2_with fail
      refine (l1Done_any _ _ _ _ _ (timesL l f) wr HTL.out hszl HF.out).mono ?_
      rintro e w4 ⟨a', cap', rfl, hs4, ho4⟩
      go_wp2
      go_ret2
      exact ⟨a', cap', rfl, (hs1.trans (since_mono hS hz1)).trans (since_mono hs4 (by have := hS.size; omega)), ho4.mono hz1 (by have := hs4.size; omega)⟩

set_option maxHeartbeats 1000000 in
theorem specTableTimes_any (a : Option Addr) (cap n : Nat) (l : List (List Int)) (f : Int) (w : World) (hn : l.length = n) (hsz : szL l ≤ 1048576) (hm : MatR w a l) :
    Calls Try.prog 46 #[.slice a n cap, .int .i64 f] w (SpecT w (timesOk l f) (timesL l f)) := by
  have E := Lib.hid (specTableIn_any a cap n l w hn hsz hm)
  cases hT : tabIn l with
  | false =>
    have hok : timesOk l f = false := by unfold timesOk; rw [hT]; rfl
    rw [hT] at E
    rw [hok]
    clear hT hsz hm hn hok
    go_enter Try.func46, Try.ntmps46
    go_wp2_with fail
    refine (E.out).mono ?_
    rintro e w1 ⟨rfl, hd⟩
    have hs := hd.since w.heap.size
    clear hd
    go_wp2_with fail
    refine (l1None_any w1).mono ?_
    rintro e w2 ⟨rfl, hs2⟩
    go_wp2
    go_ret2
    exact ⟨_, _, rfl, hs.trans (since_mono hs2 hs.size), InT.nil _ _ _ _⟩
  | true =>
    have hTT := tabIn_of hT
    cases hf : inB f (-30) 30 with
    | false =>
      have hok : timesOk l f = false := by unfold timesOk; rw [hT, hf]; rfl
      have E2 := Lib.hid (fun W => l6In_at f (-30) 30 false W hf)
      rw [hT] at E
      rw [hok]
      clear hT hsz hm hn hok hf hTT
      go_enter Try.func46, Try.ntmps46
      go_wp2_with fail
      refine (E.out).mono ?_
      rintro e w1 ⟨rfl, hd⟩
      have hs := hd.since w.heap.size
      clear hd
      go_wp2_with fail
      refine (E2.out w1).mono ?_
      rintro e w2 ⟨rfl, rfl⟩
      go_wp2_with fail
      refine (l1None_any w1).mono ?_
      rintro e w2 ⟨rfl, hs2⟩
      go_wp2
      go_ret2
      exact ⟨_, _, rfl, hs.trans (since_mono hs2 hs.size), InT.nil _ _ _ _⟩
    | true =>
      have hok : timesOk l f = tabIn (timesL l f) := by unfold timesOk; rw [hT, hf]; rfl
      rw [hok]
      exact specTableTimes_yes a cap n l f w hn hsz hm hTT hf

theorem szL_timesOk (l : List (List Int)) (f : Int) (h : timesOk l f = true) : szL (timesL l f) ≤ 1048576 := by
  unfold timesOk at h
  rw [Bool.and_eq_true] at h
  exact szL_times f (tabIn_of h.1)

end Go.Proofs.Ytkfondipmhjhjaa
