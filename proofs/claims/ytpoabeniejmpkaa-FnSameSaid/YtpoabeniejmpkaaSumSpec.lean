/- The contract of spec.TableSum. -/
import Derived.Test.YtpoabeniejmpkaaSumSpec0
import Derived.Test.YtpoabeniejmpkaaGrid
namespace Go.Proofs.Ytpoabeniejmpkaa
open Go.RowKit Go.Deep

set_option maxRecDepth 100000 in
set_option maxHeartbeats 2000000 in
theorem specTableSum_yes (a a2 : Option Addr) (cap cap2 n : Nat) (l u : List (List Int)) (w : World) (hn : l.length = n) (hu : u.length = n) (hsz : szL l ≤ 1048576) (hszu : szL u ≤ 1048576) (hm : MatR w a l) (hmu : MatR w a2 u)
    (hT : TabIn l) (hTu : TabIn u) (huw : (u.getD 0 []).length = (l.getD 0 []).length) :
    Calls Try.prog 39 #[.slice a n cap, .slice a2 n cap2] w (SpecT w (tabIn (sumL l u)) (sumL l u)) := by
  have E1 := fun (p : Nat) => specTableIn_any a cap n l (w.drewN p) hn hsz hm
  have E2 := fun (p : Nat) => specTableIn_any a2 cap2 n u (w.drewN p) hu hszu hmu
  rw [tabIn_true hT] at E1
  rw [tabIn_true hTu] at E2
  have HE1 := Lib.hid E1
  have HE2 := Lib.hid E2
  have HE3 := Lib.hid (fun (W : World) (hs : w.Since w.heap.size W) => l1Copy_any a cap n l W hn hT (hm.since hs))
  have hw := hT.width
  have h6 := hT.2.1
  have h1 := hT.1
  rw [hn] at h6 h1
  have hszl := szL_sum u hT
  have htl := (sumL_length l u).trans hn
  obtain ⟨m, hmm⟩ : ∃ m, (l.getD 0 []).length = m := ⟨_, rfl⟩
  have hrow : ∀ r, r < n → (l.getD r []).length = m := fun r hr => by rw [hT.row (by omega), hmm]
  have htf : sumL l u = tabF n m fun i k => at2 l i k + at2 u i k := by unfold sumL; rw [hmm, hn]
  obtain ⟨bt, ot, At, Ct, rfl, hlen, hcell⟩ := hm.grid hn hT hmm
  obtain ⟨bu, ou, Au, Cu, rfl, hlenu, hcellu⟩ := hmu.grid hu hTu (huw.trans hmm)
  rw [hmm] at hw
  have hc0 := hlen 0 (by omega)
  have hcu0 := hlenu 0 (by omega)
  rw [Nat.add_zero] at hc0 hcu0
  have HC := Lib.hid hcell
  have HCU := Lib.hid hcellu
  have HLEN := Lib.hid hlen
  have HROW := Lib.hid hrow
  have HTL := Lib.hid htl
  have HTF := Lib.hid htf
  have HN := Lib.hid hn
  clear hm hn hmm hrow hcell hlen htf htl hT E1 E2 hsz hszu hmu hTu huw hlenu hcellu hu
  go_enter Try.func39, Try.ntmps39
  go_wp2
  go_quiet (((first | (go_at_call_of 60 (Value.slice (some ⟨bt, ot, none⟩) n cap); exact Calls.quiet_of (HE1.out _)) | (go_at_call_of 60 (Value.slice (some ⟨bu, ou, none⟩) n cap2); exact Calls.quiet_of (HE2.out _)))))
  go_wp2_with fail
  have hs1 : w.Since w.heap.size (w.drewN nq) := since_drewN (World.Since.refl _ _) _
  refine (HE3.out (w.drewN nq) hs1).mono ?_
  obtain ⟨w1, hw1⟩ : ∃ w1, w1 = w.drewN nq := ⟨_, rfl⟩
  rw [← hw1] at hs1 ⊢
  have HW1 := Lib.hid hw1
  clear hw1 hc0 hcu0
  rintro e w2 ⟨a2, cap2, rfl, hs2, ho2⟩
  obtain ⟨b, A, G, C, rfl, hb, hWR⟩ := ho2.wr HN.out (by omega) HROW.out hs2 (fun i k => at2 l i k + at2 u i k)
  have HB := Lib.hid hb
  have HWR := Lib.hid hWR
  have hz2 := hs2.size
  have hz1 := hs1.size
  clear hb hWR ho2
  go_wp2
  go_loopg [7, 8] n (fun g i _ wr => ∃ r : Nat, r ≤ n ∧ g = n - r ∧ i = .int .i64 r ∧ WR w1 wr b n m A G C (fun i k => at2 l i k + at2 u i k) l r 0 w2.heap.size)
  case atStart => exact ⟨0, Nat.zero_le _, rfl, rfl, HWR.out⟩
  case round =>
    obtain ⟨r, hr, rfl, rfl, hR⟩ := hrel
    clear HWR
    by_cases hlt : r < n
    · have HR := Lib.hid hR
      clear hR
      go_wp2
      go_loopg [8] m (fun g j wi => ∃ c : Nat, c ≤ m ∧ g = m - c ∧ j = .int .i64 c ∧ WR w1 wi b n m A G C (fun i k => at2 l i k + at2 u i k) l r c w2.heap.size)
      case atStart => exact ⟨0, Nat.zero_le _, rfl, rfl, HR.out⟩
      case round =>
        obtain ⟨c, hc, rfl, rfl, hI⟩ := hrel
        clear HR
        have hS := hs1.trans (since_mono hI.since hz1)
        have hlr := HLEN.out r hlt
        rw [← hS.cell (a := ⟨bt, ot + r, none⟩) (World.block_lt_of_cell? _ _ hlr)] at hlr
        by_cases hcm : c < m
        · clear hlr
          obtain ⟨b', o', e1, e2, e3, e4⟩ := HC.out r c hlt hcm
          obtain ⟨d', q', g1, g2, g3, g4⟩ := HCU.out r c hlt hcm
          obtain ⟨f1, f2, f3, f4, f5⟩ := hI.facts hlt hcm
          have hb1 : bt < w.heap.size := World.block_lt_of_cell? _ _ e1
          have hb2 : b' < w.heap.size := World.block_lt_of_cell? _ _ e2
          have hb3 : bu < w.heap.size := World.block_lt_of_cell? _ _ g1
          have hb4 : d' < w.heap.size := World.block_lt_of_cell? _ _ g2
          rw [← hS.cell (a := ⟨bt, ot + r, none⟩) hb1] at e1
          rw [← hS.cell (a := ⟨b', o' + c, none⟩) hb2] at e2
          rw [← hS.cell (a := ⟨bu, ou + r, none⟩) hb3] at g1
          rw [← hS.cell (a := ⟨d', q' + c, none⟩) hb4] at g2
          obtain ⟨g, hg⟩ : ∃ g, G r = g := ⟨_, rfl⟩
          rw [hg] at f1 f2 f3 f4 f5
          obtain ⟨y, hy⟩ : ∃ y, at2 l r c = y := ⟨_, rfl⟩
          obtain ⟨z, hz⟩ : ∃ z, at2 u r c = z := ⟨_, rfl⟩
          rw [hy] at e2 e3 e4 f2
          rw [hz] at g2 g3 g4
          have hwr : IntKind.i64.wrap (y + z) = y + z := IntWalk.i64_in _ ⟨by omega, by omega⟩
          have k1 := cell_set_ne (j := c) (v := .int .i64 (y + z)) f1 (show b ≠ g from fun e => f5 e.symm)
          have k2 := cell_set_ne (g := g) (j := c) (v := .int .i64 (y + z)) e1 (show bt ≠ g by omega)
          have k3 := cell_set_ne (g := g) (j := c) (v := .int .i64 (y + z)) e2 (show b' ≠ g by omega)
          have k4 := cell_set_ne (g := g) (j := c) (v := .int .i64 (y + z)) g1 (show bu ≠ g by omega)
          have k5 := cell_set_ne (g := g) (j := c) (v := .int .i64 (y + z)) g2 (show d' ≠ g by omega)
          have HII := Lib.hid hI
          have HY := Lib.hid hy
          have HZ := Lib.hid hz
          have HG := Lib.hid hg
          clear hI hy hg hz
          go_wp2
          go_region_held3 (fun w' => w'.cell? ⟨b, r, none⟩ = some (.slice (some ⟨g, 0, none⟩) m (C r)) ∧ w'.cell? ⟨bt, ot + r, none⟩ = some (.slice (some ⟨b', o', none⟩) m (Ct r)) ∧ w'.cell? ⟨b', o' + c, none⟩ = some (.int .i64 y)
            ∧ w'.cell? ⟨bu, ou + r, none⟩ = some (.slice (some ⟨d', q', none⟩) m (Cu r)) ∧ w'.cell? ⟨d', q' + c, none⟩ = some (.int .i64 z)) (go_keep) (fail)
          have hN := HII.out.store hlt hcm 1
          rw [HG.out] at hN
          have hval : at2 l r c + at2 u r c = y + z := by rw [HY.out, HZ.out]
          rw [hval] at hN
          have HNN := Lib.hid hN
          clear hN hval k1 k2 k3 k4 k5 e1 e2 g1 g2 f1 f2 f3 hwr hS
          all_goals
            go_wp2
            go_roundg (m - (c + 1))
            case measure => omega
            case rel => exact ⟨c + 1, by omega, rfl, by go_num, HNN.out⟩
        · have hcc : c = m := by omega
          subst hcc
          have HNN := Lib.hid hI.next
          clear hI hS
          go_wp2
          go_roundg (n - (r + 1))
          case measure => omega
          case rel => exact ⟨r + 1, by omega, rfl, by go_num, HNN.out⟩
    · have : r = n := by omega
      subst this
      have hfin := hR.ownT HB.out
      have hS := hR.since
      have hsz3 : w2.heap.size ≤ wr.heap.size := hR.size
      rw [← HTF.out] at hfin
      have HF := Lib.hid hfin.inT
      clear hR hfin
      go_wp2_with fail
      refine (l1Done_any _ _ _ _ _ (sumL l u) wr HTL.out hszl HF.out).mono ?_
      rintro e w4 ⟨a', cap', rfl, hs4, ho4⟩
      go_wp2
      go_ret2
      exact ⟨a', cap', rfl, (hs1.trans (since_mono hS hz1)).trans (since_mono hs4 (by have := hS.size; omega)), ho4.mono hz1 (by have := hs4.size; omega)⟩

theorem specTableSum_any (a a2 : Option Addr) (cap cap2 n n2 : Nat) (l u : List (List Int)) (w : World) (hn : l.length = n) (hu : u.length = n2) (hsz : szL l ≤ 1048576) (hszu : szL u ≤ 1048576) (hm : MatR w a l) (hmu : MatR w a2 u) :
    Calls Try.prog 39 #[.slice a n cap, .slice a2 n2 cap2] w (SpecT w (sumOk l u) (sumL l u)) := by
  by_cases h : tabIn l = true ∧ tabIn u = true ∧ alikeB l u = true
  · obtain ⟨h1, h2, h3⟩ := h
    have hok : sumOk l u = tabIn (sumL l u) := by unfold sumOk; rw [h1, h2, h3]; rfl
    unfold alikeB at h3
    rw [Bool.and_eq_true, beq_iff_eq, beq_iff_eq] at h3
    have hnn : n2 = n := by omega
    subst hnn
    rw [hok]
    exact specTableSum_yes a a2 cap cap2 n2 l u w hn hu hsz hszu hm hmu (tabIn_of h1) (tabIn_of h2) h3.2.symm
  · have hno : tabIn l = false ∨ tabIn u = false ∨ alikeB l u = false := by
      cases h1 : tabIn l
      · exact .inl rfl
      · cases h2 : tabIn u
        · exact .inr (.inl rfl)
        · cases h3 : alikeB l u
          · exact .inr (.inr rfl)
          · exact absurd ⟨h1, h2, h3⟩ h
    have hok : sumOk l u = false := by
      unfold sumOk
      rcases hno with h | h | h <;> rw [h] <;> simp
    rw [hok]
    exact specTableSum_no a a2 cap cap2 n n2 l u w hn hu hsz hszu hm hmu hno

theorem szL_sumOk (l u : List (List Int)) (h : sumOk l u = true) : szL (sumL l u) ≤ 1048576 := by
  unfold sumOk at h
  rw [Bool.and_eq_true] at h
  exact szL_sum u (tabIn_of h.1)

end Go.Proofs.Ytpoabeniejmpkaa
