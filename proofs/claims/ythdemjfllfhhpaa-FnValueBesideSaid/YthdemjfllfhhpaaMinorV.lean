/- The contract of spec.ValueMinor. -/
import Derived.Test.YthdemjfllfhhpaaRowsV
namespace Go.Proofs.Ythdemjfllfhhpaa
open Go.RowKit Go.Deep

theorem popcS_sel : ∀ n : Fin 7, ∀ s : Fin 64, s.val < 2 ^ n.val → (sel s.val n.val n.val).length = popcS s.val := by decide +kernel
theorem popcS_pos : ∀ s : Fin 64, 1 ≤ popcS s.val → 1 ≤ s.val := by decide +kernel

set_option maxHeartbeats 1000000 in
theorem l2Orders_end (a : Option Addr) (cap n used : Nat) (W : World) : Calls Try.prog 108 #[.slice a n cap, .int .i64 n, .int .i64 used] W fun e w' => e = .returned (.int .i64 1) ∧ Drawn W w' := by
  go_enter Try.func108, Try.ntmps108
  go_wp2
  go_ret
  exact ⟨rfl, Drawn.refl _⟩

set_option maxHeartbeats 1000000 in
theorem l2Value_sq (a : Option Addr) (cap k : Nat) (L : List (List Int)) (h : SqD k L) (W : World) (hm : MatR W a L) : Calls Try.prog 62 #[.slice a k cap] W fun e w' => e = .returned (.int .i64 (ordF L k k 0)) ∧ Drawn W w' := by
  by_cases h0 : 1 ≤ k
  · exact l2Value_any a cap k L h.1 (h.2 h0).1 (h.2 h0).2 W hm
  · have hk : k = 0 := by omega
    subst hk
    have E := Lib.hid (l2Orders_end a cap 0 0 W)
    rw [ordF_zero]
    clear hm h
    go_enter Try.func62, Try.ntmps62
    go_wp2_with fail
    refine (E.out).mono ?_
    rintro e w1 ⟨rfl, hd⟩
    go_wp2
    go_ret
    exact ⟨rfl, hd⟩

/-- Does ValueMinor succeed? -/
noncomputable def minorOk (l : List (List Int)) (s c : Int) : Bool := tabIn l && (inB s 0 (2 ^ l.length - 1 : Nat) && (inB c 0 (2 ^ (l.getD 0 []).length - 1 : Nat) && (popcS s.toNat == popcS c.toNat)))
/-- The minor. -/
def minorV (l : List (List Int)) (s c : Int) : Int := ordF (partL l s.toNat c.toNat) (popcS s.toNat) (popcS s.toNat) 0
theorem part_sq {l : List (List Int)} {s c : Nat} (hT : TabIn l) (hs : s < 2 ^ l.length) (hc : c < 2 ^ (l.getD 0 []).length) (h : popcS s = popcS c) : SqD (popcS s) (partL l s c) := by
  have hsd := hT.2.1
  have hw := hT.width
  have p1 : 2 ^ l.length ≤ 2 ^ 6 := Nat.pow_le_pow_right (by omega) hsd
  have p2 : 2 ^ (l.getD 0 []).length ≤ 2 ^ 6 := Nat.pow_le_pow_right (by omega) hw.2
  have e1 : (partL l s c).length = popcS s := by rw [partL_length]; exact popcS_sel ⟨l.length, by omega⟩ ⟨s, by omega⟩ hs
  refine ⟨e1, fun h0 => ?_⟩
  have h1 := popcS_pos ⟨s, by omega⟩ h0
  have h2 := popcS_pos ⟨c, by omega⟩ (by rw [h] at h0; exact h0)
  refine ⟨partL_tab hT h1 hs h2 hc, ?_⟩
  rw [partL_rowlen _ _ _ (by omega), h]
  exact popcS_sel ⟨(l.getD 0 []).length, by omega⟩ ⟨c, by omega⟩ hc

set_option maxRecDepth 100000 in
set_option maxHeartbeats 2000000 in
theorem specValueMinor_any (a : Option Addr) (cap n : Nat) (l : List (List Int)) (s c : Int) (w : World) (hn : l.length = n) (hsz : szL l ≤ 1048576) (hm : MatR w a l) :
    Calls Try.prog 18 #[.slice a n cap, .int .i64 s, .int .i64 c] w (SpecW w (minorOk l s c) (minorV l s c)) := by
  have E := Lib.hid (specTableIn_any a cap n l w hn hsz hm)
  cases hT : tabIn l with
  | false =>
    have hok : minorOk l s c = false := by unfold minorOk; rw [hT]; rfl
    rw [hT] at E
    rw [hok]
    clear hT hsz hm hn hok
    go_enter Try.func18, Try.ntmps18
    go_wp2_with fail
    refine (E.out).mono ?_
    rintro e w1 ⟨rfl, hd⟩
    have HS := Lib.hid (hd.since w.heap.size)
    clear hd
    go_wp2
    go_ret2
    exact ⟨rfl, HS.out⟩
  | true =>
    have hTT := tabIn_of hT
    rw [hT] at E
    have h6 := hTT.2.1
    have h1 := hTT.1
    have hw := hTT.width
    rw [hn] at h6 h1
    have hp1 := pow_wrap n h6
    cases hb : inB s 0 (2 ^ n - 1 : Nat) with
    | false =>
      have hok : minorOk l s c = false := by unfold minorOk; rw [hT, hn, hb]; rfl
      rw [hok]
      rw [← hp1] at hb
      have HB1 := Lib.hid hb
      clear hT hsz hm hn hok hTT hb hp1
      go_enter Try.func18, Try.ntmps18
      go_wp2_with fail
      refine (E.out).mono ?_
      rintro e w1 ⟨rfl, hd⟩
      have HS := Lib.hid (hd.since w.heap.size)
      clear hd
      go_wp2_with fail
      refine (l6In_at _ _ _ _ w1 HB1.out).mono ?_
      rintro e w2 ⟨rfl, rfl⟩
      go_wp2
      go_ret2
      exact ⟨rfl, HS.out⟩
    | true =>
      have hnm := hm
      obtain ⟨b1, o1, A1, C1, rfl, hc1⟩ := hm (by omega)
      have c1 := (hc1 0 (by omega)).1
      rw [Nat.add_zero] at c1
      obtain ⟨m, hmm⟩ : ∃ m, (l.getD 0 []).length = m := ⟨_, rfl⟩
      rw [hmm] at hw c1
      have hp2 := pow_wrap m hw.2
      cases hbc : inB c 0 (2 ^ m - 1 : Nat) with
      | false =>
        have hok : minorOk l s c = false := by unfold minorOk; rw [hT, hn, hb, hmm, hbc]; rfl
        rw [hok]
        rw [← hp1] at hb
        rw [← hp2] at hbc
        have HB1 := Lib.hid hb
        have HB2 := Lib.hid hbc
        clear hT hsz hnm hn hok hTT hb hbc hmm hp1 hp2 hc1 hm
        go_enter Try.func18, Try.ntmps18
        go_wp2_with fail
        refine (E.out).mono ?_
        rintro e w1 ⟨rfl, hd⟩
        have HS := Lib.hid (hd.since w.heap.size)
        clear hd
        have hcc := (HS.out.cell (a := ⟨b1, o1, none⟩) (World.block_lt_of_cell? _ _ c1)).trans c1
        go_wp2_with fail
        refine (l6In_at _ _ _ _ w1 HB1.out).mono ?_
        rintro e w2 ⟨rfl, rfl⟩
        go_wp2_with fail
        refine (l6In_at _ _ _ _ w1 HB2.out).mono ?_
        rintro e w2 ⟨rfl, rfl⟩
        go_wp2
        go_ret2
        exact ⟨rfl, HS.out⟩
      | true =>
        have b1' := of_decide_eq_true hb
        have b2' := of_decide_eq_true hbc
        have p1 : 2 ^ n ≤ 2 ^ 6 := Nat.pow_le_pow_right (by omega) h6
        have p2 : 2 ^ m ≤ 2 ^ 6 := Nat.pow_le_pow_right (by omega) hw.2
        have p3 := Nat.one_le_two_pow (n := n)
        have p4 := Nat.one_le_two_pow (n := m)
        obtain ⟨sn, rfl⟩ := Int.eq_ofNat_of_zero_le (show 0 ≤ s by omega)
        obtain ⟨cn, rfl⟩ := Int.eq_ofNat_of_zero_le (show 0 ≤ c by omega)
        have Z1 := fun (W : World) => l2Size_any sn (by omega) W
        have Z2 := fun (W : World) => l2Size_any cn (by omega) W
        cases hpc : (popcS sn == popcS cn) with
        | false =>
          have hok : minorOk l sn cn = false := by unfold minorOk; rw [hT, hn, hb, hmm, hbc, Int.toNat_natCast, Int.toNat_natCast, hpc]; rfl
          rw [hok]
          obtain ⟨x1, hx1⟩ : ∃ x, popcS sn = x := ⟨_, rfl⟩
          obtain ⟨x2, hx2⟩ : ∃ x, popcS cn = x := ⟨_, rfl⟩
          rw [hx1] at Z1 hpc
          rw [hx2] at Z2 hpc
          have hne : ((x1 : Int) == (x2 : Int)) = false := by simp at hpc ⊢; omega
          replace Z1 := Lib.hid Z1
          replace Z2 := Lib.hid Z2
          rw [← hp1] at hb
          rw [← hp2] at hbc
          have HB1 := Lib.hid hb
          have HB2 := Lib.hid hbc
          clear hT hsz hnm hn hok hTT hb hbc hmm hp1 hp2 hc1 hm b1' b2' p1 p2 p3 p4 hpc hx1 hx2
          go_enter Try.func18, Try.ntmps18
          go_wp2_with fail
          refine (E.out).mono ?_
          rintro e w1 ⟨rfl, hd⟩
          have HS := Lib.hid (hd.since w.heap.size)
          clear hd
          have hcc := (HS.out.cell (a := ⟨b1, o1, none⟩) (World.block_lt_of_cell? _ _ c1)).trans c1
          go_wp2_with fail
          refine (l6In_at _ _ _ _ w1 HB1.out).mono ?_
          rintro e w2 ⟨rfl, rfl⟩
          go_wp2_with fail
          refine (l6In_at _ _ _ _ w1 HB2.out).mono ?_
          rintro e w2 ⟨rfl, rfl⟩
          go_wp2_with fail
          refine (Z1.out w1).mono ?_
          rintro e w2 ⟨rfl, rfl⟩
          go_wp2_with fail
          refine (Z2.out w1).mono ?_
          rintro e w2 ⟨rfl, rfl⟩
          go_wp2
          go_ret2
          exact ⟨rfl, HS.out⟩
        | true =>
          have hok : minorOk l sn cn = true := by unfold minorOk; rw [hT, hn, hb, hmm, hbc, Int.toNat_natCast, Int.toNat_natCast, hpc]; rfl
          rw [hok]
          unfold minorV
          rw [Int.toNat_natCast, Int.toNat_natCast]
          have hpe : popcS sn = popcS cn := by simpa using hpc
          have hsq := part_sq hTT (s := sn) (c := cn) (by rw [hn]; omega) (by rw [hmm]; omega) hpe
          have E5 := fun (W : World) (hs : w.Since w.heap.size W) => l1Part_any (some ⟨b1, o1, none⟩) cap n sn cn l W hn hTT (by omega) (by omega) (hnm.since hs)
          rw [← hpe] at Z2
          obtain ⟨L, hL⟩ : ∃ L, partL l sn cn = L := ⟨_, rfl⟩
          rw [hL] at hsq ⊢
          simp only [hL] at E5
          obtain ⟨x1, hx1⟩ : ∃ x, popcS sn = x := ⟨_, rfl⟩
          rw [hx1] at Z1 Z2 hsq ⊢
          simp only [hsq.1] at E5
          replace Z1 := Lib.hid Z1
          replace Z2 := Lib.hid Z2
          replace E5 := Lib.hid E5
          have E6 := Lib.hid (fun (a3 : Option Addr) (k3 : Nat) (V : World) (h : MatR V a3 L) => l2Value_sq a3 k3 x1 L hsq V h)
          rw [← hp1] at hb
          rw [← hp2] at hbc
          have HB1 := Lib.hid hb
          have HB2 := Lib.hid hbc
          clear hT hsz hnm hn hok hTT hb hbc hmm hp1 hp2 hc1 hm b1' b2' p1 p2 p3 p4 hpc hx1 hpe hL hsq
          go_enter Try.func18, Try.ntmps18
          go_wp2_with fail
          refine (E.out).mono ?_
          rintro e w1 ⟨rfl, hd⟩
          have HS := Lib.hid (hd.since w.heap.size)
          clear hd
          have hcc := (HS.out.cell (a := ⟨b1, o1, none⟩) (World.block_lt_of_cell? _ _ c1)).trans c1
          go_wp2_with fail
          refine (l6In_at _ _ _ _ w1 HB1.out).mono ?_
          rintro e w2 ⟨rfl, rfl⟩
          go_wp2_with fail
          refine (l6In_at _ _ _ _ w1 HB2.out).mono ?_
          rintro e w2 ⟨rfl, rfl⟩
          go_wp2_with fail
          refine (Z1.out w1).mono ?_
          rintro e w2 ⟨rfl, rfl⟩
          go_wp2_with fail
          refine (Z2.out w1).mono ?_
          rintro e w2 ⟨rfl, rfl⟩
          go_wp2_with fail
          refine (E5.out w1 HS.out).mono ?_
          rintro e w3 ⟨a3, k3, rfl, hs3, hin⟩
          have HS3 := Lib.hid (HS.out.trans (since_mono hs3 HS.out.size))
          go_wp2_with fail
          refine (E6.out a3 k3 w3 hin.matR).mono ?_
          rintro e w4 ⟨rfl, hd4⟩
          have HS4 := Lib.hid (HS3.out.trans (since_mono (hd4.since w3.heap.size) HS3.out.size))
          clear hs3 hin hd4
          go_wp2
          go_ret2
          exact ⟨rfl, HS4.out⟩

end Go.Proofs.Ythdemjfllfhhpaa
