/- The contracts of spec.l2Rank and spec.ValueRank. -/
import Derived.Test.YthdemjfllfhhpaaMinorV
namespace Go.Proofs.Ythdemjfllfhhpaa
open Go.RowKit Go.Deep

theorem ipow_fin : ∀ n : Fin 7, wrap64 ((2 : Int) ^ n.val) = ((2 ^ n.val : Nat) : Int) := by decide +kernel

/-- What one pair of sets makes of the best number so far. -/
def stepR (l : List (List Int)) (r c b : Nat) : Nat := if popcS r = popcS c ∧ b < popcS r ∧ ordF (partL l r c) (popcS r) (popcS r) 0 ≠ 0 then popcS r else b
/-- .. the sets of columns from 1 to c - 1. -/
def rkC (l : List (List Int)) (r b : Nat) : Nat → Nat
  | 0 => b
  | c + 1 => if c = 0 then b else stepR l r c (rkC l r b c)
/-- .. the sets of rows from 1 to r - 1. -/
def rkR (l : List (List Int)) (C : Nat) : Nat → Nat
  | 0 => 0
  | r + 1 => if r = 0 then 0 else rkC l r (rkR l C r) C
theorem rkC_one (l : List (List Int)) (r b : Nat) : rkC l r b 1 = b := rfl
theorem rkC_succ (l : List (List Int)) (r b : Nat) {c : Nat} (h : 1 ≤ c) : rkC l r b (c + 1) = stepR l r c (rkC l r b c) := by
  show (if c = 0 then b else stepR l r c (rkC l r b c)) = _
  rw [if_neg (by omega)]
theorem rkR_one (l : List (List Int)) (C : Nat) : rkR l C 1 = 0 := rfl
theorem rkR_succ (l : List (List Int)) (C : Nat) {r : Nat} (h : 1 ≤ r) : rkR l C (r + 1) = rkC l r (rkR l C r) C := by
  show (if r = 0 then 0 else rkC l r (rkR l C r) C) = _
  rw [if_neg (by omega)]
theorem stepR_le (l : List (List Int)) (r c b : Nat) (h : b ≤ 6) : stepR l r c b ≤ 6 := by
  unfold stepR
  split
  · exact popcS_le r
  · exact h
theorem rkC_le (l : List (List Int)) (r b : Nat) (h : b ≤ 6) : ∀ c, rkC l r b c ≤ 6
  | 0 => h
  | c + 1 => by
    show (if c = 0 then b else stepR l r c (rkC l r b c)) ≤ 6
    split
    · exact h
    · exact stepR_le l r c _ (rkC_le l r b h c)
theorem rkR_le (l : List (List Int)) (C : Nat) : ∀ r, rkR l C r ≤ 6
  | 0 => by simp [rkR]
  | r + 1 => by
    show (if r = 0 then 0 else rkC l r (rkR l C r) C) ≤ 6
    split
    · omega
    · exact rkC_le l r _ (rkR_le l C r) C

set_option maxRecDepth 100000 in
set_option maxHeartbeats 4000000 in
theorem l2Rank_any (a : Option Addr) (cap n m : Nat) (l : List (List Int)) (w : World) (hn : l.length = n) (hT : TabIn l) (hmm : (l.getD 0 []).length = m) (hm : MatR w a l) :
    Calls Try.prog 69 #[.slice a n cap] w fun e w' => e = .returned (.int .i64 (rkR l (2 ^ m) (2 ^ n))) ∧ w.Since w.heap.size w' := by
  have h6 := hT.2.1
  have h1 := hT.1
  have hw := hT.width
  rw [hn] at h6 h1
  rw [hmm] at hw
  have e1 := ipow_fin ⟨n, by omega⟩
  have e2 := ipow_fin ⟨m, by omega⟩
  simp only at e1 e2
  have p1 : 2 ^ n ≤ 2 ^ 6 := Nat.pow_le_pow_right (by omega) h6
  have p2 : 2 ^ m ≤ 2 ^ 6 := Nat.pow_le_pow_right (by omega) hw.2
  have p3 : 2 ^ 1 ≤ 2 ^ n := Nat.pow_le_pow_right (by omega) h1
  have p4 : 2 ^ 1 ≤ 2 ^ m := Nat.pow_le_pow_right (by omega) hw.1
  have hsq : ∀ s c, s < 2 ^ n → c < 2 ^ m → popcS s = popcS c → SqD (popcS s) (partL l s c) := fun s c hs hc h => part_sq hT (by rw [hn]; exact hs) (by rw [hmm]; exact hc) h
  have HPART := Lib.hid (fun (s c : Nat) (hs : s ≤ 63) (hc : c ≤ 63) (W : World) (h : w.Since w.heap.size W) => l1Part_any a cap n s c l W hn hT hs hc (hm.since h))
  have HSQ := Lib.hid hsq
  obtain ⟨b, o, A, C, rfl, hc⟩ := hm (by omega)
  have c0 := (hc 0 (by omega)).1
  rw [Nat.add_zero, hmm] at c0
  have C0 := Lib.hid c0
  obtain ⟨Rr, hR⟩ : ∃ R, 2 ^ n = R := ⟨_, rfl⟩
  obtain ⟨Cc, hC⟩ : ∃ R, 2 ^ m = R := ⟨_, rfl⟩
  rw [hR] at e1 p1 p3 ⊢
  rw [hC] at e2 p2 p4 ⊢
  have HR := Lib.hid hR
  have HC := Lib.hid hC
  have hn1 : 0 < n := by omega
  clear hn hT hmm hm hsq hc c0 hR hC
  go_enter Try.func69, Try.ntmps69
  go_wp2
  go_loopg [3, 4, 5, 6] (Rr - 1) (fun g bv rv _ _ wr => ∃ r : Nat, 1 ≤ r ∧ r ≤ Rr ∧ g = Rr - r ∧ rv = .int .i64 r ∧ bv = .int .i64 (rkR l Cc r) ∧ w.Since w.heap.size wr)
  case atStart => exact ⟨1, Nat.le_refl _, by omega, rfl, rfl, rfl, World.Since.refl _ _⟩
  case round =>
    obtain ⟨r, hr1, hr, rfl, rfl, rfl, hS⟩ := hrel
    obtain ⟨B0, hB0⟩ : ∃ b, b = rkR l Cc r := ⟨_, rfl⟩
    have hB6 := rkR_le l Cc r
    rw [← hB0] at hB6 ⊢
    have HB0 := Lib.hid hB0
    clear hB0
    by_cases hlt : r < Rr
    · go_wp2
      rw [e1]
      go_loopg [3, 5, 6] (Cc - 1) (fun g bv cv _ wi => ∃ c : Nat, 1 ≤ c ∧ c ≤ Cc ∧ g = Cc - c ∧ cv = .int .i64 c ∧ bv = .int .i64 (rkC l r B0 c) ∧ w.Since w.heap.size wi)
      case atStart => exact ⟨1, Nat.le_refl _, by omega, rfl, rfl, rfl, hS⟩
      case round =>
        obtain ⟨c, hc1, hc, rfl, rfl, rfl, hI⟩ := hrel
        obtain ⟨b0, hb0⟩ : ∃ b, b = rkC l r B0 c := ⟨_, rfl⟩
        have hb6 := rkC_le l r B0 hB6 c
        rw [← hb0] at hb6 ⊢
        have hcc := (hI.cell (a := ⟨b, o, none⟩) (World.block_lt_of_cell? _ _ C0.out)).trans C0.out
        clear hS
        by_cases hlc : c < Cc
        · have hI2 := Lib.hid hI
          have Z1 := fun (W : World) => l2Size_any r (by omega) W
          have Z2 := fun (W : World) => l2Size_any c (by omega) W
          have hk6 := popcS_le r
          have hk6' := popcS_le c
          by_cases hpe : popcS r = popcS c
          · have hsq := HSQ.out r c (by rw [HR.out]; exact hlt) (by rw [HC.out]; exact hlc) hpe
            rw [← hpe] at Z2
            obtain ⟨x1, hx1⟩ : ∃ x, popcS r = x := ⟨_, rfl⟩
            rw [hx1] at Z1 Z2 hsq hk6
            replace Z1 := Lib.hid Z1
            replace Z2 := Lib.hid Z2
            by_cases hbk : b0 < x1
            · have hbd : decide ((b0 : Int) < (x1 : Int)) = true := by simp; omega
              have EP := fun (W : World) (h : w.Since w.heap.size W) => HPART.out r c (by omega) (by omega) W h
              obtain ⟨L, hL⟩ : ∃ L, partL l r c = L := ⟨_, rfl⟩
              rw [hL] at hsq
              simp only [hL, hsq.1] at EP
              have EV := fun (a3 : Option Addr) (k3 : Nat) (W : World) (h : MatR W a3 L) => l2Value_sq a3 k3 x1 L hsq W h
              obtain ⟨f2, hf2⟩ : ∃ f, ordF L x1 x1 0 = f := ⟨_, rfl⟩
              simp only [hf2] at EV
              replace EP := Lib.hid EP
              replace EV := Lib.hid EV
              have hst : stepR l r c (rkC l r B0 c) = if f2 ≠ 0 then x1 else b0 := by
                unfold stepR
                rw [← hb0, hx1, hL, hf2]
                by_cases h0 : f2 = 0
                · rw [if_neg (by rintro ⟨_, _, h⟩; exact h h0), if_neg (by simp [h0])]
                · rw [if_pos ⟨by rw [← hpe, hx1], hbk, h0⟩, if_pos h0]
              clear hI hb0 hpe hx1 hsq hL hf2 hk6'
              by_cases h0 : f2 = 0
              · have hz : (f2 == 0) = true := by simpa using h0
                rw [if_neg (by simp [h0])] at hst
                have HSTEP := Lib.hid hst
                subst h0
                clear hst
                go_wp2_with fail
                refine (Z1.out wr).mono ?_
                rintro e w2 ⟨rfl, rfl⟩
                go_wp2_with fail
                refine (Z2.out wr).mono ?_
                rintro e w2 ⟨rfl, rfl⟩
                go_wp2_with fail
                refine (EP.out wr hI2.out).mono ?_
                rintro e w3 ⟨a3, k3, rfl, hs3, hi3⟩
                have HS3 := Lib.hid (hI2.out.trans (since_mono hs3 hI2.out.size))
                go_wp2_with fail
                refine (EV.out a3 k3 w3 hi3.matR).mono ?_
                rintro e w4 ⟨rfl, hd4⟩
                have HS4 := Lib.hid (HS3.out.trans (since_mono (hd4.since w3.heap.size) HS3.out.size))
                clear hs3 hi3 hd4
                go_wp2
                go_roundg (Cc - (c + 1))
                case measure => omega
                case rel => exact ⟨c + 1, by omega, by omega, rfl, by go_num, by rw [rkC_succ l r B0 hc1, HSTEP.out], HS4.out⟩
              · have hz : (f2 == 0) = false := by simpa using h0
                rw [if_pos h0] at hst
                have HSTEP := Lib.hid hst
                clear hst
                go_wp2_with fail
                refine (Z1.out wr).mono ?_
                rintro e w2 ⟨rfl, rfl⟩
                go_wp2_with fail
                refine (Z2.out wr).mono ?_
                rintro e w2 ⟨rfl, rfl⟩
                go_wp2_with fail
                refine (EP.out wr hI2.out).mono ?_
                rintro e w3 ⟨a3, k3, rfl, hs3, hi3⟩
                have HS3 := Lib.hid (hI2.out.trans (since_mono hs3 hI2.out.size))
                go_wp2_with fail
                refine (EV.out a3 k3 w3 hi3.matR).mono ?_
                rintro e w4 ⟨rfl, hd4⟩
                have HS4 := Lib.hid (HS3.out.trans (since_mono (hd4.since w3.heap.size) HS3.out.size))
                clear hs3 hi3 hd4
                go_wp2
                go_roundg (Cc - (c + 1))
                case measure => omega
                case rel => exact ⟨c + 1, by omega, by omega, rfl, by go_num, by rw [rkC_succ l r B0 hc1, HSTEP.out], HS4.out⟩
            · have hbd : decide ((b0 : Int) < (x1 : Int)) = false := by simp; omega
              have hst : stepR l r c (rkC l r B0 c) = b0 := by
                unfold stepR
                rw [← hb0, hx1, if_neg (by rintro ⟨_, h, _⟩; exact hbk h)]
              have HSTEP := Lib.hid hst
              clear hst hI hb0 hpe hx1 hsq hk6'
              go_wp2_with fail
              refine (Z1.out wr).mono ?_
              rintro e w2 ⟨rfl, rfl⟩
              go_wp2_with fail
              refine (Z2.out wr).mono ?_
              rintro e w2 ⟨rfl, rfl⟩
              go_wp2
              go_roundg (Cc - (c + 1))
              case measure => omega
              case rel => exact ⟨c + 1, by omega, by omega, rfl, by go_num, by rw [rkC_succ l r B0 hc1, HSTEP.out], hI2.out⟩
          · have hst : stepR l r c (rkC l r B0 c) = b0 := by
              unfold stepR
              rw [← hb0, if_neg (by rintro ⟨h, _⟩; exact hpe h)]
            have HSTEP := Lib.hid hst
            obtain ⟨x1, hx1⟩ : ∃ x, popcS r = x := ⟨_, rfl⟩
            obtain ⟨x2, hx2⟩ : ∃ x, popcS c = x := ⟨_, rfl⟩
            rw [hx1] at Z1 hpe hk6
            rw [hx2] at Z2 hpe hk6'
            have hne : ((x1 : Int) == (x2 : Int)) = false := by simp; omega
            replace Z1 := Lib.hid Z1
            replace Z2 := Lib.hid Z2
            clear hst hI hb0 hx1 hx2
            go_wp2_with fail
            refine (Z1.out wr).mono ?_
            rintro e w2 ⟨rfl, rfl⟩
            go_wp2_with fail
            refine (Z2.out wr).mono ?_
            rintro e w2 ⟨rfl, rfl⟩
            go_wp2
            go_roundg (Cc - (c + 1))
            case measure => omega
            case rel => exact ⟨c + 1, by omega, by omega, rfl, by go_num, by rw [rkC_succ l r B0 hc1, HSTEP.out], hI2.out⟩
        · have hcC : Cc = c := by omega
          subst hcC
          have hrk : rkR l Cc (r + 1) = b0 := by rw [rkR_succ l Cc hr1, ← HB0.out, ← hb0]
          have HRK := Lib.hid hrk
          clear hrk hb0
          go_wp2
          go_roundg (Rr - (r + 1))
          case measure => omega
          case rel => exact ⟨r + 1, by omega, by omega, rfl, by go_num, by rw [HRK.out], hI⟩
    · have hrR : Rr = r := by omega
      subst hrR
      go_wp2
      go_ret
      exact ⟨by rw [HB0.out]; rfl, hS⟩

set_option maxHeartbeats 1000000 in
theorem specValueRank_any (a : Option Addr) (cap n : Nat) (l : List (List Int)) (w : World) (hn : l.length = n) (hsz : szL l ≤ 1048576) (hm : MatR w a l) :
    Calls Try.prog 22 #[.slice a n cap] w (SpecW w (tabIn l) (rkR l (2 ^ (l.getD 0 []).length) (2 ^ n) : Nat)) := by
  have E := specTableIn_any a cap n l w hn hsz hm
  cases hT : tabIn l with
  | false =>
    rw [hT] at E
    replace E := Lib.hid E
    clear hT hm hn hsz
    go_enter Try.func22, Try.ntmps22
    go_wp2_with fail
    refine (E.out).mono ?_
    rintro e w1 ⟨rfl, hd⟩
    have HD := Lib.hid (hd.since w.heap.size)
    clear hd
    go_wp2
    go_ret2
    exact ⟨rfl, HD.out⟩
  | true =>
    rw [hT] at E
    replace E := Lib.hid E
    have E2 := Lib.hid (fun (W : World) (hd : w.Since w.heap.size W) => l2Rank_any a cap n _ l W hn (tabIn_of hT) rfl (hm.since hd))
    clear hT hm hn hsz
    go_enter Try.func22, Try.ntmps22
    go_wp2_with fail
    refine (E.out).mono ?_
    rintro e w1 ⟨rfl, hd⟩
    have HD := Lib.hid (hd.since w.heap.size)
    clear hd
    go_wp2_with fail
    refine (E2.out w1 HD.out).mono ?_
    rintro e w2 ⟨rfl, hs2⟩
    have HS2 := Lib.hid (HD.out.trans (since_mono hs2 HD.out.size))
    clear hs2
    go_wp2
    go_ret2
    exact ⟨rfl, HS2.out⟩

end Go.Proofs.Ythdemjfllfhhpaa
