/- Chapter 8: the value of powers, greatest common divisors, and what is counted by them. -/
import Derived.Test.YtkahgpgnfodpgaaKnownV
namespace Go.Proofs.Ytkahgpgnfodpgaa
open Go.RowKit Go.Deep

theorem RngK.all9 {x : List Int} {m : Nat} (hn : x.length = m) (h : RngK x (-9) 9 m) (j : Nat) : -9 ≤ x.getD j 0 ∧ x.getD j 0 ≤ 9 := by
  by_cases hj : j < m
  · have := h j hj
    simp only [inB, decide_eq_true_eq] at this
    exact this
  · have : x.getD j 0 = 0 := by simp [List.getD, List.getElem?_eq_none (show x.length ≤ j by omega)]
    omega

set_option maxRecDepth 100000 in
set_option maxHeartbeats 2000000 in
theorem productOfDifferences_any (a : Option Addr) (cap m : Nat) (x : List Int) (w : World) (hn : x.length = m) (h6 : m ≤ 6) (hc0 : m ≤ cap) (hx : ∀ j, -9 ≤ x.getD j 0 ∧ x.getD j 0 ≤ 9) (hm : RowR w a x) :
    Calls Try.prog 72 #[.slice a m cap] w fun e w' => e = .returned (.int .i64 (vdO x m)) ∧ w = w' := by
  have H := Lib.hid hn; clear hn
  have HX := Lib.hid hx; clear hx
  go_enter Try.func72, Try.ntmps72
  go_wp2
  go_loopg [3, 4, 5, 7, 10] m (fun g s _ _ _ i wr => ∃ k : Nat, k ≤ m ∧ g = m - k ∧ i = .int .i64 k ∧ s = .int .i64 (vdO x k) ∧ w = wr)
  case atStart => exact ⟨0, Nat.zero_le _, rfl, rfl, rfl, rfl⟩
  case round =>
    obtain ⟨k, hk, rfl, rfl, rfl, rfl⟩ := hrel
    by_cases hlt : k < m
    · obtain ⟨b, o, rfl, hc⟩ := hm (by rw [H.out]; omega)
      have cj := hc k (by rw [H.out]; exact hlt)
      obtain ⟨y, hy⟩ : ∃ y, x.getD k 0 = y := ⟨_, rfl⟩
      have hy9 := HX.out k
      rw [hy] at cj hy9
      have HY := Lib.hid hy
      have HC := Lib.hid hc
      clear hc hm hy
      go_wp2
      go_loopg [3, 7, 19] k (fun g s _ i wi => ∃ t : Nat, t ≤ k ∧ g = k - t ∧ i = .int .i64 t ∧ s = .int .i64 (vdI x k (vdO x k) t) ∧ w = wi)
      case atStart => exact ⟨0, Nat.zero_le _, rfl, rfl, rfl, rfl⟩
      case round =>
        obtain ⟨t, ht, rfl, rfl, rfl, rfl⟩ := hrel
        by_cases htl : t < k
        · have ct := HC.out t (by rw [H.out]; omega)
          have hz9 := HX.out t
          have b1 := vdI_lt HX.out (i := k) (k := t) (by omega) (by omega)
          have b2 := vdI_lt HX.out (i := k) (k := t + 1) (by omega) (by omega)
          have hs : vdI x k (vdO x k) (t + 1) = vdI x k (vdO x k) t * (x.getD k 0 - x.getD t 0) := rfl
          obtain ⟨z, hz⟩ : ∃ z, x.getD t 0 = z := ⟨_, rfl⟩
          obtain ⟨p, hp⟩ : ∃ p, vdI x k (vdO x k) t = p := ⟨_, rfl⟩
          obtain ⟨q, hq⟩ : ∃ q, vdI x k (vdO x k) (t + 1) = q := ⟨_, rfl⟩
          rw [hz] at ct hz9 hs
          rw [hp, hq, HY.out] at hs
          rw [hp] at b1 ⊢
          rw [hq] at b2
          have HQ := Lib.hid hq
          have hw : wrap64 (p * (y - z)) = q := by rw [← hs]; unfold wrap64; omega
          clear hz hp hq hs
          go_wp2
          go_roundg (k - (t + 1))
          case measure => omega
          case rel => exact ⟨t + 1, by omega, rfl, by go_num, by rw [HQ.out, hw], rfl⟩
        · have htk : t = k := by omega
          subst htk
          go_wp2
          go_roundg (m - (t + 1))
          case measure => omega
          case rel => exact ⟨t + 1, by omega, rfl, by go_num, rfl, rfl⟩
    · have : k = m := by omega
      subst this
      go_wp2
      go_ret
      exact ⟨rfl, rfl⟩

set_option maxRecDepth 100000 in
set_option maxHeartbeats 2000000 in
theorem specKnownPowersValue_any (a : Option Addr) (cap m : Nat) (x : List Int) (w : World) (hn : x.length = m) (h63 : m ≤ 9223372036854775807) (hm : RowR w a x) :
    Calls Try.prog 22 #[.slice a m cap] w fun e w' => e = .returned (.tuple #[.int .i64 (if l8B x 9 = true then vdO x m else 0), .bool (l8B x 9)]) ∧ w.Since w.heap.size w' := by
  have E := l8List_any a cap m x 9 w ⟨by omega, by omega⟩ hn h63 hm
  have H := Lib.hid hn
  cases hok : l8B x 9 with
  | false =>
    rw [hok] at E
    replace E := Lib.hid E
    clear hok hm hn
    go_enter Try.func22, Try.ntmps22
    go_wp2_with fail
    refine (E.out).mono ?_
    rintro e w' ⟨rfl, rfl⟩
    go_wp2
    go_ret2
    exact ⟨rfl, World.Since.refl _ _⟩
  | true =>
    rw [hok] at E
    replace E := Lib.hid E
    obtain ⟨hx, h1, h6⟩ := l8B_of hok
    rw [hn] at hx h1 h6
    have HX := Lib.hid (RngK.all9 hn hx)
    obtain ⟨b, o, rfl, hc⟩ := hm (by omega)
    have HC := Lib.hid (fun (W : World) (hd : w.Since w.heap.size W) (k : Nat) (hk : k < m) => by
      have c := hc k (by omega)
      exact (hd.cell (a := ⟨b, o + k, none⟩) (World.block_lt_of_cell? _ _ c)).trans c)
    clear hok hn hx hc hm
    go_enter Try.func22, Try.ntmps22
    go_wp2_with fail
    refine (E.out).mono ?_
    rintro e w' ⟨rfl, rfl⟩
    go_wp2
    go_loopg [4, 5, 6] m (fun g s i _ wr => ∃ k : Nat, k ≤ m ∧ g = m - k ∧ i = .int .i64 k ∧ s = .int .i64 (vdO x k) ∧ Drawn w wr)
    case atStart => exact ⟨0, Nat.zero_le _, rfl, rfl, rfl, Drawn.refl w⟩
    case round =>
      obtain ⟨k, hk, rfl, rfl, rfl, hD⟩ := hrel
      by_cases hlt : k < m
      · have HD := Lib.hid hD
        clear hD
        obtain ⟨wo, hwo⟩ : ∃ wo : World, wo = wr := ⟨_, rfl⟩
        rw [← hwo] at HD ⊢
        clear hwo wr
        go_wp2
        go_loopg [4, 6] k (fun g s i wi => ∃ t : Nat, t ≤ k ∧ g = k - t ∧ i = .int .i64 t ∧ s = .int .i64 (vdI x k (vdO x k) t) ∧ Drawn w wi)
        case atStart => exact ⟨0, Nat.zero_le _, rfl, rfl, rfl, HD.out⟩
        case round =>
          obtain ⟨t, ht, rfl, rfl, rfl, hI⟩ := hrel
          clear HD
          by_cases htl : t < k
          · have ck := HC.out wr (hI.since _) k hlt
            have ct := HC.out wr (hI.since _) t (by omega)
            have hy9 := HX.out k
            have hz9 := HX.out t
            have b1 := vdI_lt HX.out (i := k) (k := t) (by omega) (by omega)
            have b2 := vdI_lt HX.out (i := k) (k := t + 1) (by omega) (by omega)
            have hs : vdI x k (vdO x k) (t + 1) = vdI x k (vdO x k) t * (x.getD k 0 - x.getD t 0) := rfl
            obtain ⟨y, hy⟩ : ∃ y, x.getD k 0 = y := ⟨_, rfl⟩
            obtain ⟨z, hz⟩ : ∃ z, x.getD t 0 = z := ⟨_, rfl⟩
            obtain ⟨p, hp⟩ : ∃ p, vdI x k (vdO x k) t = p := ⟨_, rfl⟩
            obtain ⟨q, hq⟩ : ∃ q, vdI x k (vdO x k) (t + 1) = q := ⟨_, rfl⟩
            rw [hy] at ck hy9
            rw [hz] at ct hz9
            rw [hp, hq, hy, hz] at hs
            rw [hp] at b1 ⊢
            rw [hq] at b2
            have HQ := Lib.hid hq
            have hsub : IntKind.i64.wrap (y - z) = y - z := IntWalk.i64_in _ ⟨by omega, by omega⟩
            have hmul : IntKind.i64.wrap (p * (y - z)) = q := by rw [← hs]; exact IntWalk.i64_in _ ⟨by omega, by omega⟩
            have hw : wrap64 (p * (y - z)) = q := by rw [← hs]; unfold wrap64; omega
            have hkm : (k : Int) < (m : Int) := by omega
            have htm : (t : Int) < (m : Int) := by omega
            have hk0 : k < m := hlt
            have ht0 : t < m := by omega
            have HI := Lib.hid hI
            clear hz hp hq hs hy hI
            go_wp2
            go_quiet (fail)
            go_wp2
            go_roundg (k - (t + 1))
            case measure => omega
            case rel => exact ⟨t + 1, by omega, rfl, by go_num, by rw [HQ.out], HI.out.trans (Drawn.mk _ _)⟩
          · have htk : t = k := by omega
            subst htk
            go_wp2
            go_roundg (m - (t + 1))
            case measure => omega
            case rel => exact ⟨t + 1, by omega, rfl, by go_num, rfl, hI⟩
      · have : k = m := by omega
        subst this
        go_wp2
        go_ret2
        exact ⟨rfl, hD.since _⟩

set_option maxHeartbeats 1000000 in
theorem implKnownPowersValue_any (a : Option Addr) (cap m : Nat) (x : List Int) (w : World) (hn : x.length = m) (h63 : m ≤ 9223372036854775807) (hc0 : m ≤ cap) (hm : RowR w a x) :
    Calls Try.prog 19 #[.slice a m cap] w fun e w' => e = .returned (.tuple #[.int .i64 (if l8B x 9 = true then vdO x m else 0), .bool (l8B x 9)]) ∧ w = w' := by
  have E1 := isSide_any m w
  have E2 := allInRange_any a cap m x (-9) 9 w hn h63 hm
  have hsp := l8B_split x 9
  rw [hn] at hsp
  cases h1 : inB (m : Int) 1 6 with
  | false =>
    rw [h1, Bool.and_false] at hsp
    rw [hsp]
    rw [h1] at E1
    replace E1 := Lib.hid E1
    clear E2 hm hn h1 hsp
    go_enter Try.func19, Try.ntmps19
    go_wp2_with fail
    refine (E1.out).mono ?_
    rintro e w' ⟨rfl, rfl⟩
    go_wp2
    go_ret2
    exact ⟨rfl, rfl⟩
  | true =>
    rw [h1] at E1
    replace E1 := Lib.hid E1
    have h16 := of_decide_eq_true h1
    cases h2 : rngB x (-9) 9 with
    | false =>
      rw [h1, h2] at hsp
      rw [hsp]
      rw [h2] at E2
      replace E2 := Lib.hid E2
      clear hm hn h1 h2 hsp
      go_enter Try.func19, Try.ntmps19
      go_wp2_with fail
      refine (E1.out).mono ?_
      rintro e w' ⟨rfl, rfl⟩
      go_wp2_with fail
      refine (E2.out).mono ?_
      rintro e w' ⟨rfl, rfl⟩
      go_wp2
      go_ret2
      exact ⟨rfl, rfl⟩
    | true =>
      rw [h1, h2] at hsp
      rw [hsp]
      rw [h2] at E2
      replace E2 := Lib.hid E2
      have hx := rngB_of h2
      rw [hn] at hx
      have E3 := Lib.hid (productOfDifferences_any a cap m x w hn (by omega) hc0 (RngK.all9 hn hx) hm)
      clear hm hn h1 h2 hsp hx
      go_enter Try.func19, Try.ntmps19
      go_wp2_with fail
      refine (E1.out).mono ?_
      rintro e w' ⟨rfl, rfl⟩
      go_wp2_with fail
      refine (E2.out).mono ?_
      rintro e w' ⟨rfl, rfl⟩
      go_wp2_with fail
      refine (E3.out).mono ?_
      rintro e w' ⟨rfl, rfl⟩
      go_wp2
      go_ret2
      exact ⟨rfl, rfl⟩

set_option maxHeartbeats 1000000 in
theorem withoutSign_any (x : Nat) (w : World) (hx : x ≤ 1000) :
    Calls Try.prog 116 #[.int .i64 x] w fun e w' => e = .returned (.int .i64 x) ∧ w = w' := by
  go_enter Try.func116, Try.ntmps116
  go_wp2
  go_ret
  exact ⟨ret_int (by omega), rfl⟩

set_option maxHeartbeats 1000000 in
theorem commonDivisor_dr (a b : Nat) (w : World) (ha : a ≤ 1000) (hb : b ≤ 1000) :
    Calls Try.prog 86 #[.int .i64 a, .int .i64 b] w fun e w' => e = .returned (.int .i64 (Nat.gcd a b : Nat)) ∧ Drawn w w' := by
  go_enter Try.func86, Try.ntmps86
  go_wp2
  go_loopg [0, 1] b (fun g x y wr => ∃ p q : Nat, q = g ∧ x = .int .i64 p ∧ y = .int .i64 q ∧ p ≤ 1000 ∧ q ≤ 1000 ∧ Nat.gcd p q = Nat.gcd a b ∧ Drawn w wr)
  case atStart => exact ⟨a, b, rfl, rfl, rfl, ha, hb, rfl, Drawn.refl w⟩
  case round =>
    obtain ⟨p, q, rfl, rfl, rfl, hp, hq, hg, hD⟩ := hrel
    by_cases hz : q = 0
    · subst hz
      rw [Nat.gcd_zero_right] at hg
      subst hg
      have hne : (((0 : Nat) : Int) != 0) = false := by simp
      have E := Lib.hid (withoutSign_any (Nat.gcd a b) wr (by omega))
      go_wp2_with fail
      refine (E.out).mono ?_
      rintro e w' ⟨rfl, rfl⟩
      go_wp2
      go_ret
      exact ⟨rfl, hD⟩
    · have hne : ((q : Int) != 0) = true := by simp; omega
      have hne2 : ((q : Int) == 0) = false := by simp; omega
      have hm : Int.tmod (p : Int) (q : Int) = ((p % q : Nat) : Int) := rfl
      have hlt : p % q < q := Nat.mod_lt _ (by omega)
      have hgg : Nat.gcd q (p % q) = Nat.gcd a b := by rw [Nat.gcd_comm q, ← Nat.gcd_rec, Nat.gcd_comm q p]; exact hg
      have HG := Lib.hid hgg
      clear hg hgg
      go_wp2
      go_quiet (fail)
      go_wp2
      go_roundg (p % q)
      case measure => omega
      case rel => exact ⟨q, p % q, rfl, by go_num, by first | rfl | (rw [← hm]), by omega, by omega, HG.out, hD.trans (Drawn.mk _ _)⟩

theorem commonDivisor_any (a b : Nat) (w : World) (ha : a ≤ 1000) (hb : b ≤ 1000) :
    Calls Try.prog 86 #[.int .i64 a, .int .i64 b] w fun e w' => e = .returned (.int .i64 (Nat.gcd a b : Nat)) ∧ w.Since w.heap.size w' :=
  (commonDivisor_dr a b w ha hb).mono fun _ _ h => ⟨h.1, h.2.since _⟩

set_option maxHeartbeats 1000000 in
theorem l3Gcd_any (a b : Nat) (w : World) (ha : a ≤ 1000) (hb : b ≤ 1000) :
    Calls Try.prog 87 #[.int .i64 a, .int .i64 b] w fun e w' => e = .returned (.int .i64 (Nat.gcd a b : Nat)) ∧ w = w' := by
  have hma : max (a : Int) (-(a : Int)) = a := by omega
  have hmb : max (b : Int) (-(b : Int)) = b := by omega
  go_enter Try.func87, Try.ntmps87
  go_wp2
  go_loopg [0, 1, 5] b (fun g x y _ wr => ∃ p q : Nat, q = g ∧ x = .int .i64 p ∧ y = .int .i64 q ∧ p ≤ 1000 ∧ q ≤ 1000 ∧ Nat.gcd p q = Nat.gcd a b ∧ w = wr)
  case atStart => exact ⟨a, b, rfl, by go_num, by go_num, ha, hb, rfl, rfl⟩
  case round =>
    obtain ⟨p, q, rfl, rfl, rfl, hp, hq, hg, rfl⟩ := hrel
    by_cases hz : q = 0
    · subst hz
      rw [Nat.gcd_zero_right] at hg
      subst hg
      go_wp2
      go_ret
      exact ⟨rfl, rfl⟩
    · have hne : ((q : Int) != 0) = true := by simp; omega
      have hne2 : ((q : Int) == 0) = false := by simp; omega
      have hm : Int.tmod (p : Int) (q : Int) = ((p % q : Nat) : Int) := rfl
      have hlt : p % q < q := Nat.mod_lt _ (by omega)
      have hgg : Nat.gcd q (p % q) = Nat.gcd a b := by rw [Nat.gcd_comm q, ← Nat.gcd_rec, Nat.gcd_comm q p]; exact hg
      have HG := Lib.hid hgg
      clear hg hgg
      go_wp2
      go_roundg (p % q)
      case measure => omega
      case rel => exact ⟨q, p % q, rfl, by go_num, by first | rfl | (rw [← hm]), by omega, by omega, HG.out, rfl⟩

end Go.Proofs.Ytkahgpgnfodpgaa
