import Derived.Test.YtkahgpgnfodpgaaKnownP
import Derived.Test.YtkahgpgnfodpgaaPowV
import Derived.Test.YtkahgpgnfodpgaaUnitImpl
import Derived.BigQuiet
import Derived.Laws.EntriesVeiled
import Derived.Test.YtkahgpgnfodpgaaTabInImpl
import Derived.Test.YtkahgpgnfodpgaaOrdDet
import Derived.Test.YtkahgpgnfodpgaaHarn2
import Derived.Test.YtkahgpgnfodpgaaDrawOne
import Derived.Test.YtkahgpgnfodpgaaPartImpl
import Derived.Test.YtkahgpgnfodpgaaWR
import Derived.Deep.DeepCutAuto
import Derived.Test.YtkahgpgnfodpgaaAddImpl
import Derived.Test.YtkahgpgnfodpgaaAddSpec
import Derived.Test.YtkahgpgnfodpgaaTimesSpec
import Derived.Test.YtkahgpgnfodpgaaSumSpec
import Derived.Test.YtkahgpgnfodpgaaDrawKn
import Derived.Test.YtkahgpgnfodpgaaRows
import Derived.Test.YtkahgpgnfodpgaaData
import Derived.ProofKit
import Derived.Deep.Matrix
import Derived.Test.YtkahgpgnfodpgaaDraw0

section
namespace Go.Proofs.Ytkahgpgnfodpgaa
open Go.RowKit Go.Deep

theorem pow_bd60 {y : Int} (h : -60 ≤ y ∧ y ≤ 60) : ∀ t : Nat, -((60 : Int) ^ t) ≤ y ^ t ∧ y ^ t ≤ (60 : Int) ^ t
  | 0 => by simp
  | t + 1 => by
    obtain ⟨i1, i2⟩ := pow_bd60 h t
    rw [Int.pow_succ, Int.pow_succ]
    generalize (60 : Int) ^ t = A at *
    generalize y ^ t = b at *
    have h1 : (A + b) * (60 - y) ≥ 0 := Int.mul_nonneg (by omega) (by omega)
    have h2 : (A + b) * (60 + y) ≥ 0 := Int.mul_nonneg (by omega) (by omega)
    have h3 : (A - b) * (60 + y) ≥ 0 := Int.mul_nonneg (by omega) (by omega)
    have h4 : (A - b) * (60 - y) ≥ 0 := Int.mul_nonneg (by omega) (by omega)
    simp only [Int.add_mul, Int.sub_mul, Int.mul_add, Int.mul_sub] at h1 h2 h3 h4
    omega
theorem pow60 : ∀ t : Fin 6, (60 : Int) ^ t.val ≤ 777600000 := by decide +kernel
theorem pow_bd65 {y : Int} (h : -60 ≤ y ∧ y ≤ 60) {t : Nat} (ht : t ≤ 5) : -777600000 ≤ y ^ t ∧ y ^ t ≤ 777600000 := by
  have h1 := pow_bd60 h t
  have h2 := pow60 ⟨t, by omega⟩
  simp only at h2
  omega

set_option maxHeartbeats 1000000 in
theorem power_any (x : Int) (n : Nat) (w : World) (hx : -60 ≤ x ∧ x ≤ 60) (hn : n ≤ 5) :
    Calls Try.prog 65 #[.int .i64 x, .int .i64 n] w fun e w' => e = .returned (.int .i64 (x ^ n)) ∧ w = w' := by
  go_enter Try.func65, Try.ntmps65
  go_wp2
  go_loopg [5, 7] n (fun g p i wr => ∃ k : Nat, k ≤ n ∧ g = n - k ∧ i = .int .i64 k ∧ p = .int .i64 (x ^ k) ∧ w = wr)
  case atStart => exact ⟨0, Nat.zero_le _, rfl, rfl, by rw [Int.pow_zero], rfl⟩
  case round =>
    obtain ⟨k, hk, rfl, rfl, rfl, rfl⟩ := hrel
    by_cases hlt : k < n
    · have h2 := pow_bd65 hx (t := k + 1) (by omega)
      have h3 := Int.pow_succ x k
      obtain ⟨p, hp⟩ : ∃ p, x ^ k = p := ⟨_, rfl⟩
      obtain ⟨q, hq⟩ : ∃ q, x ^ (k + 1) = q := ⟨_, rfl⟩
      rw [hq, hp] at h3
      rw [hq] at h2
      rw [hp]
      have hw : wrap64 (p * x) = q := by rw [← h3]; unfold wrap64; omega
      have hw2 : IntKind.i64.wrap (p * x) = q := by rw [← h3]; exact IntWalk.i64_in _ ⟨by omega, by omega⟩
      have HQ := Lib.hid hq
      clear h3 hp hq
      go_wp2
      go_roundg (n - (k + 1))
      case measure => omega
      case rel => exact ⟨k + 1, by omega, rfl, by go_num, by first | rw [HQ.out] | rw [HQ.out, hw], rfl⟩
    · have : k = n := by omega
      subst this
      go_wp2
      go_ret
      exact ⟨rfl, rfl⟩

def smK (x : List Int) : Nat → Int
  | 0 => 0
  | k + 1 => smK x k + x.getD k 0
theorem smK_bd {x : List Int} {m : Nat} (hx : RngK x (-30) 30 m) : ∀ k, k ≤ m → -(30 * (k : Int)) ≤ smK x k ∧ smK x k ≤ 30 * (k : Int)
  | 0, _ => by simp [smK]
  | k + 1, h => by
    have i := smK_bd hx k (by omega)
    have c := hx k (by omega)
    simp only [inB, decide_eq_true_eq] at c
    simp only [smK]
    omega

set_option maxHeartbeats 1000000 in
theorem sumOf_any (a : Option Addr) (cap m : Nat) (x : List Int) (w : World) (hn : x.length = m) (h6 : m ≤ 1048576) (hx : RngK x (-30) 30 m) (hm : RowR w a x) :
    Calls Try.prog 99 #[.slice a m cap] w fun e w' => e = .returned (.int .i64 (smK x m)) ∧ w = w' := by
  have H := Lib.hid hn; clear hn
  have HX := Lib.hid hx; clear hx
  go_enter Try.func99, Try.ntmps99
  go_wp2
  go_loopg [3, 5, 8] m (fun g s _ i wr => ∃ k : Nat, k ≤ m ∧ g = m - k ∧ i = .int .i64 k ∧ s = .int .i64 (smK x k) ∧ w = wr)
  case atStart => exact ⟨0, Nat.zero_le _, rfl, rfl, rfl, rfl⟩
  case round =>
    obtain ⟨k, hk, rfl, rfl, rfl, rfl⟩ := hrel
    by_cases hlt : k < m
    · obtain ⟨b, o, rfl, hc⟩ := hm (by rw [H.out]; omega)
      have cj := hc k (by rw [H.out]; exact hlt)
      have b1 := smK_bd HX.out k (by omega)
      have b2 := smK_bd HX.out (k + 1) (by omega)
      have hs : smK x (k + 1) = smK x k + x.getD k 0 := rfl
      obtain ⟨y, hy⟩ : ∃ y, x.getD k 0 = y := ⟨_, rfl⟩
      obtain ⟨p, hp⟩ : ∃ p, smK x k = p := ⟨_, rfl⟩
      rw [hs] at b2
      rw [hy] at cj hs b2
      rw [hp] at b1 b2 hs ⊢
      have HS := Lib.hid hs
      clear hc hm hs hy hp
      go_wp2
      go_roundg (m - (k + 1))
      case measure => omega
      case rel => exact ⟨k + 1, by omega, rfl, by go_num, by rw [HS.out], rfl⟩
    · have : k = m := by omega
      subst this
      go_wp2
      go_ret
      exact ⟨rfl, rfl⟩

set_option maxHeartbeats 1000000 in
theorem specTurnsSum_loop (a : Option Addr) (cap m : Nat) (x : List Int) (w : World) (hn : x.length = m) (h63 : m ≤ 9223372036854775807) (hm : RowR w a x) :
    Calls Try.prog 51 #[.slice a m cap] w fun e w' => e = .returned (.tuple #[.int .i64 (if l8B x 30 = true then smK x m else 0), .bool (l8B x 30)]) ∧ w = w' := by
  have E := l8List_any a cap m x 30 w ⟨by omega, by omega⟩ hn h63 hm
  have H := Lib.hid hn
  cases hok : l8B x 30 with
  | false =>
    rw [hok] at E
    replace E := Lib.hid E
    clear hok hm hn
    go_enter Try.func51, Try.ntmps51
    go_wp2_with fail
    refine (E.out).mono ?_
    rintro e w' ⟨rfl, rfl⟩
    go_wp2
    go_ret2
    exact ⟨rfl, rfl⟩
  | true =>
    rw [hok] at E
    replace E := Lib.hid E
    obtain ⟨hx, h1, h6⟩ := l8B_of hok
    rw [hn] at hx h1 h6
    have HX := Lib.hid (show RngK x (-30) 30 m from hx)
    clear hok hn hx
    go_enter Try.func51, Try.ntmps51
    go_wp2_with fail
    refine (E.out).mono ?_
    rintro e w' ⟨rfl, rfl⟩
    go_wp2
    go_loopg [4, 5] m (fun g s i wr => ∃ k : Nat, k ≤ m ∧ g = m - k ∧ i = .int .i64 k ∧ s = .int .i64 (smK x k) ∧ w = wr)
    case atStart => exact ⟨0, Nat.zero_le _, rfl, rfl, rfl, rfl⟩
    case round =>
      obtain ⟨k, hk, rfl, rfl, rfl, rfl⟩ := hrel
      by_cases hlt : k < m
      · obtain ⟨b, o, rfl, hc⟩ := hm (by rw [H.out]; omega)
        have cj := hc k (by rw [H.out]; exact hlt)
        have b1 := smK_bd HX.out k (by omega)
        have b2 := smK_bd HX.out (k + 1) (by omega)
        have hs : smK x (k + 1) = smK x k + x.getD k 0 := rfl
        obtain ⟨y, hy⟩ : ∃ y, x.getD k 0 = y := ⟨_, rfl⟩
        obtain ⟨p, hp⟩ : ∃ p, smK x k = p := ⟨_, rfl⟩
        rw [hs] at b2
        rw [hy] at cj hs b2
        rw [hp] at b1 b2 hs ⊢
        have HS := Lib.hid hs
        clear hc hm hs hy hp
        go_wp2
        go_roundg (m - (k + 1))
        case measure => omega
        case rel => exact ⟨k + 1, by omega, rfl, by go_num, by rw [HS.out], rfl⟩
      · have : k = m := by omega
        subst this
        go_wp2
        go_ret2
        exact ⟨rfl, rfl⟩

theorem l8B_split (x : List Int) (most : Int) : l8B x most = (rngB x (-most) most && inB x.length 1 6) := rfl

set_option maxHeartbeats 1000000 in
theorem implKnownTurnsSum_any (a : Option Addr) (cap m : Nat) (x : List Int) (w : World) (hn : x.length = m) (h6 : m ≤ 1048576) (hm : RowR w a x) :
    Calls Try.prog 49 #[.slice a m cap] w fun e w' => e = .returned (.tuple #[.int .i64 (if l8B x 30 = true then smK x m else 0), .bool (l8B x 30)]) ∧ w = w' := by
  have E1 := isSide_any m w
  have E2 := entriesIn_any a cap m x w hn h6 hm
  rw [← numsIn_rng] at E2
  have hsp := l8B_split x 30
  rw [hn] at hsp
  cases h1 : inB (m : Int) 1 6 with
  | false =>
    rw [h1, Bool.and_false] at hsp
    rw [hsp]
    rw [h1] at E1
    replace E1 := Lib.hid E1
    clear E2 hm hn h1 hsp
    go_enter Try.func49, Try.ntmps49
    go_wp2_with fail
    refine (E1.out).mono ?_
    rintro e w' ⟨rfl, rfl⟩
    go_wp2
    go_ret2
    exact ⟨rfl, rfl⟩
  | true =>
    rw [h1] at E1
    replace E1 := Lib.hid E1
    cases h2 : rngB x (-30) 30 with
    | false =>
      rw [h1, h2] at hsp
      rw [hsp]
      rw [h2] at E2
      replace E2 := Lib.hid E2
      clear hm hn h1 h2 hsp
      go_enter Try.func49, Try.ntmps49
      go_wp2_with fail
      refine (E1.out).mono ?_
      rintro e w' ⟨rfl, rfl⟩
      go_wp2_with fail
      refine (E2.out).mono ?_
      rintro e w' ⟨rfl, rfl⟩
      go_wp2
      go_ret2
      exact ⟨rfl, rfl⟩
    | true =>
      rw [h1, h2] at hsp
      rw [hsp]
      rw [h2] at E2
      replace E2 := Lib.hid E2
      have hx := rngB_of h2
      rw [hn] at hx
      have E3 := Lib.hid (sumOf_any a cap m x w hn h6 hx hm)
      clear hm hn h1 h2 hsp hx
      go_enter Try.func49, Try.ntmps49
      go_wp2_with fail
      refine (E1.out).mono ?_
      rintro e w' ⟨rfl, rfl⟩
      go_wp2_with fail
      refine (E2.out).mono ?_
      rintro e w' ⟨rfl, rfl⟩
      go_wp2_with fail
      refine (E3.out).mono ?_
      rintro e w' ⟨rfl, rfl⟩
      go_wp2
      go_ret2
      exact ⟨rfl, rfl⟩

end Go.Proofs.Ytkahgpgnfodpgaa
end

section
namespace Go.Proofs.Ytkahgpgnfodpgaa
open Go.RowKit Go.Deep

theorem RngK.all9 {x : List Int} {m : Nat} (hn : x.length = m) (h : RngK x (-9) 9 m) (j : Nat) : -9 ≤ x.getD j 0 ∧ x.getD j 0 ≤ 9 := by
  by_cases hj : j < m
  · have := h j hj
    simp only [inB, decide_eq_true_eq] at this
    exact this
  · have : x.getD j 0 = 0 := by simp [List.getD, List.getElem?_eq_none (show x.length ≤ j by omega)]
    omega

set_option maxRecDepth 100000 in
set_option maxHeartbeats 2000000 in
theorem productOfDifferences_any (a : Option Addr) (cap m : Nat) (x : List Int) (w : World) (hn : x.length = m) (h6 : m ≤ 6) (hc0 : m ≤ cap) (hx : ∀ j, -9 ≤ x.getD j 0 ∧ x.getD j 0 ≤ 9) (hm : RowR w a x) :
    Calls Try.prog 72 #[.slice a m cap] w fun e w' => e = .returned (.int .i64 (vdO x m)) ∧ w = w' := by
  have H := Lib.hid hn; clear hn
  have HX := Lib.hid hx; clear hx
  go_enter Try.func72, Try.ntmps72
  go_wp2
  go_loopg [3, 4, 5, 7, 10] m (fun g s _ _ _ i wr => ∃ k : Nat, k ≤ m ∧ g = m - k ∧ i = .int .i64 k ∧ s = .int .i64 (vdO x k) ∧ w = wr)
  case atStart => exact ⟨0, Nat.zero_le _, rfl, rfl, rfl, rfl⟩
  case round =>
    obtain ⟨k, hk, rfl, rfl, rfl, rfl⟩ := hrel
    by_cases hlt : k < m
    · obtain ⟨b, o, rfl, hc⟩ := hm (by rw [H.out]; omega)
      have cj := hc k (by rw [H.out]; exact hlt)
      obtain ⟨y, hy⟩ : ∃ y, x.getD k 0 = y := ⟨_, rfl⟩
      have hy9 := HX.out k
      rw [hy] at cj hy9
      have HY := Lib.hid hy
      have HC := Lib.hid hc
      clear hc hm hy
      go_wp2
      go_loopg [3, 7, 19] k (fun g s _ i wi => ∃ t : Nat, t ≤ k ∧ g = k - t ∧ i = .int .i64 t ∧ s = .int .i64 (vdI x k (vdO x k) t) ∧ w = wi)
      case atStart => exact ⟨0, Nat.zero_le _, rfl, rfl, rfl, rfl⟩
      case round =>
        obtain ⟨t, ht, rfl, rfl, rfl, rfl⟩ := hrel
        by_cases htl : t < k
        · have ct := HC.out t (by rw [H.out]; omega)
          have hz9 := HX.out t
          have b1 := vdI_lt HX.out (i := k) (k := t) (by omega) (by omega)
          have b2 := vdI_lt HX.out (i := k) (k := t + 1) (by omega) (by omega)
          have hs : vdI x k (vdO x k) (t + 1) = vdI x k (vdO x k) t * (x.getD k 0 - x.getD t 0) := rfl
          obtain ⟨z, hz⟩ : ∃ z, x.getD t 0 = z := ⟨_, rfl⟩
          obtain ⟨p, hp⟩ : ∃ p, vdI x k (vdO x k) t = p := ⟨_, rfl⟩
          obtain ⟨q, hq⟩ : ∃ q, vdI x k (vdO x k) (t + 1) = q := ⟨_, rfl⟩
          rw [hz] at ct hz9 hs
          rw [hp, hq, HY.out] at hs
          rw [hp] at b1 ⊢
          rw [hq] at b2
          have HQ := Lib.hid hq
          have hw : wrap64 (p * (y - z)) = q := by rw [← hs]; unfold wrap64; omega
          clear hz hp hq hs
          go_wp2
          go_roundg (k - (t + 1))
          case measure => omega
          case rel => exact ⟨t + 1, by omega, rfl, by go_num, by rw [HQ.out, hw], rfl⟩
        · have htk : t = k := by omega
          subst htk
          go_wp2
          go_roundg (m - (t + 1))
          case measure => omega
          case rel => exact ⟨t + 1, by omega, rfl, by go_num, rfl, rfl⟩
    · have : k = m := by omega
      subst this
      go_wp2
      go_ret
      exact ⟨rfl, rfl⟩

set_option maxRecDepth 100000 in
set_option maxHeartbeats 2000000 in
theorem specKnownPowersValue_any (a : Option Addr) (cap m : Nat) (x : List Int) (w : World) (hn : x.length = m) (h63 : m ≤ 9223372036854775807) (hm : RowR w a x) :
    Calls Try.prog 22 #[.slice a m cap] w fun e w' => e = .returned (.tuple #[.int .i64 (if l8B x 9 = true then vdO x m else 0), .bool (l8B x 9)]) ∧ w.Since w.heap.size w' := by
  have E := l8List_any a cap m x 9 w ⟨by omega, by omega⟩ hn h63 hm
  have H := Lib.hid hn
  cases hok : l8B x 9 with
  | false =>
    rw [hok] at E
    replace E := Lib.hid E
    clear hok hm hn
    go_enter Try.func22, Try.ntmps22
    go_wp2_with fail
    refine (E.out).mono ?_
    rintro e w' ⟨rfl, rfl⟩
    go_wp2
    go_ret2
    exact ⟨rfl, World.Since.refl _ _⟩
  | true =>
    rw [hok] at E
    replace E := Lib.hid E
    obtain ⟨hx, h1, h6⟩ := l8B_of hok
    rw [hn] at hx h1 h6
    have HX := Lib.hid (RngK.all9 hn hx)
    obtain ⟨b, o, rfl, hc⟩ := hm (by omega)
    have HC := Lib.hid (fun (W : World) (hd : w.Since w.heap.size W) (k : Nat) (hk : k < m) => by
      have c := hc k (by omega)
      exact (hd.cell (a := ⟨b, o + k, none⟩) (World.block_lt_of_cell? _ _ c)).trans c)
    clear hok hn hx hc hm
    go_enter Try.func22, Try.ntmps22
    go_wp2_with fail
    refine (E.out).mono ?_
    rintro e w' ⟨rfl, rfl⟩
    go_wp2
    go_loopg [4, 5, 6] m (fun g s i _ wr => ∃ k : Nat, k ≤ m ∧ g = m - k ∧ i = .int .i64 k ∧ s = .int .i64 (vdO x k) ∧ Drawn w wr)
    case atStart => exact ⟨0, Nat.zero_le _, rfl, rfl, rfl, Drawn.refl w⟩
    case round =>
      obtain ⟨k, hk, rfl, rfl, rfl, hD⟩ := hrel
      by_cases hlt : k < m
      · have HD := Lib.hid hD
        clear hD
        obtain ⟨wo, hwo⟩ : ∃ wo : World, wo = wr := ⟨_, rfl⟩
        rw [← hwo] at HD ⊢
        clear hwo wr
        go_wp2
        go_loopg [4, 6] k (fun g s i wi => ∃ t : Nat, t ≤ k ∧ g = k - t ∧ i = .int .i64 t ∧ s = .int .i64 (vdI x k (vdO x k) t) ∧ Drawn w wi)
        case atStart => exact ⟨0, Nat.zero_le _, rfl, rfl, rfl, HD.out⟩
        case round =>
          obtain ⟨t, ht, rfl, rfl, rfl, hI⟩ := hrel
          clear HD
          by_cases htl : t < k
          · have ck := HC.out wr (hI.since _) k hlt
            have ct := HC.out wr (hI.since _) t (by omega)
            have hy9 := HX.out k
            have hz9 := HX.out t
            have b1 := vdI_lt HX.out (i := k) (k := t) (by omega) (by omega)
            have b2 := vdI_lt HX.out (i := k) (k := t + 1) (by omega) (by omega)
            have hs : vdI x k (vdO x k) (t + 1) = vdI x k (vdO x k) t * (x.getD k 0 - x.getD t 0) := rfl
            obtain ⟨y, hy⟩ : ∃ y, x.getD k 0 = y := ⟨_, rfl⟩
            obtain ⟨z, hz⟩ : ∃ z, x.getD t 0 = z := ⟨_, rfl⟩
            obtain ⟨p, hp⟩ : ∃ p, vdI x k (vdO x k) t = p := ⟨_, rfl⟩
            obtain ⟨q, hq⟩ : ∃ q, vdI x k (vdO x k) (t + 1) = q := ⟨_, rfl⟩
            rw [hy] at ck hy9
            rw [hz] at ct hz9
            rw [hp, hq, hy, hz] at hs
            rw [hp] at b1 ⊢
            rw [hq] at b2
            have HQ := Lib.hid hq
            have hsub : IntKind.i64.wrap (y - z) = y - z := IntWalk.i64_in _ ⟨by omega, by omega⟩
            have hmul : IntKind.i64.wrap (p * (y - z)) = q := by rw [← hs]; exact IntWalk.i64_in _ ⟨by omega, by omega⟩
            have hw : wrap64 (p * (y - z)) = q := by rw [← hs]; unfold wrap64; omega
            have hkm : (k : Int) < (m : Int) := by omega
            have htm : (t : Int) < (m : Int) := by omega
            have hk0 : k < m := hlt
            have ht0 : t < m := by omega
            have HI := Lib.hid hI
            clear hz hp hq hs hy hI
            go_wp2
            go_quiet (fail)
            go_wp2
            go_roundg (k - (t + 1))
            case measure => omega
            case rel => exact ⟨t + 1, by omega, rfl, by go_num, by rw [HQ.out], HI.out.trans (Drawn.mk _ _)⟩
          · have htk : t = k := by omega
            subst htk
            go_wp2
            go_roundg (m - (t + 1))
            case measure => omega
            case rel => exact ⟨t + 1, by omega, rfl, by go_num, rfl, hI⟩
      · have : k = m := by omega
        subst this
        go_wp2
        go_ret2
        exact ⟨rfl, hD.since _⟩

set_option maxHeartbeats 1000000 in
theorem implKnownPowersValue_any (a : Option Addr) (cap m : Nat) (x : List Int) (w : World) (hn : x.length = m) (h63 : m ≤ 9223372036854775807) (hc0 : m ≤ cap) (hm : RowR w a x) :
    Calls Try.prog 19 #[.slice a m cap] w fun e w' => e = .returned (.tuple #[.int .i64 (if l8B x 9 = true then vdO x m else 0), .bool (l8B x 9)]) ∧ w = w' := by
  have E1 := isSide_any m w
  have E2 := allInRange_any a cap m x (-9) 9 w hn h63 hm
  have hsp := l8B_split x 9
  rw [hn] at hsp
  cases h1 : inB (m : Int) 1 6 with
  | false =>
    rw [h1, Bool.and_false] at hsp
    rw [hsp]
    rw [h1] at E1
    replace E1 := Lib.hid E1
    clear E2 hm hn h1 hsp
    go_enter Try.func19, Try.ntmps19
    go_wp2_with fail
    refine (E1.out).mono ?_
    rintro e w' ⟨rfl, rfl⟩
    go_wp2
    go_ret2
    exact ⟨rfl, rfl⟩
  | true =>
    rw [h1] at E1
    replace E1 := Lib.hid E1
    have h16 := of_decide_eq_true h1
    cases h2 : rngB x (-9) 9 with
    | false =>
      rw [h1, h2] at hsp
      rw [hsp]
      rw [h2] at E2
      replace E2 := Lib.hid E2
      clear hm hn h1 h2 hsp
      go_enter Try.func19, Try.ntmps19
      go_wp2_with fail
      refine (E1.out).mono ?_
      rintro e w' ⟨rfl, rfl⟩
      go_wp2_with fail
      refine (E2.out).mono ?_
      rintro e w' ⟨rfl, rfl⟩
      go_wp2
      go_ret2
      exact ⟨rfl, rfl⟩
    | true =>
      rw [h1, h2] at hsp
      rw [hsp]
      rw [h2] at E2
      replace E2 := Lib.hid E2
      have hx := rngB_of h2
      rw [hn] at hx
      have E3 := Lib.hid (productOfDifferences_any a cap m x w hn (by omega) hc0 (RngK.all9 hn hx) hm)
      clear hm hn h1 h2 hsp hx
      go_enter Try.func19, Try.ntmps19
      go_wp2_with fail
      refine (E1.out).mono ?_
      rintro e w' ⟨rfl, rfl⟩
      go_wp2_with fail
      refine (E2.out).mono ?_
      rintro e w' ⟨rfl, rfl⟩
      go_wp2_with fail
      refine (E3.out).mono ?_
      rintro e w' ⟨rfl, rfl⟩
      go_wp2
      go_ret2
      exact ⟨rfl, rfl⟩

set_option maxHeartbeats 1000000 in
theorem withoutSign_any (x : Nat) (w : World) (hx : x ≤ 1000) :
    Calls Try.prog 116 #[.int .i64 x] w fun e w' => e = .returned (.int .i64 x) ∧ w = w' := by
  go_enter Try.func116, Try.ntmps116
  go_wp2
  go_ret
  exact ⟨ret_int (by omega), rfl⟩

set_option maxHeartbeats 1000000 in
theorem commonDivisor_dr (a b : Nat) (w : World) (ha : a ≤ 1000) (hb : b ≤ 1000) :
    Calls Try.prog 86 #[.int .i64 a, .int .i64 b] w fun e w' => e = .returned (.int .i64 (Nat.gcd a b : Nat)) ∧ Drawn w w' := by
  go_enter Try.func86, Try.ntmps86
  go_wp2
  go_loopg [0, 1] b (fun g x y wr => ∃ p q : Nat, q = g ∧ x = .int .i64 p ∧ y = .int .i64 q ∧ p ≤ 1000 ∧ q ≤ 1000 ∧ Nat.gcd p q = Nat.gcd a b ∧ Drawn w wr)
  case atStart => exact ⟨a, b, rfl, rfl, rfl, ha, hb, rfl, Drawn.refl w⟩
  case round =>
    obtain ⟨p, q, rfl, rfl, rfl, hp, hq, hg, hD⟩ := hrel
    by_cases hz : q = 0
    · subst hz
      rw [Nat.gcd_zero_right] at hg
      subst hg
      have hne : (((0 : Nat) : Int) != 0) = false := by simp
      have E := Lib.hid (withoutSign_any (Nat.gcd a b) wr (by omega))
      go_wp2_with fail
      refine (E.out).mono ?_
      rintro e w' ⟨rfl, rfl⟩
      go_wp2
      go_ret
      exact ⟨rfl, hD⟩
    · have hne : ((q : Int) != 0) = true := by simp; omega
      have hne2 : ((q : Int) == 0) = false := by simp; omega
      have hm : Int.tmod (p : Int) (q : Int) = ((p % q : Nat) : Int) := rfl
      have hlt : p % q < q := Nat.mod_lt _ (by omega)
      have hgg : Nat.gcd q (p % q) = Nat.gcd a b := by rw [Nat.gcd_comm q, ← Nat.gcd_rec, Nat.gcd_comm q p]; exact hg
      have HG := Lib.hid hgg
      clear hg hgg
      go_wp2
      go_quiet (fail)
      go_wp2
      go_roundg (p % q)
      case measure => omega
      case rel => exact ⟨q, p % q, rfl, by go_num, by first | rfl | (rw [← hm]), by omega, by omega, HG.out, hD.trans (Drawn.mk _ _)⟩

theorem commonDivisor_any (a b : Nat) (w : World) (ha : a ≤ 1000) (hb : b ≤ 1000) :
    Calls Try.prog 86 #[.int .i64 a, .int .i64 b] w fun e w' => e = .returned (.int .i64 (Nat.gcd a b : Nat)) ∧ w.Since w.heap.size w' :=
  (commonDivisor_dr a b w ha hb).mono fun _ _ h => ⟨h.1, h.2.since _⟩

set_option maxHeartbeats 1000000 in
theorem l3Gcd_any (a b : Nat) (w : World) (ha : a ≤ 1000) (hb : b ≤ 1000) :
    Calls Try.prog 87 #[.int .i64 a, .int .i64 b] w fun e w' => e = .returned (.int .i64 (Nat.gcd a b : Nat)) ∧ w = w' := by
  have hma : max (a : Int) (-(a : Int)) = a := by omega
  have hmb : max (b : Int) (-(b : Int)) = b := by omega
  go_enter Try.func87, Try.ntmps87
  go_wp2
  go_loopg [0, 1, 5] b (fun g x y _ wr => ∃ p q : Nat, q = g ∧ x = .int .i64 p ∧ y = .int .i64 q ∧ p ≤ 1000 ∧ q ≤ 1000 ∧ Nat.gcd p q = Nat.gcd a b ∧ w = wr)
  case atStart => exact ⟨a, b, rfl, by go_num, by go_num, ha, hb, rfl, rfl⟩
  case round =>
    obtain ⟨p, q, rfl, rfl, rfl, hp, hq, hg, rfl⟩ := hrel
    by_cases hz : q = 0
    · subst hz
      rw [Nat.gcd_zero_right] at hg
      subst hg
      go_wp2
      go_ret
      exact ⟨rfl, rfl⟩
    · have hne : ((q : Int) != 0) = true := by simp; omega
      have hne2 : ((q : Int) == 0) = false := by simp; omega
      have hm : Int.tmod (p : Int) (q : Int) = ((p % q : Nat) : Int) := rfl
      have hlt : p % q < q := Nat.mod_lt _ (by omega)
      have hgg : Nat.gcd q (p % q) = Nat.gcd a b := by rw [Nat.gcd_comm q, ← Nat.gcd_rec, Nat.gcd_comm q p]; exact hg
      have HG := Lib.hid hgg
      clear hg hgg
      go_wp2
      go_roundg (p % q)
      case measure => omega
      case rel => exact ⟨q, p % q, rfl, by go_num, by first | rfl | (rw [← hm]), by omega, by omega, HG.out, rfl⟩

end Go.Proofs.Ytkahgpgnfodpgaa
end

section
namespace Go.Proofs.Ytkahgpgnfodpgaa
open Go.RowKit Go.Deep

def oneIf (d : Nat) : Nat := if d = 1 then 1 else 0
theorem oneIf_one : oneIf 1 = 1 := rfl
theorem oneIf_no {d : Nat} (h : d ≠ 1) : oneIf d = 0 := if_neg h
def phK (i : Nat) : Nat → Nat
  | 0 => 0
  | k + 1 => phK i k + oneIf (Nat.gcd i (k + 1))
def dvK : Nat → Nat
  | 0 => 1
  | i + 1 => dvK i * phK (i + 1) (i + 1)
theorem phK_le (i : Nat) : ∀ k, phK i k ≤ k
  | 0 => Nat.le_refl _
  | k + 1 => by have := phK_le i k; simp only [phK, oneIf]; split <;> omega
theorem dvK_le : ∀ i : Fin 7, 1 ≤ dvK i.val ∧ dvK i.val ≤ 32 := by decide +kernel

set_option maxHeartbeats 1000000 in
theorem countPrimeTo_any (n : Nat) (w : World) (hn : n ≤ 1000) :
    Calls Try.prog 88 #[.int .i64 n] w fun e w' => e = .returned (.int .i64 (phK n n : Nat)) ∧ w.Since w.heap.size w' := by
  go_enter Try.func88, Try.ntmps88
  go_wp2
  go_loopg [3, 4] n (fun g c i wr => ∃ k : Nat, k ≤ n ∧ g = n - k ∧ i = .int .i64 ((k : Int) + 1) ∧ c = .int .i64 (phK n k : Nat) ∧ w.Since w.heap.size wr)
  case atStart => exact ⟨0, Nat.zero_le _, rfl, by go_num, rfl, World.Since.refl _ _⟩
  case round =>
    obtain ⟨k, hk, rfl, rfl, rfl, hs⟩ := hrel
    have hp := phK_le n k
    by_cases hlt : k < n
    · have E := commonDivisor_any (k + 1) n wr (by omega) (by omega)
      have hst : phK n (k + 1) = phK n k + oneIf (Nat.gcd n (k + 1)) := rfl
      rw [Nat.gcd_comm, show ((k + 1 : Nat) : Int) = (k : Int) + 1 by omega] at E
      obtain ⟨d, hd⟩ : ∃ d, Nat.gcd n (k + 1) = d := ⟨_, rfl⟩
      rw [hd] at E hst
      replace E := Lib.hid E
      have HS := Lib.hid hs
      by_cases h1 : d = 1
      · subst h1
        rw [oneIf_one] at hst
        have HST := Lib.hid hst
        clear hd hs hst
        go_wp2_with fail
        refine (E.out).mono ?_
        rintro e w2 ⟨rfl, hs2⟩
        go_wp2
        go_roundg (n - (k + 1))
        case measure => omega
        case rel => exact ⟨k + 1, by omega, rfl, by go_num, by rw [HST.out]; go_num, HS.out.trans (since_mono hs2 HS.out.size)⟩
      · rw [oneIf_no h1] at hst
        have HST := Lib.hid hst
        have hne : ((d : Int) == 1) = false := by simp; omega
        clear hd hs hst
        go_wp2_with fail
        refine (E.out).mono ?_
        rintro e w2 ⟨rfl, hs2⟩
        go_wp2
        go_roundg (n - (k + 1))
        case measure => omega
        case rel => exact ⟨k + 1, by omega, rfl, by go_num, by rw [HST.out]; rfl, HS.out.trans (since_mono hs2 HS.out.size)⟩
    · have : k = n := by omega
      subst this
      go_wp2
      go_ret
      exact ⟨rfl, hs⟩

set_option maxHeartbeats 1000000 in
theorem implKnownDivisorsValue_any (n : Int) (w : World) :
    Calls Try.prog 34 #[.int .i64 n] w fun e w' => e = .returned (.tuple #[.int .i64 (if inB n 1 6 = true then (dvK n.toNat : Nat) else 0), .bool (inB n 1 6)]) ∧ w.Since w.heap.size w' := by
  have E := isSide_any n w
  cases hin : inB n 1 6 with
  | false =>
    rw [hin] at E
    replace E := Lib.hid E
    clear hin
    go_enter Try.func34, Try.ntmps34
    go_wp2_with fail
    refine (E.out).mono ?_
    rintro e w' ⟨rfl, rfl⟩
    go_wp2
    go_ret2
    exact ⟨rfl, World.Since.refl _ _⟩
  | true =>
    rw [hin] at E
    have h6 := of_decide_eq_true hin
    obtain ⟨m, rfl⟩ := Int.eq_ofNat_of_zero_le (show 0 ≤ n by omega)
    replace E := Lib.hid E
    clear hin
    rw [Int.toNat_natCast]
    go_enter Try.func34, Try.ntmps34
    go_wp2_with fail
    refine (E.out).mono ?_
    rintro e w' ⟨rfl, rfl⟩
    go_wp2
    go_loopg [4, 5] m (fun g c i wr => ∃ k : Nat, k ≤ m ∧ g = m - k ∧ i = .int .i64 ((k : Int) + 1) ∧ c = .int .i64 (dvK k : Nat) ∧ w.Since w.heap.size wr)
    case atStart => exact ⟨0, Nat.zero_le _, rfl, by go_num, rfl, World.Since.refl _ _⟩
    case round =>
      obtain ⟨k, hk, rfl, rfl, rfl, hs⟩ := hrel
      by_cases hlt : k < m
      · have E := countPrimeTo_any (k + 1) wr (by omega)
        have hst : dvK (k + 1) = dvK k * phK (k + 1) (k + 1) := rfl
        have b1 := dvK_le ⟨k, by omega⟩
        have b2 := dvK_le ⟨k + 1, by omega⟩
        simp only at b1 b2
        obtain ⟨p, hp⟩ : ∃ p, phK (k + 1) (k + 1) = p := ⟨_, rfl⟩
        obtain ⟨q, hq⟩ : ∃ q, dvK k = q := ⟨_, rfl⟩
        rw [hp, show ((k + 1 : Nat) : Int) = (k : Int) + 1 by omega] at E
        rw [hp, hq] at hst
        rw [hst] at b2
        rw [hq]
        have hmul : wrap64 ((q : Int) * (p : Int)) = ((dvK (k + 1) : Nat) : Int) := by rw [hst, Int.natCast_mul]; have : (q : Int) * (p : Int) = ((q * p : Nat) : Int) := by rw [Int.natCast_mul]
                                                                                       rw [this]; unfold wrap64; omega
        replace E := Lib.hid E
        have HS := Lib.hid hs
        have HMUL := Lib.hid hmul
        clear hp hq hst hs b1 b2 hmul
        go_wp2_with fail
        refine (E.out).mono ?_
        rintro e w2 ⟨rfl, hs2⟩
        go_wp2
        go_roundg (m - (k + 1))
        case measure => omega
        case rel => exact ⟨k + 1, by omega, rfl, by go_num, by rw [HMUL.out], HS.out.trans (since_mono hs2 HS.out.size)⟩
      · have : k = m := by omega
        subst this
        go_wp2
        go_ret2
        exact ⟨rfl, hs⟩

set_option maxHeartbeats 1000000 in
theorem specKnownDivisorsValue_any (n : Int) (w : World) :
    Calls Try.prog 36 #[.int .i64 n] w fun e w' => e = .returned (.tuple #[.int .i64 (if inB n 1 6 = true then (dvK n.toNat : Nat) else 0), .bool (inB n 1 6)]) ∧ w = w' := by
  have E := l6In_any n 1 6 w
  cases hin : inB n 1 6 with
  | false =>
    rw [hin] at E
    replace E := Lib.hid E
    clear hin
    go_enter Try.func36, Try.ntmps36
    go_wp2_with fail
    refine (E.out).mono ?_
    rintro e w' ⟨rfl, rfl⟩
    go_wp2
    go_ret2
    exact ⟨rfl, rfl⟩
  | true =>
    rw [hin] at E
    have h6 := of_decide_eq_true hin
    obtain ⟨m, rfl⟩ := Int.eq_ofNat_of_zero_le (show 0 ≤ n by omega)
    replace E := Lib.hid E
    clear hin
    rw [Int.toNat_natCast]
    go_enter Try.func36, Try.ntmps36
    go_wp2_with fail
    refine (E.out).mono ?_
    rintro e w' ⟨rfl, rfl⟩
    go_wp2
    go_loopg [4, 5, 6, 7] m (fun g c i _ _ wr => ∃ k : Nat, k ≤ m ∧ g = m - k ∧ i = .int .i64 ((k : Int) + 1) ∧ c = .int .i64 (dvK k : Nat) ∧ w = wr)
    case atStart => exact ⟨0, Nat.zero_le _, rfl, by go_num, rfl, rfl⟩
    case round =>
      obtain ⟨k, hk, rfl, rfl, rfl, rfl⟩ := hrel
      by_cases hlt : k < m
      · obtain ⟨q, hq⟩ : ∃ q, dvK k = q := ⟨_, rfl⟩
        have b2 := dvK_le ⟨k + 1, by omega⟩
        simp only at b2
        have hst : dvK (k + 1) = dvK k * phK (k + 1) (k + 1) := rfl
        rw [hq] at hst ⊢
        rw [hst] at b2
        have HST := Lib.hid hst
        have hkd : decide ((k : Int) + 1 ≤ (m : Int)) = true := by simp; omega
        clear hq hst
        go_wp2
        go_loopg [6, 7] (k + 1) (fun g c i wi => ∃ t : Nat, t ≤ k + 1 ∧ g = k + 1 - t ∧ i = .int .i64 ((t : Int) + 1) ∧ c = .int .i64 (phK (k + 1) t : Nat) ∧ w = wi)
        case atStart => exact ⟨0, Nat.zero_le _, rfl, by go_num, rfl, rfl⟩
        case round =>
          obtain ⟨t, ht, rfl, rfl, rfl, rfl⟩ := hrel
          have hp := phK_le (k + 1) t
          by_cases htl : t < k + 1
          · have E := l3Gcd_any (k + 1) (t + 1) w (by omega) (by omega)
            have hs2 : phK (k + 1) (t + 1) = phK (k + 1) t + oneIf (Nat.gcd (k + 1) (t + 1)) := rfl
            rw [show ((k + 1 : Nat) : Int) = (k : Int) + 1 by omega, show ((t + 1 : Nat) : Int) = (t : Int) + 1 by omega] at E
            obtain ⟨d, hd⟩ : ∃ d, Nat.gcd (k + 1) (t + 1) = d := ⟨_, rfl⟩
            rw [hd] at E hs2
            replace E := Lib.hid E
            by_cases h1 : d = 1
            · subst h1
              rw [oneIf_one] at hs2
              have HS2 := Lib.hid hs2
              clear hd hs2
              go_wp2_with fail
              refine (E.out).mono ?_
              rintro e w2 ⟨rfl, rfl⟩
              go_wp2
              go_roundg (k + 1 - (t + 1))
              case measure => omega
              case rel => exact ⟨t + 1, by omega, rfl, by go_num, by rw [HS2.out]; go_num, rfl⟩
            · rw [oneIf_no h1] at hs2
              have HS2 := Lib.hid hs2
              have hne : ((d : Int) == 1) = false := by simp; omega
              clear hd hs2
              go_wp2_with fail
              refine (E.out).mono ?_
              rintro e w2 ⟨rfl, rfl⟩
              go_wp2
              go_roundg (k + 1 - (t + 1))
              case measure => omega
              case rel => exact ⟨t + 1, by omega, rfl, by go_num, by rw [HS2.out]; rfl, rfl⟩
          · have htk : t = k + 1 := by omega
            subst htk
            obtain ⟨p, hpp⟩ : ∃ p, phK (k + 1) (k + 1) = p := ⟨_, rfl⟩
            rw [hpp] at hp b2 ⊢
            have hmul : wrap64 ((q : Int) * (p : Int)) = ((q * p : Nat) : Int) := by
              rw [show (q : Int) * (p : Int) = ((q * p : Nat) : Int) by rw [Int.natCast_mul]]
              unfold wrap64; omega
            have HM := Lib.hid (show wrap64 ((q : Int) * (p : Int)) = ((dvK (k + 1) : Nat) : Int) by rw [HST.out, hpp]; exact hmul)
            have HM2 := Lib.hid (show (q : Int) * (p : Int) = ((dvK (k + 1) : Nat) : Int) by rw [HST.out, hpp, Int.natCast_mul])
            clear hpp hmul
            go_wp2
            go_roundg (m - (k + 1))
            case measure => omega
            case rel => exact ⟨k + 1, by omega, rfl, by go_num, by first | rw [HM.out] | rw [HM2.out], rfl⟩
      · have : k = m := by omega
        subst this
        go_wp2
        go_ret2
        exact ⟨rfl, rfl⟩

end Go.Proofs.Ytkahgpgnfodpgaa
end

section
namespace Go.Proofs.Ytkahgpgnfodpgaa
open Go.RowKit Go.Deep

def onB (n a b : Int) : Bool := inB n 1 6 && (inB a (-30) 30 && inB b (-30) 30)
theorem onB_of {n a b : Int} (h : onB n a b = true) : (1 ≤ n ∧ n ≤ 6) ∧ (-30 ≤ a ∧ a ≤ 30) ∧ (-30 ≤ b ∧ b ≤ 30) := by
  simp only [onB, Bool.and_eq_true, inB, decide_eq_true_eq] at h
  exact ⟨h.1, h.2.1, h.2.2⟩
def onV (n a b : Int) : Int := (a - b) ^ (n.toNat - 1) * (a + (n - 1) * b)
theorem pw_pow (p : Int) : ∀ n, pw p n = p ^ n
  | 0 => by rw [Int.pow_zero]; rfl
  | n + 1 => by rw [show pw p (n + 1) = p * pw p n from rfl, pw_pow p n, Int.pow_succ, Int.mul_comm]

set_option maxHeartbeats 1000000 in
theorem isToldByOnes_any (n a b : Int) (w : World) :
    Calls Try.prog 78 #[.int .i64 n, .int .i64 a, .int .i64 b] w fun e w' => e = .returned (.bool (onB n a b)) ∧ w = w' := by
  have E1 := isSide_any n w
  unfold onB
  cases h1 : inB n 1 6 with
  | false =>
    rw [h1] at E1
    replace E1 := Lib.hid E1
    clear h1
    go_enter Try.func78, Try.ntmps78
    go_wp2_with fail
    refine (E1.out).mono ?_
    rintro e w' ⟨rfl, rfl⟩
    go_wp2
    go_ret
    exact ⟨rfl, rfl⟩
  | true =>
    rw [h1] at E1
    replace E1 := Lib.hid E1
    cases h2 : inB a (-30) 30 with
    | false =>
      have E2 := Lib.hid (isEntry_at a false w h2)
      clear h1 h2
      go_enter Try.func78, Try.ntmps78
      go_wp2_with fail
      refine (E1.out).mono ?_
      rintro e w' ⟨rfl, rfl⟩
      go_wp2_with fail
      refine (E2.out).mono ?_
      rintro e w' ⟨rfl, rfl⟩
      go_wp2
      go_ret
      exact ⟨rfl, rfl⟩
    | true =>
      have E2 := Lib.hid (isEntry_at a true w h2)
      obtain ⟨c, h3⟩ : ∃ c, inB b (-30) 30 = c := ⟨_, rfl⟩
      have E3 := Lib.hid (isEntry_at b c w h3)
      rw [h3]
      clear h1 h2 h3
      go_enter Try.func78, Try.ntmps78
      go_wp2_with fail
      refine (E1.out).mono ?_
      rintro e w' ⟨rfl, rfl⟩
      go_wp2_with fail
      refine (E2.out).mono ?_
      rintro e w' ⟨rfl, rfl⟩
      go_wp2_with fail
      refine (E3.out).mono ?_
      rintro e w' ⟨rfl, rfl⟩
      go_wp2
      go_ret
      exact ⟨by cases c <;> rfl, rfl⟩

theorem on_bd {a b : Int} (ha : -30 ≤ a ∧ a ≤ 30) (hb : -30 ≤ b ∧ b ≤ 30) (m : Nat) (h1 : 1 ≤ m) (h6 : m ≤ 6) : -180 ≤ a + ((m : Int) - 1) * b ∧ a + ((m : Int) - 1) * b ≤ 180 ∧ -150 ≤ ((m : Int) - 1) * b ∧ ((m : Int) - 1) * b ≤ 150 := by
  have h : m = 1 ∨ m = 2 ∨ m = 3 ∨ m = 4 ∨ m = 5 ∨ m = 6 := by omega
  rcases h with rfl | rfl | rfl | rfl | rfl | rfl <;> omega
theorem on_bd2 {p s : Int} (hp : -777600000 ≤ p ∧ p ≤ 777600000) (hs : -180 ≤ s ∧ s ≤ 180) : -139968000000 ≤ p * s ∧ p * s ≤ 139968000000 := by
  have h1 : (777600000 + p) * (180 - s) ≥ 0 := Int.mul_nonneg (by omega) (by omega)
  have h2 : (777600000 + p) * (180 + s) ≥ 0 := Int.mul_nonneg (by omega) (by omega)
  have h3 : (777600000 - p) * (180 + s) ≥ 0 := Int.mul_nonneg (by omega) (by omega)
  have h4 : (777600000 - p) * (180 - s) ≥ 0 := Int.mul_nonneg (by omega) (by omega)
  simp only [Int.add_mul, Int.sub_mul, Int.mul_add, Int.mul_sub] at h1 h2 h3 h4
  omega

set_option maxHeartbeats 1000000 in
theorem implKnownOnesValue_any (n a b : Int) (w : World) :
    Calls Try.prog 27 #[.int .i64 n, .int .i64 a, .int .i64 b] w fun e w' => e = .returned (.tuple #[.int .i64 (if onB n a b = true then onV n a b else 0), .bool (onB n a b)]) ∧ w = w' := by
  have E1 := isToldByOnes_any n a b w
  cases hok : onB n a b with
  | false =>
    rw [hok] at E1
    replace E1 := Lib.hid E1
    clear hok
    go_enter Try.func27, Try.ntmps27
    go_wp2_with fail
    refine (E1.out).mono ?_
    rintro e w' ⟨rfl, rfl⟩
    go_wp2
    go_ret2
    exact ⟨rfl, rfl⟩
  | true =>
    rw [hok] at E1
    replace E1 := Lib.hid E1
    obtain ⟨hn, ha, hb⟩ := onB_of hok
    clear hok
    obtain ⟨m, rfl⟩ := Int.eq_ofNat_of_zero_le (show 0 ≤ n by omega)
    unfold onV
    rw [Int.toNat_natCast]
    have hbd := on_bd ha hb m (by omega) (by omega)
    have hpb := pow_bd65 (y := a - b) (by omega) (t := m - 1) (by omega)
    have E2 := power_any (a - b) (m - 1) w (by omega) (by omega)
    rw [show ((m - 1 : Nat) : Int) = (m : Int) - 1 by omega] at E2
    have hq := on_bd2 hpb ⟨hbd.1, hbd.2.1⟩
    have h5 : 1 ≤ m ∧ m ≤ 6 := by omega
    obtain ⟨p, hp⟩ : ∃ p, (a - b) ^ (m - 1) = p := ⟨_, rfl⟩
    obtain ⟨u, hu⟩ : ∃ u, ((m : Int) - 1) * b = u := ⟨_, rfl⟩
    rw [hp] at E2 hpb hq ⊢
    rw [hu] at hbd hq ⊢
    have hw1 : wrap64 (((m : Int) - 1) * b) = u := by rw [hu]; unfold wrap64; omega
    obtain ⟨q, hqq⟩ : ∃ q, p * (a + u) = q := ⟨_, rfl⟩
    have hw2 : wrap64 (p * (a + u)) = q := by rw [hqq]; rw [hqq] at hq; unfold wrap64; omega
    rw [hqq] at hq ⊢
    replace E2 := Lib.hid E2
    clear hp hu hqq
    go_enter Try.func27, Try.ntmps27
    go_wp2_with fail
    refine (E1.out).mono ?_
    rintro e w' ⟨rfl, rfl⟩
    go_wp2_with fail
    refine (E2.out).mono ?_
    rintro e w' ⟨rfl, rfl⟩
    go_wp2
    go_ret2
    exact ⟨rfl, rfl⟩

set_option maxHeartbeats 2000000 in
theorem specKnownOnesValue_any (n a b : Int) (w : World) :
    Calls Try.prog 30 #[.int .i64 n, .int .i64 a, .int .i64 b] w fun e w' => e = .returned (.tuple #[.int .i64 (if onB n a b = true then onV n a b else 0), .bool (onB n a b)]) ∧ w = w' := by
  have E1 := l6In_any n 1 6 w
  have hsp : onB n a b = (inB n 1 6 && (inB a (-30) 30 && inB b (-30) 30)) := rfl
  cases h1 : inB n 1 6 with
  | false =>
    rw [h1, Bool.false_and] at hsp
    rw [hsp]
    rw [h1] at E1
    replace E1 := Lib.hid E1
    clear h1 hsp
    go_enter Try.func30, Try.ntmps30
    go_wp2_with fail
    refine (E1.out).mono ?_
    rintro e w' ⟨rfl, rfl⟩
    go_wp2
    go_ret2
    exact ⟨rfl, rfl⟩
  | true =>
    rw [h1] at E1
    replace E1 := Lib.hid E1
    have E2 := l6In_any a (-30) 30 w
    cases h2 : inB a (-30) 30 with
    | false =>
      rw [h1, h2, Bool.false_and, Bool.and_false] at hsp
      rw [hsp]
      rw [h2] at E2
      replace E2 := Lib.hid E2
      clear h1 h2 hsp
      go_enter Try.func30, Try.ntmps30
      go_wp2_with fail
      refine (E1.out).mono ?_
      rintro e w' ⟨rfl, rfl⟩
      go_wp2_with fail
      refine (E2.out).mono ?_
      rintro e w' ⟨rfl, rfl⟩
      go_wp2
      go_ret2
      exact ⟨rfl, rfl⟩
    | true =>
      rw [h2] at E2
      replace E2 := Lib.hid E2
      have E3 := l6In_any b (-30) 30 w
      cases h3 : inB b (-30) 30 with
      | false =>
        rw [h1, h2, h3, Bool.and_false, Bool.and_false] at hsp
        rw [hsp]
        rw [h3] at E3
        replace E3 := Lib.hid E3
        clear h1 h2 h3 hsp
        go_enter Try.func30, Try.ntmps30
        go_wp2_with fail
        refine (E1.out).mono ?_
        rintro e w' ⟨rfl, rfl⟩
        go_wp2_with fail
        refine (E2.out).mono ?_
        rintro e w' ⟨rfl, rfl⟩
        go_wp2_with fail
        refine (E3.out).mono ?_
        rintro e w' ⟨rfl, rfl⟩
        go_wp2
        go_ret2
        exact ⟨rfl, rfl⟩
      | true =>
        rw [h3] at E3
        replace E3 := Lib.hid E3
        rw [h1, h2, h3] at hsp
        obtain ⟨hn, ha, hb⟩ := onB_of (show onB n a b = true from hsp)
        rw [show onB n a b = true from hsp]
        clear h1 h2 h3 hsp
        obtain ⟨m, rfl⟩ := Int.eq_ofNat_of_zero_le (show 0 ≤ n by omega)
        unfold onV
        rw [Int.toNat_natCast]
        have hbd := on_bd ha hb m (by omega) (by omega)
        have HPB := Lib.hid (fun (t : Nat) (ht : t ≤ 5) => on_bd2 (pow_bd65 (y := a - b) (by omega) (t := t) ht) ⟨hbd.1, hbd.2.1⟩)
        have h5 : 1 ≤ m ∧ m ≤ 6 := by omega
        obtain ⟨u, hu⟩ : ∃ u, ((m : Int) - 1) * b = u := ⟨_, rfl⟩
        rw [hu] at hbd HPB ⊢
        have hw1 : wrap64 (((m : Int) - 1) * b) = u := by rw [hu]; unfold wrap64; omega
        obtain ⟨s, hss⟩ : ∃ s, a + u = s := ⟨_, rfl⟩
        rw [hss] at hbd HPB ⊢
        obtain ⟨d, hdd⟩ : ∃ d, a - b = d := ⟨_, rfl⟩
        rw [hdd] at HPB ⊢
        have HSS := Lib.hid hss
        have hd60 : -60 ≤ d ∧ d ≤ 60 := by omega
        clear hu hss
        go_enter Try.func30, Try.ntmps30
        go_wp2_with fail
        refine (E1.out).mono ?_
        rintro e w' ⟨rfl, rfl⟩
        go_wp2_with fail
        refine (E2.out).mono ?_
        rintro e w' ⟨rfl, rfl⟩
        go_wp2_with fail
        refine (E3.out).mono ?_
        rintro e w' ⟨rfl, rfl⟩
        go_wp2
        go_loopg [8, 9] m (fun g v i wr => ∃ t : Nat, t + 1 ≤ m ∧ g = m - t ∧ i = .int .i64 ((t : Int) + 1) ∧ v = .int .i64 (d ^ t * s) ∧ w = wr)
        case atStart => exact ⟨0, by omega, rfl, rfl, by rw [Int.pow_zero, Int.one_mul, HSS.out], rfl⟩
        case round =>
          obtain ⟨t, ht, rfl, rfl, rfl, rfl⟩ := hrel
          by_cases htm : t + 1 < m
          · have b1 := HPB.out t (by omega)
            have b2 := HPB.out (t + 1) (by omega)
            have hst : d ^ (t + 1) * s = d ^ t * s * d := by rw [Int.pow_succ, Int.mul_assoc, Int.mul_comm d s, Int.mul_assoc]
            obtain ⟨p, hp⟩ : ∃ p, d ^ t * s = p := ⟨_, rfl⟩
            obtain ⟨q, hq⟩ : ∃ q, d ^ (t + 1) * s = q := ⟨_, rfl⟩
            rw [hp] at b1 hst ⊢
            rw [hq] at b2 hst
            have hmul : wrap64 (p * d) = q := by rw [← hst]; unfold wrap64; omega
            have HQ := Lib.hid hq
            clear hp hq hst
            go_wp2
            go_roundg (m - (t + 1))
            case measure => omega
            case rel => exact ⟨t + 1, by omega, rfl, by go_num, by rw [HQ.out, hmul], rfl⟩
          · have : m = t + 1 := by omega
            subst this
            go_wp2
            go_ret2
            exact ⟨rfl, rfl⟩

end Go.Proofs.Ytkahgpgnfodpgaa
end

section
namespace Go.Proofs.Ytkahgpgnfodpgaa
open Go.RowKit Go.Deep

theorem told_cells {W : World} {b : Nat} {s g : Value} {t : TypeId} (h : W.heap[b]? = some (.cells #[s, g] t)) : W.cell? ⟨b, 0, none⟩ = some s ∧ W.cell? ⟨b, 1, none⟩ = some g := by
  simp [World.cell?, h]

set_option maxRecDepth 100000 in
set_option maxHeartbeats 2000000 in
theorem toldEntry_any (K : Nat) (caps : Array Value) (B b o n cap i k : Nat) (x v : Int) (W : World)
    (hb : W.heap[B]? = some (.cells #[.slice (some ⟨b, o, none⟩) n cap, .func (.func K) #[] caps] 57)) (hi : i < n) (hx : W.cell? ⟨b, o + i, none⟩ = some (.int .i64 x))
    (eg : ∀ args w, (callFunc K args).run Try.prog w = .ok (.enter K args) w)
    (hE : ∀ W', Drawn W W' → Calls Try.prog K (#[.int .i64 x, .int .i64 k] ++ caps) W' fun e w' => e = .returned (.int .i64 v) ∧ Drawn W' w') :
    Calls Try.prog 124 #[.int .i64 i, .int .i64 k, .pointer (some ⟨B, 0, none⟩)] W fun e w' => e = .returned (.int .i64 v) ∧ Drawn W w' := by
  obtain ⟨c0, c1⟩ := told_cells hb
  have hii : (i : Int) < (n : Int) := by omega
  have HE := Lib.hid hE
  clear hE hb
  go_enter Try.func124, Try.ntmps124
  go_wp2
  go_quiet ((refine Calls.quiet_of (HE.out _ ?_); exact Drawn.mk _ _))
  go_wp2
  go_ret
  exact ⟨rfl, Drawn.mk _ _⟩

set_option maxRecDepth 100000 in
set_option maxHeartbeats 2000000 in
theorem toldTable_any (K : Nat) (caps : Array Value) (b o n cap : Nat) (x : Nat → Int) (f : Nat → Nat → Int) (w : World) (hn : n ≤ 1000)
    (hx : ∀ i, i < n → w.cell? ⟨b, o + i, none⟩ = some (.int .i64 (x i)))
    (eg : ∀ args w, (callFunc K args).run Try.prog w = .ok (.enter K args) w)
    (hE : ∀ (W : World) (i k : Nat), w.Since w.heap.size W → i < n → k < n → Calls Try.prog K (#[.int .i64 (x i), .int .i64 k] ++ caps) W fun e w' => e = .returned (.int .i64 (f i k)) ∧ Drawn W w') :
    Calls Try.prog 108 #[.agg #[.slice (some ⟨b, o, none⟩) n cap, .func (.func K) #[] caps]] w fun e w' => ∃ G, e = .returned (.slice (some ⟨G, 0, none⟩) n n) ∧ w.Since w.heap.size w' ∧ OwnT w.heap.size w'.heap.size w' (some ⟨G, 0, none⟩) (tabF n n f) := by
  obtain ⟨w1, hw1⟩ : ∃ w1, w.alloc (.cells #[.slice (some ⟨b, o, none⟩) n cap, .func (.func K) #[] caps] 57) = w1 := ⟨_, rfl⟩
  have hb1 : w1.heap[w.heap.size]? = some (.cells #[.slice (some ⟨b, o, none⟩) n cap, .func (.func K) #[] caps] 57) := by rw [← hw1]; exact World.alloc_heap_new w _
  have hs1 : w.Since w.heap.size w1 := by rw [← hw1]; exact (World.Since.refl _ _).alloc (Nat.le_refl _) _
  have hz1 : w1.heap.size = w.heap.size + 1 := by rw [← hw1]; simp
  have E := newTable_any 124 #[.pointer (some ⟨w.heap.size, 0, none⟩)] n n f w1 hn hn (enters_of Try.func124 (by kernel_rfl) rfl)
    (fun W i k hs hi hk => (toldEntry_any K caps w.heap.size b o n cap i k (x i) (f i k) W ((hs.block _ (by omega)).trans hb1) hi (((hs1.trans (since_mono hs hs1.size)).cell (a := ⟨b, o + i, none⟩) (World.block_lt_of_cell? _ _ (hx i hi))).trans (hx i hi)) eg
      (fun W' hd => hE W' i k ((hs1.trans (since_mono hs hs1.size)).trans (hd.since _)) hi hk)).mono fun _ _ h => ⟨h.1, h.2.since _⟩)
  replace E := Lib.hid E
  have c0 := (told_cells hb1).1
  clear hE hx
  go_enter Try.func108, Try.ntmps108
  go_wp2_with fail
  refine (E.out).mono ?_
  rintro e w' ⟨rfl, hs, ho⟩
  go_wp2
  go_ret
  rw [hz1] at ho
  exact ⟨_, rfl, hs1.trans (since_mono hs hs1.size), ho.mono (by omega) (Nat.le_refl _)⟩

set_option maxRecDepth 100000 in
set_option maxHeartbeats 2000000 in
theorem toldResult_any (K : Nat) (caps : Array Value) (b o n cap : Nat) (x : Nat → Int) (f : Nat → Nat → Int) (w : World) (hn : n ≤ 1000)
    (hx : ∀ i, i < n → w.cell? ⟨b, o + i, none⟩ = some (.int .i64 (x i)))
    (eg : ∀ args w, (callFunc K args).run Try.prog w = .ok (.enter K args) w)
    (hE : ∀ (W : World) (i k : Nat), w.Since w.heap.size W → i < n → k < n → Calls Try.prog K (#[.int .i64 (x i), .int .i64 k] ++ caps) W fun e w' => e = .returned (.int .i64 (f i k)) ∧ Drawn W w') :
    Calls Try.prog 66 #[.agg #[.slice (some ⟨b, o, none⟩) n cap, .func (.func K) #[] caps]] w (ImplT w (tabIn (tabF n n f)) (tabF n n f)) := by
  obtain ⟨w1, hw1⟩ : ∃ w1, w.alloc (.cells #[.slice (some ⟨b, o, none⟩) n cap, .func (.func K) #[] caps] 57) = w1 := ⟨_, rfl⟩
  have hs1 : w.Since w.heap.size w1 := by rw [← hw1]; exact (World.Since.refl _ _).alloc (Nat.le_refl _) _
  have hz1 : w1.heap.size = w.heap.size + 1 := by rw [← hw1]; simp
  have hb1 : w1.heap[w.heap.size]? = some (.cells #[.slice (some ⟨b, o, none⟩) n cap, .func (.func K) #[] caps] 57) := by rw [← hw1]; exact World.alloc_heap_new w _
  obtain ⟨c0, c1⟩ := told_cells hb1
  have E := Lib.hid (toldTable_any K caps b o n cap x f w1 hn (fun i hi => (hs1.cell (a := ⟨b, o + i, none⟩) (World.block_lt_of_cell? _ _ (hx i hi))).trans (hx i hi)) eg
    (fun W i k hs hi hk => hE W i k (hs1.trans (since_mono hs hs1.size)) hi hk))
  have HT := Lib.hid (tabF_length n n f)
  have HSZ := Lib.hid (szL_tabF n n f hn hn)
  obtain ⟨T, hT⟩ : ∃ T, tabF n n f = T := ⟨_, rfl⟩
  rw [hT] at E HT HSZ ⊢
  clear hE hx hT hb1
  go_enter Try.func66, Try.ntmps66
  go_wp2_with fail
  refine (E.out).mono ?_
  rintro e w2 ⟨G, rfl, hs2, ho2⟩
  have hs12 := hs1.trans (since_mono hs2 hs1.size)
  have HS := Lib.hid hs12
  have HO := Lib.hid ho2
  clear hs2 ho2 hs12 E
  go_wp2_with fail
  refine (result_any _ _ _ _ _ T w2 HT.out HSZ.out HO.out).mono ?_
  rintro e w3 ⟨a, cap', rfl, hs3, ho3⟩
  go_wp2
  go_ret2
  exact ⟨a, cap', rfl, HS.out.trans (since_mono hs3 HS.out.size), ho3.mono (by omega) hs3.size⟩

end Go.Proofs.Ytkahgpgnfodpgaa
end

section
namespace Go.Proofs.Ytkahgpgnfodpgaa
open Go.RowKit Go.Deep

structure PL (w wr : World) (n c : Nat) : Prop where
  since : w.Since w.heap.size wr
  row : wr.rowIs (w.heap.size + 1) 3 n (fun k => if k < c then .int .i64 k else .int .i64 0)
  res : ∃ u v, wr.heap[w.heap.size]? = some (.cells #[u, v] 57)

set_option maxRecDepth 100000 in
set_option maxHeartbeats 2000000 in
theorem toldByPlaces_any (n K : Nat) (caps : Array Value) (w : World) (hn : n ≤ 1000) :
    Calls Try.prog 79 #[.int .i64 n, .func (.func K) #[] caps] w fun e w' => ∃ b, e = .returned (.agg #[.slice (some ⟨b, 0, none⟩) n n, .func (.func K) #[] caps]) ∧ w.Since w.heap.size w' ∧ ∀ i, i < n → w'.cell? ⟨b, 0 + i, none⟩ = some (.int .i64 i) := by
  have hmk := run_make_row' (P := Try.prog) 23 3 (.int .i64 0) 8 Try.underlying23 Try.info3 rfl .i64 .i64 n (by omega) (by omega)
  go_enter Try.func79, Try.ntmps79
  go_wp2
  have hst : PL w ((w.alloc (.cells #[.slice none 0 0, Value.nilFunc] 57)).alloc (.cells (madeCells #[.int .i64 0] n) 3)) n 0 := by
    have r := World.rowIs_made (w.alloc (.cells #[.slice none 0 0, Value.nilFunc] 57)) (.int .i64 0) n 3
    simp only [World.size_alloc] at r
    exact ⟨((World.Since.refl _ w).alloc (Nat.le_refl _) _).alloc (by simp) _, r.congr (fun k _ => by simp), ⟨_, _, (Below.heap_alloc _ _ _ (by simp)).trans (World.alloc_heap_new w _)⟩⟩
  have HST := Lib.hid hst
  clear hst hmk
  go_loopg [6, 11] n (fun g _ i wr => ∃ c : Nat, c ≤ n ∧ g = n - c ∧ i = .int .i64 c ∧ PL w wr n c)
  case atStart => exact ⟨0, Nat.zero_le _, rfl, rfl, HST.out⟩
  case round =>
    obtain ⟨c, hc, rfl, rfl, hR⟩ := hrel
    clear HST
    by_cases hlt : c < n
    · have hc1 := hR.row.cell (i := c) hlt
      have hf1 := hR.row.frozen c
      simp only [Nat.lt_irrefl, if_false] at hc1
      have hP : PL w (wr.setCell ⟨w.heap.size + 1, c, none⟩ (.int .i64 c)) n (c + 1) := by
        obtain ⟨u, v, hr⟩ := hR.res
        refine ⟨hR.since.setCell (by show w.heap.size ≤ w.heap.size + 1; omega) _, (hR.row.set c _).congr (fun k _ => ?_), ⟨u, v, ?_⟩⟩
        · by_cases e : k = c
          · subst e; simp
          · rw [if_neg e]
            by_cases h : k < c
            · rw [if_pos h, if_pos (by omega)]
            · rw [if_neg h, if_neg (by omega)]
        · rw [Below.heap_setCell _ _ _ _ (by show w.heap.size ≠ w.heap.size + 1; omega)]; exact hr
      have HP := Lib.hid hP
      clear hR hP
      go_wp2
      go_roundg (n - (c + 1))
      case measure => omega
      case rel => exact ⟨c + 1, by omega, rfl, by go_num, HP.out⟩
    · have hcc : c = n := by omega
      subst hcc
      obtain ⟨u, v, hr⟩ := hR.res
      obtain ⟨c0, c1⟩ := told_cells hr
      have f0 : wr.frozen? ⟨w.heap.size, 0, none⟩ = false := by simp [World.frozen?, hr]
      have f1 : wr.frozen? ⟨w.heap.size, 1, none⟩ = false := by simp [World.frozen?, hr]
      obtain ⟨S, hS⟩ : ∃ S : Value, S = .slice (some ⟨w.heap.size + 1, 0, none⟩) c c := ⟨_, rfl⟩
      obtain ⟨F, hF⟩ : ∃ F : Value, F = .func (.func K) #[] caps := ⟨_, rfl⟩
      have d0 : (wr.setCell ⟨w.heap.size, 0, none⟩ S).cell? ⟨w.heap.size, 0, none⟩ = some S := World.cell?_setCell_same' _ _ _ (by rw [c0]; rfl)
      have d1 : (wr.setCell ⟨w.heap.size, 0, none⟩ S).cell? ⟨w.heap.size, 1, none⟩ = some v := by rw [World.cell?_setCell_other _ _ _ _ (fun e => by injection e with _ e2; omega)]; exact c1
      have g1 : (wr.setCell ⟨w.heap.size, 0, none⟩ S).frozen? ⟨w.heap.size, 1, none⟩ = false := by rw [World.frozen?_setCell]; exact f1
      have e0 : ((wr.setCell ⟨w.heap.size, 0, none⟩ S).setCell ⟨w.heap.size, 1, none⟩ F).cell? ⟨w.heap.size, 0, none⟩ = some S := by rw [World.cell?_setCell_other _ _ _ _ (fun e => by injection e with _ e2; omega)]; exact d0
      have e1 : ((wr.setCell ⟨w.heap.size, 0, none⟩ S).setCell ⟨w.heap.size, 1, none⟩ F).cell? ⟨w.heap.size, 1, none⟩ = some F := World.cell?_setCell_same' _ _ _ (by rw [d1]; rfl)
      have hs2 : w.Since w.heap.size ((wr.setCell ⟨w.heap.size, 0, none⟩ S).setCell ⟨w.heap.size, 1, none⟩ F) := (hR.since.setCell (Nat.le_refl _) _).setCell (Nat.le_refl _) _
      have hrow2 : ((wr.setCell ⟨w.heap.size, 0, none⟩ S).setCell ⟨w.heap.size, 1, none⟩ F).rowIs (w.heap.size + 1) 3 c (fun k => if k < c then .int .i64 k else .int .i64 0) := (hR.row.setOther (by show w.heap.size + 1 ≠ w.heap.size; omega) _).setOther (by show w.heap.size + 1 ≠ w.heap.size; omega) _
      have HS2 := Lib.hid hs2
      have HROW := Lib.hid hrow2
      rw [hS] at d0 d1 g1 e0 e1 HS2 HROW
      rw [hF] at e0 e1 HS2 HROW
      clear hS hF hs2 hrow2 hR hr
      go_wp2
      refine bodyPost_ret (v := .agg #[.slice (some ⟨w.heap.size + 1, 0, none⟩) c c, .func (.func K) #[] caps]) ?_ rfl ⟨w.heap.size + 1, rfl, HS2.out, fun i hi => ?_⟩
      · simp [results, Try.f79, go_sem, e0, e1]
      · have := HROW.out.cell (i := i) hi
        rw [if_pos hi] at this
        rw [Nat.zero_add]
        exact this

end Go.Proofs.Ytkahgpgnfodpgaa
end

section
namespace Go.Proofs.Ytkahgpgnfodpgaa
open Go.RowKit Go.Deep

set_option maxRecDepth 100000 in
set_option maxHeartbeats 2000000 in
theorem implKnownPowers_any (a : Option Addr) (cap m : Nat) (x : List Int) (w : World) (hn : x.length = m) (h6 : m ≤ 1048576) (hm : RowR w a x) :
    Calls Try.prog 16 #[.slice a m cap] w (ImplT w (l8B x 30 && tabIn (pwTo x m m)) (pwTo x m m)) := by
  have E1 := isSide_any m w
  have E2 := entriesIn_any a cap m x w hn h6 hm
  rw [← numsIn_rng] at E2
  have hsp := l8B_split x 30
  rw [hn] at hsp
  cases h1 : inB (m : Int) 1 6 with
  | false =>
    rw [h1, Bool.and_false] at hsp
    rw [hsp, Bool.false_and]
    rw [h1] at E1
    replace E1 := Lib.hid E1
    clear E2 hm hn h1 hsp
    go_enter Try.func16, Try.ntmps16
    go_wp2_with fail
    refine (E1.out).mono ?_
    rintro e w' ⟨rfl, rfl⟩
    go_wp2
    go_ret2
    exact ⟨_, _, rfl, World.Since.refl _ _, OwnT.nil _ _ _ _⟩
  | true =>
    rw [h1] at E1
    replace E1 := Lib.hid E1
    have h16 := of_decide_eq_true h1
    cases h2 : rngB x (-30) 30 with
    | false =>
      rw [h1, h2] at hsp
      rw [hsp]
      rw [h2] at E2
      replace E2 := Lib.hid E2
      clear hm hn h1 h2 hsp
      go_enter Try.func16, Try.ntmps16
      go_wp2_with fail
      refine (E1.out).mono ?_
      rintro e w' ⟨rfl, rfl⟩
      go_wp2_with fail
      refine (E2.out).mono ?_
      rintro e w' ⟨rfl, rfl⟩
      go_wp2
      go_ret2
      exact ⟨_, _, rfl, World.Since.refl _ _, OwnT.nil _ _ _ _⟩
    | true =>
      rw [h1, h2] at hsp
      rw [hsp]
      rw [h2] at E2
      replace E2 := Lib.hid E2
      have hx := rngB_of h2
      rw [hn] at hx
      obtain ⟨b, o, rfl, hc⟩ := hm (by omega)
      have E3 := Lib.hid (toldResult_any 65 #[] b o m cap (fun i => x.getD i 0) (fun i k => (x.getD i 0) ^ k) w (by omega) (fun i hi => hc i (by omega)) (enters_of Try.func65 (by kernel_rfl) rfl)
        (fun W i k _ hi hk => by
          have hb := hx i hi
          simp only [inB, decide_eq_true_eq] at hb
          exact (power_any (x.getD i 0) k W (by omega) (by omega)).mono fun _ _ h => ⟨h.1, h.2 ▸ Drawn.refl _⟩))
      rw [show tabF m m (fun i k => (x.getD i 0) ^ k) = pwTo x m m from rfl] at E3
      rw [Bool.and_self, Bool.true_and]
      obtain ⟨T, hT⟩ : ∃ T, pwTo x m m = T := ⟨_, rfl⟩
      rw [hT] at E3 ⊢
      clear hc hn h1 h2 hsp hx hT
      go_enter Try.func16, Try.ntmps16
      go_wp2_with fail
      refine (E1.out).mono ?_
      rintro e w' ⟨rfl, rfl⟩
      go_wp2_with fail
      refine (E2.out).mono ?_
      rintro e w' ⟨rfl, rfl⟩
      go_wp2_with fail
      refine (E3.out).mono ?_
      rintro e w' ⟨a', c', rfl, hs, ho⟩
      go_wp2
      go_ret2
      exact ⟨a', c', rfl, hs, ho⟩

def gcL (n : Nat) : List (List Int) := tabF n n fun i k => (Nat.gcd (i + 1) (k + 1) : Nat)
def mnL (n : Nat) : List (List Int) := tabF n n fun i k => (min i k : Nat) + 1
theorem tabIn_sq {m : Nat} {f : Nat → Nat → Int} (h1 : 1 ≤ m) (h6 : m ≤ 6) (hf : ∀ i k, i < m → k < m → -30 ≤ f i k ∧ f i k ≤ 30) : tabIn (tabF m m f) = true := by
  refine tabIn_true ⟨by rw [tabF_length]; exact h1, by rw [tabF_length]; exact h6, fun r hr => ?_⟩
  rw [tabF_length] at hr
  refine ⟨by rw [tabF_len _ _ _ _ hr, tabF_len _ _ _ _ (by omega)], by rw [tabF_len _ _ _ _ hr]; exact h1, by rw [tabF_len _ _ _ _ hr]; exact h6, fun k hk => ?_⟩
  rw [tabF_len _ _ _ _ hr] at hk
  rw [tabF_at _ _ _ _ _ hr hk]
  exact hf r k hr hk
theorem gcL_in {m : Nat} (h1 : 1 ≤ m) (h6 : m ≤ 6) : tabIn (gcL m) = true := tabIn_sq h1 h6 fun i k hi _ => by
  have := Nat.gcd_le_left (k + 1) (show 0 < i + 1 by omega)
  omega
theorem mnL_in {m : Nat} (h1 : 1 ≤ m) (h6 : m ≤ 6) : tabIn (mnL m) = true := tabIn_sq h1 h6 fun i k hi _ => by omega

set_option maxHeartbeats 1000000 in
theorem divEntry_any (i k : Nat) (W : World) (hi : i ≤ 100) (hk : k ≤ 100) :
    Calls Try.prog 85 #[.int .i64 i, .int .i64 k] W fun e w' => e = .returned (.int .i64 (Nat.gcd (i + 1) (k + 1) : Nat)) ∧ Drawn W w' := by
  have E := commonDivisor_dr (i + 1) (k + 1) W (by omega) (by omega)
  rw [show ((i + 1 : Nat) : Int) = (i : Int) + 1 by omega, show ((k + 1 : Nat) : Int) = (k : Int) + 1 by omega] at E
  obtain ⟨d, hd⟩ : ∃ d, Nat.gcd (i + 1) (k + 1) = d := ⟨_, rfl⟩
  rw [hd] at E ⊢
  replace E := Lib.hid E
  clear hd
  go_enter Try.func85, Try.ntmps85
  go_wp2_with fail
  refine (E.out).mono ?_
  rintro e w' ⟨rfl, hd⟩
  go_wp2
  go_ret
  exact ⟨rfl, hd⟩

set_option maxHeartbeats 1000000 in
theorem leastEntry_any (i k : Nat) (W : World) (hi : i ≤ 100) (hk : k ≤ 100) :
    Calls Try.prog 89 #[.int .i64 i, .int .i64 k] W fun e w' => e = .returned (.int .i64 ((min i k : Nat) + 1)) ∧ Drawn W w' := by
  go_enter Try.func89, Try.ntmps89
  go_wp2
  all_goals
    go_ret
    exact ⟨ret_int (by omega), Drawn.refl _⟩

set_option maxRecDepth 100000 in
set_option maxHeartbeats 2000000 in
theorem implKnownDivisors_any (n : Int) (w : World) :
    Calls Try.prog 32 #[.int .i64 n] w (ImplT w (inB n 1 6) (gcL n.toNat)) := by
  have E := isSide_any n w
  cases hin : inB n 1 6 with
  | false =>
    rw [hin] at E
    replace E := Lib.hid E
    clear hin
    go_enter Try.func32, Try.ntmps32
    go_wp2_with fail
    refine (E.out).mono ?_
    rintro e w' ⟨rfl, rfl⟩
    go_wp2
    go_ret2
    exact ⟨_, _, rfl, World.Since.refl _ _, OwnT.nil _ _ _ _⟩
  | true =>
    rw [hin] at E
    replace E := Lib.hid E
    have h6 := of_decide_eq_true hin
    obtain ⟨m, rfl⟩ := Int.eq_ofNat_of_zero_le (show 0 ≤ n by omega)
    clear hin
    rw [Int.toNat_natCast]
    have E2 := Lib.hid (toldByPlaces_any m 85 #[] w (by omega))
    have HT := Lib.hid (gcL_in (m := m) (by omega) (by omega))
    have E3 := Lib.hid (fun (W : World) (b : Nat) (hc : ∀ i, i < m → W.cell? ⟨b, 0 + i, none⟩ = some (.int .i64 i)) => toldResult_any 85 #[] b 0 m m (fun i => (i : Int)) (fun i k => (Nat.gcd (i + 1) (k + 1) : Nat)) W (by omega) hc (enters_of Try.func85 (by kernel_rfl) rfl)
      (fun W i k _ hi hk => divEntry_any i k W (by omega) (by omega)))
    have hL : tabF m m (fun i k => (Nat.gcd (i + 1) (k + 1) : Nat)) = gcL m := rfl
    simp only [hL, HT.out] at E3
    clear hL
    obtain ⟨T, hT⟩ : ∃ T, gcL m = T := ⟨_, rfl⟩
    rw [hT] at E3 ⊢
    clear hT HT
    go_enter Try.func32, Try.ntmps32
    go_wp2_with fail
    refine (E.out).mono ?_
    rintro e w' ⟨rfl, rfl⟩
    go_wp2_with fail
    refine (E2.out).mono ?_
    rintro e w1 ⟨b, rfl, hs1, hc1⟩
    have HS1 := Lib.hid hs1
    have HC1 := Lib.hid hc1
    clear hs1 hc1
    have hs2 : w1.Since w1.heap.size (w1.alloc (.cells #[.slice (some ⟨b, 0, none⟩) m m, .func (.func 85) #[] #[]] 57)) := (World.Since.refl _ _).alloc (Nat.le_refl _) _
    have HS2 := Lib.hid (HS1.out.trans (since_mono hs2 HS1.out.size))
    have HC2 := Lib.hid (fun i hi => (hs2.cell (a := ⟨b, 0 + i, none⟩) (World.block_lt_of_cell? _ _ (HC1.out i hi))).trans (HC1.out i hi))
    clear hs2
    go_wp2_with fail
    refine (E3.out _ b HC2.out).mono ?_
    rintro e w3 ⟨a', c', rfl, hs3, ho3⟩
    go_wp2
    go_ret2
    exact ⟨a', c', rfl, HS2.out.trans (since_mono hs3 HS2.out.size), ho3.mono HS2.out.size (Nat.le_refl _)⟩

set_option maxRecDepth 100000 in
set_option maxHeartbeats 2000000 in
theorem implKnownLeast_any (n : Int) (w : World) :
    Calls Try.prog 38 #[.int .i64 n] w (ImplT w (inB n 1 6) (mnL n.toNat)) := by
  have E := isSide_any n w
  cases hin : inB n 1 6 with
  | false =>
    rw [hin] at E
    replace E := Lib.hid E
    clear hin
    go_enter Try.func38, Try.ntmps38
    go_wp2_with fail
    refine (E.out).mono ?_
    rintro e w' ⟨rfl, rfl⟩
    go_wp2
    go_ret2
    exact ⟨_, _, rfl, World.Since.refl _ _, OwnT.nil _ _ _ _⟩
  | true =>
    rw [hin] at E
    replace E := Lib.hid E
    have h6 := of_decide_eq_true hin
    obtain ⟨m, rfl⟩ := Int.eq_ofNat_of_zero_le (show 0 ≤ n by omega)
    clear hin
    rw [Int.toNat_natCast]
    have E2 := Lib.hid (toldByPlaces_any m 89 #[] w (by omega))
    have HT := Lib.hid (mnL_in (m := m) (by omega) (by omega))
    have E3 := Lib.hid (fun (W : World) (b : Nat) (hc : ∀ i, i < m → W.cell? ⟨b, 0 + i, none⟩ = some (.int .i64 i)) => toldResult_any 89 #[] b 0 m m (fun i => (i : Int)) (fun i k => ((min i k : Nat) : Int) + 1) W (by omega) hc (enters_of Try.func89 (by kernel_rfl) rfl)
      (fun W i k _ hi hk => leastEntry_any i k W (by omega) (by omega)))
    have hL : tabF m m (fun i k => ((min i k : Nat) : Int) + 1) = mnL m := rfl
    simp only [hL, HT.out] at E3
    clear hL
    obtain ⟨T, hT⟩ : ∃ T, mnL m = T := ⟨_, rfl⟩
    rw [hT] at E3 ⊢
    clear hT HT
    go_enter Try.func38, Try.ntmps38
    go_wp2_with fail
    refine (E.out).mono ?_
    rintro e w' ⟨rfl, rfl⟩
    go_wp2_with fail
    refine (E2.out).mono ?_
    rintro e w1 ⟨b, rfl, hs1, hc1⟩
    have HS1 := Lib.hid hs1
    have HC1 := Lib.hid hc1
    clear hs1 hc1
    have hs2 : w1.Since w1.heap.size (w1.alloc (.cells #[.slice (some ⟨b, 0, none⟩) m m, .func (.func 89) #[] #[]] 57)) := (World.Since.refl _ _).alloc (Nat.le_refl _) _
    have HS2 := Lib.hid (HS1.out.trans (since_mono hs2 HS1.out.size))
    have HC2 := Lib.hid (fun i hi => (hs2.cell (a := ⟨b, 0 + i, none⟩) (World.block_lt_of_cell? _ _ (HC1.out i hi))).trans (HC1.out i hi))
    clear hs2
    go_wp2_with fail
    refine (E3.out _ b HC2.out).mono ?_
    rintro e w3 ⟨a', c', rfl, hs3, ho3⟩
    go_wp2
    go_ret2
    exact ⟨a', c', rfl, HS2.out.trans (since_mono hs3 HS2.out.size), ho3.mono HS2.out.size (Nat.le_refl _)⟩

def onL (n : Nat) (a b : Int) : List (List Int) := tabF n n (onF a b)
theorem onL_in {m : Nat} {a b : Int} (h1 : 1 ≤ m) (h6 : m ≤ 6) (ha : -30 ≤ a ∧ a ≤ 30) (hb : -30 ≤ b ∧ b ≤ 30) : tabIn (onL m a b) = true := tabIn_sq h1 h6 fun i k _ _ => by unfold onF; split <;> omega

set_option maxHeartbeats 1000000 in
theorem onesEntry_any (i k A B : Nat) (a b : Int) (W : World) (hA : W.cell? ⟨A, 0, none⟩ = some (.int .i64 a)) (hB : W.cell? ⟨B, 0, none⟩ = some (.int .i64 b)) :
    Calls Try.prog 80 #[.int .i64 i, .int .i64 k, .pointer (some ⟨A, 0, none⟩), .pointer (some ⟨B, 0, none⟩)] W fun e w' => e = .returned (.int .i64 (onF a b i k)) ∧ Drawn W w' := by
  unfold onF
  by_cases h : i = k
  · subst h
    rw [if_pos rfl]
    go_enter Try.func80, Try.ntmps80
    go_wp2
    go_ret
    exact ⟨rfl, Drawn.refl _⟩
  · have hne : ((i : Int) == (k : Int)) = false := by simp; omega
    rw [if_neg h]
    go_enter Try.func80, Try.ntmps80
    go_wp2
    go_ret
    exact ⟨rfl, Drawn.refl _⟩

set_option maxRecDepth 100000 in
set_option maxHeartbeats 2000000 in
theorem implKnownOnes_any (n a b : Int) (w : World) :
    Calls Try.prog 25 #[.int .i64 n, .int .i64 a, .int .i64 b] w (ImplT w (onB n a b) (onL n.toNat a b)) := by
  obtain ⟨w0, hw0⟩ : ∃ w0, (w.alloc (.cells #[.int .i64 a] 3)).alloc (.cells #[.int .i64 b] 3) = w0 := ⟨_, rfl⟩
  have s0 : w.Since w.heap.size w0 := by rw [← hw0]; exact ((World.Since.refl _ w).alloc (Nat.le_refl _) _).alloc (by simp) _
  have b1 := Boxed.new (w.alloc (.cells #[.int .i64 a] 3)) 3 (.int .i64 b)
  have b0 := (Boxed.new w 3 (.int .i64 a)).alloc (.cells #[.int .i64 b] 3)
  simp only [World.size_alloc] at b1
  have z0 : w0.heap.size = w.heap.size + 2 := by rw [← hw0]; simp
  rw [hw0] at b0 b1
  have e0 := b0.cell
  have e1 := b1.cell
  have E := isToldByOnes_any n a b w0
  cases hok : onB n a b with
  | false =>
    rw [hok] at E
    replace E := Lib.hid E
    have S0 := Lib.hid s0
    clear hok s0
    go_enter Try.func25, Try.ntmps25
    go_wp2_with fail
    refine (E.out).mono ?_
    rintro e w' ⟨rfl, rfl⟩
    go_wp2
    go_ret2
    exact ⟨_, _, rfl, S0.out, OwnT.nil _ _ _ _⟩
  | true =>
    rw [hok] at E
    replace E := Lib.hid E
    obtain ⟨hn, ha, hb⟩ := onB_of hok
    clear hok
    obtain ⟨m, rfl⟩ := Int.eq_ofNat_of_zero_le (show 0 ≤ n by omega)
    rw [Int.toNat_natCast]
    have E2 := Lib.hid (toldByPlaces_any m 80 #[.pointer (some ⟨w.heap.size, 0, none⟩), .pointer (some ⟨w.heap.size + 1, 0, none⟩)] w0 (by omega))
    have HT := Lib.hid (onL_in (m := m) (by omega) (by omega) ha hb)
    have E3 := Lib.hid (fun (W : World) (hs : w0.Since w0.heap.size W) (c : Nat) (hc : ∀ i, i < m → W.cell? ⟨c, 0 + i, none⟩ = some (.int .i64 i)) => toldResult_any 80 #[.pointer (some ⟨w.heap.size, 0, none⟩), .pointer (some ⟨w.heap.size + 1, 0, none⟩)] c 0 m m (fun i => (i : Int)) (onF a b) W (by omega) hc (enters_of Try.func80 (by kernel_rfl) rfl)
      (fun V i k hv _ _ => onesEntry_any i k w.heap.size (w.heap.size + 1) a b V (((hs.trans (since_mono hv hs.size)).cell (a := ⟨w.heap.size, 0, none⟩) (by show w.heap.size < w0.heap.size; omega)).trans e0) (((hs.trans (since_mono hv hs.size)).cell (a := ⟨w.heap.size + 1, 0, none⟩) (by show w.heap.size + 1 < w0.heap.size; omega)).trans e1)))
    have hL : tabF m m (onF a b) = onL m a b := rfl
    simp only [hL, HT.out] at E3
    clear hL
    obtain ⟨T, hT⟩ : ∃ T, onL m a b = T := ⟨_, rfl⟩
    rw [hT] at E3 ⊢
    have S0 := Lib.hid s0
    clear hT HT s0 b0 b1
    go_enter Try.func25, Try.ntmps25
    go_wp2_with fail
    refine (E.out).mono ?_
    rintro e w' ⟨rfl, rfl⟩
    go_wp2_with fail
    refine (E2.out).mono ?_
    rintro e w1 ⟨c, rfl, hs1, hc1⟩
    have HS1 := Lib.hid hs1
    have HC1 := Lib.hid hc1
    have hz1 := hs1.size
    clear hs1 hc1
    have hs2 : w1.Since w1.heap.size (w1.alloc (.cells #[.slice (some ⟨c, 0, none⟩) m m, .func (.func 80) #[] #[.pointer (some ⟨w.heap.size, 0, none⟩), .pointer (some ⟨w.heap.size + 1, 0, none⟩)]] 57)) := (World.Since.refl _ _).alloc (Nat.le_refl _) _
    have HS2 := Lib.hid (HS1.out.trans (since_mono hs2 HS1.out.size))
    have HC2 := Lib.hid (fun i hi => (hs2.cell (a := ⟨c, 0 + i, none⟩) (World.block_lt_of_cell? _ _ (HC1.out i hi))).trans (HC1.out i hi))
    clear hs2
    go_wp2_with fail
    refine (E3.out _ HS2.out c HC2.out).mono ?_
    rintro e w3 ⟨a', c', rfl, hs3, ho3⟩
    go_wp2
    go_ret2
    exact ⟨a', c', rfl, S0.out.trans (since_mono (HS2.out.trans (since_mono hs3 HS2.out.size)) S0.out.size), ho3.mono (Nat.le_trans S0.out.size HS2.out.size) (Nat.le_refl _)⟩

end Go.Proofs.Ytkahgpgnfodpgaa
end

section
namespace Go.Proofs.Ytkahgpgnfodpgaa
open Go.RowKit Go.Deep

def rowTo (f : Nat → Nat → Int) (r k : Nat) : List Int := (List.range k).map fun j => f r j
theorem rowTo_succ (f : Nat → Nat → Int) (r k : Nat) : rowTo f r (k + 1) = rowTo f r k ++ [f r k] := by simp [rowTo, List.range_succ]
theorem rowTo_length (f : Nat → Nat → Int) (r k : Nat) : (rowTo f r k).length = k := by simp [rowTo]
theorem szL_res {ok : Bool} {n : Nat} {f : Nat → Nat → Int} (h : ok = true → n ≤ 6) : szL (resT ok (tabF n n f)) ≤ 1048576 := by
  cases ok with
  | false => simp [resT, szL, sumTo]
  | true => exact szL_tabF _ _ _ (by have := h rfl; omega) (by have := h rfl; omega)
theorem tabF_succ (r m : Nat) (f : Nat → Nat → Int) : tabF (r + 1) m f = tabF r m f ++ [rowTo f r m] := by simp [tabF, rowTo, List.range_succ]

set_option maxRecDepth 100000 in
set_option maxHeartbeats 4000000 in
theorem specKnownDivisors_any (n : Int) (w : World) :
    Calls Try.prog 33 #[.int .i64 n] w (SpecT w (inB n 1 6) (gcL n.toNat)) := by
  have E := l6In_any n 1 6 w
  cases hin : inB n 1 6 with
  | false =>
    rw [hin] at E
    replace E := Lib.hid E
    clear hin
    go_enter Try.func33, Try.ntmps33
    go_wp2_with fail
    refine (E.out).mono ?_
    rintro e w' ⟨rfl, rfl⟩
    go_wp2_with fail
    refine (l1None_any w).mono ?_
    rintro e w2 ⟨rfl, hs2⟩
    go_wp2
    go_ret2
    exact ⟨_, _, rfl, hs2, InT.nil _ _ _ _⟩
  | true =>
    rw [hin] at E
    replace E := Lib.hid E
    have h6 := of_decide_eq_true hin
    obtain ⟨m, rfl⟩ := Int.eq_ofNat_of_zero_le (show 0 ≤ n by omega)
    clear hin
    rw [Int.toNat_natCast]
    unfold gcL
    have hm6 : 1 ≤ m ∧ m ≤ 6 := by omega
    obtain ⟨i42, hi42⟩ := info42_parts
    obtain ⟨i3, hi3⟩ := info3_parts
    have HI := Lib.hid hi42
    have HJ := Lib.hid hi3
    have HST := Lib.hid (bt_start w (fun _ => none) (fun _ => 0) #[] rfl)
    clear hi42 hi3
    go_enter Try.func33, Try.ntmps33
    go_wp2_with fail
    refine (E.out).mono ?_
    rintro e w' ⟨rfl, rfl⟩
    go_wp2
    go_loopg [4, 5, 6, 7] m (fun g v k _ _ wr => ∃ r : Nat, ∃ A C, r ≤ m ∧ g = m - r ∧ k = .int .i64 ((r : Int) + 1) ∧ BT w wr v (tabF r m (fun i k => ((Nat.gcd (i + 1) (k + 1) : Nat) : Int))) A C)
    case atStart => exact ⟨0, _, _, Nat.zero_le _, rfl, by go_num, HST.out⟩
    case round =>
      obtain ⟨r, A, C, hr, rfl, rfl, hR⟩ := hrel
      clear HST
      by_cases hlt : r < m
      · have HR := Lib.hid hR
        have hrb := rb_start wr #[] rfl
        have HRB := Lib.hid hrb
        have hsz2 := hR.since.size
        have hlen := tabF_length r m (fun i k => ((Nat.gcd (i + 1) (k + 1) : Nat) : Int))
        have hkd : decide ((r : Int) + 1 ≤ (m : Int)) = true := by simp; omega
        obtain ⟨wo, rfl⟩ : ∃ wo : World, wo = wr := ⟨_, rfl⟩
        clear hR hrb
        go_wp2
        go_loopg [6, 7] m (fun g v i wi => ∃ t : Nat, t ≤ m ∧ g = m - t ∧ i = .int .i64 ((t : Int) + 1) ∧ RB wo wi v (rowTo (fun i k => ((Nat.gcd (i + 1) (k + 1) : Nat) : Int)) r t))
        case atStart => exact ⟨0, Nat.zero_le _, rfl, by go_num, HRB.out⟩
        case round =>
          obtain ⟨t, ht, rfl, rfl, hI⟩ := hrel
          clear HRB
          by_cases htm : t < m
          · have hle := rowTo_length (fun i k => ((Nat.gcd (i + 1) (k + 1) : Nat) : Int)) r t
            have hzi := hI.since.size
            have hS := HR.out.since.trans (since_mono hI.since hsz2)
            have HII := Lib.hid hI
            obtain ⟨y, hy⟩ : ∃ y, y = (fun i k => ((Nat.gcd (i + 1) (k + 1) : Nat) : Int)) r t := ⟨_, rfl⟩
            have HY := Lib.hid hy
            clear hI
            have E := l3Gcd_any (r + 1) (t + 1) wr (by omega) (by omega)
            rw [show ((r + 1 : Nat) : Int) = (r : Int) + 1 by omega, show ((t + 1 : Nat) : Int) = (t : Int) + 1 by omega] at E
            have hy2 : y = ((Nat.gcd (r + 1) (t + 1) : Nat) : Int) := hy
            rw [← hy2] at E
            replace E := Lib.hid E
            clear hy hy2
            go_wp2_with fail
            refine (E.out).mono ?_
            rintro e w' ⟨rfl, rfl⟩
            go_wp2_with (at_builtin; (refine wpList_append_own _ rfl _ _ 23 rfl wo.heap.size 3 i3 (.int .i64 0) 1 8 Try.underlying23 HJ.out.1 HJ.out.2.1 HJ.out.2.2.1 HJ.out.2.2.2 rfl (by decide) _ _ _ rfl (HII.out.own.alloc _) ⟨wr.heap.size, 0, none⟩ 1 1 [.int .i64 y] rfl rfl (cell_one_at _ _ _ rfl) (fun x hx => by simp at hx; subst hx; rfl) (by unfold maxLen; omega) (by omega) (by simp; omega) ?_); intro v' w1 hown' hgrow _)
            have hP := HII.out.push hown' hgrow
            rw [HY.out, ← rowTo_succ] at hP
            have HP := Lib.hid hP
            clear hP hown' hgrow hle
            go_roundg (m - (t + 1))
            case measure => omega
            case rel => exact ⟨t + 1, by omega, rfl, by go_num, HP.out⟩
          · have hjj : t = m := by omega
            subst hjj
            obtain ⟨ra, rcp, hv, hrow⟩ := hI.slice
            rw [rowTo_length] at hv
            subst hv
            have HII := Lib.hid hI
            have hle := rowTo_length (fun i k => ((Nat.gcd (i + 1) (k + 1) : Nat) : Int)) r t
            have hzi := hI.since.size
            have HROW := Lib.hid hrow
            clear hI hrow
            have hBT := HR.out.later HII.out.since
            have HBT := Lib.hid hBT
            clear hBT
            go_wp2_with (at_builtin; (refine wpList_append_own _ rfl _ _ 25 rfl w.heap.size 23 i42 (.slice none 0 0) 1 24 Try.underlying25 HI.out.1 HI.out.2.1 HI.out.2.2.1 HI.out.2.2.2 rfl (by decide) _ _ _ rfl (HBT.out.own.alloc _) ⟨wr.heap.size, 0, none⟩ 1 1 [.slice ra t rcp] rfl rfl (cell_one_at _ _ _ rfl) (fun x hx => by simp at hx; subst hx; rfl) (by unfold maxLen; omega) (by omega) (by simp; omega) ?_); intro v' w1 hown' hgrow _)
            have hP := HBT.out.push (rv := .slice ra t rcp) (x := rowTo (fun i k => ((Nat.gcd (i + 1) (k + 1) : Nat) : Int)) r t) (a := ra) (cp := rcp) (by rw [rowTo_length]) (fun h => by obtain ⟨G, e, h2, h3⟩ := HROW.out h; exact ⟨G, e, by omega, h3⟩) (fun h => by obtain ⟨G, e, h2, _⟩ := HROW.out h; exact HR.out.fresh e h2) hown' hgrow
            rw [← tabF_succ] at hP
            have HP := Lib.hid hP
            clear hP hown' hgrow hle hlen
            go_roundg (t - (r + 1))
            case measure => omega
            case rel => exact ⟨r + 1, _, _, by omega, rfl, by go_num, HP.out⟩
      · have hrm : r = m := by omega
        subst hrm
        obtain ⟨ra, rcp, hv, hin⟩ := hR.slice
        rw [tabF_length] at hv
        subst hv
        have HS := Lib.hid hR.since
        have hsw := hR.since.size
        have HIN := Lib.hid hin
        have HTT := Lib.hid (show resT true (tabF r r (fun i k => ((Nat.gcd (i + 1) (k + 1) : Nat) : Int))) = tabF r r (fun i k => ((Nat.gcd (i + 1) (k + 1) : Nat) : Int)) from rfl)
        clear hR hin
        go_wp2
        go_ret2
        exact ⟨ra, rcp, by rw [HTT.out]; show _ = Ending.returned (.tuple #[.slice ra (tabF r r (fun i k => ((Nat.gcd (i + 1) (k + 1) : Nat) : Int))).length rcp, .bool true]); rw [tabF_length]; rfl, HS.out, HIN.out⟩

set_option maxRecDepth 100000 in
set_option maxHeartbeats 4000000 in
theorem specKnownLeast_any (n : Int) (w : World) :
    Calls Try.prog 39 #[.int .i64 n] w (SpecT w (inB n 1 6) (mnL n.toNat)) := by
  have E := l6In_any n 1 6 w
  cases hin : inB n 1 6 with
  | false =>
    rw [hin] at E
    replace E := Lib.hid E
    clear hin
    go_enter Try.func39, Try.ntmps39
    go_wp2_with fail
    refine (E.out).mono ?_
    rintro e w' ⟨rfl, rfl⟩
    go_wp2_with fail
    refine (l1None_any w).mono ?_
    rintro e w2 ⟨rfl, hs2⟩
    go_wp2
    go_ret2
    exact ⟨_, _, rfl, hs2, InT.nil _ _ _ _⟩
  | true =>
    rw [hin] at E
    replace E := Lib.hid E
    have h6 := of_decide_eq_true hin
    obtain ⟨m, rfl⟩ := Int.eq_ofNat_of_zero_le (show 0 ≤ n by omega)
    clear hin
    rw [Int.toNat_natCast]
    unfold mnL
    have hm6 : 1 ≤ m ∧ m ≤ 6 := by omega
    obtain ⟨i42, hi42⟩ := info42_parts
    obtain ⟨i3, hi3⟩ := info3_parts
    have HI := Lib.hid hi42
    have HJ := Lib.hid hi3
    have HST := Lib.hid (bt_start w (fun _ => none) (fun _ => 0) #[] rfl)
    clear hi42 hi3
    go_enter Try.func39, Try.ntmps39
    go_wp2_with fail
    refine (E.out).mono ?_
    rintro e w' ⟨rfl, rfl⟩
    go_wp2
    go_loopg [4, 5, 6, 7] m (fun g v k _ _ wr => ∃ r : Nat, ∃ A C, r ≤ m ∧ g = m - r ∧ k = .int .i64 r ∧ BT w wr v (tabF r m (fun i k => ((min i k : Nat) : Int) + 1)) A C)
    case atStart => exact ⟨0, _, _, Nat.zero_le _, rfl, by go_num, HST.out⟩
    case round =>
      obtain ⟨r, A, C, hr, rfl, rfl, hR⟩ := hrel
      clear HST
      by_cases hlt : r < m
      · have HR := Lib.hid hR
        have hrb := rb_start wr #[] rfl
        have HRB := Lib.hid hrb
        have hsz2 := hR.since.size
        have hlen := tabF_length r m (fun i k => ((min i k : Nat) : Int) + 1)
        obtain ⟨wo, rfl⟩ : ∃ wo : World, wo = wr := ⟨_, rfl⟩
        clear hR hrb
        go_wp2
        go_loopg [6, 7] m (fun g v i wi => ∃ t : Nat, t ≤ m ∧ g = m - t ∧ i = .int .i64 t ∧ RB wo wi v (rowTo (fun i k => ((min i k : Nat) : Int) + 1) r t))
        case atStart => exact ⟨0, Nat.zero_le _, rfl, by go_num, HRB.out⟩
        case round =>
          obtain ⟨t, ht, rfl, rfl, hI⟩ := hrel
          clear HRB
          by_cases htm : t < m
          · have hle := rowTo_length (fun i k => ((min i k : Nat) : Int) + 1) r t
            have hzi := hI.since.size
            have hS := HR.out.since.trans (since_mono hI.since hsz2)
            have HII := Lib.hid hI
            obtain ⟨y, hy⟩ : ∃ y, y = (fun i k => ((min i k : Nat) : Int) + 1) r t := ⟨_, rfl⟩
            have HY := Lib.hid hy
            clear hI
            have hy2 : y = ((min r t : Nat) : Int) + 1 := hy
            by_cases hrt : t < r
            · have hyt : (t : Int) + 1 = y := by omega
              clear hy hy2
              go_wp2_with (at_builtin; (refine wpList_append_own _ rfl _ _ 23 rfl wo.heap.size 3 i3 (.int .i64 0) 1 8 Try.underlying23 HJ.out.1 HJ.out.2.1 HJ.out.2.2.1 HJ.out.2.2.2 rfl (by decide) _ _ _ rfl (HII.out.own.alloc _) ⟨wr.heap.size, 0, none⟩ 1 1 [.int .i64 y] rfl rfl (cell_one_at _ _ _ rfl) (fun x hx => by simp at hx; subst hx; rfl) (by unfold maxLen; omega) (by omega) (by simp; omega) ?_); intro v' w1 hown' hgrow _)
              have hP := HII.out.push hown' hgrow
              rw [HY.out, ← rowTo_succ] at hP
              have HP := Lib.hid hP
              clear hP hown' hgrow hle
              go_roundg (m - (t + 1))
              case measure => omega
              case rel => exact ⟨t + 1, by omega, rfl, by go_num, HP.out⟩
            · have hyt : (r : Int) + 1 = y := by omega
              clear hy hy2
              go_wp2_with (at_builtin; (refine wpList_append_own _ rfl _ _ 23 rfl wo.heap.size 3 i3 (.int .i64 0) 1 8 Try.underlying23 HJ.out.1 HJ.out.2.1 HJ.out.2.2.1 HJ.out.2.2.2 rfl (by decide) _ _ _ rfl (HII.out.own.alloc _) ⟨wr.heap.size, 0, none⟩ 1 1 [.int .i64 y] rfl rfl (cell_one_at _ _ _ rfl) (fun x hx => by simp at hx; subst hx; rfl) (by unfold maxLen; omega) (by omega) (by simp; omega) ?_); intro v' w1 hown' hgrow _)
              have hP := HII.out.push hown' hgrow
              rw [HY.out, ← rowTo_succ] at hP
              have HP := Lib.hid hP
              clear hP hown' hgrow hle
              go_roundg (m - (t + 1))
              case measure => omega
              case rel => exact ⟨t + 1, by omega, rfl, by go_num, HP.out⟩
          · have hjj : t = m := by omega
            subst hjj
            obtain ⟨ra, rcp, hv, hrow⟩ := hI.slice
            rw [rowTo_length] at hv
            subst hv
            have HII := Lib.hid hI
            have hle := rowTo_length (fun i k => ((min i k : Nat) : Int) + 1) r t
            have hzi := hI.since.size
            have HROW := Lib.hid hrow
            clear hI hrow
            have hBT := HR.out.later HII.out.since
            have HBT := Lib.hid hBT
            clear hBT
            go_wp2_with (at_builtin; (refine wpList_append_own _ rfl _ _ 25 rfl w.heap.size 23 i42 (.slice none 0 0) 1 24 Try.underlying25 HI.out.1 HI.out.2.1 HI.out.2.2.1 HI.out.2.2.2 rfl (by decide) _ _ _ rfl (HBT.out.own.alloc _) ⟨wr.heap.size, 0, none⟩ 1 1 [.slice ra t rcp] rfl rfl (cell_one_at _ _ _ rfl) (fun x hx => by simp at hx; subst hx; rfl) (by unfold maxLen; omega) (by omega) (by simp; omega) ?_); intro v' w1 hown' hgrow _)
            have hP := HBT.out.push (rv := .slice ra t rcp) (x := rowTo (fun i k => ((min i k : Nat) : Int) + 1) r t) (a := ra) (cp := rcp) (by rw [rowTo_length]) (fun h => by obtain ⟨G, e, h2, h3⟩ := HROW.out h; exact ⟨G, e, by omega, h3⟩) (fun h => by obtain ⟨G, e, h2, _⟩ := HROW.out h; exact HR.out.fresh e h2) hown' hgrow
            rw [← tabF_succ] at hP
            have HP := Lib.hid hP
            clear hP hown' hgrow hle hlen
            go_roundg (t - (r + 1))
            case measure => omega
            case rel => exact ⟨r + 1, _, _, by omega, rfl, by go_num, HP.out⟩
      · have hrm : r = m := by omega
        subst hrm
        obtain ⟨ra, rcp, hv, hin⟩ := hR.slice
        rw [tabF_length] at hv
        subst hv
        have HS := Lib.hid hR.since
        have hsw := hR.since.size
        have HIN := Lib.hid hin
        have HTT := Lib.hid (show resT true (tabF r r (fun i k => ((min i k : Nat) : Int) + 1)) = tabF r r (fun i k => ((min i k : Nat) : Int) + 1) from rfl)
        clear hR hin
        go_wp2
        go_ret2
        exact ⟨ra, rcp, by rw [HTT.out]; show _ = Ending.returned (.tuple #[.slice ra (tabF r r (fun i k => ((min i k : Nat) : Int) + 1)).length rcp, .bool true]); rw [tabF_length]; rfl, HS.out, HIN.out⟩

set_option maxRecDepth 100000 in
set_option maxHeartbeats 4000000 in
theorem specKnownOnes_any (n a b : Int) (w : World) :
    Calls Try.prog 26 #[.int .i64 n, .int .i64 a, .int .i64 b] w (SpecT w (onB n a b) (onL n.toNat a b)) := by
  have hsp : onB n a b = (inB n 1 6 && (inB a (-30) 30 && inB b (-30) 30)) := rfl
  have E0 := l6In_any n 1 6 w
  cases h0 : inB n 1 6 with
  | false =>
    rw [h0] at hsp
    replace hsp : onB n a b = false := hsp.trans rfl
    rw [hsp]
    rw [h0] at E0
    replace E0 := Lib.hid E0
    clear hsp h0
    go_enter Try.func26, Try.ntmps26
    go_wp2_with fail
    refine (E0.out).mono ?_
    rintro e w' ⟨rfl, rfl⟩
    go_wp2_with fail
    refine (l1None_any w).mono ?_
    rintro e w2 ⟨rfl, hs2⟩
    go_wp2
    go_ret2
    exact ⟨_, _, rfl, hs2, InT.nil _ _ _ _⟩
  | true =>
    rw [h0] at E0
    replace E0 := Lib.hid E0
    have E1 := l6In_any a (-30) 30 w
    cases h1 : inB a (-30) 30 with
    | false =>
      rw [h0, h1] at hsp
      replace hsp : onB n a b = false := hsp.trans rfl
      rw [hsp]
      rw [h1] at E1
      replace E1 := Lib.hid E1
      clear hsp h0 h1
      go_enter Try.func26, Try.ntmps26
      go_wp2_with fail
      refine (E0.out).mono ?_
      rintro e w' ⟨rfl, rfl⟩
      go_wp2_with fail
      refine (E1.out).mono ?_
      rintro e w' ⟨rfl, rfl⟩
      go_wp2_with fail
      refine (l1None_any w).mono ?_
      rintro e w2 ⟨rfl, hs2⟩
      go_wp2
      go_ret2
      exact ⟨_, _, rfl, hs2, InT.nil _ _ _ _⟩
    | true =>
      rw [h1] at E1
      replace E1 := Lib.hid E1
      have E2 := l6In_any b (-30) 30 w
      cases h2 : inB b (-30) 30 with
      | false =>
        rw [h0, h1, h2] at hsp
        replace hsp : onB n a b = false := hsp.trans rfl
        rw [hsp]
        rw [h2] at E2
        replace E2 := Lib.hid E2
        clear hsp h0 h1 h2
        go_enter Try.func26, Try.ntmps26
        go_wp2_with fail
        refine (E0.out).mono ?_
        rintro e w' ⟨rfl, rfl⟩
        go_wp2_with fail
        refine (E1.out).mono ?_
        rintro e w' ⟨rfl, rfl⟩
        go_wp2_with fail
        refine (E2.out).mono ?_
        rintro e w' ⟨rfl, rfl⟩
        go_wp2_with fail
        refine (l1None_any w).mono ?_
        rintro e w2 ⟨rfl, hs2⟩
        go_wp2
        go_ret2
        exact ⟨_, _, rfl, hs2, InT.nil _ _ _ _⟩
      | true =>
        rw [h2] at E2
        replace E2 := Lib.hid E2
        rw [h0, h1, h2] at hsp
        obtain ⟨hn, ha, hb⟩ := onB_of (show onB n a b = true from hsp)
        rw [show onB n a b = true from hsp]
        clear h0 h1 h2 hsp
        obtain ⟨m, rfl⟩ := Int.eq_ofNat_of_zero_le (show 0 ≤ n by omega)
        rw [Int.toNat_natCast]
        unfold onL
        have hm6 : 1 ≤ m ∧ m ≤ 6 := by omega
        obtain ⟨i42, hi42⟩ := info42_parts
        obtain ⟨i3, hi3⟩ := info3_parts
        have HI := Lib.hid hi42
        have HJ := Lib.hid hi3
        have HST := Lib.hid (bt_start w (fun _ => none) (fun _ => 0) #[] rfl)
        clear hi42 hi3
        go_enter Try.func26, Try.ntmps26
        go_wp2_with fail
        refine (E0.out).mono ?_
        rintro e w' ⟨rfl, rfl⟩
        go_wp2_with fail
        refine (E1.out).mono ?_
        rintro e w' ⟨rfl, rfl⟩
        go_wp2_with fail
        refine (E2.out).mono ?_
        rintro e w' ⟨rfl, rfl⟩
        go_wp2
        go_loopg [8, 9, 10, 11] m (fun g v k _ _ wr => ∃ r : Nat, ∃ A C, r ≤ m ∧ g = m - r ∧ k = .int .i64 r ∧ BT w wr v (tabF r m (onF a b)) A C)
        case atStart => exact ⟨0, _, _, Nat.zero_le _, rfl, by go_num, HST.out⟩
        case round =>
          obtain ⟨r, A, C, hr, rfl, rfl, hR⟩ := hrel
          clear HST
          by_cases hlt : r < m
          · have HR := Lib.hid hR
            have hrb := rb_start wr #[] rfl
            have HRB := Lib.hid hrb
            have hsz2 := hR.since.size
            have hlen := tabF_length r m (onF a b)
            obtain ⟨wo, rfl⟩ : ∃ wo : World, wo = wr := ⟨_, rfl⟩
            clear hR hrb
            go_wp2
            go_loopg [10, 11] m (fun g v i wi => ∃ t : Nat, t ≤ m ∧ g = m - t ∧ i = .int .i64 t ∧ RB wo wi v (rowTo (onF a b) r t))
            case atStart => exact ⟨0, Nat.zero_le _, rfl, by go_num, HRB.out⟩
            case round =>
              obtain ⟨t, ht, rfl, rfl, hI⟩ := hrel
              clear HRB
              by_cases htm : t < m
              · have hle := rowTo_length (onF a b) r t
                have hzi := hI.since.size
                have hS := HR.out.since.trans (since_mono hI.since hsz2)
                have HII := Lib.hid hI
                obtain ⟨y, hy⟩ : ∃ y, y = (onF a b) r t := ⟨_, rfl⟩
                have HY := Lib.hid hy
                clear hI
                clear hy HY
                by_cases hrt : r = t
                · subst hrt
                  have HA := Lib.hid (show onF a b r r = a from if_pos rfl)
                  go_wp2_with (at_builtin; (refine wpList_append_own _ rfl _ _ 23 rfl wo.heap.size 3 i3 (.int .i64 0) 1 8 Try.underlying23 HJ.out.1 HJ.out.2.1 HJ.out.2.2.1 HJ.out.2.2.2 rfl (by decide) _ _ _ rfl (HII.out.own.alloc _) ⟨wr.heap.size, 0, none⟩ 1 1 [.int .i64 a] rfl rfl (cell_one_at _ _ _ rfl) (fun x hx => by simp at hx; subst hx; rfl) (by unfold maxLen; omega) (by omega) (by simp; omega) ?_); intro v' w1 hown' hgrow _)
                  have hP0 := HII.out.push hown' hgrow
                  have hP : RB wo w1 v' (rowTo (onF a b) r r ++ [onF a b r r]) := by rw [HA.out]; exact hP0
                  rw [← rowTo_succ] at hP
                  have HP := Lib.hid hP
                  clear hP hP0 hown' hgrow hle
                  go_roundg (m - (r + 1))
                  case measure => omega
                  case rel => exact ⟨r + 1, by omega, rfl, by go_num, HP.out⟩
                · have HA := Lib.hid (show onF a b r t = b from if_neg hrt)
                  have hne : ((r : Int) == (t : Int)) = false := by simp; omega
                  go_wp2_with (at_builtin; (refine wpList_append_own _ rfl _ _ 23 rfl wo.heap.size 3 i3 (.int .i64 0) 1 8 Try.underlying23 HJ.out.1 HJ.out.2.1 HJ.out.2.2.1 HJ.out.2.2.2 rfl (by decide) _ _ _ rfl (HII.out.own.alloc _) ⟨wr.heap.size, 0, none⟩ 1 1 [.int .i64 b] rfl rfl (cell_one_at _ _ _ rfl) (fun x hx => by simp at hx; subst hx; rfl) (by unfold maxLen; omega) (by omega) (by simp; omega) ?_); intro v' w1 hown' hgrow _)
                  have hP0 := HII.out.push hown' hgrow
                  have hP : RB wo w1 v' (rowTo (onF a b) r t ++ [onF a b r t]) := by rw [HA.out]; exact hP0
                  rw [← rowTo_succ] at hP
                  have HP := Lib.hid hP
                  clear hP hP0 hown' hgrow hle
                  go_roundg (m - (t + 1))
                  case measure => omega
                  case rel => exact ⟨t + 1, by omega, rfl, by go_num, HP.out⟩
              · have hjj : t = m := by omega
                subst hjj
                obtain ⟨ra, rcp, hv, hrow⟩ := hI.slice
                rw [rowTo_length] at hv
                subst hv
                have HII := Lib.hid hI
                have hle := rowTo_length (onF a b) r t
                have hzi := hI.since.size
                have HROW := Lib.hid hrow
                clear hI hrow
                have hBT := HR.out.later HII.out.since
                have HBT := Lib.hid hBT
                clear hBT
                go_wp2_with (at_builtin; (refine wpList_append_own _ rfl _ _ 25 rfl w.heap.size 23 i42 (.slice none 0 0) 1 24 Try.underlying25 HI.out.1 HI.out.2.1 HI.out.2.2.1 HI.out.2.2.2 rfl (by decide) _ _ _ rfl (HBT.out.own.alloc _) ⟨wr.heap.size, 0, none⟩ 1 1 [.slice ra t rcp] rfl rfl (cell_one_at _ _ _ rfl) (fun x hx => by simp at hx; subst hx; rfl) (by unfold maxLen; omega) (by omega) (by simp; omega) ?_); intro v' w1 hown' hgrow _)
                have hP := HBT.out.push (rv := .slice ra t rcp) (x := rowTo (onF a b) r t) (a := ra) (cp := rcp) (by rw [rowTo_length]) (fun h => by obtain ⟨G, e, h2, h3⟩ := HROW.out h; exact ⟨G, e, by omega, h3⟩) (fun h => by obtain ⟨G, e, h2, _⟩ := HROW.out h; exact HR.out.fresh e h2) hown' hgrow
                rw [← tabF_succ] at hP
                have HP := Lib.hid hP
                clear hP hown' hgrow hle hlen
                go_roundg (t - (r + 1))
                case measure => omega
                case rel => exact ⟨r + 1, _, _, by omega, rfl, by go_num, HP.out⟩
          · have hrm : r = m := by omega
            subst hrm
            obtain ⟨ra, rcp, hv, hin⟩ := hR.slice
            rw [tabF_length] at hv
            subst hv
            have HS := Lib.hid hR.since
            have hsw := hR.since.size
            have HD := Lib.hid (l1Done_any ra rcp r _ _ (tabF r r (onF a b)) wr (tabF_length r r (onF a b)) (szL_tabF _ _ _ (by omega) (by omega)) hin)
            have HTI := Lib.hid (show tabIn (tabF r r (onF a b)) = true from onL_in (m := r) (by omega) (by omega) ha hb)
            clear hR hin
            go_wp2_with fail
            refine (HD.out).mono ?_
            rintro e w2 ⟨a', c', rfl, hs2, hin2⟩
            rw [HTI.out] at hin2 ⊢
            go_wp2
            go_ret2
            exact ⟨a', c', rfl, HS.out.trans (since_mono hs2 hsw), hin2.mono (Nat.le_refl _) hs2.size⟩

end Go.Proofs.Ytkahgpgnfodpgaa
end

section
namespace Go.Proofs.Ytkahgpgnfodpgaa
open Go.RowKit Go.Deep

noncomputable def sqB (l : List (List Int)) : Bool := tabIn l && (l.length == (l.getD 0 []).length)
theorem sqB_of {l : List (List Int)} (h : sqB l = true) : TabIn l ∧ l.length = (l.getD 0 []).length := by
  unfold sqB at h
  rw [Bool.and_eq_true] at h
  exact ⟨tabIn_of h.1, by simpa using h.2⟩

end Go.Proofs.Ytkahgpgnfodpgaa
end

section
namespace Go.Proofs.Ytkahgpgnfodpgaa

theorem sq_tabF {m : Nat} {f : Nat → Nat → Int} (hT : tabIn (tabF m m f) = true) : sqB (tabF m m f) = true := by
  have h := (tabIn_of hT).1
  rw [tabF_length] at h
  unfold sqB
  rw [hT, tabF_length, tabF_len _ _ _ _ (by omega)]
  simp
theorem rows_le8 {l : List (List Int)} (h : szL l ≤ 1048576) : ∀ r, r < l.length → (l.getD r []).length ≤ 9223372036854775807 := fun r hr => by
  have := row_le l hr
  unfold szL at h
  omega
theorem ord_tabF {m : Nat} (f : Nat → Nat → Int) (hm : m ≤ 6) : ordF (tabF m m f) m m 0 = dt m f := by
  rw [ordF_all _ hm]
  exact dt_congr m fun i j hi hj => tabF_at _ _ _ _ _ hi hj

end Go.Proofs.Ytkahgpgnfodpgaa
end

section
namespace Go.Proofs.Ytkahgpgnfodpgaa
open Go.RowKit Go.Deep

set_option maxHeartbeats 1000000 in
theorem numberAt_any (b o n cap k : Nat) (v : Int) (W : World) (hk : k < n) (hx : W.cell? ⟨b, o + k, none⟩ = some (.int .i64 v)) :
    Calls Try.prog 117 #[.slice (some ⟨b, o, none⟩) n cap, .int .i64 k] W fun e w' => e = .returned (.int .i64 v) ∧ Drawn W w' := by
  have hkk : (k : Int) < (n : Int) := by omega
  go_enter Try.func117, Try.ntmps117
  go_wp2
  go_ret
  exact ⟨rfl, Drawn.refl _⟩

set_option maxRecDepth 100000 in
set_option maxHeartbeats 2000000 in
theorem toldEntryS_any (K : Nat) (caps : Array Value) (B b o n cap i k : Nat) (x : Value) (v : Int) (W : World)
    (hb : W.heap[B]? = some (.cells #[.slice (some ⟨b, o, none⟩) n cap, .func (.func K) #[] caps] 78)) (hi : i < n) (hx : W.cell? ⟨b, o + i, none⟩ = some x)
    (eg : ∀ args w, (callFunc K args).run Try.prog w = .ok (.enter K args) w)
    (hE : ∀ W', Drawn W W' → Calls Try.prog K (#[x, .int .i64 k] ++ caps) W' fun e w' => e = .returned (.int .i64 v) ∧ Drawn W' w') (hx1 : ∃ a n c, x = .slice a n c) :
    Calls Try.prog 136 #[.int .i64 i, .int .i64 k, .pointer (some ⟨B, 0, none⟩)] W fun e w' => e = .returned (.int .i64 v) ∧ Drawn W w' := by
  obtain ⟨xa, xn, xc, rfl⟩ := hx1
  obtain ⟨c0, c1⟩ := told_cells hb
  have hii : (i : Int) < (n : Int) := by omega
  have HE := Lib.hid hE
  clear hE hb
  go_enter Try.func136, Try.ntmps136
  go_wp2
  go_quiet ((refine Calls.quiet_of (HE.out _ ?_); exact Drawn.mk _ _))
  go_wp2
  go_ret
  exact ⟨rfl, Drawn.mk _ _⟩

set_option maxRecDepth 100000 in
set_option maxHeartbeats 2000000 in
theorem toldTableS_any (K : Nat) (caps : Array Value) (b o n cap : Nat) (x : Nat → Value) (f : Nat → Nat → Int) (w : World) (hn : n ≤ 1000)
    (hx : ∀ i, i < n → w.cell? ⟨b, o + i, none⟩ = some (x i)) (hx1 : ∀ i, i < n → ∃ a n c, x i = .slice a n c)
    (eg : ∀ args w, (callFunc K args).run Try.prog w = .ok (.enter K args) w)
    (hE : ∀ (W : World) (i k : Nat), w.Since w.heap.size W → i < n → k < n → Calls Try.prog K (#[x i, .int .i64 k] ++ caps) W fun e w' => e = .returned (.int .i64 (f i k)) ∧ Drawn W w') :
    Calls Try.prog 118 #[.agg #[.slice (some ⟨b, o, none⟩) n cap, .func (.func K) #[] caps]] w fun e w' => ∃ G, e = .returned (.slice (some ⟨G, 0, none⟩) n n) ∧ w.Since w.heap.size w' ∧ OwnT w.heap.size w'.heap.size w' (some ⟨G, 0, none⟩) (tabF n n f) := by
  obtain ⟨w1, hw1⟩ : ∃ w1, w.alloc (.cells #[.slice (some ⟨b, o, none⟩) n cap, .func (.func K) #[] caps] 78) = w1 := ⟨_, rfl⟩
  have hb1 : w1.heap[w.heap.size]? = some (.cells #[.slice (some ⟨b, o, none⟩) n cap, .func (.func K) #[] caps] 78) := by rw [← hw1]; exact World.alloc_heap_new w _
  have hs1 : w.Since w.heap.size w1 := by rw [← hw1]; exact (World.Since.refl _ _).alloc (Nat.le_refl _) _
  have hz1 : w1.heap.size = w.heap.size + 1 := by rw [← hw1]; simp
  have E := newTable_any 136 #[.pointer (some ⟨w.heap.size, 0, none⟩)] n n f w1 hn hn (enters_of Try.func136 (by kernel_rfl) rfl)
    (fun W i k hs hi hk => (toldEntryS_any K caps w.heap.size b o n cap i k (x i) (f i k) W ((hs.block _ (by omega)).trans hb1) hi (((hs1.trans (since_mono hs hs1.size)).cell (a := ⟨b, o + i, none⟩) (World.block_lt_of_cell? _ _ (hx i hi))).trans (hx i hi)) eg
      (fun W' hd => hE W' i k ((hs1.trans (since_mono hs hs1.size)).trans (hd.since _)) hi hk) (hx1 i hi)).mono fun _ _ h => ⟨h.1, h.2.since _⟩)
  replace E := Lib.hid E
  have c0 := (told_cells hb1).1
  clear hE hx hx1
  go_enter Try.func118, Try.ntmps118
  go_wp2_with fail
  refine (E.out).mono ?_
  rintro e w' ⟨rfl, hs, ho⟩
  go_wp2
  go_ret
  rw [hz1] at ho
  exact ⟨_, rfl, hs1.trans (since_mono hs hs1.size), ho.mono (by omega) (Nat.le_refl _)⟩

set_option maxRecDepth 100000 in
set_option maxHeartbeats 2000000 in
theorem toldResultS_any (K : Nat) (caps : Array Value) (b o n cap : Nat) (x : Nat → Value) (f : Nat → Nat → Int) (w : World) (hn : n ≤ 1000)
    (hx : ∀ i, i < n → w.cell? ⟨b, o + i, none⟩ = some (x i)) (hx1 : ∀ i, i < n → ∃ a n c, x i = .slice a n c)
    (eg : ∀ args w, (callFunc K args).run Try.prog w = .ok (.enter K args) w)
    (hE : ∀ (W : World) (i k : Nat), w.Since w.heap.size W → i < n → k < n → Calls Try.prog K (#[x i, .int .i64 k] ++ caps) W fun e w' => e = .returned (.int .i64 (f i k)) ∧ Drawn W w') :
    Calls Try.prog 92 #[.agg #[.slice (some ⟨b, o, none⟩) n cap, .func (.func K) #[] caps]] w (ImplT w (tabIn (tabF n n f)) (tabF n n f)) := by
  obtain ⟨w1, hw1⟩ : ∃ w1, w.alloc (.cells #[.slice (some ⟨b, o, none⟩) n cap, .func (.func K) #[] caps] 78) = w1 := ⟨_, rfl⟩
  have hs1 : w.Since w.heap.size w1 := by rw [← hw1]; exact (World.Since.refl _ _).alloc (Nat.le_refl _) _
  have hz1 : w1.heap.size = w.heap.size + 1 := by rw [← hw1]; simp
  have hb1 : w1.heap[w.heap.size]? = some (.cells #[.slice (some ⟨b, o, none⟩) n cap, .func (.func K) #[] caps] 78) := by rw [← hw1]; exact World.alloc_heap_new w _
  obtain ⟨c0, c1⟩ := told_cells hb1
  have E := Lib.hid (toldTableS_any K caps b o n cap x f w1 hn (fun i hi => (hs1.cell (a := ⟨b, o + i, none⟩) (World.block_lt_of_cell? _ _ (hx i hi))).trans (hx i hi)) hx1 eg
    (fun W i k hs hi hk => hE W i k (hs1.trans (since_mono hs hs1.size)) hi hk))
  have HT := Lib.hid (tabF_length n n f)
  have HSZ := Lib.hid (szL_tabF n n f hn hn)
  obtain ⟨T, hT⟩ : ∃ T, tabF n n f = T := ⟨_, rfl⟩
  rw [hT] at E HT HSZ ⊢
  clear hE hx hT hb1 hx1
  go_enter Try.func92, Try.ntmps92
  go_wp2_with fail
  refine (E.out).mono ?_
  rintro e w2 ⟨G, rfl, hs2, ho2⟩
  have hs12 := hs1.trans (since_mono hs2 hs1.size)
  have HS := Lib.hid hs12
  have HO := Lib.hid ho2
  clear hs2 ho2 hs12 E
  go_wp2_with fail
  refine (result_any _ _ _ _ _ T w2 HT.out HSZ.out HO.out).mono ?_
  rintro e w3 ⟨a, cap', rfl, hs3, ho3⟩
  go_wp2
  go_ret2
  exact ⟨a, cap', rfl, HS.out.trans (since_mono hs3 HS.out.size), ho3.mono (by omega) hs3.size⟩

structure SL (w wr : World) (n c : Nat) (x : Nat → Value) : Prop where
  since : w.Since w.heap.size wr
  row : wr.rowIs (w.heap.size + 1) 23 n (fun k => if k < c then x k else .slice none 0 0)
  res : ∃ u v, wr.heap[w.heap.size]? = some (.cells #[u, v] 78)

set_option maxRecDepth 100000 in
set_option maxHeartbeats 4000000 in
theorem toldByStretches_any (b o L cap n first : Nat) (step : Int) (low : Nat → Nat) (w : World) (hn : n ≤ 6) (hL : L ≤ 20) (hcap : L ≤ cap ∧ cap ≤ 9223372036854775807) (hf : first ≤ 6)
    (hlow : ∀ i, i < n → (first : Int) + (i : Int) * step = (low i : Int) ∧ low i + n ≤ L) :
    Calls Try.prog 91 #[.slice (some ⟨b, o, none⟩) L cap, .int .i64 n, .int .i64 first, .int .i64 step] w fun e w' => ∃ B, e = .returned (.agg #[.slice (some ⟨B, 0, none⟩) n n, .func (.func 117) #[] #[]]) ∧ w.Since w.heap.size w' ∧ ∀ i, i < n → w'.cell? ⟨B, 0 + i, none⟩ = some (.slice (some ⟨b, o + low i, none⟩) n (cap - low i)) := by
  have hmk := run_make_row' (P := Try.prog) 25 23 (.slice none 0 0) 24 Try.underlying25 Try.info23 rfl .i64 .i64 n (by omega) (by omega)
  have HLOW := Lib.hid hlow
  clear hlow
  go_enter Try.func91, Try.ntmps91
  go_wp2
  obtain ⟨x, hx⟩ : ∃ x : Nat → Value, x = fun i => .slice (some ⟨b, o + low i, none⟩) n (cap - low i) := ⟨_, rfl⟩
  have HX := Lib.hid (fun i => congrFun hx i)
  clear hx
  have hst : SL w ((w.alloc (.cells #[.slice none 0 0, Value.nilFunc] 78)).alloc (.cells (madeCells #[.slice none 0 0] n) 23)) n 0 x := by
    have r := World.rowIs_made (w.alloc (.cells #[.slice none 0 0, Value.nilFunc] 78)) (.slice none 0 0) n 23
    simp only [World.size_alloc] at r
    exact ⟨((World.Since.refl _ w).alloc (Nat.le_refl _) _).alloc (by simp) _, r.congr (fun k _ => by simp), ⟨_, _, (Below.heap_alloc _ _ _ (by simp)).trans (World.alloc_heap_new w _)⟩⟩
  have HST := Lib.hid hst
  clear hst hmk
  go_loopg [10, 15] n (fun g _ i wr => ∃ c : Nat, c ≤ n ∧ g = n - c ∧ i = .int .i64 c ∧ SL w wr n c x)
  case atStart => exact ⟨0, Nat.zero_le _, rfl, rfl, HST.out⟩
  case round =>
    obtain ⟨c, hc, rfl, rfl, hR⟩ := hrel
    clear HST
    by_cases hlt : c < n
    · have hc1 := hR.row.cell (i := c) hlt
      have hf1 := hR.row.frozen c
      simp only [Nat.lt_irrefl, if_false] at hc1
      have hP : SL w (wr.setCell ⟨w.heap.size + 1, c, none⟩ (x c)) n (c + 1) x := by
        obtain ⟨u, v, hr⟩ := hR.res
        refine ⟨hR.since.setCell (by show w.heap.size ≤ w.heap.size + 1; omega) _, (hR.row.set c _).congr (fun k _ => ?_), ⟨u, v, ?_⟩⟩
        · by_cases e : k = c
          · subst e; simp
          · rw [if_neg e]
            by_cases h : k < c
            · rw [if_pos h, if_pos (by omega)]
            · rw [if_neg h, if_neg (by omega)]
        · rw [Below.heap_setCell _ _ _ _ (by show w.heap.size ≠ w.heap.size + 1; omega)]; exact hr
      rw [HX.out c] at hP
      have HP := Lib.hid hP
      obtain ⟨hl1, hl2⟩ := HLOW.out c hlt
      obtain ⟨d, hd⟩ : ∃ d, (c : Int) * step = d := ⟨_, rfl⟩
      rw [hd] at hl1
      have hdd : -6 ≤ d ∧ d ≤ 20 := by omega
      have hmul : wrap64 ((c : Int) * step) = d := by rw [hd]; unfold wrap64; omega
      obtain ⟨lo, hlo⟩ : ∃ lo, low c = lo := ⟨_, rfl⟩
      rw [hlo] at hl1 hl2 HP
      have hcc1 : (n : Int) ≤ (cap : Int) - (lo : Int) := by omega
      clear hR hP hd hlo
      go_wp2
      go_roundg (n - (c + 1))
      case measure => omega
      case rel => exact ⟨c + 1, by omega, rfl, by go_num, HP.out⟩
    · have hcc : c = n := by omega
      subst hcc
      obtain ⟨u, v, hr⟩ := hR.res
      obtain ⟨c0, c1⟩ := told_cells hr
      have f0 : wr.frozen? ⟨w.heap.size, 0, none⟩ = false := by simp [World.frozen?, hr]
      have f1 : wr.frozen? ⟨w.heap.size, 1, none⟩ = false := by simp [World.frozen?, hr]
      obtain ⟨S, hS⟩ : ∃ S : Value, S = .slice (some ⟨w.heap.size + 1, 0, none⟩) c c := ⟨_, rfl⟩
      obtain ⟨F, hF⟩ : ∃ F : Value, F = .func (.func 117) #[] #[] := ⟨_, rfl⟩
      have d0 : (wr.setCell ⟨w.heap.size, 0, none⟩ S).cell? ⟨w.heap.size, 0, none⟩ = some S := World.cell?_setCell_same' _ _ _ (by rw [c0]; rfl)
      have d1 : (wr.setCell ⟨w.heap.size, 0, none⟩ S).cell? ⟨w.heap.size, 1, none⟩ = some v := by rw [World.cell?_setCell_other _ _ _ _ (fun e => by injection e with _ e2; omega)]; exact c1
      have g1 : (wr.setCell ⟨w.heap.size, 0, none⟩ S).frozen? ⟨w.heap.size, 1, none⟩ = false := by rw [World.frozen?_setCell]; exact f1
      have e0 : ((wr.setCell ⟨w.heap.size, 0, none⟩ S).setCell ⟨w.heap.size, 1, none⟩ F).cell? ⟨w.heap.size, 0, none⟩ = some S := by rw [World.cell?_setCell_other _ _ _ _ (fun e => by injection e with _ e2; omega)]; exact d0
      have e1 : ((wr.setCell ⟨w.heap.size, 0, none⟩ S).setCell ⟨w.heap.size, 1, none⟩ F).cell? ⟨w.heap.size, 1, none⟩ = some F := World.cell?_setCell_same' _ _ _ (by rw [d1]; rfl)
      have hs2 : w.Since w.heap.size ((wr.setCell ⟨w.heap.size, 0, none⟩ S).setCell ⟨w.heap.size, 1, none⟩ F) := (hR.since.setCell (Nat.le_refl _) _).setCell (Nat.le_refl _) _
      have hrow2 : ((wr.setCell ⟨w.heap.size, 0, none⟩ S).setCell ⟨w.heap.size, 1, none⟩ F).rowIs (w.heap.size + 1) 23 c (fun k => if k < c then x k else .slice none 0 0) := (hR.row.setOther (by show w.heap.size + 1 ≠ w.heap.size; omega) _).setOther (by show w.heap.size + 1 ≠ w.heap.size; omega) _
      have HS2 := Lib.hid hs2
      have HROW := Lib.hid hrow2
      rw [hS] at d0 d1 g1 e0 e1 HS2 HROW
      rw [hF] at e0 e1 HS2 HROW
      clear hS hF hs2 hrow2 hR hr
      go_wp2
      refine bodyPost_ret (v := .agg #[.slice (some ⟨w.heap.size + 1, 0, none⟩) c c, .func (.func 117) #[] #[]]) ?_ rfl ⟨w.heap.size + 1, rfl, HS2.out, fun i hi => ?_⟩
      · simp [results, Try.f91, go_sem, e0, e1]
      · have := HROW.out.cell (i := i) hi
        rw [if_pos hi, HX.out i] at this
        rw [Nat.zero_add]
        exact this

def suL (n : Nat) (x : List Int) : List (List Int) := tabF n n fun i k => x.getD (i + k) 0
def suB (n : Int) (L : Nat) : Bool := inB n 1 6 && decide ((L : Int) = 2 * n - 1)
theorem suB_of {n : Int} {L : Nat} (h : suB n L = true) : 1 ≤ n ∧ n ≤ 6 ∧ (L : Int) = 2 * n - 1 := by
  simp only [suB, Bool.and_eq_true, inB, decide_eq_true_eq] at h
  exact ⟨h.1.1, h.1.2, h.2⟩

set_option maxRecDepth 100000 in
set_option maxHeartbeats 2000000 in
theorem implKnownSums_any (n : Int) (a : Option Addr) (L cap : Nat) (x : List Int) (w : World) (hn : x.length = L) (h63 : cap ≤ 9223372036854775807) (hc : L ≤ cap) (hm : RowR w a x) :
    Calls Try.prog 42 #[.int .i64 n, .slice a L cap] w (ImplT w (suB n L && tabIn (suL n.toNat x)) (suL n.toNat x)) := by
  have E1 := isSide_any n w
  have hsp : suB n L = (inB n 1 6 && decide ((L : Int) = 2 * n - 1)) := rfl
  cases h1 : inB n 1 6 with
  | false =>
    rw [h1, Bool.false_and] at hsp
    rw [hsp, Bool.false_and]
    rw [h1] at E1
    replace E1 := Lib.hid E1
    clear hm hn h1 hsp
    go_enter Try.func42, Try.ntmps42
    go_wp2_with fail
    refine (E1.out).mono ?_
    rintro e w' ⟨rfl, rfl⟩
    go_wp2
    go_ret2
    exact ⟨_, _, rfl, World.Since.refl _ _, OwnT.nil _ _ _ _⟩
  | true =>
    rw [h1] at E1
    replace E1 := Lib.hid E1
    have h16 := of_decide_eq_true h1
    obtain ⟨m, rfl⟩ := Int.eq_ofNat_of_zero_le (show 0 ≤ n by omega)
    rw [Int.toNat_natCast]
    by_cases h2 : (L : Int) = 2 * (m : Int) - 1
    · rw [h1, decide_eq_true h2] at hsp
      rw [hsp, Bool.and_self, Bool.true_and]
      have hne : ((L : Int) != 2 * (m : Int) - 1) = false := by simp [h2]
      obtain ⟨b, o, rfl, hcx⟩ := hm (by omega)
      have E2 := Lib.hid (toldByStretches_any b o L cap m 0 1 (fun i => i) w (by omega) (by omega) ⟨hc, h63⟩ (by omega) (fun i hi => ⟨by simp, by omega⟩))
      have E3 := Lib.hid (fun (W : World) (hs : w.Since w.heap.size W) (B : Nat) (hc : ∀ i, i < m → W.cell? ⟨B, 0 + i, none⟩ = some (.slice (some ⟨b, o + i, none⟩) m (cap - i))) => toldResultS_any 117 #[] B 0 m m (fun i => .slice (some ⟨b, o + i, none⟩) m (cap - i)) (fun i k => x.getD (i + k) 0) W (by omega) hc (fun i _ => ⟨_, _, _, rfl⟩) (enters_of Try.func117 (by kernel_rfl) rfl)
        (fun V i k hv hi hk => numberAt_any b (o + i) m (cap - i) k (x.getD (i + k) 0) V hk (by
          have c := hcx (i + k) (by omega)
          rw [show o + i + k = o + (i + k) by omega]
          exact ((hs.trans (since_mono hv hs.size)).cell (a := ⟨b, o + (i + k), none⟩) (World.block_lt_of_cell? _ _ c)).trans c)))
      have hLL : tabF m m (fun i k => x.getD (i + k) 0) = suL m x := rfl
      simp only [hLL] at E3
      obtain ⟨T, hT⟩ : ∃ T, suL m x = T := ⟨_, rfl⟩
      simp only [hT] at E3
      rw [hT]
      have hL0 : (L : Int) = 2 * (m : Int) - 1 := h2
      clear hLL hT hcx hn h1 hsp h2
      go_enter Try.func42, Try.ntmps42
      go_wp2_with fail
      refine (E1.out).mono ?_
      rintro e w' ⟨rfl, rfl⟩
      go_wp2_with fail
      refine (E2.out).mono ?_
      rintro e w1 ⟨B, rfl, hs1, hc1⟩
      have HS1 := Lib.hid hs1
      have HC1 := Lib.hid hc1
      clear hs1 hc1
      go_wp2_with fail
      refine (E3.out _ HS1.out B HC1.out).mono ?_
      rintro e w3 ⟨a', c', rfl, hs3, ho3⟩
      go_wp2
      go_ret2
      exact ⟨a', c', rfl, HS1.out.trans (since_mono hs3 HS1.out.size), ho3.mono HS1.out.size (Nat.le_refl _)⟩
    · rw [h1, decide_eq_false h2] at hsp
      rw [hsp]
      have hne : ((L : Int) != 2 * (m : Int) - 1) = true := by simp [h2]
      clear hm hn h1 hsp
      go_enter Try.func42, Try.ntmps42
      go_wp2_with fail
      refine (E1.out).mono ?_
      rintro e w' ⟨rfl, rfl⟩
      go_wp2
      go_ret2
      exact ⟨_, _, rfl, World.Since.refl _ _, OwnT.nil _ _ _ _⟩

end Go.Proofs.Ytkahgpgnfodpgaa
end

section
namespace Go.Proofs.Ytkahgpgnfodpgaa
open Go.RowKit Go.Deep

set_option maxRecDepth 100000 in
set_option maxHeartbeats 4000000 in
theorem specKnownSums_any (n : Int) (a : Option Addr) (L cap : Nat) (x : List Int) (w : World) (hn : x.length = L) (h63 : cap ≤ 9223372036854775807) (hc : L ≤ cap) (hm : RowR w a x) :
    Calls Try.prog 43 #[.int .i64 n, .slice a L cap] w (SpecT w (suB n L && tabIn (suL n.toNat x)) (suL n.toNat x)) := by
  have E1 := l6In_any n 1 6 w
  have hsp : suB n L = (inB n 1 6 && decide ((L : Int) = 2 * n - 1)) := rfl
  cases h1 : inB n 1 6 with
  | false =>
    rw [h1, Bool.false_and] at hsp
    rw [hsp, Bool.false_and]
    rw [h1] at E1
    replace E1 := Lib.hid E1
    clear hm hn h1 hsp
    go_enter Try.func43, Try.ntmps43
    go_wp2_with fail
    refine (E1.out).mono ?_
    rintro e w' ⟨rfl, rfl⟩
    go_wp2_with fail
    refine (l1None_any w).mono ?_
    rintro e w2 ⟨rfl, hs2⟩
    go_wp2
    go_ret2
    exact ⟨_, _, rfl, hs2, InT.nil _ _ _ _⟩
  | true =>
    rw [h1] at E1
    replace E1 := Lib.hid E1
    have h16 := of_decide_eq_true h1
    obtain ⟨m, rfl⟩ := Int.eq_ofNat_of_zero_le (show 0 ≤ n by omega)
    rw [Int.toNat_natCast]
    by_cases h2 : (L : Int) = 2 * (m : Int) - 1
    · rw [h1, decide_eq_true h2] at hsp
      rw [hsp, Bool.and_self, Bool.true_and]
      have hne : ((L : Int) != 2 * (m : Int) - 1) = false := by simp [h2]
      obtain ⟨b, o, rfl, hcx⟩ := hm (by omega)
      have HCX := Lib.hid (fun (W : World) (hd : w.Since w.heap.size W) (k : Nat) (hk : k < L) => by
        have c := hcx k (by omega)
        exact (hd.cell (a := ⟨b, o + k, none⟩) (World.block_lt_of_cell? _ _ c)).trans c)
      have hL0 : (L : Int) = 2 * (m : Int) - 1 := h2
      have hm6 : 1 ≤ m ∧ m ≤ 6 := by omega
      unfold suL
      obtain ⟨f, hf⟩ : ∃ f : Nat → Nat → Int, f = fun i k => x.getD (i + k) 0 := ⟨_, rfl⟩
      have HF := Lib.hid (fun i k => congrFun (congrFun hf i) k)
      rw [← hf]
      obtain ⟨i42, hi42⟩ := info42_parts
      obtain ⟨i3, hi3⟩ := info3_parts
      have HI := Lib.hid hi42
      have HJ := Lib.hid hi3
      have HST := Lib.hid (bt_start w (fun _ => none) (fun _ => 0) #[] rfl)
      clear hcx hn h1 hsp h2 hi42 hi3 hf
      go_enter Try.func43, Try.ntmps43
      go_wp2_with fail
      refine (E1.out).mono ?_
      rintro e w' ⟨rfl, rfl⟩
      go_wp2
      go_loopg [6, 7] m (fun g v k wr => ∃ r : Nat, ∃ A C, r ≤ m ∧ g = m - r ∧ k = .int .i64 r ∧ BT w wr v (tabF r m f) A C)
      case atStart => exact ⟨0, _, _, Nat.zero_le _, rfl, rfl, HST.out⟩
      case round =>
        obtain ⟨r, A, C, hr, rfl, rfl, hR⟩ := hrel
        clear HST
        by_cases hlt : r < m
        · obtain ⟨y, hy⟩ : ∃ y, y = rowTo f r m := ⟨_, rfl⟩
          have HMM := Lib.hid (show y.length = m by rw [hy, rowTo_length])
          have HY := Lib.hid hy
          have hcells : ∀ (j : Nat) (u : Value), (y.map (Value.int .i64))[j]? = some u → (wr.alloc (.cells #[] 3)).cell? ((⟨b, o + r, none⟩ : Addr).add j) = some u := fun j u hj => by
            rw [Go.WideShapes.add_plain]
            obtain ⟨hjl, he⟩ := List.getElem?_eq_some_iff.1 hj
            have hjx : j < m := by rw [← HMM.out]; simpa using hjl
            refine cell_alloc_l _ ?_
            have c := HCX.out wr hR.since (r + j) (by omega)
            show wr.cell? ⟨b, o + r + j, none⟩ = some u
            rw [show o + r + j = o + (r + j) by omega, c, ← he]
            simp [hy, rowTo, HF.out]
          have HCE := Lib.hid hcells
          have HR := Lib.hid hR
          have hsz := hR.since.size
          have hlen := tabF_length r m f
          have HRB := Lib.hid (show (wr.alloc (.cells #[] 3)).ownsRow wr.heap.size 3 1 (.slice (some ⟨wr.heap.size, 0, none⟩) 0 0) 0 [] from World.ownsRow_made wr #[] 0 (Nat.le_refl _) (Nat.zero_le _) rfl)
          have hrm1 : (r : Int) + (m : Int) ≤ (cap : Int) := by omega
          have hrm2 : (r : Int) ≤ (r : Int) + (m : Int) := by omega
          clear hcells hR hy
          go_wp2_with (first
            | (at_builtin; (refine wpList_append_own _ rfl (.tmp 29) (.tmp 35) 23 rfl wr.heap.size 3 i3 (.int .i64 0) 1 8 Try.underlying23 HJ.out.1 HJ.out.2.1 HJ.out.2.2.1 HJ.out.2.2.2 rfl (by decide) _ 0 [] rfl HRB.out ⟨b, o + r, none⟩ (r + m - r) _ (y.map (Value.int .i64)) rfl (by rw [List.length_map, HMM.out]; omega) HCE.out (fun u hu => by obtain ⟨z, _, rfl⟩ := List.mem_map.1 hu; rfl) (by unfold maxLen; omega) (by omega) (by simp) ?_);
                intro v1 w1 hown1 hgrow1 _; have hrb := RB.of_append #[] (show y.length = r + m - r by rw [HMM.out]; omega) hown1 hgrow1; obtain ⟨ra, rcp, hv1, hrow1⟩ := hrb.slice; rw [HMM.out] at hv1; subst hv1; have HBT := Lib.hid (HR.out.later hrb.since); have HRW := Lib.hid hrow1; have hz1 := hrb.since.size; clear hown1 hgrow1 hrb hrow1)
            | (at_builtin; (refine wpList_append_own _ rfl (.tmp 28) (.tmp 37) 25 rfl w.heap.size 23 i42 (.slice none 0 0) 1 24 Try.underlying25 HI.out.1 HI.out.2.1 HI.out.2.2.1 HI.out.2.2.2 rfl (by decide) _ _ _ rfl (HBT.out.own.alloc _) ⟨w1.heap.size, 0, none⟩ 1 1 [.slice ra m rcp] rfl rfl (cell_one_at _ _ _ rfl) (fun x hx => by simp at hx; subst hx; rfl) (by unfold maxLen; omega) (by omega) (by simp; omega) ?_); intro v' w2 hown' hgrow _))
          have hP := HBT.out.push (rv := .slice ra m rcp) (x := y) (a := ra) (cp := rcp) (by rw [HMM.out]) (fun h => by obtain ⟨G, e, h2, h3⟩ := HRW.out h; exact ⟨G, e, by omega, h3⟩) (fun h => by obtain ⟨G, e, h2, _⟩ := HRW.out h; exact HR.out.fresh e h2) hown' hgrow
          rw [HY.out, ← tabF_succ] at hP
          have HP := Lib.hid hP
          clear hP hown' hgrow hlen
          go_roundg (m - (r + 1))
          case measure => omega
          case rel => exact ⟨r + 1, _, _, by omega, rfl, by go_num, HP.out⟩
        · have hrm : r = m := by omega
          subst hrm
          obtain ⟨ra, rcp, hv, hin⟩ := hR.slice
          rw [tabF_length] at hv
          subst hv
          have HS := Lib.hid hR.since
          have hsw := hR.since.size
          have HD := Lib.hid (l1Done_any ra rcp r _ _ (tabF r r f) wr (tabF_length r r f) (szL_tabF _ _ _ (by omega) (by omega)) hin)
          clear hR hin
          go_wp2_with fail
          refine (HD.out).mono ?_
          rintro e w2 ⟨a', c', rfl, hs2, hin2⟩
          go_wp2
          go_ret2
          exact ⟨a', c', rfl, HS.out.trans (since_mono hs2 hsw), hin2.mono (Nat.le_refl _) hs2.size⟩
    · rw [h1, decide_eq_false h2] at hsp
      rw [hsp]
      have hne : ((L : Int) != 2 * (m : Int) - 1) = true := by simp [h2]
      clear hm hn h1 hsp
      go_enter Try.func43, Try.ntmps43
      go_wp2_with fail
      refine (E1.out).mono ?_
      rintro e w' ⟨rfl, rfl⟩
      go_wp2_with fail
      refine (l1None_any w).mono ?_
      rintro e w2 ⟨rfl, hs2⟩
      go_wp2
      go_ret2
      exact ⟨_, _, rfl, hs2, InT.nil _ _ _ _⟩

end Go.Proofs.Ytkahgpgnfodpgaa
end

section
namespace Go.Proofs.Ytkahgpgnfodpgaa
open Go.RowKit Go.Deep

set_option maxHeartbeats 1000000 in
theorem sameInts_same (a b : Option Addr) (ca cb n : Nat) (l : List Int) (w : World) (hn : l.length = n) (h63 : n ≤ 9223372036854775807) (ha : RowR w a l) (hb : RowR w b l) :
    Calls Try.prog 70 #[.slice a n ca, .slice b n cb] w fun e w' => e = .returned (.bool true) ∧ Drawn w w' := by
  have H := Lib.hid hn; clear hn
  go_enter Try.func70, Try.ntmps70
  go_wp2
  go_loopg [5] n (fun g i wr => ∃ k : Nat, k ≤ n ∧ g = n - k ∧ i = .int .i64 k ∧ Drawn w wr)
  case atStart => exact ⟨0, Nat.zero_le _, rfl, rfl, Drawn.refl w⟩
  case round =>
    obtain ⟨k, hk, rfl, rfl, hD⟩ := hrel
    by_cases hlt : k < n
    · obtain ⟨b1, o1, rfl, hc1⟩ := ha (by rw [H.out]; omega)
      obtain ⟨b2, o2, rfl, hc2⟩ := hb (by rw [H.out]; omega)
      have c1 := hc1 k (by rw [H.out]; exact hlt)
      have c2 := hc2 k (by rw [H.out]; exact hlt)
      obtain ⟨x, hx⟩ : ∃ x, x = l.getD k 0 := ⟨_, rfl⟩
      rw [← hx] at c1 c2
      rw [← hD.cell] at c1 c2
      clear hx hc1 hc2 ha hb
      go_wp2
      go_quiet (fail)
      go_wp2
      go_roundg (n - (k + 1))
      case measure => omega
      case rel => exact ⟨k + 1, by omega, rfl, by go_num, hD.trans (Drawn.mk _ _)⟩
    · go_wp2
      go_ret
      exact ⟨rfl, hD⟩

set_option maxHeartbeats 1000000 in
theorem sameRows_same (a b : Option Addr) (ca cb n : Nat) (l : List (List Int)) (w : World) (hn : l.length = n) (h63 : n ≤ 9223372036854775807) (hl : ∀ r, r < l.length → (l.getD r []).length ≤ 9223372036854775807)
    (ha : MatR w a l) (hb : MatR w b l) :
    Calls Try.prog 18 #[.slice a n ca, .slice b n cb] w fun e w' => e = .returned (.bool true) ∧ Drawn w w' := by
  have H := Lib.hid hn; clear hn
  go_enter Try.func18, Try.ntmps18
  go_wp2
  go_loopg [5] n (fun g i wr => ∃ k : Nat, k ≤ n ∧ g = n - k ∧ i = .int .i64 k ∧ Drawn w wr)
  case atStart => exact ⟨0, Nat.zero_le _, rfl, rfl, Drawn.refl w⟩
  case round =>
    obtain ⟨k, hk, rfl, rfl, hD⟩ := hrel
    by_cases hlt : k < n
    · obtain ⟨b1, o1, A1, C1, rfl, hc1⟩ := ha (by rw [H.out]; omega)
      obtain ⟨b2, o2, A2, C2, rfl, hc2⟩ := hb (by rw [H.out]; omega)
      obtain ⟨c1, r1⟩ := hc1 k (by rw [H.out]; exact hlt)
      obtain ⟨c2, r2⟩ := hc2 k (by rw [H.out]; exact hlt)
      have hlk := hl k (by rw [H.out]; exact hlt)
      obtain ⟨x, hx⟩ : ∃ x, x = l.getD k [] := ⟨_, rfl⟩
      rw [← hx] at c1 c2 r1 r2 hlk
      obtain ⟨m, hm⟩ : ∃ m, x.length = m := ⟨_, rfl⟩
      rw [hm] at c1 c2 hlk
      have HM := Lib.hid hm
      clear hx hc1 hc2 ha hb hl hm
      have r1 := r1.drawn hD
      have r2 := r2.drawn hD
      rw [← hD.cell] at c1 c2
      have e1 := fun (p : Nat) => sameInts_same (A1 k) (A2 k) (C1 k) (C2 k) m x (wr.drewN p) HM.out hlk r1 r2
      have E1 := Lib.hid e1; clear e1 r1 r2
      go_wp2
      go_quiet ((go_at_call 70; exact Calls.quiet_of (E1.out _)))
      go_wp2
      go_roundg (n - (k + 1))
      case measure => omega
      case rel => exact ⟨k + 1, by omega, rfl, by go_num, hD.trans (Drawn.mk _ _)⟩
    · go_wp2
      go_ret
      exact ⟨rfl, hD⟩

end Go.Proofs.Ytkahgpgnfodpgaa
end

section
namespace Go.Proofs.Ytkahgpgnfodpgaa
open Go.RowKit Go.Deep

theorem szL_of {l : List (List Int)} {n k : Nat} (h1 : l.length ≤ n) (h2 : ∀ j, j < l.length → (l.getD j []).length ≤ k) (hnk : n * k + n ≤ 1048576) : szL l ≤ 1048576 := by
  have h3 := sumTo_le_mul l k h2 l.length (Nat.le_refl _)
  have h4 : l.length * k ≤ n * k := Nat.mul_le_mul_right _ h1
  have h5 : k * l.length = l.length * k := Nat.mul_comm _ _
  unfold szL
  omega
theorem rows_le {l : List (List Int)} (h : szL l ≤ 1048576) : ∀ r, r < l.length → (l.getD r []).length ≤ 9223372036854775807 := fun r hr => by
  have := row_le l hr
  unfold szL at h
  omega

theorem tab_self {l : List (List Int)} {n m : Nat} (hn : l.length = n) (hm : ∀ r, r < n → (l.getD r []).length = m) : tabF n m (at2 l) = l := by
  refine List.ext_getElem (by rw [tabF_length, hn]) fun r h1 h2 => ?_
  have hr : r < n := by rw [tabF_length] at h1; exact h1
  have e1 : (tabF n m (at2 l))[r] = (tabF n m (at2 l)).getD r [] := by simp [List.getD, h1]
  have e2 : l[r] = l.getD r [] := by simp [List.getD, h2]
  rw [e1, e2, tabF_get _ _ _ _ hr]
  refine List.ext_getElem (by rw [List.length_map, List.length_range, hm r hr]) fun k h3 h4 => ?_
  rw [List.getElem_map, List.getElem_range]
  unfold at2
  obtain ⟨x, hx⟩ : ∃ x, x = l.getD r [] := ⟨_, rfl⟩
  subst hx
  generalize l.getD r [] = x at *
  simp [List.getD, h4]

theorem turnL_turnL {l : List (List Int)} (hT : TabIn l) : turnL (turnL l) = l := by
  have h1 := hT.1
  have hw := hT.width
  have e0 : ((turnL l).getD 0 []).length = l.length := tabF_len _ _ _ _ hw.1
  have e1 : turnL (turnL l) = tabF l.length (l.getD 0 []).length fun k i => at2 (turnL l) i k := by
    show tabF ((turnL l).getD 0 []).length (turnL l).length _ = _
    rw [e0, turnL_length]
  rw [e1]
  have e2 : tabF l.length (l.getD 0 []).length (fun k i => at2 (turnL l) i k) = tabF l.length (l.getD 0 []).length (at2 l) := by
    unfold tabF
    refine List.map_congr_left fun r hr => List.map_congr_left fun k hk => ?_
    exact tabF_at _ _ _ _ _ (List.mem_range.1 hk) (List.mem_range.1 hr)
  rw [e2]
  exact tab_self rfl (fun r hr => hT.row hr)

end Go.Proofs.Ytkahgpgnfodpgaa
end

section
namespace Go.Proofs.Ytkahgpgnfodpgaa
open Go.RowKit Go.Deep

def sw (i k r : Nat) : Nat := if r = k then i else if r = i then k else r
def swapL (l : List (List Int)) (i k : Nat) : List (List Int) := (List.range l.length).map fun r => l.getD (sw i k r) []
theorem swapL_length (l : List (List Int)) (i k : Nat) : (swapL l i k).length = l.length := by simp [swapL]
theorem swapL_get (l : List (List Int)) (i k : Nat) {r : Nat} (h : r < l.length) : (swapL l i k).getD r [] = l.getD (sw i k r) [] := by simp [swapL, List.getD, h]
theorem sw_lt {i k r n : Nat} (hi : i < n) (hk : k < n) (hr : r < n) : sw i k r < n := by unfold sw; split <;> (try split) <;> omega
theorem sw_sw (i k r : Nat) : sw i k (sw i k r) = r := by
  unfold sw
  by_cases h1 : r = k
  · subst h1
    by_cases h2 : i = r
    · subst h2; simp
    · simp [h2]
  · by_cases h2 : r = i
    · subst h2; simp
    · simp [h1, h2]
theorem sw_inj {i k r r' : Nat} (h : sw i k r = sw i k r') : r = r' := by
  have := congrArg (sw i k) h
  rwa [sw_sw, sw_sw] at this
theorem swapL_tab {l : List (List Int)} {i k : Nat} (hT : TabIn l) (hi : i < l.length) (hk : k < l.length) : TabIn (swapL l i k) := by
  have h1 := hT.1
  have h2 := hT.2.1
  refine ⟨by rw [swapL_length]; exact h1, by rw [swapL_length]; exact h2, fun r hr => ?_⟩
  rw [swapL_length] at hr
  rw [swapL_get l i k (show 0 < l.length by omega), swapL_get l i k hr]
  have h3 := hT.2.2 _ (sw_lt hi hk hr)
  rw [hT.row (sw_lt hi hk (show 0 < l.length by omega))]
  exact h3

theorem sel_full (n k : Nat) (hk : k ≤ n) : (sel (2 ^ n - 1) n k).map (·.1) = List.range k := by
  induction k with
  | zero => rfl
  | succ k ih =>
    rw [sel_yes _ _ _ (by omega) (by rw [Nat.testBit_two_pow_sub_one]; simp; omega), List.map_append, ih (by omega), List.range_succ]
    rfl
theorem range_getD {α : Type} (x : List α) (d : α) : (List.range x.length).map (fun j => x.getD j d) = x := by
  refine List.ext_getElem (by simp) fun i h1 h2 => ?_
  simp [List.getD, h2]
theorem pickTo_full (x : List Int) (m : Nat) (h : x.length = m) : pickTo (2 ^ m - 1) x m m = x := by
  have e : pickTo (2 ^ m - 1) x m m = ((sel (2 ^ m - 1) m m).map (·.1)).map (fun j => x.getD j 0) := by rw [List.map_map]; rfl
  rw [e, sel_full m m (Nat.le_refl _), ← h, range_getD]
theorem partL_full {l : List (List Int)} (hT : Rec l) : partL l (2 ^ l.length - 1) (2 ^ (l.getD 0 []).length - 1) = l := by
  have e : partL l (2 ^ l.length - 1) (2 ^ (l.getD 0 []).length - 1) = ((sel (2 ^ l.length - 1) l.length l.length).map (·.1)).map (fun r => pickTo (2 ^ (l.getD 0 []).length - 1) (l.getD r []) (l.getD 0 []).length (l.getD 0 []).length) := by rw [List.map_map]; rfl
  rw [e, sel_full _ _ (Nat.le_refl _)]
  have h : (List.range l.length).map (fun r => pickTo (2 ^ (l.getD 0 []).length - 1) (l.getD r []) (l.getD 0 []).length (l.getD 0 []).length) = (List.range l.length).map (fun r => l.getD r []) :=
    List.map_congr_left fun r hr => pickTo_full _ _ (hT.row (List.mem_range.1 hr))
  rw [h, range_getD]

theorem OwnD.swap {lo hi : Nat} {w : World} {b : Nat} {A : Nat → Option Addr} {G C : Nat → Nat} {n m : Nat} {Z : Nat → Nat → Int} (h : OwnD lo hi w b A G C n (fun _ => m) Z) {i k : Nat} (hi' : i < n) (hk : k < n) :
    OwnD lo hi ((w.setCell ⟨b, i, none⟩ (.slice (A k) m (C k))).setCell ⟨b, k, none⟩ (.slice (A i) m (C i))) b (fun r => A (sw i k r)) (fun r => G (sw i k r)) (fun r => C (sw i k r)) n (fun _ => m) (fun r c => Z (sw i k r) c) := by
  refine ⟨fun r hr => ?_, fun r hr h0 => h.addr _ (sw_lt hi' hk hr) h0, fun r hr h0 => h.inside _ (sw_lt hi' hk hr) h0, fun r hr c hc => ?_, fun r hr c hc => by rw [World.frozen?_setCell, World.frozen?_setCell]; exact h.free _ (sw_lt hi' hk hr) c hc, fun r r' hr hr' h0 h0' e => sw_inj (h.apart _ _ (sw_lt hi' hk hr) (sw_lt hi' hk hr') h0 h0' e)⟩
  · by_cases e1 : r = k
    · subst e1
      have : sw i r r = i := by simp [sw]
      rw [this]
      refine World.cell?_setCell_same' _ _ _ ?_
      by_cases e2 : i = r
      · subst e2
        rw [World.cell?_setCell_same' _ _ _ (by rw [h.top i hi']; rfl)]; rfl
      · rw [World.cell?_setCell_other _ _ _ _ (fun e => e2 (by injection e)), h.top r hk]; rfl
    · rw [World.cell?_setCell_other _ _ _ _ (fun e => e1 (by injection e with _ e; exact e.symm))]
      by_cases e2 : r = i
      · subst e2
        have : sw r k r = k := by simp [sw, e1]
        rw [this]
        exact World.cell?_setCell_same' _ _ _ (by rw [h.top r hr]; rfl)
      · have : sw i k r = r := by simp [sw, e1, e2]
        rw [this, World.cell?_setCell_other _ _ _ _ (fun e => e2 (by injection e with _ e; exact e.symm))]
        exact h.top r hr
  · have hl := sw_lt hi' hk hr
    have hin := h.inside _ hl (by omega)
    rw [World.cell?_setCell_other _ _ _ _ (fun e => hin.2.2 (by injection e with e; exact e.symm)), World.cell?_setCell_other _ _ _ _ (fun e => hin.2.2 (by injection e with e; exact e.symm))]
    exact h.cell _ hl c hc
theorem OwnD.swapT {lo hi : Nat} {w : World} {b : Nat} {A : Nat → Option Addr} {G C : Nat → Nat} {n m : Nat} {Z : Nat → Nat → Int} {l : List (List Int)} (h : OwnD lo hi w b A G C n (fun _ => m) Z) {i k : Nat} (hi' : i < n) (hk : k < n) (hb : lo ≤ b ∧ b < hi)
    (hn : l.length = n) (hm : ∀ r, r < n → (l.getD r []).length = m) (hZ : ∀ r c, r < n → c < m → Z r c = at2 l r c) : OwnT lo hi ((w.setCell ⟨b, i, none⟩ (.slice (A k) m (C k))).setCell ⟨b, k, none⟩ (.slice (A i) m (C i))) (some ⟨b, 0, none⟩) (swapL l i k) :=
  (h.swap hi' hk).ownT hb ((swapL_length _ _ _).trans hn) (fun r hr => by rw [swapL_get l i k (by omega)]; exact hm _ (sw_lt hi' hk hr)) (fun r hr c hc => by rw [swapL_get l i k (by omega)]; exact (hZ _ c (sw_lt hi' hk hr) hc).symm)

set_option maxRecDepth 100000 in
set_option maxHeartbeats 2000000 in
theorem swapped_any (a : Option Addr) (cap n i k : Nat) (l : List (List Int)) (w : World) (hn : l.length = n) (hT : Rec l) (hi : i < n) (hk : k < n) (hm : MatR w a l) :
    Calls Try.prog 142 #[.slice a n cap, .int .i64 i, .int .i64 k] w fun e w' => ∃ a' cap', e = .returned (.slice a' n cap') ∧ w.Since w.heap.size w' ∧ OwnT w.heap.size w'.heap.size w' a' (swapL l i k) := by
  have h6 := hT.high
  have h1 := hT.low
  have hw := hT.width
  rw [hn] at h6 h1
  obtain ⟨m, hmm⟩ : ∃ m, (l.getD 0 []).length = m := ⟨_, rfl⟩
  have E1 := Lib.hid (allRows_any a cap n w h6)
  have E2 := width_any a cap n l w hn (by omega) (by omega) hm
  rw [hmm] at E2 hw
  replace E2 := Lib.hid E2
  have E3 := Lib.hid (fullSet_any m hw.2 w)
  have p1 : 2 ^ n ≤ 2 ^ 6 := Nat.pow_le_pow_right (by omega) h6
  have p2 : 2 ^ m ≤ 2 ^ 6 := Nat.pow_le_pow_right (by omega) hw.2
  have E4 := part_rec a cap n (2 ^ n - 1) (2 ^ m - 1) l w hn hT (by omega) (by omega) hm
  have hfull := partL_full hT
  rw [hn, hmm] at hfull
  rw [hfull, hn] at E4
  replace E4 := Lib.hid E4
  have hrow : ∀ r, r < n → (l.getD r []).length = m := fun r hr => by rw [hT.row (by omega), hmm]
  have HN := Lib.hid hn
  have HROW := Lib.hid hrow
  clear hm hT hfull hrow hmm hn p1 p2
  go_enter Try.func142, Try.ntmps142
  go_wp2_with fail
  refine (E1.out).mono ?_
  rintro e w1 ⟨rfl, rfl⟩
  go_wp2_with fail
  refine (E2.out).mono ?_
  rintro e w1 ⟨rfl, rfl⟩
  go_wp2_with fail
  refine (E3.out).mono ?_
  rintro e w1 ⟨rfl, rfl⟩
  go_wp2_with fail
  refine (E4.out).mono ?_
  rintro e w2 ⟨a2, cap2, rfl, hs2, ho2, hfr⟩
  obtain ⟨b, A, G, C, rfl, hb, hWR⟩ := ho2.wr HN.out (by omega) HROW.out hs2 (fun _ _ => 0)
  have hO := hWR.own
  have c1 := hO.top i hi
  have c2 := hO.top k hk
  have HF := Lib.hid (hO.swapT hi hk hb HN.out HROW.out (fun r c _ _ => by unfold updF; rw [if_neg (by omega)]))
  have f1 := hfr b i rfl hi
  have f2 := hfr b k rfl hk
  have HS := Lib.hid (show w.Since w.heap.size ((w2.setCell ⟨b, i, none⟩ (.slice (A k) m (C k))).setCell ⟨b, k, none⟩ (.slice (A i) m (C i))) from (hs2.setCell hb.1 _).setCell hb.1 _)
  have HZ := Lib.hid (show ((w2.setCell ⟨b, i, none⟩ (.slice (A k) m (C k))).setCell ⟨b, k, none⟩ (.slice (A i) m (C i))).heap.size = w2.heap.size by simp)
  obtain ⟨y1, hy1⟩ : ∃ y, y = A i := ⟨_, rfl⟩
  obtain ⟨y2, hy2⟩ : ∃ y, y = A k := ⟨_, rfl⟩
  obtain ⟨z1, hz1⟩ : ∃ y, y = C i := ⟨_, rfl⟩
  obtain ⟨z2, hz2⟩ : ∃ y, y = C k := ⟨_, rfl⟩
  rw [← hy1, ← hy2, ← hz1, ← hz2] at HF HS HZ
  rw [← hy1, ← hz1] at c1
  rw [← hy2, ← hz2] at c2
  obtain ⟨Y, hY⟩ : ∃ Y, (w2.setCell ⟨b, i, none⟩ (.slice y2 m z2)).cell? ⟨b, k, none⟩ = some Y := by
    by_cases e : i = k
    · subst e; exact ⟨_, World.cell?_setCell_same' _ _ _ (by rw [c1]; rfl)⟩
    · exact ⟨_, (World.cell?_setCell_other _ _ _ _ (fun e' => e (by injection e'))).trans c2⟩
  clear hWR hO ho2 hfr hs2 hy1 hy2 hz1 hz2
  go_wp2
  go_region
  go_wp2
  go_ret
  exact ⟨_, _, rfl, HS.out.drew, (HF.out.mono (Nat.le_refl _) (by rw [World.size_drew, HZ.out]; exact Nat.le_refl _))⟩

end Go.Proofs.Ytkahgpgnfodpgaa
end

section
namespace Go.Proofs.Ytkahgpgnfodpgaa
open Go.RowKit Go.Deep

noncomputable def partOk (l : List (List Int)) (s c : Int) : Bool := tabIn l && (inB s 1 (2 ^ l.length - 1 : Nat) && inB c 1 (2 ^ (l.getD 0 []).length - 1 : Nat))
theorem partOk_tab {l : List (List Int)} {s c : Int} (h : partOk l s c = true) : TabIn (partL l s.toNat c.toNat) := by
  unfold partOk at h
  rw [Bool.and_eq_true, Bool.and_eq_true] at h
  have h2 := of_decide_eq_true h.2.1
  have h3 := of_decide_eq_true h.2.2
  have p1 := Nat.one_le_two_pow (n := l.length)
  have p2 := Nat.one_le_two_pow (n := (l.getD 0 []).length)
  exact partL_tab (tabIn_of h.1) (by omega) (by omega) (by omega) (by omega)

set_option maxHeartbeats 800000 in
theorem isFilled_any (x : Int) (n : Nat) (hn : n ≤ 6) (w : World) :
    Calls Try.prog 95 #[.int .i64 x, .int .i64 n] w fun e w' => e = .returned (.bool (inB x 1 (2 ^ n - 1 : Nat))) ∧ w = w' := by
  have E := Lib.hid (fullSet_any n hn w)
  go_enter Try.func95, Try.ntmps95
  go_wp2_with fail
  refine (E.out).mono ?_
  rintro e w' ⟨rfl, rfl⟩
  go_wp2_with fail
  refine (inRange_any _ _ _ _).mono ?_
  rintro e w' ⟨rfl, rfl⟩
  go_wp2
  go_ret
  exact ⟨rfl, rfl⟩

end Go.Proofs.Ytkahgpgnfodpgaa
end

section
namespace Go.Proofs.Ytkahgpgnfodpgaa
open Go.RowKit Go.Deep

noncomputable def swapOk (l : List (List Int)) (i k : Int) : Bool := tabIn l && (rowB i l.length && rowB k l.length)
theorem swapOk_tab {l : List (List Int)} {i k : Int} (h : swapOk l i k = true) : TabIn (swapL l i.toNat k.toNat) := by
  unfold swapOk at h
  rw [Bool.and_eq_true, Bool.and_eq_true] at h
  obtain ⟨i, rfl, hi⟩ := rowB_of h.2.1
  obtain ⟨k, rfl, hk⟩ := rowB_of h.2.2
  exact swapL_tab (tabIn_of h.1) hi hk
theorem szL_swapOk (l : List (List Int)) (i k : Int) (h : swapOk l i k = true) : szL (swapL l i.toNat k.toNat) ≤ 1048576 := szL_tab (swapOk_tab h)

end Go.Proofs.Ytkahgpgnfodpgaa
end

section
namespace Go.Proofs.Ytkahgpgnfodpgaa
open Go.RowKit Go.Deep

structure SW (w1 w' : World) (b n m : Nat) (A : Nat → Option Addr) (G C : Nat → Nat) (Z : Nat → Nat → Int) (hi : Nat) : Prop where
  since : w1.Since w1.heap.size w'
  size : hi ≤ w'.heap.size
  own : OwnD w1.heap.size hi w' b A G C n (fun _ => m) Z
  free : ∀ r, r < n → w'.frozen? ⟨b, r, none⟩ = false
  inb : w1.heap.size ≤ b ∧ b < hi

theorem SW.later {w1 w' w2 : World} {b n m : Nat} {A : Nat → Option Addr} {G C : Nat → Nat} {Z : Nat → Nat → Int} {hi : Nat} (h : SW w1 w' b n m A G C Z hi) (hs : w'.Since w'.heap.size w2) : SW w1 w2 b n m A G C Z hi :=
  ⟨h.since.trans (since_mono hs h.since.size), Nat.le_trans h.size hs.size, h.own.later hs, fun r hr => by rw [hs.frozen (a := ⟨b, r, none⟩) (World.block_lt_of_cell? _ _ (h.own.top r hr))]; exact h.free r hr, h.inb⟩

theorem SW.put {w1 w2 w3 : World} {b n m : Nat} {A : Nat → Option Addr} {G C : Nat → Nat} {Z : Nat → Nat → Int} {hi : Nat} (h : SW w1 w2 b n m A G C Z hi) (hs : w2.Since w2.heap.size w3) {g cp : Nat} {x : List Int} (hg : w2.heap.size ≤ g) (hx : RowB w3 g x) (hxl : x.length = m)
    (hm : 0 < m) {i : Nat} (hi' : i < n) : SW w1 (w3.setCell ⟨b, i, none⟩ (.slice (some ⟨g, 0, none⟩) m cp)) b n m (fun r => if r = i then some ⟨g, 0, none⟩ else A r) (fun r => if r = i then g else G r) (fun r => if r = i then cp else C r) (fun r c => if r = i then x.getD c 0 else Z r c) w3.heap.size := by
  have h3 := h.later hs
  have hgl := hx.lt
  have hsz := h.size
  have hb := h.inb
  have hss := h.since.size
  have hsz3 := hs.size
  have hgb : g ≠ b := by omega
  refine ⟨h3.since.setCell hb.1 _, by simp, ⟨fun r hr => ?_, fun r hr h0 => ?_, fun r hr h0 => ?_, fun r hr c hc => ?_, fun r hr c hc => ?_, fun r r' hr hr' h0 h0' e => ?_⟩, fun r hr => by rw [World.frozen?_setCell]; exact h3.free r hr, hb.1, by omega⟩
  · by_cases e : r = i
    · subst e
      rw [if_pos rfl, if_pos rfl]
      exact World.cell?_setCell_same' _ _ _ (by rw [h3.own.top r hr]; rfl)
    · rw [if_neg e, if_neg e, World.cell?_setCell_other _ _ _ _ (fun e' => e (by injection e' with _ e'; exact e'.symm))]
      exact h3.own.top r hr
  · by_cases e : r = i
    · rw [if_pos e, if_pos e]
    · rw [if_neg e, if_neg e]; exact h3.own.addr r hr h0
  · by_cases e : r = i
    · rw [if_pos e]; exact ⟨by omega, hgl, hgb⟩
    · rw [if_neg e]; have := h3.own.inside r hr h0; exact ⟨this.1, by omega, this.2.2⟩
  · by_cases e : r = i
    · rw [if_pos e, if_pos e, World.cell?_setCell_other _ _ _ _ (fun e' => hgb (by injection e' with e'; exact e'.symm))]
      exact hx.cell (by rw [hxl]; exact hc)
    · rw [if_neg e, if_neg e, World.cell?_setCell_other _ _ _ _ (fun e' => (h3.own.inside r hr (by omega)).2.2 (by injection e' with e'; exact e'.symm))]
      exact h3.own.cell r hr c hc
  · rw [World.frozen?_setCell]
    by_cases e : r = i
    · rw [if_pos e]; exact hx.frozen c
    · rw [if_neg e]; exact h3.own.free r hr c hc
  · by_cases e1 : r = i <;> by_cases e2 : r' = i
    · omega
    · rw [if_pos e1, if_neg e2] at e
      have := (h.own.inside r' hr' h0').2.1
      omega
    · rw [if_neg e1, if_pos e2] at e
      have := (h.own.inside r hr h0).2.1
      omega
    · rw [if_neg e1, if_neg e2] at e
      exact h3.own.apart r r' hr hr' h0 h0' e

theorem OwnT.sw {w w1 : World} {a : Option Addr} {l : List (List Int)} {n m : Nat} (h : OwnT w.heap.size w1.heap.size w1 a l) (hn : l.length = n) (h1 : 0 < n) (hm : ∀ r, r < n → (l.getD r []).length = m) (hs : w.Since w.heap.size w1) (hf : FreeTop w1 a n) :
    ∃ b A G C, a = some ⟨b, 0, none⟩ ∧ SW w w1 b n m A G C (fun r c => at2 l r c) w1.heap.size := by
  obtain ⟨b, A, G, C, e, hb, hW⟩ := h.wr hn h1 hm hs (fun _ _ => 0)
  exact ⟨b, A, G, C, e, hs, Nat.le_refl _, hW.own.congr fun r _ c _ => by unfold updF; rw [if_neg (by omega)], fun r hr => hf b r e hr, hb⟩

theorem SW.ownT {w1 w' : World} {b n m : Nat} {A : Nat → Option Addr} {G C : Nat → Nat} {Z : Nat → Nat → Int} {hi : Nat} {l : List (List Int)} (h : SW w1 w' b n m A G C Z hi) (hn : l.length = n) (hm : ∀ r, r < n → (l.getD r []).length = m) (hZ : ∀ r c, r < n → c < m → at2 l r c = Z r c) : OwnT w1.heap.size w'.heap.size w' (some ⟨b, 0, none⟩) l :=
  (h.own.ownT h.inb hn hm fun r hr c hc => hZ r c hr hc).mono (Nat.le_refl _) h.size

theorem own_row (W : World) : (W.alloc (.cells #[] 3)).ownsRow W.heap.size 3 1 (.slice (some ⟨W.heap.size, 0, none⟩) 0 0) 0 [] := World.ownsRow_made W #[] 0 (Nat.le_refl _) (Nat.zero_le _) rfl
theorem row_cells {w W : World} {b' o' m : Nat} {x : List Int} (hx : x.length = m) (hs : w.Since w.heap.size W) (hce : ∀ j, j < m → w.cell? ⟨b', o' + j, none⟩ = some (.int .i64 (x.getD j 0))) (o : Obj) : ∀ (j : Nat) (u : Value), (x.map (Value.int .i64))[j]? = some u → (W.alloc o).cell? ((⟨b', o', none⟩ : Addr).add j) = some u := fun j u hj => by
  rw [Go.WideShapes.add_plain]
  obtain ⟨hjl, he⟩ := List.getElem?_eq_some_iff.1 hj
  have hjx : j < m := by rw [← hx]; simpa using hjl
  have h2 := hce j hjx
  refine cell_alloc_l _ ?_
  rw [hs.cell (a := ⟨b', o' + j, none⟩) (World.block_lt_of_cell? _ _ h2), h2, ← he]
  simp [List.getD, show j < x.length by omega]

end Go.Proofs.Ytkahgpgnfodpgaa
end

section
namespace Go.Proofs.Ytkahgpgnfodpgaa
open Go.RowKit Go.Deep

theorem swap_back {l : List (List Int)} {i k : Int} (h : swapOk l i k = true) : swapOk (swapL l i.toNat k.toNat) i k = true ∧ swapL (swapL l i.toNat k.toNat) i.toNat k.toNat = l := by
  have hT := swapOk_tab h
  unfold swapOk at h ⊢
  rw [Bool.and_eq_true, Bool.and_eq_true] at h
  refine ⟨by rw [tabIn_true hT, swapL_length, h.2.1, h.2.2]; rfl, ?_⟩
  obtain ⟨i, rfl, hi⟩ := rowB_of h.2.1
  obtain ⟨k, rfl, hk⟩ := rowB_of h.2.2
  rw [Int.toNat_natCast, Int.toNat_natCast]
  have e : swapL (swapL l i k) i k = (List.range l.length).map fun r => l.getD r [] := by
    show (List.range (swapL l i k).length).map (fun r => (swapL l i k).getD (sw i k r) []) = _
    rw [swapL_length]
    refine List.map_congr_left fun r hr => ?_
    rw [swapL_get l i k (sw_lt hi hk (List.mem_range.1 hr)), sw_sw]
  rw [e, range_getD]

theorem tabF_congr {n m : Nat} {f g : Nat → Nat → Int} (h : ∀ i k, i < n → k < m → f i k = g i k) : tabF n m f = tabF n m g := by
  unfold tabF
  exact List.map_congr_left fun r hr => List.map_congr_left fun k hk => h r k (List.mem_range.1 hr) (List.mem_range.1 hk)

theorem add_back {l : List (List Int)} {fr tq f : Int} (h : addOk l fr tq f = true) : addOk (addL l fr.toNat tq.toNat f) fr tq (-f) = true ∧ addL (addL l fr.toNat tq.toNat f) fr.toNat tq.toNat (-f) = l := by
  unfold addOk at h ⊢
  simp only [Bool.and_eq_true, Bool.not_eq_true'] at h
  obtain ⟨h1, h2, h3, h4, h5, h6⟩ := h
  have hT := tabIn_of h1
  obtain ⟨fr, rfl, hfr⟩ := rowB_of h2
  obtain ⟨tq, rfl, hto⟩ := rowB_of h3
  rw [Int.toNat_natCast, Int.toNat_natCast] at *
  have hne : fr ≠ tq := by rintro rfl; simp at h4
  have hw := hT.width
  have h0 := hT.1
  have e0 : ((addL l fr tq f).getD 0 []).length = (l.getD 0 []).length := tabF_len _ _ _ _ (by omega)
  have e : addL (addL l fr tq f) fr tq (-f) = l := by
    show tabF (addL l fr tq f).length ((addL l fr tq f).getD 0 []).length (addF (addL l fr tq f) fr tq (-f)) = l
    rw [addL_length, e0]
    refine Eq.trans (tabF_congr fun i k hi hk => ?_) (tab_self rfl (fun r hr => hT.row hr))
    have a1 : at2 (addL l fr tq f) i k = addF l fr tq f i k := tabF_at _ _ _ _ _ hi hk
    have a2 : at2 (addL l fr tq f) fr k = addF l fr tq f fr k := tabF_at _ _ _ _ _ hfr hk
    show (if i = tq then at2 (addL l fr tq f) i k + (-f) * at2 (addL l fr tq f) fr k else at2 (addL l fr tq f) i k) = at2 l i k
    rw [a1, a2]
    unfold addF
    by_cases hi : i = tq
    · rw [if_pos hi, if_pos hi, if_neg hne, Int.neg_mul]; omega
    · rw [if_neg hi, if_neg hi]
  refine ⟨?_, e⟩
  have h5' := of_decide_eq_true h5
  rw [h6, addL_length, h2, h3, h4, e, h1]
  have : inB (-f) (-30) 30 = true := by unfold inB at *; simp at *; omega
  rw [this]; rfl
theorem addOk_num {l : List (List Int)} {fr tq f : Int} (h : addOk l fr tq f = true) : -30 ≤ f ∧ f ≤ 30 := by
  unfold addOk at h
  simp only [Bool.and_eq_true] at h
  exact of_decide_eq_true h.2.2.2.2.1

end Go.Proofs.Ytkahgpgnfodpgaa
end

section
namespace Go.Proofs.Ytkahgpgnfodpgaa
open Go.RowKit Go.Deep

theorem tabF_tab {n m : Nat} {f : Nat → Nat → Int} (hn : 1 ≤ n ∧ n ≤ 6) (hm : 1 ≤ m ∧ m ≤ 6) (h : ∀ i k, i < n → k < m → -30 ≤ f i k ∧ f i k ≤ 30) : TabIn (tabF n m f) := by
  refine ⟨by rw [tabF_length]; exact hn.1, by rw [tabF_length]; exact hn.2, fun r hr => ?_⟩
  rw [tabF_length] at hr
  refine ⟨by rw [tabF_len _ _ _ _ hr, tabF_len _ _ _ _ (by omega)], by rw [tabF_len _ _ _ _ hr]; exact hm.1, by rw [tabF_len _ _ _ _ hr]; exact hm.2, fun k hk => ?_⟩
  rw [tabF_len _ _ _ _ hr] at hk
  rw [tabF_at _ _ _ _ _ hr hk]
  exact h r k hr hk
theorem tab_bd {n m : Nat} {f : Nat → Nat → Int} (hn : 1 ≤ n) (h : TabIn (tabF n m f)) : ∀ i k, i < n → k < m → -30 ≤ f i k ∧ f i k ≤ 30 := by
  intro i k hi hk
  have h1 := h.at (i := i) (k := k) (by rw [tabF_length]; exact hi) (by rw [tabF_len _ _ _ _ (by omega)]; exact hk)
  have h2 : at2 (tabF n m f) i k = f i k := tabF_at _ _ _ _ _ hi hk
  rw [h2] at h1
  exact h1
theorem TabIn.sides {l : List (List Int)} (h : TabIn l) : (1 ≤ l.length ∧ l.length ≤ 6) ∧ (1 ≤ (l.getD 0 []).length ∧ (l.getD 0 []).length ≤ 6) := ⟨⟨h.1, h.2.1⟩, h.width⟩
theorem timesL_at {l : List (List Int)} {z : Int} {i k : Nat} (hi : i < l.length) (hk : k < (l.getD 0 []).length) : at2 (timesL l z) i k = at2 l i k * z := tabF_at _ _ _ _ _ hi hk
theorem timesL_width {l : List (List Int)} (z : Int) (h : 1 ≤ l.length) : ((timesL l z).getD 0 []).length = (l.getD 0 []).length := tabF_len _ _ _ _ (by omega)

theorem less_bd {x z : Int} (hz : 1 ≤ z) (h1 : -30 ≤ x * z) (h2 : x * z ≤ 30) : -30 ≤ x * (z - 1) ∧ x * (z - 1) ≤ 30 := by
  rw [Int.mul_sub, Int.mul_one]
  by_cases hx : 0 ≤ x
  · have := Int.mul_le_mul_of_nonneg_left hz hx
    rw [Int.mul_one] at this
    omega
  · have := Int.mul_le_mul_of_nonneg_left hz (show 0 ≤ -x by omega)
    rw [Int.mul_one, Int.neg_mul] at this
    omega

theorem timesOk_of {l : List (List Int)} {z : Int} (h : timesOk l z = true) : TabIn l ∧ (-30 ≤ z ∧ z ≤ 30) ∧ TabIn (timesL l z) := by
  unfold timesOk at h
  simp only [Bool.and_eq_true] at h
  exact ⟨tabIn_of h.1, of_decide_eq_true h.2.1, tabIn_of h.2.2⟩

theorem times_less {l : List (List Int)} {z : Int} (h : timesOk l z = true) (hz : 1 ≤ z) : timesOk l (z - 1) = true ∧ sumOk (timesL l (z - 1)) l = true ∧ sumL (timesL l (z - 1)) l = timesL l z := by
  obtain ⟨hT, hzb, hM⟩ := timesOk_of h
  have hs := hT.sides
  have hb := tab_bd hs.1.1 hM
  have hL : TabIn (timesL l (z - 1)) := tabF_tab hs.1 hs.2 fun i k hi hk => less_bd hz (hb i k hi hk).1 (hb i k hi hk).2
  have hin : inB (z - 1) (-30) 30 = true := by unfold inB; simp; omega
  have e : sumL (timesL l (z - 1)) l = timesL l z := by
    show tabF (timesL l (z - 1)).length ((timesL l (z - 1)).getD 0 []).length (fun i k => at2 (timesL l (z - 1)) i k + at2 l i k) = tabF l.length (l.getD 0 []).length fun i k => at2 l i k * z
    rw [timesL_length, timesL_width _ hs.1.1]
    refine tabF_congr fun i k hi hk => ?_
    rw [timesL_at hi hk, Int.mul_sub, Int.mul_one]
    omega
  refine ⟨?_, ?_, e⟩
  · unfold timesOk
    rw [tabIn_true hT, hin, tabIn_true hL]; rfl
  · unfold sumOk alikeB
    rw [e, tabIn_true hT, tabIn_true hL, tabIn_true hM, timesL_length, timesL_width _ hs.1.1]
    simp

end Go.Proofs.Ytkahgpgnfodpgaa
end

section
namespace Go.Proofs.Ytkahgpgnfodpgaa
open Go.RowKit Go.Deep

theorem turnL_at {l : List (List Int)} {i k : Nat} (hi : i < l.length) (hk : k < (l.getD 0 []).length) : at2 (turnL l) k i = at2 l i k := tabF_at _ _ _ _ _ hk hi
theorem turnL_width {l : List (List Int)} (h : TabIn l) : ((turnL l).getD 0 []).length = l.length := tabF_len _ _ _ _ (by have := h.width; omega)
theorem turnL_tab {l : List (List Int)} (h : TabIn l) : TabIn (turnL l) := tabIn_of (tabIn_turn h)

theorem sumOk_of {l u : List (List Int)} (h : sumOk l u = true) : TabIn l ∧ TabIn u ∧ l.length = u.length ∧ (l.getD 0 []).length = (u.getD 0 []).length ∧ TabIn (sumL l u) := by
  unfold sumOk alikeB at h
  simp only [Bool.and_eq_true, beq_iff_eq] at h
  exact ⟨tabIn_of h.1, tabIn_of h.2.1, h.2.2.1.1, h.2.2.1.2, tabIn_of h.2.2.2⟩
theorem sumOk_mk {l u : List (List Int)} (h1 : TabIn l) (h2 : TabIn u) (h3 : l.length = u.length) (h4 : (l.getD 0 []).length = (u.getD 0 []).length) (h5 : TabIn (sumL l u)) : sumOk l u = true := by
  unfold sumOk alikeB
  rw [tabIn_true h1, tabIn_true h2, tabIn_true h5, h3, h4]
  simp

theorem sum_comm {l u : List (List Int)} (h : sumOk l u = true) : sumOk u l = true ∧ sumL u l = sumL l u := by
  obtain ⟨h1, h2, h3, h4, h5⟩ := sumOk_of h
  have e : sumL u l = sumL l u := by
    unfold sumL
    rw [← h3, ← h4]
    exact tabF_congr fun i k _ _ => Int.add_comm _ _
  exact ⟨sumOk_mk h2 h1 h3.symm h4.symm (by rw [e]; exact h5), e⟩

theorem sumL_at {l u : List (List Int)} {i k : Nat} (hi : i < l.length) (hk : k < (l.getD 0 []).length) : at2 (sumL l u) i k = at2 l i k + at2 u i k := tabF_at _ _ _ _ _ hi hk
theorem sumL_width {l : List (List Int)} (u : List (List Int)) (h : 1 ≤ l.length) : ((sumL l u).getD 0 []).length = (l.getD 0 []).length := tabF_len _ _ _ _ (by omega)

theorem sum_turn {l u : List (List Int)} (h : sumOk l u = true) : sumOk (turnL l) (turnL u) = true ∧ sumL (turnL l) (turnL u) = turnL (sumL l u) := by
  obtain ⟨h1, h2, h3, h4, h5⟩ := sumOk_of h
  have e : sumL (turnL l) (turnL u) = turnL (sumL l u) := by
    show tabF (turnL l).length ((turnL l).getD 0 []).length (fun i k => at2 (turnL l) i k + at2 (turnL u) i k) = tabF ((sumL l u).getD 0 []).length (sumL l u).length fun k i => at2 (sumL l u) i k
    rw [turnL_length, turnL_width h1, sumL_width u h1.1, sumL_length]
    refine tabF_congr fun k i hk hi => ?_
    rw [turnL_at hi hk, turnL_at (l := u) (by omega) (by omega), sumL_at hi hk]
  exact ⟨sumOk_mk (turnL_tab h1) (turnL_tab h2) (by rw [turnL_length, turnL_length, h4]) (by rw [turnL_width h1, turnL_width h2, h3]) (by rw [e]; exact turnL_tab h5), e⟩

end Go.Proofs.Ytkahgpgnfodpgaa
end

section
namespace Go.Proofs.Ytkahgpgnfodpgaa
open Go.RowKit Go.Deep

def popc (s : Nat) : Nat := (sel s 6 6).length
theorem popc_step : ∀ s : Fin 64, popc s.val = s.val % 2 + popc (s.val / 2) := by decide +kernel
theorem popc_sel : ∀ n : Fin 7, ∀ s : Fin 64, s.val < 2 ^ n.val → (sel s.val n.val n.val).length = popc s.val := by decide +kernel
theorem and1_fin : ∀ s : Fin 64, bits BinOp.and IntKind.i64 (s.val : Int) 1 = ((s.val % 2 : Nat) : Int) := by decide +kernel

end Go.Proofs.Ytkahgpgnfodpgaa
end

section
namespace Go.Proofs.Ytkahgpgnfodpgaa
open Go.RowKit Go.Deep

theorem map_getD {α β : Type} (l : List α) (d : α) (f : α → β) : l.map f = (List.range l.length).map fun i => f (l.getD i d) := by
  refine List.ext_getElem (by simp) fun i h1 h2 => ?_
  rw [List.length_map] at h1
  simp [List.getD, h1]
def sels (s n : Nat) : List Nat := (sel s n n).map (·.1)
theorem sels_length (s n : Nat) : (sels s n).length = (sel s n n).length := by simp [sels]
theorem sels_lt (s n : Nat) {i : Nat} (h : i < (sels s n).length) : (sels s n).getD i 0 < n := by
  have h1 : i < (sel s n n).length := by rw [← sels_length]; exact h
  have : (sels s n).getD i 0 = ((sel s n n)[i]).1 := by simp [sels, List.getD, h1]
  rw [this]
  exact ((sel s n n)[i]).2
theorem partL_tabF (l : List (List Int)) (s c : Nat) : partL l s c = tabF (sels s l.length).length (sels c (l.getD 0 []).length).length fun i k => at2 l ((sels s l.length).getD i 0) ((sels c (l.getD 0 []).length).getD k 0) := by
  have e1 : partL l s c = (sels s l.length).map fun r => (sels c (l.getD 0 []).length).map fun k => (l.getD r []).getD k 0 := by
    unfold partL partRows sels pickTo
    rw [List.map_map]
    refine List.map_congr_left fun r _ => ?_
    simp only [Function.comp_apply, List.map_map]
    rfl
  rw [e1, map_getD _ 0]
  unfold tabF
  refine List.map_congr_left fun i _ => ?_
  rw [map_getD _ 0]
  rfl

theorem partOk_of {l : List (List Int)} {x y : Int} (h : partOk l x y = true) : TabIn l ∧ (1 ≤ x ∧ x ≤ (2 ^ l.length - 1 : Nat)) ∧ (1 ≤ y ∧ y ≤ (2 ^ (l.getD 0 []).length - 1 : Nat)) := by
  unfold partOk at h
  simp only [Bool.and_eq_true] at h
  exact ⟨tabIn_of h.1, of_decide_eq_true h.2.1, of_decide_eq_true h.2.2⟩

theorem part_turn {l : List (List Int)} {x y : Int} (h : partOk l x y = true) : partOk (turnL l) y x = true ∧ partL (turnL l) y.toNat x.toNat = turnL (partL l x.toNat y.toNat) := by
  obtain ⟨hT, hx, hy⟩ := partOk_of h
  have hM := partOk_tab h
  constructor
  · unfold partOk
    rw [tabIn_true (turnL_tab hT), turnL_length, turnL_width hT]
    have e1 : inB y 1 (2 ^ (l.getD 0 []).length - 1 : Nat) = true := decide_eq_true hy
    have e2 : inB x 1 (2 ^ l.length - 1 : Nat) = true := decide_eq_true hx
    rw [e1, e2]; rfl
  · have h1 := hM.1
    have hw : ((partL l x.toNat y.toNat).getD 0 []).length = (sels y.toNat (l.getD 0 []).length).length := by
      rw [partL_tabF] at h1 ⊢
      rw [tabF_length] at h1
      exact tabF_len _ _ _ _ (by omega)
    have hl : (partL l x.toNat y.toNat).length = (sels x.toNat l.length).length := by rw [partL_tabF, tabF_length]
    rw [partL_tabF (turnL l), turnL_length, turnL_width hT]
    show _ = tabF ((partL l x.toNat y.toNat).getD 0 []).length (partL l x.toNat y.toNat).length fun k i => at2 (partL l x.toNat y.toNat) i k
    rw [hw, hl]
    refine tabF_congr fun k i hk hi => ?_
    have e : at2 (partL l x.toNat y.toNat) i k = at2 l ((sels x.toNat l.length).getD i 0) ((sels y.toNat (l.getD 0 []).length).getD k 0) := by
      rw [partL_tabF]
      exact tabF_at _ _ _ _ _ hi hk
    rw [e]
    exact turnL_at (sels_lt _ _ hi) (sels_lt _ _ hk)

theorem part_sizes {l : List (List Int)} {x y : Int} (h : partOk l x y = true) : (partL l x.toNat y.toNat).length = popc x.toNat ∧ ((partL l x.toNat y.toNat).getD 0 []).length = popc y.toNat := by
  obtain ⟨hT, hx, hy⟩ := partOk_of h
  have hM := partOk_tab h
  have hs := hT.sides
  have p1 : 2 ^ l.length ≤ 2 ^ 6 := Nat.pow_le_pow_right (by omega) hs.1.2
  have p2 : 2 ^ (l.getD 0 []).length ≤ 2 ^ 6 := Nat.pow_le_pow_right (by omega) hs.2.2
  have h1 := hM.1
  have hl : (partL l x.toNat y.toNat).length = (sels x.toNat l.length).length := by rw [partL_tabF, tabF_length]
  have hw : ((partL l x.toNat y.toNat).getD 0 []).length = (sels y.toNat (l.getD 0 []).length).length := by
    rw [hl] at h1
    rw [partL_tabF]
    exact tabF_len _ _ _ _ (by omega)
  rw [hl, hw, sels_length, sels_length]
  exact ⟨popc_sel ⟨l.length, by omega⟩ ⟨x.toNat, by omega⟩ (by show x.toNat < 2 ^ l.length; omega), popc_sel ⟨(l.getD 0 []).length, by omega⟩ ⟨y.toNat, by omega⟩ (by show y.toNat < 2 ^ (l.getD 0 []).length; omega)⟩

end Go.Proofs.Ytkahgpgnfodpgaa
end

section
namespace Go.Proofs.Ytkahgpgnfodpgaa
open Go.RowKit Go.Deep

set_option maxHeartbeats 1000000 in
theorem implTablePart_any (a : Option Addr) (cap n : Nat) (l : List (List Int)) (s c : Int) (w : World) (hn : l.length = n) (hsz : szL l ≤ 1048576) (hm : MatR w a l) :
    Calls Try.prog 45 #[.slice a n cap, .int .i64 s, .int .i64 c] w (ImplT w (partOk l s c) (partL l s.toNat c.toNat)) := by
  have E := Lib.hid (implTableIn_any a cap n l w hn hsz hm)
  cases hT : tabIn l with
  | false =>
    have hok : partOk l s c = false := by unfold partOk; rw [hT]; rfl
    rw [hT] at E
    rw [hok]
    clear hT hsz hm hn hok
    go_enter Try.func45, Try.ntmps45
    go_wp2_with fail
    refine (E.out).mono ?_
    rintro e w1 ⟨rfl, hs⟩
    go_wp2
    go_ret2
    exact ⟨_, _, rfl, hs, OwnT.nil _ _ _ _⟩
  | true =>
    have hTT := tabIn_of hT
    rw [hT] at E
    have h6 := hTT.2.1
    have h1 := hTT.1
    have hw := hTT.width
    rw [hn] at h6 h1
    have E2 := fun (W : World) => isFilled_any s n h6 W
    cases hb : inB s 1 (2 ^ n - 1 : Nat) with
    | false =>
      have hok : partOk l s c = false := by unfold partOk; rw [hT, hn, hb]; rfl
      rw [hok]
      rw [hb] at E2
      replace E2 := Lib.hid E2
      clear hT hsz hm hn hok hTT hb
      go_enter Try.func45, Try.ntmps45
      go_wp2_with fail
      refine (E.out).mono ?_
      rintro e w1 ⟨rfl, hs⟩
      go_wp2_with fail
      refine (E2.out w1).mono ?_
      rintro e w2 ⟨rfl, rfl⟩
      go_wp2
      go_ret2
      exact ⟨_, _, rfl, hs, OwnT.nil _ _ _ _⟩
    | true =>
      obtain ⟨m, hmm⟩ : ∃ m, (l.getD 0 []).length = m := ⟨_, rfl⟩
      have E3 := fun (W : World) (hs : w.Since w.heap.size W) => width_any a cap n l W hn (by omega) (by omega) (hm.since hs)
      rw [hmm] at E3 hw
      have E4 := fun (W : World) => isFilled_any c m hw.2 W
      rw [hb] at E2
      replace E2 := Lib.hid E2
      replace E3 := Lib.hid E3
      cases hbc : inB c 1 (2 ^ m - 1 : Nat) with
      | false =>
        have hok : partOk l s c = false := by unfold partOk; rw [hT, hn, hb, hmm, hbc]; rfl
        rw [hok]
        rw [hbc] at E4
        replace E4 := Lib.hid E4
        clear hT hsz hm hn hok hTT hb hbc hmm
        go_enter Try.func45, Try.ntmps45
        go_wp2_with fail
        refine (E.out).mono ?_
        rintro e w1 ⟨rfl, hs⟩
        go_wp2_with fail
        refine (E2.out w1).mono ?_
        rintro e w2 ⟨rfl, rfl⟩
        go_wp2_with fail
        refine (E3.out w1 hs).mono ?_
        rintro e w2 ⟨rfl, rfl⟩
        go_wp2_with fail
        refine (E4.out w1).mono ?_
        rintro e w2 ⟨rfl, rfl⟩
        go_wp2
        go_ret2
        exact ⟨_, _, rfl, hs, OwnT.nil _ _ _ _⟩
      | true =>
        have hok : partOk l s c = true := by unfold partOk; rw [hT, hn, hb, hmm, hbc]; rfl
        have hPT := partOk_tab hok
        rw [hok]
        rw [hbc] at E4
        replace E4 := Lib.hid E4
        have b1 := of_decide_eq_true hb
        have b2 := of_decide_eq_true hbc
        have p1 : 2 ^ n ≤ 2 ^ 6 := Nat.pow_le_pow_right (by omega) h6
        have p2 : 2 ^ m ≤ 2 ^ 6 := Nat.pow_le_pow_right (by omega) hw.2
        obtain ⟨sn, rfl⟩ := Int.eq_ofNat_of_zero_le (show 0 ≤ s by omega)
        obtain ⟨cn, rfl⟩ := Int.eq_ofNat_of_zero_le (show 0 ≤ c by omega)
        rw [Int.toNat_natCast, Int.toNat_natCast] at hPT ⊢
        have E5 := Lib.hid (fun (W : World) (hs : w.Since w.heap.size W) => part_any a cap n sn cn l W hn hTT (by omega) (by omega) (hm.since hs))
        have HPT := Lib.hid (tabIn_true hPT)
        have HSZ := Lib.hid (szL_tab hPT)
        clear hT hsz hm hn hok hTT hb hbc hmm b1 b2 p1 p2 hPT
        go_enter Try.func45, Try.ntmps45
        go_wp2_with fail
        refine (E.out).mono ?_
        rintro e w1 ⟨rfl, hs⟩
        go_wp2_with fail
        refine (E2.out w1).mono ?_
        rintro e w2 ⟨rfl, rfl⟩
        go_wp2_with fail
        refine (E3.out w1 hs).mono ?_
        rintro e w2 ⟨rfl, rfl⟩
        go_wp2_with fail
        refine (E4.out w1).mono ?_
        rintro e w2 ⟨rfl, rfl⟩
        go_wp2_with fail
        refine (E5.out w1 hs).mono ?_
        rintro e w3 ⟨a3, cap3, rfl, hs3, ho⟩
        have hs13 : w.Since w.heap.size w3 := hs.trans (since_mono hs3 hs.size)
        have hz := hs.size
        have E6 := result_any a3 cap3 _ _ _ (partL l sn cn) w3 rfl HSZ.out ho
        rw [HPT.out] at E6
        replace E6 := Lib.hid E6
        go_wp2_with fail
        refine (E6.out).mono ?_
        rintro e w4 ⟨a', cap', rfl, hs4, ho4⟩
        go_wp2
        go_ret2
        exact ⟨a', cap', rfl, hs13.trans (since_mono hs4 hs13.size), ho4.mono hz hs4.size⟩

end Go.Proofs.Ytkahgpgnfodpgaa
end

section
namespace Go.Proofs.Ytkahgpgnfodpgaa
open Go.RowKit Go.Deep

theorem tabF_congr9 {n m : Nat} {f g : Nat → Nat → Int} (h : ∀ i k, i < n → k < m → f i k = g i k) : tabF n m f = tabF n m g := by
  unfold tabF
  refine List.map_congr_left fun i hi => List.map_congr_left fun k hk => ?_
  exact h i k (List.mem_range.1 hi) (List.mem_range.1 hk)
theorem pow_inS (n : Nat) (h : n ≤ 6) : IntKind.i64.wrap ((2 : Int) ^ n) = ((2 ^ n : Nat) : Int) := by
  have hn : n = 0 ∨ n = 1 ∨ n = 2 ∨ n = 3 ∨ n = 4 ∨ n = 5 ∨ n = 6 := by omega
  rcases hn with rfl | rfl | rfl | rfl | rfl | rfl | rfl <;> decide
theorem sels_low : ∀ n : Fin 7, 2 ≤ n.val → sels (2 ^ n.val - 2) n.val = (List.range (n.val - 1)).map (· + 1) ∧ sels (2 ^ (n.val - 1) - 1) n.val = List.range (n.val - 1) := by decide +kernel
theorem su_facts (x : List Int) {m : Nat} (h1 : 1 ≤ m) (h6 : m ≤ 6) : (suL m x).length = m ∧ ((suL m x).getD 0 []).length = m ∧ turnL (suL m x) = suL m x ∧
    (2 ≤ m → partL (suL m x) (2 ^ m - 2) (2 ^ (m - 1) - 1) = partL (suL m x) (2 ^ (m - 1) - 1) (2 ^ m - 2) ∧ (partL (suL m x) (2 ^ m - 2) (2 ^ (m - 1) - 1)).length = m - 1) := by
  have hl : (suL m x).length = m := tabF_length _ _ _
  have hw : ((suL m x).getD 0 []).length = m := tabF_len _ _ _ _ (by omega)
  have hat : ∀ i j, i < m → j < m → at2 (suL m x) i j = x.getD (i + j) 0 := fun i j hi hj => tabF_at _ _ _ _ _ hi hj
  refine ⟨hl, hw, ?_, fun h2 => ?_⟩
  · unfold turnL
    rw [hl, hw]
    show _ = tabF m m _
    exact tabF_congr9 fun k i hk hi => by rw [hat i k hi hk, Nat.add_comm]
  · obtain ⟨e1, e2⟩ := sels_low ⟨m, by omega⟩ h2
    simp only at e1 e2
    have a1 : ∀ i, i < m - 1 → ((List.range (m - 1)).map (· + 1)).getD i 0 = i + 1 := fun i hi => by simp [List.getD, hi]
    have a2 : ∀ i, i < m - 1 → (List.range (m - 1)).getD i 0 = i := fun i hi => by simp [List.getD, hi]
    refine ⟨?_, ?_⟩
    · rw [partL_tabF, partL_tabF, hl, hw, e1, e2]
      simp only [List.length_map, List.length_range]
      refine tabF_congr9 fun i k hi hk => ?_
      rw [a1 i hi, a2 k hk, a2 i hi, a1 k hk, hat _ _ (by omega) (by omega), hat _ _ (by omega) (by omega)]
      congr 1
      omega
    · rw [partL_tabF, hl, e1, tabF_length]
      simp

set_option maxRecDepth 100000 in
set_option maxHeartbeats 4000000 in
theorem fnSums (a : Option Addr) (cap n : Nat) (w : World) (hc : n ≤ cap) (h63 : cap ≤ 9223372036854775807) (hb : BytR w a n) :
    Calls Try.prog 11 #[.slice a n cap] w fun e w' => e = .returned (.bool true) ∧ w.Since w.heap.size w' := by
  by_cases hlen : 1048576 < n
  · have hl' : decide ((1048576 : Int) < (n : Int)) = true := by simp; omega
    clear hb
    go_enter Try.func11, Try.ntmps11
    go_wp2
    go_ret
    exact ⟨rfl, World.Since.refl _ _⟩
  · have hl' : decide ((1048576 : Int) < (n : Int)) = false := by simp; omega
    have ED := Lib.hid (drawKnownSums_any a n cap w hc h63 hb)
    clear hb
    go_enter Try.func11, Try.ntmps11
    go_wp2_with fail
    refine (ED.out).mono ?_
    rintro e w1 ⟨n0, ax, cx, x, rfl, hs1, hn1, hn5, hx10, hr, hcap⟩
    have HS1 := Lib.hid hs1
    obtain ⟨L, hm⟩ : ∃ L, x.length = L := ⟨_, rfl⟩
    rw [hm] at hcap ⊢
    have E1 := implKnownSums_any (n0 : Int) ax L cx x w1 hm hcap.2 hcap.1 hr
    have E2 := fun (W : World) (h : w1.Since w1.heap.size W) => specKnownSums_any (n0 : Int) ax L cx x W hm hcap.2 hcap.1 (hr.since h)
    obtain ⟨ok, hok⟩ : ∃ ok, (suB (n0 : Int) L && tabIn (suL (n0 : Int).toNat x)) = ok := ⟨_, rfl⟩
    obtain ⟨M, hM⟩ : ∃ M, resT ok (suL (n0 : Int).toNat x) = M := ⟨_, rfl⟩
    have hMsz : szL M ≤ 1048576 := by
      rw [← hM, ← hok]
      exact szL_res fun h => by omega
    unfold ImplT at E1
    unfold SpecT at E2
    rw [hok, hM] at E1
    simp only [hok, hM] at E2
    obtain ⟨q, hq⟩ : ∃ q, M.length = q := ⟨_, rfl⟩
    rw [hq] at E1
    simp only [hq] at E2
    have hq63 : q ≤ 9223372036854775807 := by unfold szL at hMsz; omega
    replace E1 := Lib.hid E1
    replace E2 := Lib.hid E2
    have HQ := Lib.hid hq
    have HMS := Lib.hid hMsz
    have HOK := Lib.hid hok
    have HMM := Lib.hid hM
    clear hs1 hq hMsz hok hM
    go_wp2_with fail
    refine (E1.out).mono ?_
    rintro e w2 ⟨a2, c2, rfl, hs2, ho2⟩
    have HO := Lib.hid (fun (W : World) (h : w2.Since w2.heap.size W) => ho2.matR.since h)
    have HS2 := Lib.hid hs2
    clear ho2 hs2
    go_wp2_with fail
    refine (E2.out w2 HS2.out).mono ?_
    rintro e w3 ⟨a3, c3, rfl, hs3, hi3⟩
    have ES := Lib.hid (fun (W : World) (h : w3.Since w3.heap.size W) => sameRows_same a2 a3 c2 c3 q M W HQ.out hq63 (rows_le8 HMS.out) (HO.out W (hs3.trans (since_mono h hs3.size))) (hi3.matR.since h))
    have HS3 := Lib.hid hs3
    clear hi3 hs3
    go_wp2_with fail
    refine (ES.out w3 (World.Since.refl _ _)).mono ?_
    rintro e w4 ⟨rfl, hd4⟩
    have hs4 := hd4.since w3.heap.size
    have HS4 := Lib.hid ((HS2.out.trans (since_mono HS3.out HS2.out.size)).trans (since_mono hs4 (by have := HS2.out.size; have := HS3.out.size; omega)))
    have HS24 := Lib.hid (HS3.out.trans (since_mono hs4 HS3.out.size))
    cases ok with
    | false =>
      clear hd4
      go_wp2_with fail
      refine (ES.out w4 hs4).mono ?_
      rintro e w5 ⟨rfl, hd5⟩
      have HS5 := Lib.hid (hd5.since w4.heap.size)
      clear hd5
      go_wp2
      go_ret
      exact ⟨rfl, HS1.out.trans (since_mono (HS4.out.trans (since_mono HS5.out HS4.out.size)) HS1.out.size)⟩
    | true =>
      have hML : (suL (n0 : Int).toNat x) = M := HMM.out
      have hMO := HO.out
      clear hs4 hd4
      have hok2 := HOK.out
      rw [Bool.and_eq_true, Int.toNat_natCast] at hok2
      rw [Int.toNat_natCast] at hML
      obtain ⟨f1, f2, f3, f4⟩ := su_facts x (m := n0) hn1 (by omega)
      rw [hML] at f1 f2 f3 f4 hok2
      have hqm : q = n0 := by rw [← HQ.out]; exact f1
      subst hqm
      have hT := hok2.2
      have E3 := fun (W : World) (h : w2.Since w2.heap.size W) => implTableTurn_any a2 c2 q M W f1 HMS.out (hMO W h)
      unfold ImplT at E3
      simp only [hT, f3, resT, if_true, f1] at E3
      replace E3 := Lib.hid E3
      have HSR := Lib.hid (fun (W : World) (b : Option Addr) (d : Nat) (h : w2.Since w2.heap.size W) (hb : MatR W b M) => sameRows_same b a2 d c2 q M W f1 hq63 (rows_le8 HMS.out) hb (hMO W h))
      by_cases h2 : q < 2
      · have hq1 : decide ((q : Int) < 2) = true := by simp; omega
        clear hML f1 f2 f3 f4 hok2 hT hr
        go_wp2_with fail
        refine (E3.out w4 HS24.out).mono ?_
        rintro e w5 ⟨a5, c5, rfl, hs5, ho5⟩
        have HS5 := Lib.hid (HS4.out.trans (since_mono hs5 HS4.out.size))
        have HS25 := Lib.hid (HS24.out.trans (since_mono hs5 HS24.out.size))
        have HM5 := Lib.hid ho5.matR
        clear hs5 ho5
        go_wp2_with fail
        refine (HSR.out w5 a5 c5 HS25.out HM5.out).mono ?_
        rintro e w6 ⟨rfl, hd6⟩
        have HS6 := Lib.hid (HS5.out.trans (since_mono (hd6.since w5.heap.size) HS5.out.size))
        clear hd6
        go_wp2
        go_ret
        exact ⟨rfl, HS1.out.trans (since_mono HS6.out HS1.out.size)⟩
      · have hq1 : decide ((q : Int) < 2) = false := by simp; omega
        obtain ⟨g1, g2⟩ := f4 (by omega)
        have p1 := pow_inS q (by omega)
        have p2 := pow_inS (q - 1) (by omega)
        have hpq : 2 ^ q = 2 * 2 ^ (q - 1) := by
          obtain ⟨j, hj⟩ : ∃ j, q = j + 1 := ⟨q - 1, by omega⟩
          rw [hj, Nat.add_sub_cancel, Nat.pow_succ, Nat.mul_comm]
        have hb1 : 2 ^ 1 ≤ 2 ^ (q - 1) := Nat.pow_le_pow_right (by omega) (by omega)
        have hb2 : 2 ^ (q - 1) ≤ 2 ^ 5 := Nat.pow_le_pow_right (by omega) (by omega)
        obtain ⟨P, hP⟩ : ∃ P : Nat, 2 ^ q = P := ⟨_, rfl⟩
        obtain ⟨R, hR⟩ : ∃ R : Nat, 2 ^ (q - 1) = R := ⟨_, rfl⟩
        rw [hP, hR] at g1 hpq
        rw [hP, hR] at g2
        rw [hP] at p1
        rw [hR] at p2 hb1 hb2
        obtain ⟨P2, hP2⟩ : ∃ P2 : Nat, P - 2 = P2 := ⟨_, rfl⟩
        obtain ⟨R1, hR1⟩ : ∃ R1 : Nat, R - 1 = R1 := ⟨_, rfl⟩
        rw [hP2, hR1] at g1 g2
        have w3 : IntKind.i64.wrap ((P : Int) - 2) = (P2 : Int) := (IntWalk.i64_in _ ⟨by omega, by omega⟩).trans (by omega)
        have w4' : IntKind.i64.wrap ((R : Int) - 1) = (R1 : Int) := (IntWalk.i64_in _ ⟨by omega, by omega⟩).trans (by omega)
        obtain ⟨Q1, hQ1⟩ : ∃ Q1 : Nat, q - 1 = Q1 := ⟨_, rfl⟩
        have w5' : IntKind.i64.wrap ((q : Int) - 1) = (Q1 : Int) := (IntWalk.i64_in _ ⟨by omega, by omega⟩).trans (by omega)
        rw [hQ1] at p2 hR g2
        have hmin : min Q1 64 = Q1 := by omega
        have hQ5 : Q1 ≤ 4 := by omega
        have k1 : partOk M (P2 : Int) (R1 : Int) = true := by
          have q1 : inB (P2 : Int) 1 (2 ^ M.length - 1 : Nat) = true := by rw [f1, hP]; simp only [inB, decide_eq_true_eq]; omega
          have q2 : inB (R1 : Int) 1 (2 ^ (M.getD 0 []).length - 1 : Nat) = true := by rw [f2, hP]; simp only [inB, decide_eq_true_eq]; omega
          unfold partOk
          rw [hT, q1, q2]; rfl
        have k2 : partOk M (R1 : Int) (P2 : Int) = true := by
          have q1 : inB (R1 : Int) 1 (2 ^ M.length - 1 : Nat) = true := by rw [f1, hP]; simp only [inB, decide_eq_true_eq]; omega
          have q2 : inB (P2 : Int) 1 (2 ^ (M.getD 0 []).length - 1 : Nat) = true := by rw [f2, hP]; simp only [inB, decide_eq_true_eq]; omega
          unfold partOk
          rw [hT, q1, q2]; rfl
        have hTP := partOk_tab k1
        rw [Int.toNat_natCast, Int.toNat_natCast] at hTP
        have EP1 := fun (W : World) (h : w2.Since w2.heap.size W) => implTablePart_any a2 c2 q M (P2 : Int) (R1 : Int) W f1 HMS.out (hMO W h)
        have EP2 := fun (W : World) (h : w2.Since w2.heap.size W) => implTablePart_any a2 c2 q M (R1 : Int) (P2 : Int) W f1 HMS.out (hMO W h)
        unfold ImplT at EP1 EP2
        simp only [k1, Int.toNat_natCast, resT, if_true] at EP1
        simp only [k2, Int.toNat_natCast, resT, if_true, ← g1] at EP2
        obtain ⟨N, hN⟩ : ∃ N, partL M P2 R1 = N := ⟨_, rfl⟩
        rw [hN] at hTP g2
        simp only [hN, g2] at EP1 EP2
        have hNsz := szL_tab hTP
        have HSN := Lib.hid (fun (W : World) (b d : Option Addr) (c c' : Nat) (hb : MatR W b N) (hd : MatR W d N) => sameRows_same b d c c' Q1 N W g2 (by omega) (rows_le8 hNsz) hb hd)
        replace EP1 := Lib.hid EP1
        replace EP2 := Lib.hid EP2
        clear hML f1 f2 f3 f4 hok2 hT hr g1 g2 hpq hP hR hP2 hR1 hQ1 k1 k2 hTP hN hNsz hMO
        go_wp2_with fail
        refine (E3.out w4 HS24.out).mono ?_
        rintro e w5 ⟨a5, c5, rfl, hs5, ho5⟩
        have HS5 := Lib.hid (HS4.out.trans (since_mono hs5 HS4.out.size))
        have HS25 := Lib.hid (HS24.out.trans (since_mono hs5 HS24.out.size))
        have HM5 := Lib.hid ho5.matR
        clear hs5 ho5
        go_wp2
        go_region_held3 (fun _ => True) (first | trivial)
          ((go_at_call 45; refine (EP1.out _ (World.Since.drew HS25.out)).mono ?_; rintro e w6 ⟨a6, c6, rfl, hs6, ho6⟩))
        have hs6 := since_of_drew hs6
        have HS6 := Lib.hid (HS5.out.trans (since_mono hs6 HS5.out.size))
        have HS26 := Lib.hid (HS25.out.trans (since_mono hs6 HS25.out.size))
        have HM56 := Lib.hid (HM5.out.since hs6)
        have HM6 := Lib.hid ho6.matR
        clear hs6 ho6
        go_wp2
        go_region_held3 (fun _ => True) (first | trivial)
          ((go_at_call 45; refine (EP2.out _ (World.Since.drew HS26.out)).mono ?_; rintro e w7 ⟨a7, c7, rfl, hs7, ho7⟩))
        have hs7 := since_of_drew hs7
        have HS7 := Lib.hid (HS6.out.trans (since_mono hs7 HS6.out.size))
        have HS27 := Lib.hid (HS26.out.trans (since_mono hs7 HS26.out.size))
        have HM57 := Lib.hid (HM56.out.since hs7)
        have HM67 := Lib.hid (HM6.out.since hs7)
        have HM7 := Lib.hid ho7.matR
        clear hs7 ho7
        go_wp2_with (first
          | (go_at_call_of 18 (Value.slice a5 q c5); refine (HSR.out w7 a5 c5 HS27.out HM57.out).mono ?_; rintro e w8 ⟨rfl, hd8⟩; have HS8 := Lib.hid (HS7.out.trans (since_mono (hd8.since w7.heap.size) HS7.out.size)); have HM68 := Lib.hid (HM67.out.since (hd8.since _)); have HM78 := Lib.hid (HM7.out.since (hd8.since _)); clear hd8)
          | (go_at_call_of 18 (Value.slice a6 Q1 c6); refine (HSN.out w8 a6 a7 c6 c7 HM68.out HM78.out).mono ?_; rintro e w9 ⟨rfl, hd9⟩; have HS9 := Lib.hid (HS8.out.trans (since_mono (hd9.since w8.heap.size) HS8.out.size)); clear hd9))
        go_ret
        exact ⟨rfl, HS1.out.trans (since_mono HS9.out HS1.out.size)⟩

end Go.Proofs.Ytkahgpgnfodpgaa
end

section
namespace Go.Proofs.Ytkahgpgnfodpgaa
open Go.ChangeShapes Go.WideShapes Go.ChangeAt Go.RowKit Go.Deep

theorem below_since' {B : Nat} {w w' : World} (h : Below B w w') : w.Since B w' := ⟨h.os, h.tape, h.output, h.size, h.block⟩
theorem since_below' {B : Nat} {w w' : World} (h : w.Since B w') : Below B w w' := ⟨h.os, h.tape, h.output, h.size, h.block⟩

section
variable {H : Type} {enc : TypeId × Value → H} {P : Program}
theorem post_of_below {f : Func} {s : ChangeSpec} {apart fresh handsOn again : Bool} {W W' : World} {args : Array Value} {v : Value} {ds gs : List (DataW H)} {before pa pv : List MemPlace}
    (hW : DataW.Whole enc P f.params.toList s.vars apart W args.toList ds gs before)
    (hres : ∀ (b : Nat) (sp : Nat → Bool) (hd : Bool), DataW.TrodAll enc P W' b sp hd f.resultTypes.toList (v.resultList f.resultTypes.size) (s.fn H (ds ++ gs)).results [])
    (hargs : ∀ sp : Nat → Bool, (∀ p ∈ before, sp p.block = true) → DataW.TrodAll enc P W' 0 sp true f.params.toList args.toList (s.fn H (ds ++ gs)).args pa)
    (hvars : ∀ sp : Nat → Bool, (∀ p ∈ before, sp p.block = true) → DataW.TrodVars enc P W' sp s.vars (s.fn H (ds ++ gs)).vars pv)
    (hps : before = pa ++ pv) (hb : Below W.heap.size W W') (hag : again = false) :
    s.post enc P f apart fresh handsOn again W args v W' := by
  have hlt : ∀ p ∈ before, p.block < W.heap.size := fun p hp => hW.lt p hp
  have hold : ∀ p ∈ before, (fun b => decide (b < W.heap.size)) p.block = true := fun p hp => by simpa using hlt p hp
  refine ⟨ds, gs, before, [], pa, pv, hW, hres _ _ _, hargs _ hold, hvars _ hold, World.keptBut_mono (fun p hp => ⟨hp, ?_⟩) (hb.frame (· ∈ before)), fun h => ?_⟩
  · rw [hps, List.mem_append] at hp
    exact Or.inr hp
  · rw [hag] at h; cases h

theorem open_mat {W : World} {t e q : TypeId} {a : Option Addr} {n cap : Nat} {d : DataW H} {p : List MemPlace} (ht : P.underlying t = some (.slice e)) (he : P.underlying e = some (.slice q)) (hq : P.underlying q = some (.int .i64))
    (ce : P.cellsOf e = 1) (cq : P.cellsOf q = 1) (h : DataW.Trod enc P W 0 (fun _ => true) true t (.slice a n cap) d p) :
    ∃ l : List (List Int), l.length = n ∧ MatR W a l ∧ n ≤ 9223372036854775807 ∧ ∀ r, r < l.length → (l.getD r []).length ≤ 9223372036854775807 := by
  obtain ⟨fuel, hf⟩ := h
  rcases open_int_rows ht he hq ce cq hf with ⟨hcs, _⟩ | ⟨a', len', cap', A, L, C, Z, hcs, _, hl, hm, _, hrows⟩
  · simp [Value.cells] at hcs
    obtain ⟨rfl, rfl, rfl⟩ := hcs
    exact ⟨[], rfl, (fun h => by simp at h), by omega, fun r hr => by simp at hr⟩
  · simp [Value.cells] at hcs
    obtain ⟨rfl, rfl, rfl⟩ := hcs
    have hmx : maxLen = 9223372036854775807 := rfl
    have hlen : ∀ r, r < n → ((Z r).take (L r)).length = L r := fun r hr => by
      obtain ⟨_, h1, _, h2, _⟩ := hrows r (by omega)
      rw [List.length_take]; omega
    have hget : ∀ r, r < n → ((List.range n).map fun r => (Z r).take (L r)).getD r [] = (Z r).take (L r) := fun r hr => by simp [List.getD, hr]
    refine ⟨(List.range n).map fun r => (Z r).take (L r), by simp, fun h => ?_, by omega, fun r hr => ?_⟩
    · obtain ⟨b, o, spot⟩ := a'
      simp at h
      have hspot : spot = none := by simpa [Addr.add] using World.cell?_spot (hrows 0 (by omega)).1
      subst hspot
      refine ⟨b, o, A, C, rfl, fun r hr => ?_⟩
      simp at hr
      rw [hget r hr, hlen r hr]
      obtain ⟨g1, g2, g3, g4, g5, g6, g7⟩ := hrows r (by omega)
      refine ⟨by rw [← add_plain]; exact g1, fun h0 => ?_⟩
      rw [hlen r hr] at h0
      cases hA : A r with
      | none => have := g6 hA; omega
      | some a'' =>
        obtain ⟨_, hcell⟩ := g7 a'' hA
        obtain ⟨b', o', sp⟩ := a''
        have hs : sp = none := by simpa [Addr.add] using World.cell?_spot (hcell 0 (by omega))
        subst hs
        refine ⟨b', o', rfl, fun i hi => ?_⟩
        rw [hlen r hr] at hi
        rw [← add_plain, hcell i (by omega)]
        congr 2
        simp [List.getD, hi]
    · simp at hr
      rw [hget r hr, hlen r hr]
      obtain ⟨_, h1, h2, _⟩ := hrows r (by omega)
      omega
end

theorem Try.own : ownKnob Try.prog.godebug = none := by kernel_rfl
theorem Try.laidOut : laidOutB Try.prog = true := by kernel_rfl
theorem Try.cellsR : Try.prog.cellsOf 23 = 1 := by kernel_rfl
theorem Try.cellsI : Try.prog.cellsOf 3 = 1 := by kernel_rfl

end Go.Proofs.Ytkahgpgnfodpgaa
end

section
namespace Go.Proofs.Ytkahgpgnfodpgaa
open Go.ChangeShapes Go.WideShapes Go.ChangeAt Go.RowKit Go.Deep

theorem wf_u8_of {n : Int} (h : (Lit.int .u8 n).wf = true) : 0 ≤ n ∧ n ≤ 255 := by
  have h2 : (0 : Int) ≤ n ∧ n ≤ 255 := by simpa [Lit.wf, IntKind.min, IntKind.max, IntKind.signed, IntKind.bits] using h
  exact h2

theorem open_bytes {H : Type} {enc : TypeId × Value → H} {P : Program} {W : World} {t e : TypeId} {a : Option Addr} {n cap : Nat} {d : DataW H} {p : List MemPlace} (ht : P.underlying t = some (.slice e)) (he : P.underlying e = some (.int .u8)) (ce : P.cellsOf e = 1)
    (h : DataW.Trod enc P W 0 (fun _ => true) true t (.slice a n cap) d p) : BytR W a n ∧ n ≤ cap ∧ cap ≤ 9223372036854775807 := by
  obtain ⟨fuel, hf⟩ := h
  rcases open_ints ht he ce hf with ⟨hcs, _⟩ | ⟨a', len, cap', zs, hcs, _, hl, hm, hlen, _, hcell, hwf⟩
  · simp [Value.cells] at hcs
    obtain ⟨rfl, rfl, rfl⟩ := hcs
    exact ⟨fun h => absurd h (by omega), by omega, by omega⟩
  · simp [Value.cells] at hcs
    obtain ⟨rfl, rfl, rfl⟩ := hcs
    have hmx : maxLen = 9223372036854775807 := rfl
    have hzl : zs.length = cap := by simpa using hlen
    refine ⟨fun h0 => ?_, by omega, by omega⟩
    obtain ⟨b, o, spot⟩ := a'
    have hspot : spot = none := by simpa [Addr.add] using World.cell?_spot (hcell 0 (by omega))
    subst hspot
    refine ⟨b, o, rfl, fun i hi => ?_⟩
    have hi' : i < zs.length := by omega
    have hw := wf_u8_of (hwf (zs.getD i 0) (by simp [List.getD, hi']))
    obtain ⟨z, hz⟩ := Int.eq_ofNat_of_zero_le hw.1
    refine ⟨z, by omega, ?_⟩
    rw [← add_plain, hcell i hi', hz]

theorem Try.cellsB : Try.prog.cellsOf 5 = 1 := by kernel_rfl

end Go.Proofs.Ytkahgpgnfodpgaa
end
