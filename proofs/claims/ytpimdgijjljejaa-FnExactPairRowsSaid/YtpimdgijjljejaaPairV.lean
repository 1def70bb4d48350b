/- The contracts of spec.PairIn, spec.PairHalf and spec.PairCount. -/
import Derived.Test.YtpimdgijjljejaaCountV
namespace Go.Proofs.Ytpimdgijjljejaa
open Go.RowKit Go.Deep

/-- Each number is the one with row and column exchanged, with its sign turned. -/
def AboutP (l : List (List Int)) (n : Nat) : Prop := ∀ i, i < n → ∀ k, k < i + 1 → at2 l i k + at2 l k i = 0
instance (l : List (List Int)) (n : Nat) : Decidable (AboutP l n) := inferInstanceAs (Decidable (∀ i, i < n → ∀ k, k < i + 1 → _))
/-- Is it a square turned about? -/
noncomputable def pairB (l : List (List Int)) : Bool := sqB l && decide (AboutP l l.length)
theorem pairB_of {l : List (List Int)} {n : Nat} (h : pairB l = true) (hn : l.length = n) : TabIn l ∧ (l.getD 0 []).length = n ∧ AboutP l n := by
  unfold pairB at h
  simp only [Bool.and_eq_true, decide_eq_true_eq] at h
  obtain ⟨h1, h2⟩ := sqB_of h.1
  rw [hn] at h h2
  exact ⟨h1, h2.symm, h.2⟩
theorem pairB_sq {l : List (List Int)} (h : pairB l = true) : sqB l = true := by
  unfold pairB at h
  simp only [Bool.and_eq_true] at h
  exact h.1

set_option maxRecDepth 100000 in
set_option maxHeartbeats 2000000 in
theorem specPairIn_any (a : Option Addr) (cap n : Nat) (l : List (List Int)) (w : World) (hn : l.length = n) (hsz : szL l ≤ 1048576) (hm : MatR w a l) :
    Calls Try.prog 11 #[.slice a n cap] w fun e w' => e = .returned (.bool (pairB l)) ∧ Drawn w w' := by
  have E := l2Square_any a cap n l w hn hsz hm
  cases hs : sqB l with
  | false =>
    have hok : pairB l = false := by unfold pairB; rw [hs]; rfl
    rw [hs] at E
    rw [hok]
    replace E := Lib.hid E
    clear hs hm hn hsz hok
    go_enter Try.func11, Try.ntmps11
    go_wp2_with fail
    refine (E.out).mono ?_
    rintro e w1 ⟨rfl, hd⟩
    go_wp2
    go_ret
    exact ⟨rfl, hd⟩
  | true =>
    have hok : pairB l = decide (AboutP l n) := by unfold pairB; rw [hs, hn]; rfl
    rw [hs] at E
    rw [hok]
    replace E := Lib.hid E
    obtain ⟨hT, hw⟩ := sqB_of hs
    have h6 := hT.2.1
    rw [hn] at h6 hw
    obtain ⟨b, o, A, C, rfl, hrow, hcell⟩ := hm.grid hn hT hw.symm
    have HROW := Lib.hid hrow
    have HC := Lib.hid hcell
    obtain ⟨r, hr⟩ : ∃ r, decide (AboutP l n) = r := ⟨_, rfl⟩
    have HYES := Lib.hid (fun (h : AboutP l n) => show r = true by rw [← hr]; exact decide_eq_true h)
    have HNO := Lib.hid (fun (h : ¬ AboutP l n) => show r = false by rw [← hr]; exact decide_eq_false h)
    rw [hr]
    clear hs hm hn hsz hok hT hw hrow hcell hr
    go_enter Try.func11, Try.ntmps11
    go_wp2_with fail
    refine (E.out).mono ?_
    rintro e w1 ⟨rfl, hd⟩
    have HD1 := Lib.hid hd
    clear hd
    go_wp2
    go_loopg [3, 4] n (fun g i _ wr => ∃ i0 : Nat, i0 ≤ n ∧ g = n - i0 ∧ i = .int .i64 i0 ∧ AboutP l i0 ∧ Drawn w wr)
    case atStart => exact ⟨0, Nat.zero_le _, rfl, rfl, fun i hi => absurd hi (Nat.not_lt_zero _), HD1.out⟩
    case round =>
      obtain ⟨i0, hi0, rfl, rfl, hA, hD⟩ := hrel
      have HA := Lib.hid hA
      clear hA
      by_cases hlt : i0 < n
      · have HDR := Lib.hid hD
        clear hD
        go_wp2
        go_loopg [4] (i0 + 1) (fun g k wr => ∃ k0 : Nat, k0 ≤ i0 + 1 ∧ g = i0 + 1 - k0 ∧ k = .int .i64 k0 ∧ (∀ k, k < k0 → at2 l i0 k + at2 l k i0 = 0) ∧ Drawn w wr)
        case atStart => exact ⟨0, Nat.zero_le _, rfl, rfl, fun k hk => absurd hk (Nat.not_lt_zero _), HDR.out⟩
        case round =>
          obtain ⟨k0, hk0, rfl, rfl, hK, hD⟩ := hrel
          clear HDR
          have HK := Lib.hid hK
          clear hK
          by_cases hltk : k0 < i0 + 1
          · obtain ⟨b1, o1, c1, c2, c3, c4⟩ := HC.out i0 k0 hlt (by omega)
            obtain ⟨b2, o2, d1, d2, d3, d4⟩ := HC.out k0 i0 (by omega) hlt
            have hle : decide ((k0 : Int) ≤ (i0 : Int)) = true := by simp; omega
            rw [← hD.cell] at c1 c2 d1 d2
            obtain ⟨x, hx⟩ : ∃ x, at2 l i0 k0 = x := ⟨_, rfl⟩
            obtain ⟨y, hy⟩ : ∃ y, at2 l k0 i0 = y := ⟨_, rfl⟩
            rw [hx] at c2 c3 c4
            rw [hy] at d2 d3 d4
            have hw1 : IntKind.i64.wrap (x + y) = x + y := IntWalk.i64_in _ ⟨by omega, by omega⟩
            have HDR := Lib.hid hD
            by_cases h0 : x + y = 0
            · have hz : (x + y != 0) = false := by simp [h0]
              have HK2 := Lib.hid (show ∀ k, k < k0 + 1 → at2 l i0 k + at2 l k i0 = 0 from fun k hk => by
                by_cases e : k = k0
                · subst e; rw [hx, hy]; exact h0
                · exact HK.out k (by omega))
              clear hD hx hy h0
              go_wp2
              go_quiet (fail)
              go_wp2
              go_roundg (i0 + 1 - (k0 + 1))
              case measure => omega
              case rel => exact ⟨k0 + 1, by omega, rfl, by go_num, HK2.out, HDR.out.trans (Drawn.mk _ _)⟩
            · have hz : (x + y != 0) = true := by simp [h0]
              have HN := Lib.hid (HNO.out (fun h => h0 (by have := h i0 hlt k0 hltk; rw [hx, hy] at this; exact this)))
              clear hD hx hy h0
              go_wp2
              go_quiet (fail)
              go_wp2
              go_ret
              exact ⟨by rw [HN.out] <;> rfl, HDR.out.trans (Drawn.mk _ _)⟩
          · have hki : k0 = i0 + 1 := by omega
            have hle : decide ((k0 : Int) ≤ (i0 : Int)) = false := by simp; omega
            have HA2 := Lib.hid (show AboutP l (i0 + 1) from fun i hi k hk => by
              by_cases e : i = i0
              · subst e; exact HK.out k (by omega)
              · exact HA.out i (by omega) k hk)
            have HDR := Lib.hid hD
            subst hki
            clear hD
            go_wp2
            go_roundg (n - (i0 + 1))
            case measure => omega
            case rel => exact ⟨i0 + 1, by omega, rfl, by go_num, HA2.out, HDR.out⟩
      · have hin : i0 = n := by omega
        subst hin
        have HY := Lib.hid (HYES.out HA.out)
        go_wp2
        go_ret
        exact ⟨by rw [HY.out] <;> rfl, hD⟩

theorem full_in : ∀ n : Fin 7, 2 ^ n.val - 1 < 2 ^ n.val ∧ popcS (2 ^ n.val - 1) ≤ 2 * 3 := by decide +kernel

end Go.Proofs.Ytpimdgijjljejaa
