/- The walk of laws.FnOnesValue. -/
import Derived.Test.YtkahgpgnfodpgaaDrawKn
import Derived.Test.YtkahgpgnfodpgaaKnownY
namespace Go.Proofs.Ytkahgpgnfodpgaa
open Go.RowKit Go.Deep

set_option maxRecDepth 100000 in
set_option maxHeartbeats 4000000 in
theorem fnOnesValue (a : Option Addr) (cap n : Nat) (w : World) (hc : n ≤ cap) (h63 : cap ≤ 9223372036854775807) (hb : BytR w a n) :
    Calls Try.prog 7 #[.slice a n cap] w fun e w' => e = .returned (.bool true) ∧ w.Since w.heap.size w' := by
  by_cases hlen : 1048576 < n
  · have hl' : decide ((1048576 : Int) < (n : Int)) = true := by simp; omega
    clear hb
    go_enter Try.func7, Try.ntmps7
    go_wp2
    go_ret
    exact ⟨rfl, World.Since.refl _ _⟩
  · have hl' : decide ((1048576 : Int) < (n : Int)) = false := by simp; omega
    have ED := Lib.hid (drawKnownOnesValue_any a n cap w hc h63 hb)
    clear hb
    go_enter Try.func7, Try.ntmps7
    go_wp2_with fail
    refine (ED.out).mono ?_
    rintro e w1 ⟨x, y, z, rfl, hs1⟩
    have HS1 := Lib.hid hs1
    have E1 := implKnownOnesValue_any x y z w1
    have E2 := specKnownOnesValue_any x y z w1
    clear hs1
    cases hok : onB x y z with
    | false =>
      rw [hok] at E1 E2
      replace E1 := Lib.hid E1
      replace E2 := Lib.hid E2
      clear hok
      go_wp2_with fail
      refine (E1.out).mono ?_
      rintro e w' ⟨rfl, rfl⟩
      go_wp2_with fail
      refine (E2.out).mono ?_
      rintro e w' ⟨rfl, rfl⟩
      go_wp2
      go_ret
      exact ⟨rfl, HS1.out⟩
    | true =>
      rw [hok] at E1 E2
      obtain ⟨hx, hy, hz⟩ := onB_of hok
      obtain ⟨m, rfl⟩ := Int.eq_ofNat_of_zero_le (show 0 ≤ x by omega)
      have hvd : onV (m : Int) y z = (y - z) ^ (m - 1) * (y + ((m : Int) - 1) * z) := by unfold onV; rw [Int.toNat_natCast]
      have hbd := on_bd hy hz m (by omega) (by omega)
      obtain ⟨v, hv⟩ : ∃ v, onV (m : Int) y z = v := ⟨_, rfl⟩
      obtain ⟨u, hu⟩ : ∃ u, ((m : Int) - 1) * z = u := ⟨_, rfl⟩
      rw [hv] at E1 E2 hvd
      rw [hu] at hvd hbd
      have hw1 : wrap64 (((m : Int) - 1) * z) = u := by rw [hu]; unfold wrap64; omega
      replace E1 := Lib.hid E1
      replace E2 := Lib.hid E2
      by_cases h1 : m = 1
      · subst h1
        have hvy : v = y := by
          rw [hvd]
          have : u = 0 := by rw [← hu]; simp
          rw [this]; simp
        have HV := Lib.hid hvy
        clear hok hv hu hvd hvy
        go_wp2_with fail
        refine (E1.out).mono ?_
        rintro e w' ⟨rfl, rfl⟩
        go_wp2_with fail
        refine (E2.out).mono ?_
        rintro e w' ⟨rfl, rfl⟩
        go_wp2
        go_ret
        exact ⟨ret_bool (by rw [HV.out]; simp), HS1.out⟩
      · have hm1 : ((m : Int) == 1) = false := by simp; omega
        have hzero : v = 0 ↔ y = z ∨ y + u = 0 := by
          rw [hvd, Int.mul_eq_zero]
          constructor
          · rintro (h | h)
            · obtain ⟨k, hk⟩ : ∃ k, m - 1 = k + 1 := ⟨m - 2, by omega⟩
              rw [hk, ← pw_pow, pw_zero_iff] at h
              exact .inl (by omega)
            · exact .inr h
          · rintro (h | h)
            · obtain ⟨k, hk⟩ : ∃ k, m - 1 = k + 1 := ⟨m - 2, by omega⟩
              rw [hk, ← pw_pow, pw_zero_iff]
              exact .inl (by omega)
            · exact .inr h
        by_cases h2 : y = z
        · have hv0 := hzero.2 (.inl h2)
          subst hv0
          subst h2
          clear hok hv hu hvd hzero
          go_wp2_with fail
          refine (E1.out).mono ?_
          rintro e w' ⟨rfl, rfl⟩
          go_wp2_with fail
          refine (E2.out).mono ?_
          rintro e w' ⟨rfl, rfl⟩
          go_wp2
          go_ret
          exact ⟨rfl, HS1.out⟩
        · have hyz : (y == z) = false := by simpa using h2
          by_cases h3 : y + u = 0
          · have hv0 := hzero.2 (.inr h3)
            subst hv0
            have hs0 : ((y + u : Int) == 0) = true := by simpa using h3
            clear hok hv hu hvd hzero
            go_wp2_with fail
            refine (E1.out).mono ?_
            rintro e w' ⟨rfl, rfl⟩
            go_wp2_with fail
            refine (E2.out).mono ?_
            rintro e w' ⟨rfl, rfl⟩
            go_wp2
            go_ret
            exact ⟨rfl, HS1.out⟩
          · have hvn : (v == 0) = false := by simpa using fun h => (hzero.1 h).elim h2 h3
            have hs0 : ((y + u : Int) == 0) = false := by simpa using h3
            clear hok hv hu hvd hzero
            go_wp2_with fail
            refine (E1.out).mono ?_
            rintro e w' ⟨rfl, rfl⟩
            go_wp2_with fail
            refine (E2.out).mono ?_
            rintro e w' ⟨rfl, rfl⟩
            go_wp2
            go_ret
            exact ⟨rfl, HS1.out⟩

end Go.Proofs.Ytkahgpgnfodpgaa
