/- The walk of laws.FnDivisorsValue. -/
import Derived.Test.YtkahgpgnfodpgaaDrawKn
import Derived.Test.YtkahgpgnfodpgaaKnownX
namespace Go.Proofs.Ytkahgpgnfodpgaa
open Go.RowKit Go.Deep

theorem dv_steps : ∀ i : Fin 7, 1 ≤ i.val → 1 ≤ dvK i.val ∧ (2 ≤ i.val → dvK i.val % dvK (i.val - 1) = 0) := by decide +kernel

set_option maxRecDepth 100000 in
set_option maxHeartbeats 4000000 in
theorem fnDivisorsValue (a : Option Addr) (cap n : Nat) (w : World) (hc : n ≤ cap) (h63 : cap ≤ 9223372036854775807) (hb : BytR w a n) :
    Calls Try.prog 9 #[.slice a n cap] w fun e w' => e = .returned (.bool true) ∧ w.Since w.heap.size w' := by
  by_cases hlen : 1048576 < n
  · have hl' : decide ((1048576 : Int) < (n : Int)) = true := by simp; omega
    clear hb
    go_enter Try.func9, Try.ntmps9
    go_wp2
    go_ret
    exact ⟨rfl, World.Since.refl _ _⟩
  · have hl' : decide ((1048576 : Int) < (n : Int)) = false := by simp; omega
    have ED := Lib.hid (drawKnownDivisorsValue_any a n cap w hc h63 hb)
    clear hb
    go_enter Try.func9, Try.ntmps9
    go_wp2_with fail
    refine (ED.out).mono ?_
    rintro e w1 ⟨x, rfl, hs1⟩
    have HS1 := Lib.hid hs1
    have E1 := implKnownDivisorsValue_any x w1
    have E2 := fun W => specKnownDivisorsValue_any x W
    clear hs1
    cases hok : inB x 1 6 with
    | false =>
      rw [hok] at E1
      simp only [hok] at E2
      replace E1 := Lib.hid E1
      replace E2 := Lib.hid E2
      clear hok
      go_wp2_with fail
      refine (E1.out).mono ?_
      rintro e w2 ⟨rfl, hs2⟩
      go_wp2_with fail
      refine (E2.out w2).mono ?_
      rintro e w' ⟨rfl, rfl⟩
      go_wp2
      go_ret
      exact ⟨rfl, HS1.out.trans (since_mono hs2 HS1.out.size)⟩
    | true =>
      rw [hok] at E1
      simp only [hok] at E2
      have hx := of_decide_eq_true hok
      obtain ⟨m, rfl⟩ := Int.eq_ofNat_of_zero_le (show 0 ≤ x by omega)
      rw [Int.toNat_natCast] at E1
      simp only [Int.toNat_natCast] at E2
      have hd := dv_steps ⟨m, by omega⟩ (by simp only; omega)
      have hle := dvK_le ⟨m, by omega⟩
      simp only at hd hle
      have E3 := fun W => implKnownDivisorsValue_any ((m : Int) - 1) W
      replace E1 := Lib.hid E1
      replace E2 := Lib.hid E2
      by_cases h1 : m = 1
      · subst h1
        have h0 : inB (((1 : Nat) : Int) - 1) 1 6 = false := by decide
        simp only [h0] at E3
        replace E3 := Lib.hid E3
        clear hok h0
        go_wp2_with fail
        refine (E1.out).mono ?_
        rintro e w2 ⟨rfl, hs2⟩
        have HS2 := Lib.hid (HS1.out.trans (since_mono hs2 HS1.out.size))
        clear hs2
        go_wp2_with fail
        refine (E2.out w2).mono ?_
        rintro e w' ⟨rfl, rfl⟩
        go_wp2_with fail
        refine (E3.out w2).mono ?_
        rintro e w3 ⟨rfl, hs3⟩
        go_wp2
        go_ret
        exact ⟨rfl, HS2.out.trans (since_mono hs3 HS2.out.size)⟩
      · have h0 : inB ((m : Int) - 1) 1 6 = true := by simp [inB]; omega
        simp only [h0] at E3
        have ht : ((m : Int) - 1).toNat = m - 1 := by omega
        simp only [ht] at E3
        have hmm := hd.2 (by omega)
        have hq1 := dvK_le ⟨m - 1, by omega⟩
        simp only at hq1
        have hm1 : ((m : Int) == 1) = false := by simp; omega
        obtain ⟨p, hp⟩ : ∃ p, dvK m = p := ⟨_, rfl⟩
        obtain ⟨q, hq⟩ : ∃ q, dvK (m - 1) = q := ⟨_, rfl⟩
        rw [hp] at E1 hmm hle
        rw [hq] at hmm hq1
        simp only [hp] at E2
        simp only [hq] at E3
        have hmod : (Int.tmod (p : Int) (q : Int) == 0) = true := by
          have : Int.tmod (p : Int) (q : Int) = ((p % q : Nat) : Int) := rfl
          rw [this, hmm]; rfl
        have hmod2 : ((p : Int) % (q : Int) == 0) = true := by
          have : (p : Int) % (q : Int) = ((p % q : Nat) : Int) := rfl
          rw [this, hmm]; rfl
        have hq0 : ((q : Int) == 0) = false := by simp; omega
        have hp1 : decide ((1 : Int) ≤ (p : Int)) = true := by simp; omega
        replace E3 := Lib.hid E3
        clear hok h0 hp hq ht hd
        go_wp2_with fail
        refine (E1.out).mono ?_
        rintro e w2 ⟨rfl, hs2⟩
        have HS2 := Lib.hid (HS1.out.trans (since_mono hs2 HS1.out.size))
        clear hs2
        go_wp2_with fail
        refine (E2.out w2).mono ?_
        rintro e w' ⟨rfl, rfl⟩
        go_wp2_with fail
        refine (E3.out w2).mono ?_
        rintro e w3 ⟨rfl, hs3⟩
        go_wp2
        go_ret
        exact ⟨rfl, HS2.out.trans (since_mono hs3 HS2.out.size)⟩

end Go.Proofs.Ytkahgpgnfodpgaa
