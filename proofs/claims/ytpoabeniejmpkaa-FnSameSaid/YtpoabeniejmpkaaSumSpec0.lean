/- The contract of spec.TableSum. -/
import Derived.Test.YtpoabeniejmpkaaTimesSpec
import Derived.Test.YtpoabeniejmpkaaSumImpl
namespace Go.Proofs.Ytpoabeniejmpkaa
open Go.RowKit Go.Deep

set_option maxRecDepth 100000 in
set_option maxHeartbeats 2000000 in
theorem specTableSum_no (a a2 : Option Addr) (cap cap2 n n2 : Nat) (l u : List (List Int)) (w : World) (hn : l.length = n) (hu : u.length = n2) (hsz : szL l ≤ 1048576) (hszu : szL u ≤ 1048576) (hm : MatR w a l) (hmu : MatR w a2 u)
    (hno : tabIn l = false ∨ tabIn u = false ∨ alikeB l u = false) :
    Calls Try.prog 39 #[.slice a n cap, .slice a2 n2 cap2] w (SpecT w false (sumL l u)) := by
  have E1 := fun (p : Nat) => specTableIn_any a cap n l (w.drewN p) hn hsz hm
  have E2 := fun (p : Nat) => specTableIn_any a2 cap2 n2 u (w.drewN p) hu hszu hmu
  cases hT : tabIn l with
  | false =>
    rw [hT] at E1
    replace E1 := Lib.hid E1
    replace E2 := Lib.hid E2
    clear hT hsz hm hn hno hszu hmu hu
    go_enter Try.func39, Try.ntmps39
    go_wp2
    go_quiet (((first | (go_at_call_of 60 (Value.slice a n cap); exact Calls.quiet_of (E1.out _)) | (go_at_call_of 60 (Value.slice a2 n2 cap2); exact Calls.quiet_of (E2.out _)))))
    go_wp2_with fail
    refine (l1None_any _).mono ?_
    rintro e w2 ⟨rfl, hs2⟩
    go_wp2
    go_ret2
    exact ⟨_, _, rfl, (since_drewN (World.Since.refl _ _) _).trans hs2, InT.nil _ _ _ _⟩
  | true =>
    cases hTu : tabIn u with
    | false =>
      rw [hT] at E1
      rw [hTu] at E2
      replace E1 := Lib.hid E1
      replace E2 := Lib.hid E2
      clear hT hTu hsz hm hn hno hszu hmu hu
      go_enter Try.func39, Try.ntmps39
      go_wp2
      go_quiet (((first | (go_at_call_of 60 (Value.slice a n cap); exact Calls.quiet_of (E1.out _)) | (go_at_call_of 60 (Value.slice a2 n2 cap2); exact Calls.quiet_of (E2.out _)))))
      go_wp2_with fail
      refine (l1None_any _).mono ?_
      rintro e w2 ⟨rfl, hs2⟩
      go_wp2
      go_ret2
      exact ⟨_, _, rfl, (since_drewN (World.Since.refl _ _) _).trans hs2, InT.nil _ _ _ _⟩
    | true =>
      have hTT := tabIn_of hT
      have hTTu := tabIn_of hTu
      have hal : alikeB l u = false := by rcases hno with h | h | h
                                          · rw [hT] at h; cases h
                                          · rw [hTu] at h; cases h
                                          · exact h
      unfold alikeB at hal
      rw [hT] at E1
      rw [hTu] at E2
      have h1 := hTT.1
      have g1 := hTTu.1
      have h6 := hTT.2.1
      have g6 := hTTu.2.1
      have hw := hTT.width
      have gw := hTTu.width
      rw [hn, hu] at hal
      rw [hn] at h1 h6
      rw [hu] at g1 g6
      obtain ⟨b1, o1, A1, C1, rfl, hc1⟩ := hm (by omega)
      obtain ⟨b2, o2, A2, C2, rfl, hc2⟩ := hmu (by omega)
      have c1 := (hc1 0 (by omega)).1
      have c2 := (hc2 0 (by omega)).1
      rw [Nat.add_zero] at c1 c2
      obtain ⟨m, hmm⟩ : ∃ m, (l.getD 0 []).length = m := ⟨_, rfl⟩
      obtain ⟨m', hmm'⟩ : ∃ m, (u.getD 0 []).length = m := ⟨_, rfl⟩
      rw [hmm] at hal c1 hw
      rw [hmm'] at hal c2 gw
      replace E1 := Lib.hid E1
      replace E2 := Lib.hid E2
      by_cases hne : n = n2
      · subst hne
        have hw2 : m ≠ m' := by
          rintro rfl
          simp at hal
        have hb : ((m : Int) != (m' : Int)) = true := by simp; omega
        clear hT hTu hsz hm hn hno hszu hmu hu hal hmm hmm' hc1 hc2 hTT hTTu
        go_enter Try.func39, Try.ntmps39
        go_wp2
        go_quiet (((first | (go_at_call_of 60 (Value.slice (some ⟨b1, o1, none⟩) n cap); exact Calls.quiet_of (E1.out _)) | (go_at_call_of 60 (Value.slice (some ⟨b2, o2, none⟩) n cap2); exact Calls.quiet_of (E2.out _)))))
        go_wp2_with fail
        refine (l1None_any _).mono ?_
        rintro e w2 ⟨rfl, hs2⟩
        go_wp2
        go_ret2
        exact ⟨_, _, rfl, (since_drewN (World.Since.refl _ _) _).trans hs2, InT.nil _ _ _ _⟩
      · have hb : ((n : Int) != (n2 : Int)) = true := by simp; omega
        clear hT hTu hsz hm hn hno hszu hmu hu hal hmm hmm' hc1 hc2 hTT hTTu
        go_enter Try.func39, Try.ntmps39
        go_wp2
        go_quiet (((first | (go_at_call_of 60 (Value.slice (some ⟨b1, o1, none⟩) n cap); exact Calls.quiet_of (E1.out _)) | (go_at_call_of 60 (Value.slice (some ⟨b2, o2, none⟩) n2 cap2); exact Calls.quiet_of (E2.out _)))))
        go_wp2_with fail
        refine (l1None_any _).mono ?_
        rintro e w2 ⟨rfl, hs2⟩
        go_wp2
        go_ret2
        exact ⟨_, _, rfl, (since_drewN (World.Since.refl _ _) _).trans hs2, InT.nil _ _ _ _⟩

end Go.Proofs.Ytpoabeniejmpkaa
