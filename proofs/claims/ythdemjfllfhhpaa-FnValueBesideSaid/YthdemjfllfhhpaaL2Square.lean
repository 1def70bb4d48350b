/- The contract of spec.l2Square. -/
import Derived.Test.YthdemjfllfhhpaaTabInImpl
namespace Go.Proofs.Ythdemjfllfhhpaa
open Go.RowKit Go.Deep

/-- Is it a square? -/
noncomputable def sqB (l : List (List Int)) : Bool := tabIn l && (l.length == (l.getD 0 []).length)
theorem sqB_of {l : List (List Int)} (h : sqB l = true) : TabIn l ∧ l.length = (l.getD 0 []).length := by
  unfold sqB at h
  rw [Bool.and_eq_true] at h
  exact ⟨tabIn_of h.1, by simpa using h.2⟩

set_option maxHeartbeats 1000000 in
theorem l2Square_any (a : Option Addr) (cap n : Nat) (l : List (List Int)) (w : World) (hn : l.length = n) (hsz : szL l ≤ 1048576) (hm : MatR w a l) :
    Calls Try.prog 84 #[.slice a n cap] w fun e w' => e = .returned (.bool (sqB l)) ∧ Drawn w w' := by
  have E := specTableIn_any a cap n l w hn hsz hm
  cases hT : tabIn l with
  | false =>
    have hok : sqB l = false := by unfold sqB; rw [hT]; rfl
    rw [hT] at E
    rw [hok]
    replace E := Lib.hid E
    clear hT hm hn hok hsz
    go_enter Try.func84, Try.ntmps84
    go_wp2_with fail
    refine (E.out).mono ?_
    rintro e w1 ⟨rfl, hd⟩
    go_wp2
    go_ret
    exact ⟨rfl, hd⟩
  | true =>
    have hTT := tabIn_of hT
    rw [hT] at E
    replace E := Lib.hid E
    obtain ⟨b, o, A, C, rfl, hc⟩ := hm (by have := hTT.1; omega)
    have c0 := (hc 0 (by have := hTT.1; omega)).1
    rw [Nat.add_zero] at c0
    obtain ⟨m, hmm⟩ : ∃ m, (l.getD 0 []).length = m := ⟨_, rfl⟩
    rw [hmm] at c0
    have hok : sqB l = (n == m) := by unfold sqB; rw [hT, hn, hmm]; rfl
    have hn1 : 0 < n := by have := hTT.1; omega
    rw [hok]
    have C0 := Lib.hid c0
    clear hT hTT hc hn hmm hok hsz c0
    go_enter Try.func84, Try.ntmps84
    go_wp2_with fail
    refine (E.out).mono ?_
    rintro e w1 ⟨rfl, hd⟩
    have c0 := C0.out
    rw [← hd.cell] at c0
    have HD := Lib.hid hd
    clear hd
    go_wp2
    go_ret
    have e : ((n : Int) == (m : Int)) = (n == m) := by
      by_cases h : n = m
      · subst h; simp
      · have h1 : ((n : Int) == (m : Int)) = false := by simp; omega
        have h2 : (n == m) = false := by simp [h]
        rw [h1, h2]
    exact ⟨by rw [← e]; rfl, HD.out⟩

end Go.Proofs.Ythdemjfllfhhpaa
