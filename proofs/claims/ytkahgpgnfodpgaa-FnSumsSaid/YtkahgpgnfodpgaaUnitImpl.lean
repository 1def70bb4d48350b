/- The contract of impl.TableUnit. -/
import Derived.Test.YtkahgpgnfodpgaaUnitSpec
namespace Go.Proofs.Ytkahgpgnfodpgaa
open Go.RowKit Go.Deep

set_option maxHeartbeats 1000000 in
/-- What is made is given out if it is a table. -/
theorem result_any (a : Option Addr) (cap n lo hi : Nat) (l : List (List Int)) (w : World) (hn : l.length = n) (hsz : szL l ≤ 1048576) (hm : OwnT lo hi w a l) :
    Calls Try.prog 94 #[.slice a n cap] w fun e w' => ∃ a' cap', e = .returned (.tuple #[.slice a' (resT (tabIn l) l).length cap', .bool (tabIn l)]) ∧ w.Since w.heap.size w' ∧ OwnT lo hi w' a' (resT (tabIn l) l) := by
  have E := Lib.hid (fits_any a cap n l w hn hsz hm.matR)
  have HN := Lib.hid hn
  have HM := Lib.hid hm
  clear hn hsz hm
  cases hT : tabIn l with
  | false =>
    rw [hT] at E
    clear hT
    go_enter Try.func94, Try.ntmps94
    go_wp2_with fail
    refine (E.out).mono ?_
    rintro e w' ⟨rfl, hs⟩
    go_wp2
    go_ret2
    exact ⟨_, _, rfl, hs, OwnT.nil _ _ _ _⟩
  | true =>
    rw [hT] at E
    clear hT
    go_enter Try.func94, Try.ntmps94
    go_wp2_with fail
    refine (E.out).mono ?_
    rintro e w' ⟨rfl, hs⟩
    go_wp2
    go_ret2
    exact ⟨a, cap, by unfold resT; rw [if_pos rfl, HN.out]; rfl, hs, HM.out.since hs⟩

theorem sumTo_le_mul (l : List (List Int)) (m : Nat) (h : ∀ r, r < l.length → (l.getD r []).length ≤ m) : ∀ r, r ≤ l.length → sumTo l r ≤ r * m
  | 0, _ => by simp [sumTo]
  | r + 1, hr => by
    have h1 := sumTo_le_mul l m h r (by omega)
    have h2 := h r (by omega)
    simp only [sumTo]
    rw [Nat.succ_mul]; omega
theorem szL_tabF (ht wd : Nat) (f : Nat → Nat → Int) (h1 : ht ≤ 1000) (h2 : wd ≤ 1000) : szL (tabF ht wd f) ≤ 1048576 := by
  unfold szL
  rw [tabF_length]
  have h3 := sumTo_le_mul (tabF ht wd f) wd (fun r hr => by rw [tabF_length] at hr; rw [tabF_len _ _ _ _ hr]; exact Nat.le_refl _) ht (by rw [tabF_length]; exact Nat.le_refl _)
  have h4 : ht * wd ≤ 1000 * 1000 := Nat.mul_le_mul h1 h2
  omega

theorem tabIn_unit (m : Nat) (h1 : 1 ≤ m) (h6 : m ≤ 6) : tabIn (unitL m m) = true := by
  refine tabIn_true ⟨by rw [unitL_length]; exact h1, by rw [unitL_length]; exact h6, fun r hr => ?_⟩
  rw [unitL_length] at hr
  refine ⟨by unfold unitL; rw [tabF_len _ _ _ _ hr, tabF_len _ _ _ _ (by omega)], by unfold unitL; rw [tabF_len _ _ _ _ hr]; exact h1, by unfold unitL; rw [tabF_len _ _ _ _ hr]; exact h6, fun k hk => ?_⟩
  unfold unitL at hk ⊢
  rw [tabF_len _ _ _ _ hr] at hk
  rw [tabF_at _ _ _ _ _ hr hk]
  unfold unitF
  split <;> omega

end Go.Proofs.Ytkahgpgnfodpgaa
