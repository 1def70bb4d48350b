/- The contract of impl.TableUnit. -/
import Derived.Test.YtdbomnhlgaohaaaUnitSpec
namespace Go.Proofs.Ytdbomnhlgaohaaa
open Go.RowKit Go.Deep

set_option maxHeartbeats 1000000 in
/-- What is made is given out if it is a table. -/
theorem result_any (a : Option Addr) (cap n lo hi : Nat) (l : List (List Int)) (w : World) (hn : l.length = n) (hsz : szL l ≤ 1048576) (hm : OwnT lo hi w a l) :
    Calls Try.prog 52 #[.slice a n cap] w fun e w' => ∃ a' cap', e = .returned (.tuple #[.slice a' (resT (tabIn l) l).length cap', .bool (tabIn l)]) ∧ w.Since w.heap.size w' ∧ OwnT lo hi w' a' (resT (tabIn l) l) := by
  have E := Lib.hid (fits_any a cap n l w hn hsz hm.matR)
  have HN := Lib.hid hn
  have HM := Lib.hid hm
  clear hn hsz hm
  cases hT : tabIn l with
  | false =>
    rw [hT] at E
    clear hT
    go_enter Try.func52, Try.ntmps52
    go_wp2_with fail
    refine (E.out).mono ?_
    rintro e w' ⟨rfl, hs⟩
    go_wp2
    go_ret2
    exact ⟨_, _, rfl, hs, OwnT.nil _ _ _ _⟩
  | true =>
    rw [hT] at E
    clear hT
    go_enter Try.func52, Try.ntmps52
    go_wp2_with fail
    refine (E.out).mono ?_
    rintro e w' ⟨rfl, hs⟩
    go_wp2
    go_ret2
    exact ⟨a, cap, by unfold resT; rw [if_pos rfl, HN.out]; rfl, hs, HM.out.since hs⟩

set_option maxHeartbeats 1000000 in
theorem unitEntry_any (i k : Nat) (w : World) :
    Calls Try.prog 86 #[.int .i64 i, .int .i64 k] w fun e w' => e = .returned (.int .i64 (unitF i k)) ∧ w.Since w.heap.size w' := by
  by_cases h : i = k
  · subst h
    go_enter Try.func86, Try.ntmps86
    go_wp2
    go_ret
    exact ⟨ret_int (by simp [unitF]), World.Since.refl _ _⟩
  · have hne : ((i : Int) == (k : Int)) = false := by simp; omega
    go_enter Try.func86, Try.ntmps86
    go_wp2
    go_ret
    exact ⟨ret_int (by simp [unitF, h]), World.Since.refl _ _⟩

set_option maxHeartbeats 1000000 in
theorem unitTable_any (n : Nat) (hn : n ≤ 1000) (w : World) :
    Calls Try.prog 72 #[.int .i64 n] w fun e w' => e = .returned (.slice (some ⟨w.heap.size, 0, none⟩) n n) ∧ w.Since w.heap.size w' ∧ OwnT w.heap.size w'.heap.size w' (some ⟨w.heap.size, 0, none⟩) (unitL n n) := by
  have E := Lib.hid (newTable_any 86 #[] n n unitF w (by omega) (by omega) (enters_of Try.func86 (by kernel_rfl) rfl) (fun W i k _ _ _ => unitEntry_any i k W))
  go_enter Try.func72, Try.ntmps72
  go_wp2_with fail
  refine (E.out).mono ?_
  rintro e w' ⟨rfl, hs, ho⟩
  go_wp2
  go_ret
  exact ⟨rfl, hs, ho⟩

theorem sumTo_le_mul (l : List (List Int)) (m : Nat) (h : ∀ r, r < l.length → (l.getD r []).length ≤ m) : ∀ r, r ≤ l.length → sumTo l r ≤ r * m
  | 0, _ => by simp [sumTo]
  | r + 1, hr => by
    have h1 := sumTo_le_mul l m h r (by omega)
    have h2 := h r (by omega)
    simp only [sumTo]
    rw [Nat.succ_mul]; omega
theorem szL_tabF (ht wd : Nat) (f : Nat → Nat → Int) (h1 : ht ≤ 1000) (h2 : wd ≤ 1000) : szL (tabF ht wd f) ≤ 1048576 := by
  unfold szL
  rw [tabF_length]
  have h3 := sumTo_le_mul (tabF ht wd f) wd (fun r hr => by rw [tabF_length] at hr; rw [tabF_len _ _ _ _ hr]; exact Nat.le_refl _) ht (by rw [tabF_length]; exact Nat.le_refl _)
  have h4 : ht * wd ≤ 1000 * 1000 := Nat.mul_le_mul h1 h2
  omega

theorem tabIn_unit (m : Nat) (h1 : 1 ≤ m) (h6 : m ≤ 6) : tabIn (unitL m m) = true := by
  refine tabIn_true ⟨by rw [unitL_length]; exact h1, by rw [unitL_length]; exact h6, fun r hr => ?_⟩
  rw [unitL_length] at hr
  refine ⟨by unfold unitL; rw [tabF_len _ _ _ _ hr, tabF_len _ _ _ _ (by omega)], by unfold unitL; rw [tabF_len _ _ _ _ hr]; exact h1, by unfold unitL; rw [tabF_len _ _ _ _ hr]; exact h6, fun k hk => ?_⟩
  unfold unitL at hk ⊢
  rw [tabF_len _ _ _ _ hr] at hk
  rw [tabF_at _ _ _ _ _ hr hk]
  unfold unitF
  split <;> omega

set_option maxHeartbeats 1000000 in
theorem implTableUnit_any (n : Int) (w : World) :
    Calls Try.prog 45 #[.int .i64 n] w (ImplT w (inB n 1 6) (unitL n.toNat n.toNat)) := by
  cases hin : inB n 1 6 with
  | false =>
    go_enter Try.func45, Try.ntmps45
    go_wp2_with fail
    refine (isSide_at n false w hin).mono ?_
    rintro e w' ⟨rfl, rfl⟩
    go_wp2
    go_ret2
    exact ⟨_, _, rfl, World.Since.refl _ _, OwnT.nil _ _ _ _⟩
  | true =>
    have h6 := of_decide_eq_true hin
    obtain ⟨m, rfl⟩ := Int.eq_ofNat_of_zero_le (show 0 ≤ n by omega)
    have E := Lib.hid (isSide_at m true w hin)
    clear hin
    rw [Int.toNat_natCast]
    have HUL := Lib.hid (unitL_length m m)
    have HT := Lib.hid (tabIn_unit m (by omega) (by omega))
    go_enter Try.func45, Try.ntmps45
    go_wp2_with fail
    refine (E.out).mono ?_
    rintro e w' ⟨rfl, rfl⟩
    go_wp2_with fail
    refine (unitTable_any m (by omega) w).mono ?_
    rintro e w1 ⟨rfl, hs, ho⟩
    go_wp2_with fail
    refine (result_any _ _ _ _ _ (unitL m m) w1 HUL.out (szL_tabF _ _ _ (by omega) (by omega)) ho).mono ?_
    rintro e w2 ⟨a, cap, rfl, hs2, ho2⟩
    rw [HT.out] at ho2 ⊢
    go_wp2
    go_ret2
    exact ⟨a, cap, rfl, hs.trans (since_mono hs2 hs.size), ho2.mono (Nat.le_refl _) hs2.size⟩

end Go.Proofs.Ytdbomnhlgaohaaa
