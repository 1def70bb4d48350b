/- The contracts of slices.Index, Contains, IndexFunc and ContainsFunc as the program uses them. -/
import Derived.Test.YtdbomnhlgaohaaaNewTable
namespace Go.Proofs.Ytdbomnhlgaohaaa
open Go.RowKit Go.Deep

/-- r is the first number below m at which p holds, or -1. -/
def FirstAt (p : Nat → Bool) (m : Nat) (r : Int) : Prop := (∃ i : Nat, i < m ∧ r = i ∧ p i = true ∧ ∀ j, j < i → p j = false) ∨ (r = -1 ∧ ∀ j, j < m → p j = false)

set_option maxHeartbeats 1000000 in
theorem index_any (a : Option Addr) (cap m : Nat) (x : List Int) (v : Int) (w : World) (hx : x.length = m) (hm : m ≤ 1048576) (ha : RowR w a x) :
    Calls Try.prog 121 #[.slice a m cap, .int .i64 v] w fun e w' => ∃ r, e = .returned (.int .i64 r) ∧ FirstAt (fun j => v == x.getD j 0) m r ∧ w = w' := by
  have HX := Lib.hid hx
  clear hx
  go_enter Try.func121, Try.ntmps121
  go_wp2
  go_loopg [5, 8] m (fun g _ i wr => ∃ k : Nat, k ≤ m ∧ g = m - k ∧ i = .int .i64 k ∧ w = wr ∧ ∀ j, j < k → (v == x.getD j 0) = false)
  case atStart => exact ⟨0, Nat.zero_le _, rfl, rfl, rfl, fun j hj => absurd hj (Nat.not_lt_zero _)⟩
  case round =>
    obtain ⟨k, hk, rfl, rfl, rfl, hN⟩ := hrel
    by_cases hlt : k < m
    · obtain ⟨b, o, rfl, hc⟩ := ha (by rw [HX.out]; omega)
      have cj := hc k (by rw [HX.out]; exact hlt)
      obtain ⟨y, hy⟩ : ∃ y, y = x.getD k 0 := ⟨_, rfl⟩
      rw [← hy] at cj
      have HY := Lib.hid hy
      clear hc hy
      cases hb : (v == y) with
      | true =>
        go_wp2
        go_ret
        exact ⟨_, rfl, Or.inl ⟨k, hlt, rfl, by show (v == x.getD k 0) = true; rw [← HY.out]; exact hb, hN⟩, rfl⟩
      | false =>
        go_wp2
        go_roundg (m - (k + 1))
        case measure => omega
        case rel => exact ⟨k + 1, by omega, rfl, by go_num, rfl, fun j hj => by
          by_cases e : j = k
          · subst e; rw [← HY.out]; exact hb
          · exact hN j (by omega)⟩
    · have : m = k := by omega
      subst this
      go_wp2
      go_ret
      exact ⟨_, rfl, Or.inr ⟨rfl, hN⟩, rfl⟩

set_option maxHeartbeats 400000 in
theorem contains_any (a : Option Addr) (cap m : Nat) (x : List Int) (v : Int) (w : World) (hx : x.length = m) (hm : m ≤ 1048576) (ha : RowR w a x) :
    Calls Try.prog 111 #[.slice a m cap, .int .i64 v] w fun e w' => e = .returned (.bool (decide (v ∈ x))) ∧ w = w' := by
  have E := Lib.hid (index_any a cap m x v w hx hm ha)
  by_cases h : v ∈ x
  · rw [decide_eq_true h]
    have E2' : ∀ r : Int, FirstAt (fun j => v == x.getD j 0) m r → 0 ≤ r := fun r hr => by
      rcases hr with ⟨i, _, rfl, _⟩ | ⟨rfl, hno⟩
      · omega
      · obtain ⟨i, hi, e⟩ := List.mem_iff_getElem.1 h
        have := hno i (by omega)
        simp [List.getD, hi, e] at this
    have E2 := Lib.hid E2'
    clear hx ha h E2'
    go_enter Try.func111, Try.ntmps111
    go_wp2_with fail
    refine (E.out).mono ?_
    rintro e w' ⟨r, rfl, hr, rfl⟩
    have h0 := E2.out r hr
    clear hr
    go_wp2
    go_ret
    exact ⟨ret_bool (by simp), rfl⟩
  · rw [decide_eq_false h]
    have E2' : ∀ r : Int, FirstAt (fun j => v == x.getD j 0) m r → r = -1 := fun r hr => by
      rcases hr with ⟨i, hi, rfl, hp, _⟩ | ⟨rfl, hno⟩
      · exfalso
        have e : v = x[i]'(by omega) := by simpa [List.getD, show i < x.length by omega] using hp
        exact h (e ▸ List.getElem_mem _)
      · rfl
    have E2 := Lib.hid E2'
    clear hx ha h E2'
    go_enter Try.func111, Try.ntmps111
    go_wp2_with fail
    refine (E.out).mono ?_
    rintro e w' ⟨r, rfl, hr, rfl⟩
    have h0 := E2.out r hr
    clear hr
    subst h0
    go_wp2
    go_ret
    exact ⟨rfl, rfl⟩

set_option maxHeartbeats 1000000 in
/-- .. over rows, by a function that asks one row and turns nothing. -/
theorem indexFunc_any (K : Nat) (p : Nat → Bool) (a : Option Addr) (cap n : Nat) (l : List (List Int)) (w : World) (hn : l.length = n) (hm : MatR w a l) (eg : ∀ args w, (callFunc K args).run Try.prog w = .ok (.enter K args) w) (h63 : n ≤ 1048576)
    (hp : ∀ (i : Nat) (r : Option Addr) (c : Nat), i < n → RowR w r (l.getD i []) → Calls Try.prog K #[.slice r (l.getD i []).length c] w fun e w' => e = .returned (.bool (p i)) ∧ w = w') :
    Calls Try.prog 113 #[.slice a n cap, .func (.func K) #[] #[]] w fun e w' => ∃ r, e = .returned (.int .i64 r) ∧ FirstAt p n r ∧ w = w' := by
  have HN := Lib.hid hn
  have HP := Lib.hid hp
  clear hn hp
  go_enter Try.func113, Try.ntmps113
  go_wp2
  go_loopg [5, 8] n (fun g _ i wr => ∃ k : Nat, k ≤ n ∧ g = n - k ∧ i = .int .i64 k ∧ w = wr ∧ ∀ j, j < k → p j = false)
  case atStart => exact ⟨0, Nat.zero_le _, rfl, rfl, rfl, fun j hj => absurd hj (Nat.not_lt_zero _)⟩
  case round =>
    obtain ⟨k, hk, rfl, rfl, rfl, hF⟩ := hrel
    by_cases hlt : k < n
    · obtain ⟨b, o, A, C, rfl, hc⟩ := hm (by rw [HN.out]; omega)
      obtain ⟨c1, c2⟩ := hc k (by rw [HN.out]; exact hlt)
      have E := HP.out k (A k) (C k) hlt c2
      obtain ⟨y, hy⟩ : ∃ y, (l.getD k []).length = y := ⟨_, rfl⟩
      rw [hy] at c1 E
      cases hb : p k with
      | true =>
        rw [hb] at E
        replace E := Lib.hid E
        clear c2 hc hy
        go_wp2_with fail
        refine (E.out).mono ?_
        rintro e w' ⟨rfl, rfl⟩
        go_wp2
        go_ret
        exact ⟨_, rfl, Or.inl ⟨k, hlt, rfl, hb, hF⟩, rfl⟩
      | false =>
        rw [hb] at E
        replace E := Lib.hid E
        clear c2 hc hy
        go_wp2_with fail
        refine (E.out).mono ?_
        rintro e w' ⟨rfl, rfl⟩
        go_wp2
        go_roundg (n - (k + 1))
        case measure => omega
        case rel => exact ⟨k + 1, by omega, rfl, by go_num, rfl, fun j hj => by
          by_cases e : j = k
          · subst e; exact hb
          · exact hF j (by omega)⟩
    · have : n = k := by omega
      subst this
      go_wp2
      go_ret
      exact ⟨_, rfl, Or.inr ⟨rfl, hF⟩, rfl⟩

end Go.Proofs.Ytdbomnhlgaohaaa
