/- Chapter 8: the squares of powers, of two numbers, of divisors and of least numbers, as impl makes them. -/
import Derived.Test.YtjlcbkbekogblaaKnownJ0
namespace Go.Proofs.Ytjlcbkbekogblaa
open Go.RowKit Go.Deep

set_option maxRecDepth 100000 in
set_option maxHeartbeats 2000000 in
theorem implKnownPowers_any (a : Option Addr) (cap m : Nat) (x : List Int) (w : World) (hn : x.length = m) (h6 : m ≤ 1048576) (hm : RowR w a x) :
    Calls Try.prog 26 #[.slice a m cap] w (ImplT w (l8B x 30 && tabIn (pwTo x m m)) (pwTo x m m)) := by
  have E1 := isSide_any m w
  have E2 := entriesIn_any a cap m x w hn h6 hm
  rw [← numsIn_rng] at E2
  have hsp := l8B_split x 30
  rw [hn] at hsp
  cases h1 : inB (m : Int) 1 6 with
  | false =>
    rw [h1, Bool.and_false] at hsp
    rw [hsp, Bool.false_and]
    rw [h1] at E1
    replace E1 := Lib.hid E1
    clear E2 hm hn h1 hsp
    go_enter Try.func26, Try.ntmps26
    go_wp2_with fail
    refine (E1.out).mono ?_
    rintro e w' ⟨rfl, rfl⟩
    go_wp2
    go_ret2
    exact ⟨_, _, rfl, World.Since.refl _ _, OwnT.nil _ _ _ _⟩
  | true =>
    rw [h1] at E1
    replace E1 := Lib.hid E1
    have h16 := of_decide_eq_true h1
    cases h2 : rngB x (-30) 30 with
    | false =>
      rw [h1, h2] at hsp
      rw [hsp]
      rw [h2] at E2
      replace E2 := Lib.hid E2
      clear hm hn h1 h2 hsp
      go_enter Try.func26, Try.ntmps26
      go_wp2_with fail
      refine (E1.out).mono ?_
      rintro e w' ⟨rfl, rfl⟩
      go_wp2_with fail
      refine (E2.out).mono ?_
      rintro e w' ⟨rfl, rfl⟩
      go_wp2
      go_ret2
      exact ⟨_, _, rfl, World.Since.refl _ _, OwnT.nil _ _ _ _⟩
    | true =>
      rw [h1, h2] at hsp
      rw [hsp]
      rw [h2] at E2
      replace E2 := Lib.hid E2
      have hx := rngB_of h2
      rw [hn] at hx
      obtain ⟨b, o, rfl, hc⟩ := hm (by omega)
      have E3 := Lib.hid (toldResult_any 62 #[] b o m cap (fun i => x.getD i 0) (fun i k => (x.getD i 0) ^ k) w (by omega) (fun i hi => hc i (by omega)) (enters_of Try.func62 (by kernel_rfl) rfl)
        (fun W i k _ hi hk => by
          have hb := hx i hi
          simp only [inB, decide_eq_true_eq] at hb
          exact (power_any (x.getD i 0) k W (by omega) (by omega)).mono fun _ _ h => ⟨h.1, h.2 ▸ Drawn.refl _⟩))
      rw [show tabF m m (fun i k => (x.getD i 0) ^ k) = pwTo x m m from rfl] at E3
      rw [Bool.and_self, Bool.true_and]
      obtain ⟨T, hT⟩ : ∃ T, pwTo x m m = T := ⟨_, rfl⟩
      rw [hT] at E3 ⊢
      clear hc hn h1 h2 hsp hx hT
      go_enter Try.func26, Try.ntmps26
      go_wp2_with fail
      refine (E1.out).mono ?_
      rintro e w' ⟨rfl, rfl⟩
      go_wp2_with fail
      refine (E2.out).mono ?_
      rintro e w' ⟨rfl, rfl⟩
      go_wp2_with fail
      refine (E3.out).mono ?_
      rintro e w' ⟨a', c', rfl, hs, ho⟩
      go_wp2
      go_ret2
      exact ⟨a', c', rfl, hs, ho⟩

def gcL (n : Nat) : List (List Int) := tabF n n fun i k => (Nat.gcd (i + 1) (k + 1) : Nat)
def mnL (n : Nat) : List (List Int) := tabF n n fun i k => (min i k : Nat) + 1
theorem tabIn_sq {m : Nat} {f : Nat → Nat → Int} (h1 : 1 ≤ m) (h6 : m ≤ 6) (hf : ∀ i k, i < m → k < m → -30 ≤ f i k ∧ f i k ≤ 30) : tabIn (tabF m m f) = true := by
  refine tabIn_true ⟨by rw [tabF_length]; exact h1, by rw [tabF_length]; exact h6, fun r hr => ?_⟩
  rw [tabF_length] at hr
  refine ⟨by rw [tabF_len _ _ _ _ hr, tabF_len _ _ _ _ (by omega)], by rw [tabF_len _ _ _ _ hr]; exact h1, by rw [tabF_len _ _ _ _ hr]; exact h6, fun k hk => ?_⟩
  rw [tabF_len _ _ _ _ hr] at hk
  rw [tabF_at _ _ _ _ _ hr hk]
  exact hf r k hr hk
theorem gcL_in {m : Nat} (h1 : 1 ≤ m) (h6 : m ≤ 6) : tabIn (gcL m) = true := tabIn_sq h1 h6 fun i k hi _ => by
  have := Nat.gcd_le_left (k + 1) (show 0 < i + 1 by omega)
  omega
theorem mnL_in {m : Nat} (h1 : 1 ≤ m) (h6 : m ≤ 6) : tabIn (mnL m) = true := tabIn_sq h1 h6 fun i k hi _ => by omega

set_option maxHeartbeats 1000000 in
theorem divEntry_any (i k : Nat) (W : World) (hi : i ≤ 100) (hk : k ≤ 100) :
    Calls Try.prog 70 #[.int .i64 i, .int .i64 k] W fun e w' => e = .returned (.int .i64 (Nat.gcd (i + 1) (k + 1) : Nat)) ∧ Drawn W w' := by
  have E := commonDivisor_dr (i + 1) (k + 1) W (by omega) (by omega)
  rw [show ((i + 1 : Nat) : Int) = (i : Int) + 1 by omega, show ((k + 1 : Nat) : Int) = (k : Int) + 1 by omega] at E
  obtain ⟨d, hd⟩ : ∃ d, Nat.gcd (i + 1) (k + 1) = d := ⟨_, rfl⟩
  rw [hd] at E ⊢
  replace E := Lib.hid E
  clear hd
  go_enter Try.func70, Try.ntmps70
  go_wp2_with fail
  refine (E.out).mono ?_
  rintro e w' ⟨rfl, hd⟩
  go_wp2
  go_ret
  exact ⟨rfl, hd⟩

set_option maxHeartbeats 1000000 in
theorem leastEntry_any (i k : Nat) (W : World) (hi : i ≤ 100) (hk : k ≤ 100) :
    Calls Try.prog 73 #[.int .i64 i, .int .i64 k] W fun e w' => e = .returned (.int .i64 ((min i k : Nat) + 1)) ∧ Drawn W w' := by
  go_enter Try.func73, Try.ntmps73
  go_wp2
  all_goals
    go_ret
    exact ⟨ret_int (by omega), Drawn.refl _⟩


set_option maxRecDepth 100000 in
set_option maxHeartbeats 2000000 in
theorem implKnownDivisors_any (n : Int) (w : World) :
    Calls Try.prog 36 #[.int .i64 n] w (ImplT w (inB n 1 6) (gcL n.toNat)) := by
  have E := isSide_any n w
  cases hin : inB n 1 6 with
  | false =>
    rw [hin] at E
    replace E := Lib.hid E
    clear hin
    go_enter Try.func36, Try.ntmps36
    go_wp2_with fail
    refine (E.out).mono ?_
    rintro e w' ⟨rfl, rfl⟩
    go_wp2
    go_ret2
    exact ⟨_, _, rfl, World.Since.refl _ _, OwnT.nil _ _ _ _⟩
  | true =>
    rw [hin] at E
    replace E := Lib.hid E
    have h6 := of_decide_eq_true hin
    obtain ⟨m, rfl⟩ := Int.eq_ofNat_of_zero_le (show 0 ≤ n by omega)
    clear hin
    rw [Int.toNat_natCast]
    have E2 := Lib.hid (toldByPlaces_any m 70 #[] w (by omega))
    have HT := Lib.hid (gcL_in (m := m) (by omega) (by omega))
    have E3 := Lib.hid (fun (W : World) (b : Nat) (hc : ∀ i, i < m → W.cell? ⟨b, 0 + i, none⟩ = some (.int .i64 i)) => toldResult_any 70 #[] b 0 m m (fun i => (i : Int)) (fun i k => (Nat.gcd (i + 1) (k + 1) : Nat)) W (by omega) hc (enters_of Try.func70 (by kernel_rfl) rfl)
      (fun W i k _ hi hk => divEntry_any i k W (by omega) (by omega)))
    have hL : tabF m m (fun i k => (Nat.gcd (i + 1) (k + 1) : Nat)) = gcL m := rfl
    simp only [hL, HT.out] at E3
    clear hL
    obtain ⟨T, hT⟩ : ∃ T, gcL m = T := ⟨_, rfl⟩
    rw [hT] at E3 ⊢
    clear hT HT
    go_enter Try.func36, Try.ntmps36
    go_wp2_with fail
    refine (E.out).mono ?_
    rintro e w' ⟨rfl, rfl⟩
    go_wp2_with fail
    refine (E2.out).mono ?_
    rintro e w1 ⟨b, rfl, hs1, hc1⟩
    have HS1 := Lib.hid hs1
    have HC1 := Lib.hid hc1
    clear hs1 hc1
    have hs2 : w1.Since w1.heap.size (w1.alloc (.cells #[.slice (some ⟨b, 0, none⟩) m m, .func (.func 70) #[] #[]] 53)) := (World.Since.refl _ _).alloc (Nat.le_refl _) _
    have HS2 := Lib.hid (HS1.out.trans (since_mono hs2 HS1.out.size))
    have HC2 := Lib.hid (fun i hi => (hs2.cell (a := ⟨b, 0 + i, none⟩) (World.block_lt_of_cell? _ _ (HC1.out i hi))).trans (HC1.out i hi))
    clear hs2
    go_wp2_with fail
    refine (E3.out _ b HC2.out).mono ?_
    rintro e w3 ⟨a', c', rfl, hs3, ho3⟩
    go_wp2
    go_ret2
    exact ⟨a', c', rfl, HS2.out.trans (since_mono hs3 HS2.out.size), ho3.mono HS2.out.size (Nat.le_refl _)⟩

set_option maxRecDepth 100000 in
set_option maxHeartbeats 2000000 in
theorem implKnownLeast_any (n : Int) (w : World) :
    Calls Try.prog 40 #[.int .i64 n] w (ImplT w (inB n 1 6) (mnL n.toNat)) := by
  have E := isSide_any n w
  cases hin : inB n 1 6 with
  | false =>
    rw [hin] at E
    replace E := Lib.hid E
    clear hin
    go_enter Try.func40, Try.ntmps40
    go_wp2_with fail
    refine (E.out).mono ?_
    rintro e w' ⟨rfl, rfl⟩
    go_wp2
    go_ret2
    exact ⟨_, _, rfl, World.Since.refl _ _, OwnT.nil _ _ _ _⟩
  | true =>
    rw [hin] at E
    replace E := Lib.hid E
    have h6 := of_decide_eq_true hin
    obtain ⟨m, rfl⟩ := Int.eq_ofNat_of_zero_le (show 0 ≤ n by omega)
    clear hin
    rw [Int.toNat_natCast]
    have E2 := Lib.hid (toldByPlaces_any m 73 #[] w (by omega))
    have HT := Lib.hid (mnL_in (m := m) (by omega) (by omega))
    have E3 := Lib.hid (fun (W : World) (b : Nat) (hc : ∀ i, i < m → W.cell? ⟨b, 0 + i, none⟩ = some (.int .i64 i)) => toldResult_any 73 #[] b 0 m m (fun i => (i : Int)) (fun i k => ((min i k : Nat) : Int) + 1) W (by omega) hc (enters_of Try.func73 (by kernel_rfl) rfl)
      (fun W i k _ hi hk => leastEntry_any i k W (by omega) (by omega)))
    have hL : tabF m m (fun i k => ((min i k : Nat) : Int) + 1) = mnL m := rfl
    simp only [hL, HT.out] at E3
    clear hL
    obtain ⟨T, hT⟩ : ∃ T, mnL m = T := ⟨_, rfl⟩
    rw [hT] at E3 ⊢
    clear hT HT
    go_enter Try.func40, Try.ntmps40
    go_wp2_with fail
    refine (E.out).mono ?_
    rintro e w' ⟨rfl, rfl⟩
    go_wp2_with fail
    refine (E2.out).mono ?_
    rintro e w1 ⟨b, rfl, hs1, hc1⟩
    have HS1 := Lib.hid hs1
    have HC1 := Lib.hid hc1
    clear hs1 hc1
    have hs2 : w1.Since w1.heap.size (w1.alloc (.cells #[.slice (some ⟨b, 0, none⟩) m m, .func (.func 73) #[] #[]] 53)) := (World.Since.refl _ _).alloc (Nat.le_refl _) _
    have HS2 := Lib.hid (HS1.out.trans (since_mono hs2 HS1.out.size))
    have HC2 := Lib.hid (fun i hi => (hs2.cell (a := ⟨b, 0 + i, none⟩) (World.block_lt_of_cell? _ _ (HC1.out i hi))).trans (HC1.out i hi))
    clear hs2
    go_wp2_with fail
    refine (E3.out _ b HC2.out).mono ?_
    rintro e w3 ⟨a', c', rfl, hs3, ho3⟩
    go_wp2
    go_ret2
    exact ⟨a', c', rfl, HS2.out.trans (since_mono hs3 HS2.out.size), ho3.mono HS2.out.size (Nat.le_refl _)⟩

def onL (n : Nat) (a b : Int) : List (List Int) := tabF n n (onF a b)
theorem onL_in {m : Nat} {a b : Int} (h1 : 1 ≤ m) (h6 : m ≤ 6) (ha : -30 ≤ a ∧ a ≤ 30) (hb : -30 ≤ b ∧ b ≤ 30) : tabIn (onL m a b) = true := tabIn_sq h1 h6 fun i k _ _ => by unfold onF; split <;> omega

set_option maxHeartbeats 1000000 in
theorem onesEntry_any (i k A B : Nat) (a b : Int) (W : World) (hA : W.cell? ⟨A, 0, none⟩ = some (.int .i64 a)) (hB : W.cell? ⟨B, 0, none⟩ = some (.int .i64 b)) :
    Calls Try.prog 68 #[.int .i64 i, .int .i64 k, .pointer (some ⟨A, 0, none⟩), .pointer (some ⟨B, 0, none⟩)] W fun e w' => e = .returned (.int .i64 (onF a b i k)) ∧ Drawn W w' := by
  unfold onF
  by_cases h : i = k
  · subst h
    rw [if_pos rfl]
    go_enter Try.func68, Try.ntmps68
    go_wp2
    go_ret
    exact ⟨rfl, Drawn.refl _⟩
  · have hne : ((i : Int) == (k : Int)) = false := by simp; omega
    rw [if_neg h]
    go_enter Try.func68, Try.ntmps68
    go_wp2
    go_ret
    exact ⟨rfl, Drawn.refl _⟩

set_option maxRecDepth 100000 in
set_option maxHeartbeats 2000000 in
theorem implKnownOnes_any (n a b : Int) (w : World) :
    Calls Try.prog 32 #[.int .i64 n, .int .i64 a, .int .i64 b] w (ImplT w (onB n a b) (onL n.toNat a b)) := by
  obtain ⟨w0, hw0⟩ : ∃ w0, (w.alloc (.cells #[.int .i64 a] 3)).alloc (.cells #[.int .i64 b] 3) = w0 := ⟨_, rfl⟩
  have s0 : w.Since w.heap.size w0 := by rw [← hw0]; exact ((World.Since.refl _ w).alloc (Nat.le_refl _) _).alloc (by simp) _
  have b1 := Boxed.new (w.alloc (.cells #[.int .i64 a] 3)) 3 (.int .i64 b)
  have b0 := (Boxed.new w 3 (.int .i64 a)).alloc (.cells #[.int .i64 b] 3)
  simp only [World.size_alloc] at b1
  have z0 : w0.heap.size = w.heap.size + 2 := by rw [← hw0]; simp
  rw [hw0] at b0 b1
  have e0 := b0.cell
  have e1 := b1.cell
  have E := isToldByOnes_any n a b w0
  cases hok : onB n a b with
  | false =>
    rw [hok] at E
    replace E := Lib.hid E
    have S0 := Lib.hid s0
    clear hok s0
    go_enter Try.func32, Try.ntmps32
    go_wp2_with fail
    refine (E.out).mono ?_
    rintro e w' ⟨rfl, rfl⟩
    go_wp2
    go_ret2
    exact ⟨_, _, rfl, S0.out, OwnT.nil _ _ _ _⟩
  | true =>
    rw [hok] at E
    replace E := Lib.hid E
    obtain ⟨hn, ha, hb⟩ := onB_of hok
    clear hok
    obtain ⟨m, rfl⟩ := Int.eq_ofNat_of_zero_le (show 0 ≤ n by omega)
    rw [Int.toNat_natCast]
    have E2 := Lib.hid (toldByPlaces_any m 68 #[.pointer (some ⟨w.heap.size, 0, none⟩), .pointer (some ⟨w.heap.size + 1, 0, none⟩)] w0 (by omega))
    have HT := Lib.hid (onL_in (m := m) (by omega) (by omega) ha hb)
    have E3 := Lib.hid (fun (W : World) (hs : w0.Since w0.heap.size W) (c : Nat) (hc : ∀ i, i < m → W.cell? ⟨c, 0 + i, none⟩ = some (.int .i64 i)) => toldResult_any 68 #[.pointer (some ⟨w.heap.size, 0, none⟩), .pointer (some ⟨w.heap.size + 1, 0, none⟩)] c 0 m m (fun i => (i : Int)) (onF a b) W (by omega) hc (enters_of Try.func68 (by kernel_rfl) rfl)
      (fun V i k hv _ _ => onesEntry_any i k w.heap.size (w.heap.size + 1) a b V (((hs.trans (since_mono hv hs.size)).cell (a := ⟨w.heap.size, 0, none⟩) (by show w.heap.size < w0.heap.size; omega)).trans e0) (((hs.trans (since_mono hv hs.size)).cell (a := ⟨w.heap.size + 1, 0, none⟩) (by show w.heap.size + 1 < w0.heap.size; omega)).trans e1)))
    have hL : tabF m m (onF a b) = onL m a b := rfl
    simp only [hL, HT.out] at E3
    clear hL
    obtain ⟨T, hT⟩ : ∃ T, onL m a b = T := ⟨_, rfl⟩
    rw [hT] at E3 ⊢
    have S0 := Lib.hid s0
    clear hT HT s0 b0 b1
    go_enter Try.func32, Try.ntmps32
    go_wp2_with fail
    refine (E.out).mono ?_
    rintro e w' ⟨rfl, rfl⟩
    go_wp2_with fail
    refine (E2.out).mono ?_
    rintro e w1 ⟨c, rfl, hs1, hc1⟩
    have HS1 := Lib.hid hs1
    have HC1 := Lib.hid hc1
    have hz1 := hs1.size
    clear hs1 hc1
    have hs2 : w1.Since w1.heap.size (w1.alloc (.cells #[.slice (some ⟨c, 0, none⟩) m m, .func (.func 68) #[] #[.pointer (some ⟨w.heap.size, 0, none⟩), .pointer (some ⟨w.heap.size + 1, 0, none⟩)]] 53)) := (World.Since.refl _ _).alloc (Nat.le_refl _) _
    have HS2 := Lib.hid (HS1.out.trans (since_mono hs2 HS1.out.size))
    have HC2 := Lib.hid (fun i hi => (hs2.cell (a := ⟨c, 0 + i, none⟩) (World.block_lt_of_cell? _ _ (HC1.out i hi))).trans (HC1.out i hi))
    clear hs2
    go_wp2_with fail
    refine (E3.out _ HS2.out c HC2.out).mono ?_
    rintro e w3 ⟨a', c', rfl, hs3, ho3⟩
    go_wp2
    go_ret2
    exact ⟨a', c', rfl, S0.out.trans (since_mono (HS2.out.trans (since_mono hs3 HS2.out.size)) S0.out.size), ho3.mono (Nat.le_trans S0.out.size HS2.out.size) (Nat.le_refl _)⟩

end Go.Proofs.Ytjlcbkbekogblaa
