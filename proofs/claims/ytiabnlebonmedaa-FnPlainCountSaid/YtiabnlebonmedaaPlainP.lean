/- Chapter 5's laws, the pure side: sums without signs beside values, and the counts of pairings and of lists. -/
import Derived.Test.YtiabnlebonmedaaHalfF
import Derived.Test.YtiabnlebonmedaaPlainF
namespace Go.Proofs.Ytiabnlebonmedaa
open Go.RowKit Go.Deep

theorem sg_or (p : Nat) (x : Int) : sg p x = x ∨ sg p x = -x := by unfold sg; split <;> simp
theorem sumM_zero {f : Nat → Nat} : ∀ n, sumM f n = 0 → ∀ k, k < n → f k = 0
  | 0, _, k, hk => by omega
  | n + 1, h, k, hk => by
    have h1 : sumM f n + f n = 0 := h
    by_cases e : k = n
    · subst e; omega
    · exact sumM_zero n (by omega) k (by omega)
theorem sumM_one {f : Nat → Nat} : ∀ n, sumM f n = 1 → ∃ k, k < n ∧ f k = 1 ∧ ∀ j, j < n → j ≠ k → f j = 0
  | 0, h => by simp [sumM] at h
  | n + 1, h => by
    have h1 : sumM f n + f n = 1 := h
    by_cases e : f n = 0
    · obtain ⟨k, hk, e1, e2⟩ := sumM_one (f := f) n (by omega)
      refine ⟨k, by omega, e1, fun j hj hne => ?_⟩
      by_cases e3 : j = n
      · subst e3; exact e
      · exact e2 j (by omega) hne
    · have h0 := sumM_zero n (show sumM f n = 0 by omega)
      exact ⟨n, by omega, by omega, fun j hj hne => h0 j (by omega)⟩
theorem sumN_oneP (f : Nat → Int) (k : Nat) : ∀ n, k < n → (∀ j, j < n → j ≠ k → f j = 0) → sumN f n = f k
  | 0, h, _ => by omega
  | n + 1, h, h0 => by
    show sumN f n + f n = f k
    by_cases e : k = n
    · subst e
      have : sumN f k = 0 := by
        rw [sumN_congrH k (g := fun _ => 0) (fun c hc => h0 c (by omega) (by omega))]
        exact sumN_zeroP k
      omega
    · rw [sumN_oneP f k n (by omega) (fun j hj hne => h0 j (by omega) hne), h0 n (by omega) (by omega), Int.add_zero]
where
  sumN_zeroP : ∀ n, sumN (fun _ => 0) n = 0
    | 0 => rfl
    | n + 1 => by
      show sumN (fun _ => 0) n + 0 = 0
      rw [sumN_zeroP n]; rfl
theorem sumN_noneP {f : Nat → Int} : ∀ n, (∀ k, k < n → f k = 0) → sumN f n = 0
  | 0, _ => rfl
  | n + 1, h => by
    show sumN f n + f n = 0
    rw [sumN_noneP n (fun k hk => h k (by omega)), h n (by omega)]; rfl

/-- A half of which no pairing counts is 0; one of which one pairing counts is not. -/
theorem half_cnt (l : List (List Int)) (n : Nat) : ∀ d s, (cntF l n d s = 0 → halfF l n d s = 0) ∧ (cntF l n d s = 1 → halfF l n d s ≠ 0)
  | 0, s => by
    unfold cntF halfF
    by_cases e : s = 0 <;> simp [e]
  | d + 1, s => by
    by_cases e : s = 0
    · subst e; rw [cntF_none, halfF_none]; simp
    · rw [cntF_some l n d e, halfF_some l n d e]
      have hz : ∀ k, cntT l (lowB s) s (cntF l n d) k = 0 → halfT l (lowB s) s (halfF l n d) k = 0 := fun k h => by
        by_cases h1 : lowB s < k ∧ s.testBit k = true
        · rw [halfT_yes _ h1.1 h1.2]
          by_cases h2 : at2 l (lowB s) k = 0
          · rw [h2]; unfold sg; split <;> simp
          · rw [cntT_yes _ ⟨h1, h2⟩] at h
            rw [(half_cnt l n d _).1 h]; unfold sg; split <;> simp
        · exact halfT_no _ h1
      constructor
      · intro h
        exact sumN_noneP n fun k hk => hz k (sumM_zero n h k hk)
      · intro h
        obtain ⟨k, hk, e1, e2⟩ := sumM_one n h
        rw [sumN_oneP _ k n hk (fun j hj hne => hz j (e2 j hj hne))]
        by_cases h1 : (lowB s < k ∧ s.testBit k = true) ∧ at2 l (lowB s) k ≠ 0
        · rw [cntT_yes _ h1] at e1
          have h3 := (half_cnt l n d _).2 e1
          rw [halfT_yes _ h1.1.1 h1.1.2]
          have h4 : at2 l (lowB s) k * halfF l n d (s - 2 ^ lowB s - 2 ^ k) ≠ 0 := Int.mul_ne_zero h1.2 h3
          rcases sg_or (btw s (lowB s) k) (at2 l (lowB s) k * halfF l n d (s - 2 ^ lowB s - 2 ^ k)) with h | h <;> rw [h] <;> omega
        · rw [cntT_no _ h1] at e1; omega

theorem sg_mod (p : Nat) {x y : Int} (h : (x - y) % 2 = 0) : (x - sg p y) % 2 = 0 := by unfold sg; split <;> omega
theorem sumN_mod {f g : Nat → Int} : ∀ n, (∀ k, k < n → (f k - g k) % 2 = 0) → (sumN f n - sumN g n) % 2 = 0
  | 0, _ => rfl
  | n + 1, h => by
    have h1 := sumN_mod n (fun k hk => h k (by omega))
    have h2 := h n (by omega)
    show ((sumN f n + f n) - (sumN g n + g n)) % 2 = 0
    omega
/-- Sums without signs and values are even or odd together. -/
theorem pl_mod (l : List (List Int)) (n : Nat) : ∀ d u, (plF l n d u - ordF l n d u) % 2 = 0
  | 0, _ => rfl
  | d + 1, u => by
    rw [plF_succ, ordF_succ]
    refine sumN_mod n fun k _ => ?_
    by_cases h : u.testBit k = true
    · rw [plT_yes _ h, ordT_yes _ h]; rfl
    · have h' : u.testBit k = false := by simpa using h
      rw [plT_no _ h', ordT_no _ h']
      refine sg_mod _ ?_
      have ih := pl_mod l n d (u ||| 2 ^ k)
      rw [← Int.mul_sub]
      obtain ⟨q, hq⟩ : ∃ q, plF l n d (u ||| 2 ^ k) - ordF l n d (u ||| 2 ^ k) = 2 * q := ⟨(plF l n d (u ||| 2 ^ k) - ordF l n d (u ||| 2 ^ k)) / 2, by omega⟩
      rw [hq, Int.mul_left_comm]
      omega

theorem sumN_le {f g : Nat → Int} : ∀ n, (∀ k, k < n → -(f k) ≤ g k ∧ g k ≤ f k) → -(sumN f n) ≤ sumN g n ∧ sumN g n ≤ sumN f n
  | 0, _ => by simp [sumN]
  | n + 1, h => by
    have h1 := sumN_le n (fun k hk => h k (by omega))
    have h2 := h n (by omega)
    show -(sumN f n + f n) ≤ sumN g n + g n ∧ sumN g n + g n ≤ sumN f n + f n
    omega
/-- Where no entry is below 0, the sum without signs is at least the value, and at least its opposite. -/
theorem pl_ge (l : List (List Int)) (n : Nat) (h0 : ∀ i k, i < n → k < n → 0 ≤ at2 l i k) : ∀ d, d ≤ n → ∀ u, -(plF l n d u) ≤ ordF l n d u ∧ ordF l n d u ≤ plF l n d u
  | 0, _, _ => by rw [plF_zero, ordF_zero]; omega
  | d + 1, hd, u => by
    rw [plF_succ, ordF_succ]
    refine sumN_le n fun k hk => ?_
    by_cases h : u.testBit k = true
    · rw [plT_yes _ h, ordT_yes _ h]; omega
    · have h' : u.testBit k = false := by simpa using h
      rw [plT_no _ h', ordT_no _ h']
      have ih := pl_ge l n h0 d (by omega) (u ||| 2 ^ k)
      have hx := h0 (n - (d + 1)) k (by omega) hk
      refine sg_bd ?_
      rw [← Int.mul_neg]
      exact ⟨Int.mul_le_mul_of_nonneg_left ih.1 hx, Int.mul_le_mul_of_nonneg_left ih.2 hx⟩

theorem sumN_nn {f : Nat → Int} : ∀ n, (∀ k, k < n → 0 ≤ f k) → 0 ≤ sumN f n
  | 0, _ => by simp [sumN]
  | n + 1, h => by
    have h1 := sumN_nn n (fun k hk => h k (by omega))
    have h2 := h n (by omega)
    show 0 ≤ sumN f n + f n
    omega
theorem sumN_zeroI {f : Nat → Int} : ∀ n, (∀ k, k < n → 0 ≤ f k) → sumN f n = 0 → ∀ k, k < n → f k = 0
  | 0, _, _, k, hk => by omega
  | n + 1, h0, h, k, hk => by
    have h1 : sumN f n + f n = 0 := h
    have h2 := sumN_nn n (fun k hk => h0 k (by omega))
    have h3 := h0 n (by omega)
    by_cases e : k = n
    · subst e; omega
    · exact sumN_zeroI n (fun k hk => h0 k (by omega)) (by omega) k (by omega)
theorem sumN_oneI {f : Nat → Int} : ∀ n, (∀ k, k < n → 0 ≤ f k) → sumN f n = 1 → ∃ k, k < n ∧ f k = 1 ∧ ∀ j, j < n → j ≠ k → f j = 0
  | 0, _, h => by simp [sumN] at h
  | n + 1, h0, h => by
    have h1 : sumN f n + f n = 1 := h
    have h2 := sumN_nn n (fun k hk => h0 k (by omega))
    have h3 := h0 n (by omega)
    by_cases e : f n = 0
    · obtain ⟨k, hk, e1, e2⟩ := sumN_oneI n (fun k hk => h0 k (by omega)) (by omega)
      refine ⟨k, by omega, e1, fun j hj hne => ?_⟩
      by_cases e3 : j = n
      · subst e3; exact e
      · exact e2 j (by omega) hne
    · have h4 := sumN_zeroI n (fun k hk => h0 k (by omega)) (show sumN f n = 0 by omega)
      exact ⟨n, by omega, by omega, fun j hj hne => h4 j (by omega)⟩

/-- For a square o that is 1 where l is not 0, and 0 elsewhere: where the count is 0, both sums are 0; where it is 1, they are one number or its opposite, and not 0. -/
theorem pl_cnt (l o : List (List Int)) (n : Nat) (ho : ∀ i k, i < n → k < n → at2 o i k = if at2 l i k = 0 then 0 else 1) : ∀ d, d ≤ n → ∀ u, 0 ≤ plF o n d u ∧
    (plF o n d u = 0 → ordF l n d u = 0 ∧ plF l n d u = 0) ∧ (plF o n d u = 1 → (ordF l n d u = plF l n d u ∨ ordF l n d u = -plF l n d u) ∧ ordF l n d u ≠ 0)
  | 0, _, _ => by simp [plF_zero, ordF_zero]
  | d + 1, hd, u => by
    rw [plF_succ, plF_succ, ordF_succ]
    have hi : n - (d + 1) < n := by omega
    obtain ⟨i, hii⟩ : ∃ i, n - (d + 1) = i := ⟨_, rfl⟩
    rw [hii] at hi ⊢
    have ih := pl_cnt l o n ho d (by omega)
    have hnn : ∀ k, k < n → 0 ≤ plT o i u (plF o n d) k := fun k hk => by
      by_cases h : u.testBit k = true
      · rw [plT_yes _ h]; omega
      · have h' : u.testBit k = false := by simpa using h
        rw [plT_no _ h', ho i k hi hk]
        have := (ih (u ||| 2 ^ k)).1
        split <;> omega
    have hz : ∀ k, k < n → plT o i u (plF o n d) k = 0 → ordT l i u (ordF l n d) k = 0 ∧ plT l i u (plF l n d) k = 0 := fun k hk h0 => by
      by_cases h : u.testBit k = true
      · rw [plT_yes _ h, ordT_yes _ h]; exact ⟨rfl, rfl⟩
      · have h' : u.testBit k = false := by simpa using h
        rw [plT_no _ h', ho i k hi hk] at h0
        rw [plT_no _ h', ordT_no _ h']
        by_cases h2 : at2 l i k = 0
        · rw [h2]; unfold sg; split <;> simp
        · rw [if_neg h2, Int.one_mul] at h0
          obtain ⟨e1, e2⟩ := (ih (u ||| 2 ^ k)).2.1 h0
          rw [e1, e2]; unfold sg; split <;> simp
    refine ⟨sumN_nn n hnn, fun h => ?_, fun h => ?_⟩
    · have hh := sumN_zeroI n hnn h
      exact ⟨sumN_noneP n fun k hk => (hz k hk (hh k hk)).1, sumN_noneP n fun k hk => (hz k hk (hh k hk)).2⟩
    · obtain ⟨k, hk, e1, e2⟩ := sumN_oneI n hnn h
      rw [sumN_oneP (ordT l i u (ordF l n d)) k n hk (fun j hj hne => (hz j hj (e2 j hj hne)).1), sumN_oneP (plT l i u (plF l n d)) k n hk (fun j hj hne => (hz j hj (e2 j hj hne)).2)]
      by_cases h : u.testBit k = true
      · rw [plT_yes _ h] at e1; omega
      · have h' : u.testBit k = false := by simpa using h
        rw [plT_no _ h', ho i k hi hk] at e1
        rw [plT_no _ h', ordT_no _ h']
        by_cases h2 : at2 l i k = 0
        · rw [if_pos h2] at e1; omega
        · rw [if_neg h2, Int.one_mul] at e1
          obtain ⟨e3, e4⟩ := (ih (u ||| 2 ^ k)).2.2 e1
          have h4 : at2 l i k * ordF l n d (u ||| 2 ^ k) ≠ 0 := Int.mul_ne_zero h2 e4
          have h5 : at2 l i k * ordF l n d (u ||| 2 ^ k) = at2 l i k * plF l n d (u ||| 2 ^ k) ∨ at2 l i k * ordF l n d (u ||| 2 ^ k) = -(at2 l i k * plF l n d (u ||| 2 ^ k)) := by
            rcases e3 with e | e <;> rw [e]
            · exact Or.inl rfl
            · exact Or.inr (Int.mul_neg _ _)
          rcases sg_or (popcS (u / 2 ^ k)) (at2 l i k * ordF l n d (u ||| 2 ^ k)) with e | e <;> rw [e] <;> constructor <;> omega

end Go.Proofs.Ytiabnlebonmedaa
