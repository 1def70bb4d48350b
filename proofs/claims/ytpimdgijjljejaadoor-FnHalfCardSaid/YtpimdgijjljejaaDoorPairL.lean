/- All pairings one by one, and what their products add up to. -/
import Derived.Test.YtpimdgijjljejaaDoorOrdL
import Derived.Test.YtpimdgijjljejaaDoorHalfF
namespace Go.Proofs.YtpimdgijjljejaaDoor
open Go.RowKit Go.Deep

/-- The pairings of the rows of s, in their order; d: at most so many pairs. -/
def pqL (n : Nat) : Nat → Nat → List (List (Nat × Nat))
  | 0, s => if s = 0 then [[]] else []
  | d + 1, s => if s = 0 then [[]] else (List.range n).flatMap fun k => if lowB s < k ∧ s.testBit k = true then (pqL n d (s - 2 ^ lowB s - 2 ^ k)).map (List.cons (lowB s, k)) else []
/-- Those whose first pair ends ahead of k. -/
def pqT (n d s k : Nat) : List (List (Nat × Nat)) := (List.range k).flatMap fun k => if lowB s < k ∧ s.testBit k = true then (pqL n d (s - 2 ^ lowB s - 2 ^ k)).map (List.cons (lowB s, k)) else []
theorem pqL_none (n d : Nat) : pqL n d 0 = [[]] := by cases d <;> rfl
theorem pqL_some (n d : Nat) {s : Nat} (h : s ≠ 0) : pqL n (d + 1) s = pqT n d s n := if_neg h
theorem pqT_step (n d s k : Nat) : pqT n d s (k + 1) = pqT n d s k ++ (if lowB s < k ∧ s.testBit k = true then (pqL n d (s - 2 ^ lowB s - 2 ^ k)).map (List.cons (lowB s, k)) else []) := by
  unfold pqT
  rw [List.range_succ, List.flatMap_append]
  simp
theorem pqT_start (n d s : Nat) : ∀ k, k ≤ lowB s + 1 → pqT n d s k = []
  | 0, _ => rfl
  | k + 1, h => by rw [pqT_step, pqT_start n d s k (by omega), if_neg (by omega)]; rfl
theorem pqT_le (n d s : Nat) (k : Nat) : ∀ q, k ≤ q → (pqT n d s k).length ≤ (pqT n d s q).length := by
  intro q
  induction q with
  | zero => intro h; obtain rfl : k = 0 := by omega
            exact Nat.le_refl _
  | succ q ih =>
    intro h
    by_cases e : k = q + 1
    · rw [e]; exact Nat.le_refl _
    · have := ih (by omega)
      rw [pqT_step, List.length_append]
      omega

/-- Does a pair cross a later one? -/
def crB (p q : Nat × Nat) : Bool := decide (q.1 < p.2) && decide (p.2 < q.2)
/-- How many later pairs a pair crosses. -/
def crN (p : Nat × Nat) : List (Nat × Nat) → Nat
  | [] => 0
  | q :: qs => (if crB p q = true then 1 else 0) + crN p qs
/-- All crossings. -/
def crs : List (Nat × Nat) → Nat
  | [] => 0
  | p :: qs => crN p qs + crs qs
/-- The product of the entries. -/
def entP (l : List (List Int)) : List (Nat × Nat) → Int
  | [] => 1
  | p :: qs => at2 l p.1 p.2 * entP l qs
/-- The product of a pairing, with its sign. -/
def valP (l : List (List Int)) (q : List (Nat × Nat)) : Int := sn (crs q) * entP l q

/-- The members of s below k. -/
def blw (s k : Nat) : Nat := popcS (s % 2 ^ k)
theorem blw_zero (k : Nat) : blw 0 k = 0 := by unfold blw; rw [Nat.zero_mod]; decide
theorem blw_fin : ∀ s : Fin 64, ∀ i j k : Fin 6, i.val < j.val → s.val.testBit i.val = true → s.val.testBit j.val = true → k.val ≠ i.val → k.val ≠ j.val →
    blw s.val k.val = blw (s.val - 2 ^ i.val - 2 ^ j.val) k.val + (if i.val < k.val then 1 else 0) + (if j.val < k.val then 1 else 0) ∧ (s.val - 2 ^ i.val - 2 ^ j.val).testBit k.val = s.val.testBit k.val := by decide +kernel
theorem btw_blw : ∀ s : Fin 64, ∀ k : Fin 6, lowB s.val < k.val → s.val.testBit k.val = true → s.val ≠ 0 → btw s.val (lowB s.val) k.val = blw (s.val - 2 ^ lowB s.val - 2 ^ k.val) k.val ∧ (s.val - 2 ^ lowB s.val - 2 ^ k.val).testBit k.val = false := by decide +kernel
theorem cr_par {n : Nat} (hn : n ≤ 6) (i k : Nat) (hk : k < n) : ∀ (d s : Nat), s < 2 ^ n → s.testBit k = false → ∀ q ∈ pqL n d s, crN (i, k) q % 2 = blw s k % 2 := by
  have h64 : 2 ^ n ≤ 2 ^ 6 := Nat.pow_le_pow_right (by omega) hn
  intro d
  induction d with
  | zero =>
    intro s _ _ q hq
    unfold pqL at hq
    split at hq
    · rename_i h0
      subst h0
      simp only [List.mem_singleton] at hq
      subst hq
      rw [blw_zero]; rfl
    · simp at hq
  | succ d ih =>
    intro s hs hb q hq
    by_cases h0 : s = 0
    · subst h0
      rw [pqL_none] at hq
      simp only [List.mem_singleton] at hq
      subst hq
      rw [blw_zero]; rfl
    · rw [pqL_some n d h0] at hq
      simp only [pqT, List.mem_flatMap, List.mem_range] at hq
      obtain ⟨j, hj, hq⟩ := hq
      by_cases hc : lowB s < j ∧ s.testBit j = true
      · rw [if_pos hc] at hq
        obtain ⟨q', hq', rfl⟩ := List.mem_map.1 hq
        obtain ⟨l1, l2, _⟩ := lowB_fin ⟨s, by omega⟩ h0
        simp only at l1 l2
        have hkl : k ≠ lowB s := fun e => by rw [e, l1] at hb; simp at hb
        have hkj : k ≠ j := fun e => by rw [e, hc.2] at hb; simp at hb
        obtain ⟨e1, e2⟩ := blw_fin ⟨s, by omega⟩ ⟨lowB s, l2⟩ ⟨j, by omega⟩ ⟨k, by omega⟩ hc.1 l1 hc.2 hkl hkj
        simp only at e1 e2
        have := ih (s - 2 ^ lowB s - 2 ^ j) (two_less hs) (by rw [e2]; exact hb) q' hq'
        unfold crN
        rw [e1]
        have hB : crB (i, k) (lowB s, j) = (decide (lowB s < k) && decide (k < j)) := rfl
        rw [hB]
        by_cases a1 : lowB s < k
        · by_cases a2 : k < j
          · rw [if_pos (by simp [a1, a2]), if_pos a1, if_neg (by omega)]; omega
          · rw [if_neg (by simp [a2]), if_pos a1, if_pos (by omega)]; omega
        · rw [if_neg (by simp [a1]), if_neg a1, if_neg (by omega)]; omega
      · rw [if_neg hc] at hq
        simp at hq
theorem sn_par {a b : Nat} (h : a % 2 = b % 2) : sn a = sn b := by unfold sn; rw [h]
theorem lsumI_mulL {α : Type} (c : Int) (f : α → Int) (xs : List α) : lsumI (fun x => c * f x) xs = c * lsumI f xs := by
  induction xs with
  | nil => simp [lsumI]
  | cons x xs ih =>
    rw [show x :: xs = [x] ++ xs from rfl, lsumI_append, lsumI_append, ih, Int.mul_add]
    simp [lsumI]

/-- The halves are the sums of the products of all pairings. -/
theorem pq_half (l : List (List Int)) {n : Nat} (hn : n ≤ 6) : ∀ (d s : Nat), s < 2 ^ n → lsumI (valP l) (pqL n d s) = halfF l n d s := by
  have h64 : 2 ^ n ≤ 2 ^ 6 := Nat.pow_le_pow_right (by omega) hn
  intro d
  induction d with
  | zero =>
    intro s _
    unfold pqL halfF
    split
    · simp [lsumI, valP, crs, entP, sn]
    · rfl
  | succ d ih =>
    intro s hs
    by_cases h0 : s = 0
    · subst h0
      rw [pqL_none, halfF_none]
      simp [lsumI, valP, crs, entP, sn]
    · rw [pqL_some n d h0, halfF_some l n d h0]
      have H : ∀ k, k ≤ n → lsumI (valP l) (pqT n d s k) = sumN (halfT l (lowB s) s (halfF l n d)) k := by
        intro k
        induction k with
        | zero => intro _; rfl
        | succ k ihk =>
          intro hk
          rw [pqT_step, lsumI_append, ihk (by omega)]
          show _ = _ + halfT l (lowB s) s (halfF l n d) k
          congr 1
          by_cases hc : lowB s < k ∧ s.testBit k = true
          · obtain ⟨b1, b2⟩ := btw_blw ⟨s, by omega⟩ ⟨k, by omega⟩ hc.1 hc.2 h0
            simp only at b1 b2
            rw [if_pos hc, halfT_yes _ hc.1 hc.2, lsumI_map, ← ih _ (two_less hs), sg_sn, ← Int.mul_assoc, ← lsumI_mulL]
            refine lsumI_congr _ fun q hq => ?_
            have hp := cr_par hn (lowB s) k (by omega) d _ (two_less hs) b2 q hq
            show sn (crN (lowB s, k) q + crs q) * (at2 l (lowB s) k * entP l q) = sn (btw s (lowB s) k) * at2 l (lowB s) k * (sn (crs q) * entP l q)
            rw [sn_add, sn_par hp, b1]
            grind
          · rw [if_neg hc, halfT_no _ hc]
            rfl
      exact H n (Nat.le_refl _)

/-- Has a pairing no entry 0? -/
def nzP (l : List (List Int)) (q : List (Nat × Nat)) : Bool := q.all fun p => decide (at2 l p.1 p.2 ≠ 0)
/-- The products that are not 0. -/
def prL (l : List (List Int)) (qs : List (List (Nat × Nat))) : List Int := (qs.filter (nzP l)).map (valP l)
theorem prL_snoc (l : List (List Int)) (qs : List (List (Nat × Nat))) (q : List (Nat × Nat)) : prL l (qs ++ [q]) = prL l qs ++ (if nzP l q = true then [valP l q] else []) := by
  unfold prL
  rw [List.filter_append, List.map_append]
  congr 1
  cases h : nzP l q <;> simp [h]
theorem entP_zero (l : List (List Int)) : ∀ q, nzP l q = false → entP l q = 0
  | [], h => by simp [nzP] at h
  | p :: q, h => by
    unfold entP
    by_cases e : at2 l p.1 p.2 = 0
    · rw [e, Int.zero_mul]
    · have : nzP l q = false := by simpa [nzP, e] using h
      rw [entP_zero l q this, Int.mul_zero]
theorem prL_sum (l : List (List Int)) : ∀ qs, lsumI id (prL l qs) = lsumI (valP l) qs
  | [] => rfl
  | q :: qs => by
    have ih := prL_sum l qs
    rw [show q :: qs = [q] ++ qs from rfl, lsumI_append]
    cases h : nzP l q with
    | true =>
      have e : prL l ([q] ++ qs) = [valP l q] ++ prL l qs := by simp [prL, h]
      rw [e, lsumI_append, ih]
      simp [lsumI]
    | false =>
      have e : prL l ([q] ++ qs) = prL l qs := by simp [prL, h]
      rw [e, ih]
      simp [lsumI, valP, entP_zero l q h]
theorem prL_count (l : List (List Int)) {n : Nat} : ∀ (d s : Nat), (prL l (pqL n d s)).length = cntF l n d s := by
  intro d
  have HL : ∀ qs, (prL l qs).length = (qs.filter (nzP l)).length := fun qs => by simp [prL]
  induction d with
  | zero =>
    intro s
    unfold pqL cntF
    split
    · rfl
    · rfl
  | succ d ih =>
    intro s
    by_cases h0 : s = 0
    · subst h0
      rw [pqL_none, cntF_none]; rfl
    · rw [pqL_some n d h0, cntF_some l n d h0]
      have H : ∀ k, (prL l (pqT n d s k)).length = sumM (cntT l (lowB s) s (cntF l n d)) k := by
        intro k
        induction k with
        | zero => rfl
        | succ k ihk =>
          rw [HL, pqT_step, List.filter_append, List.length_append, ← HL, ihk]
          show _ = _ + cntT l (lowB s) s (cntF l n d) k
          congr 1
          by_cases hc : lowB s < k ∧ s.testBit k = true
          · rw [if_pos hc]
            by_cases e : at2 l (lowB s) k = 0
            · rw [cntT_no _ (by simp [e])]
              have : ((pqL n d (s - 2 ^ lowB s - 2 ^ k)).map (List.cons (lowB s, k))).filter (nzP l) = [] := by
                rw [List.filter_eq_nil_iff]
                intro q hq
                obtain ⟨q', _, rfl⟩ := List.mem_map.1 hq
                simp [nzP, e]
              rw [this]; rfl
            · rw [cntT_yes _ ⟨hc, e⟩, ← ih, HL, List.filter_map, List.length_map]
              congr 1
              refine List.filter_congr fun q _ => ?_
              simp [nzP, e]
          · rw [if_neg hc, cntT_no _ (fun h => hc h.1)]; rfl
      exact H n
theorem pqL_len : ∀ n : Fin 7, (pqL n.val 3 (2 ^ n.val - 1)).length ≤ 15 := by decide +kernel
/-- The pairs of a pairing are of the set. -/
theorem pqL_mem {n : Nat} (hn : n ≤ 6) : ∀ (d s : Nat), s < 2 ^ n → ∀ q ∈ pqL n d s, 2 * q.length = popcS s ∧ ∀ p ∈ q, p.1 < p.2 ∧ p.2 < n := by
  have h64 : 2 ^ n ≤ 2 ^ 6 := Nat.pow_le_pow_right (by omega) hn
  have hp0 : popcS 0 = 0 := by decide
  intro d
  induction d with
  | zero =>
    intro s _ q hq
    unfold pqL at hq
    split at hq
    · rename_i h0
      subst h0
      simp only [List.mem_singleton] at hq
      subst hq
      exact ⟨hp0.symm, by simp⟩
    · simp at hq
  | succ d ih =>
    intro s hs q hq
    by_cases h0 : s = 0
    · subst h0
      rw [pqL_none] at hq
      simp only [List.mem_singleton] at hq
      subst hq
      exact ⟨hp0.symm, by simp⟩
    · rw [pqL_some n d h0] at hq
      simp only [pqT, List.mem_flatMap, List.mem_range] at hq
      obtain ⟨j, hj, hq⟩ := hq
      by_cases hc : lowB s < j ∧ s.testBit j = true
      · rw [if_pos hc] at hq
        obtain ⟨q', hq', rfl⟩ := List.mem_map.1 hq
        obtain ⟨l1, l2, _⟩ := lowB_fin ⟨s, by omega⟩ h0
        simp only at l1 l2
        obtain ⟨_, _, t3⟩ := two_off ⟨s, by omega⟩ ⟨lowB s, l2⟩ ⟨j, by omega⟩ hc.1 l1 hc.2
        simp only at t3
        obtain ⟨i1, i2⟩ := ih _ (two_less hs) q' hq'
        refine ⟨by rw [List.length_cons]; omega, fun p hp => ?_⟩
        rcases List.mem_cons.1 hp with rfl | hp
        · exact ⟨hc.1, hj⟩
        · exact i2 p hp
      · rw [if_neg hc] at hq
        simp at hq

end Go.Proofs.YtpimdgijjljejaaDoor
