import Derived.Test.YtbclpbgomkfabaaFnNetLastingLb
import Derived.LoopNIn
import Derived.Test.YtbclpbgomkfabaaRound
import Derived.OrdersHeld
import Derived.Test.YtbclpbgomkfabaaTabInImpl
import Derived.Test.YtbclpbgomkfabaaFnNetLastingLa
import Derived.OwnWalk
import Derived.Test.YtbclpbgomkfabaaL2Size
import Derived.Test.YtbclpbgomkfabaaSeqE
import Derived.Laws.EntriesVeiled
import Derived.RangeFuncBox
import Derived.Test.YtbclpbgomkfabaaMembers
import Derived.Test.YtbclpbgomkfabaaPartImpl
import Derived.Test.YtbclpbgomkfabaaHarn2
import Derived.Test.YtbclpbgomkfabaaOrdF
import Derived.Test.YtbclpbgomkfabaaRows
import Derived.Test.YtbclpbgomkfabaaData
import Derived.ProofKit
import Derived.Deep.Matrix

section
namespace Go.Proofs.Ytbclpbgomkfabaa
open Go.RowKit Go.Deep

theorem getD_at (x : List Int) {k : Nat} (h : k < x.length) : x.getD k 0 = x[k] := by simp [List.getD, h]

theorem besideL_top {l : List (List Int)} (u : List (List Int)) (hT : TabIn l) {r : Nat} (hr : r < l.length) : (besideL l u).getD r [] = l.getD r [] ++ List.replicate (u.getD 0 []).length 0 := by
  unfold besideL
  rw [tabF_get _ _ _ _ (by omega)]
  have hrl := hT.row hr
  obtain ⟨m, hm⟩ : ∃ m, (l.getD 0 []).length = m := ⟨_, rfl⟩
  obtain ⟨m2, hm2⟩ : ∃ m, (u.getD 0 []).length = m := ⟨_, rfl⟩
  obtain ⟨n, hn⟩ : ∃ n, l.length = n := ⟨_, rfl⟩
  rw [hm] at hrl ⊢
  rw [hm2]
  rw [hn] at hr ⊢
  refine List.ext_getElem (by rw [List.length_map, List.length_range, List.length_append, hrl, List.length_replicate]) fun k h1 h2 => ?_
  rw [List.length_map, List.length_range] at h1
  rw [List.getElem_map, List.getElem_range, List.getElem_append]
  unfold besideF
  by_cases hk : k < m
  · rw [if_pos ⟨hr, hk⟩, dif_pos (by rw [hrl]; exact hk)]
    exact getD_at _ _
  · rw [if_neg (by omega), if_neg (by omega), dif_neg (by rw [hrl]; exact hk), List.getElem_replicate]

theorem besideL_bot {u : List (List Int)} (l : List (List Int)) (hT : TabIn u) {r : Nat} (hr : r < u.length) : (besideL l u).getD (l.length + r) [] = List.replicate (l.getD 0 []).length 0 ++ u.getD r [] := by
  unfold besideL
  rw [tabF_get _ _ _ _ (by omega)]
  have hrl := hT.row hr
  obtain ⟨m, hm⟩ : ∃ m, (l.getD 0 []).length = m := ⟨_, rfl⟩
  obtain ⟨m2, hm2⟩ : ∃ m, (u.getD 0 []).length = m := ⟨_, rfl⟩
  obtain ⟨n, hn⟩ : ∃ n, l.length = n := ⟨_, rfl⟩
  rw [hm2] at hrl ⊢
  rw [hm]
  rw [hn]
  refine List.ext_getElem (by rw [List.length_map, List.length_range, List.length_append, hrl, List.length_replicate]) fun k h1 h2 => ?_
  rw [List.length_map, List.length_range] at h1
  rw [List.getElem_map, List.getElem_range, List.getElem_append]
  unfold besideF
  by_cases hk : k < m
  · rw [if_neg (by omega), if_neg (by omega), dif_pos (by rw [List.length_replicate]; exact hk), List.getElem_replicate]
  · rw [if_neg (by omega), if_pos ⟨by omega, by omega⟩, dif_neg (by rw [List.length_replicate]; exact hk)]
    unfold at2
    rw [show n + r - n = r by omega]
    simp only [List.length_replicate]
    exact getD_at _ _

noncomputable def besideOk (l u : List (List Int)) : Bool := tabIn l && (tabIn u && tabIn (besideL l u))
theorem szL_beside {l u : List (List Int)} (h : TabIn l) (hu : TabIn u) : szL (besideL l u) ≤ 1048576 :=
  szL_tabF _ _ _ (by have := h.2.1; have := hu.2.1; omega) (by have := h.width; have := hu.width; omega)
theorem szL_besideOk (l u : List (List Int)) (h : besideOk l u = true) : szL (besideL l u) ≤ 1048576 := by
  unfold besideOk at h
  rw [Bool.and_eq_true, Bool.and_eq_true] at h
  exact szL_beside (tabIn_of h.1) (tabIn_of h.2.1)

end Go.Proofs.Ytbclpbgomkfabaa
end

section
namespace Go.Proofs.Ytbclpbgomkfabaa
open Go.RowKit Go.Deep

theorem besideOk_ofR {l u : List (List Int)} (h : besideOk l u = true) : TabIn l ∧ TabIn u ∧ TabIn (besideL l u) := by
  unfold besideOk at h
  simp only [Bool.and_eq_true] at h
  exact ⟨tabIn_of h.1, tabIn_of h.2.1, tabIn_of h.2.2⟩
theorem besideL_widthR (l u : List (List Int)) (h : 1 ≤ l.length) : ((besideL l u).getD 0 []).length = (l.getD 0 []).length + (u.getD 0 []).length := tabF_len _ _ _ _ (by omega)

theorem dt_thin {N a b : Nat} (f : Nat → Nat → Int) (hab : b < a) (ha : a ≤ N) (h : ∀ i j, i < a → b ≤ j → j < N → f i j = 0) : dt N f = 0 := by
  obtain ⟨m, rfl⟩ : ∃ m, N = b + (m + 1) := ⟨N - b - 1, by omega⟩
  rw [dt_block (m + 1) b f (fun i j hi hj hN => h i j (by omega) hj hN), dt_succ, sumN_none _ (fun k hk => by rw [show f (b + 0) (b + k) = 0 from h _ _ (by omega) (by omega) (by omega)]; simp), Int.mul_zero]
theorem dt_thinT {N a b : Nat} (f : Nat → Nat → Int) (hab : a < b) (hb : b ≤ N) (h : ∀ i j, a ≤ i → i < N → j < b → f i j = 0) : dt N f = 0 := by
  rw [← dt_turn]
  exact dt_thin (fun i j => f j i) hab hb fun i j hi hj hN => h j i hj hN hi

theorem selN_two : ∀ n k : Fin 7, n.val + k.val ≤ 6 → ∀ r : Fin 64, r.val < 2 ^ (n.val + k.val) → popcS r.val = popcS (r.val % 2 ^ n.val) + popcS (r.val / 2 ^ n.val) ∧
    ∀ i : Fin 6, i.val < popcS r.val → selN r.val (n.val + k.val) i.val = if i.val < popcS (r.val % 2 ^ n.val) then selN (r.val % 2 ^ n.val) n.val i.val else n.val + selN (r.val / 2 ^ n.val) k.val (i.val - popcS (r.val % 2 ^ n.val)) := by decide +kernel

theorem at_beside {l u : List (List Int)} {i j : Nat} (hi : i < l.length + u.length) (hj : j < (l.getD 0 []).length + (u.getD 0 []).length) :
    at2 (besideL l u) i j = if i < l.length ∧ j < (l.getD 0 []).length then at2 l i j else if l.length ≤ i ∧ (l.getD 0 []).length ≤ j then at2 u (i - l.length) (j - (l.getD 0 []).length) else 0 := by
  unfold besideL
  exact tabF_at _ _ _ i j hi hj

theorem part_beside {l u : List (List Int)} {n m n2 m2 r c k i j : Nat} (hn : l.length = n) (hm : (l.getD 0 []).length = m) (hu : u.length = n2) (hmu : (u.getD 0 []).length = m2) (h1 : 1 ≤ n) (h6 : n + n2 ≤ 6) (m6 : m + m2 ≤ 6)
    (hr : r < 2 ^ (n + n2)) (hc : c < 2 ^ (m + m2)) (kr : popcS r = k) (kc : popcS c = k) (hi : i < k) (hj : j < k) :
    at2 (partL (besideL l u) r c) i j = if i < popcS (r % 2 ^ n) ∧ j < popcS (c % 2 ^ m) then at2 (partL l (r % 2 ^ n) (c % 2 ^ m)) i j else
      if popcS (r % 2 ^ n) ≤ i ∧ popcS (c % 2 ^ m) ≤ j then at2 (partL u (r / 2 ^ n) (c / 2 ^ m)) (i - popcS (r % 2 ^ n)) (j - popcS (c % 2 ^ m)) else 0 := by
  have p1 : 2 ^ (n + n2) ≤ 2 ^ 6 := Nat.pow_le_pow_right (by omega) h6
  have p2 : 2 ^ (m + m2) ≤ 2 ^ 6 := Nat.pow_le_pow_right (by omega) m6
  have e1 : (besideL l u).length = n + n2 := by unfold besideL; rw [tabF_length, hn, hu]
  have e2 : ((besideL l u).getD 0 []).length = m + m2 := by rw [besideL_widthR l u (by omega), hm, hmu]
  have a1 := popcS_sel ⟨n + n2, by omega⟩ ⟨r, by omega⟩ hr
  have a2 := popcS_sel ⟨m + m2, by omega⟩ ⟨c, by omega⟩ hc
  obtain ⟨b1, b2⟩ := selN_two ⟨n, by omega⟩ ⟨n2, by omega⟩ h6 ⟨r, by omega⟩ hr
  obtain ⟨d1, d2⟩ := selN_two ⟨m, by omega⟩ ⟨m2, by omega⟩ m6 ⟨c, by omega⟩ hc
  have hk6 := popcS_le r
  have q1 : r % 2 ^ n < 2 ^ n := Nat.mod_lt _ (Nat.pow_pos (by omega))
  have q2 : c % 2 ^ m < 2 ^ m := Nat.mod_lt _ (Nat.pow_pos (by omega))
  have q3 : r / 2 ^ n < 2 ^ n2 := Nat.div_lt_of_lt_mul (by rw [← Nat.pow_add]; exact hr)
  have q4 : c / 2 ^ m < 2 ^ m2 := Nat.div_lt_of_lt_mul (by rw [← Nat.pow_add]; exact hc)
  have g1 : 2 ^ n ≤ 2 ^ 6 := Nat.pow_le_pow_right (by omega) (by omega)
  have g2 : 2 ^ m ≤ 2 ^ 6 := Nat.pow_le_pow_right (by omega) (by omega)
  have g3 : 2 ^ n2 ≤ 2 ^ 6 := Nat.pow_le_pow_right (by omega) (by omega)
  have g4 : 2 ^ m2 ≤ 2 ^ 6 := Nat.pow_le_pow_right (by omega) (by omega)
  have t1 := popcS_sel ⟨n, by omega⟩ ⟨r % 2 ^ n, by omega⟩ q1
  have t2 := popcS_sel ⟨m, by omega⟩ ⟨c % 2 ^ m, by omega⟩ q2
  have t3 := popcS_sel ⟨n2, by omega⟩ ⟨r / 2 ^ n, by omega⟩ q3
  have t4 := popcS_sel ⟨m2, by omega⟩ ⟨c / 2 ^ m, by omega⟩ q4
  have f1 := b2 ⟨i, by omega⟩ (by show i < popcS r; omega)
  have f2 := d2 ⟨j, by omega⟩ (by show j < popcS c; omega)
  simp only at a1 a2 b1 d1 t1 t2 t3 t4 f1 f2
  rw [partL_at _ r c (by rw [e1, a1]; omega) (by rw [e2, a2]; omega), e1, e2, f1, f2]
  have s1 : ∀ x, x < popcS (r % 2 ^ n) → selN (r % 2 ^ n) n x < n := fun x hx => selN_lt (by omega)
  have s2 : ∀ x, x < popcS (c % 2 ^ m) → selN (c % 2 ^ m) m x < m := fun x hx => selN_lt (by omega)
  have s3 : ∀ x, x < popcS (r / 2 ^ n) → selN (r / 2 ^ n) n2 x < n2 := fun x hx => selN_lt (by omega)
  have s4 : ∀ x, x < popcS (c / 2 ^ m) → selN (c / 2 ^ m) m2 x < m2 := fun x hx => selN_lt (by omega)
  by_cases hi1 : i < popcS (r % 2 ^ n)
  · have := s1 i hi1
    by_cases hj1 : j < popcS (c % 2 ^ m)
    · have := s2 j hj1
      rw [if_pos hi1, if_pos hj1, if_pos ⟨hi1, hj1⟩, at_beside (by omega) (by omega), if_pos (by omega), partL_at l _ _ (by rw [hn, t1]; exact hi1) (by rw [hm, t2]; exact hj1), hn, hm]
    · rw [if_pos hi1, if_neg hj1, if_neg (by omega), if_neg (by omega)]
      have := s4 (j - popcS (c % 2 ^ m)) (by omega)
      rw [at_beside (by omega) (by omega), if_neg (by omega), if_neg (by omega)]
  · have := s3 (i - popcS (r % 2 ^ n)) (by omega)
    by_cases hj1 : j < popcS (c % 2 ^ m)
    · have := s2 j hj1
      rw [if_neg hi1, if_pos hj1, if_neg (by omega), if_neg (by omega), at_beside (by omega) (by omega), if_neg (by omega), if_neg (by omega)]
    · have := s4 (j - popcS (c % 2 ^ m)) (by omega)
      rw [if_neg hi1, if_neg hj1, if_neg (by omega), if_pos (by omega), at_beside (by omega) (by omega), if_neg (by omega), if_pos (by omega), partL_at u _ _ (by rw [hu, t3]; omega) (by rw [hmu, t4]; omega), hu, hmu, hn, hm,
        show n + selN (r / 2 ^ n) n2 (i - popcS (r % 2 ^ n)) - n = selN (r / 2 ^ n) n2 (i - popcS (r % 2 ^ n)) by omega, show m + selN (c / 2 ^ m) m2 (j - popcS (c % 2 ^ m)) - m = selN (c / 2 ^ m) m2 (j - popcS (c % 2 ^ m)) by omega]

theorem minor_beside {l u : List (List Int)} {n m n2 m2 r c k : Nat} (hn : l.length = n) (hm : (l.getD 0 []).length = m) (hu : u.length = n2) (hmu : (u.getD 0 []).length = m2) (h1 : 1 ≤ n) (h6 : n + n2 ≤ 6) (m6 : m + m2 ≤ 6)
    (hr : r < 2 ^ (n + n2)) (hc : c < 2 ^ (m + m2)) (kr : popcS r = k) (kc : popcS c = k) :
    (popcS (r % 2 ^ n) = popcS (c % 2 ^ m) → dt k (at2 (partL (besideL l u) r c)) = dt (popcS (r % 2 ^ n)) (at2 (partL l (r % 2 ^ n) (c % 2 ^ m))) * dt (popcS (r / 2 ^ n)) (at2 (partL u (r / 2 ^ n) (c / 2 ^ m)))) ∧
    (popcS (r % 2 ^ n) ≠ popcS (c % 2 ^ m) → dt k (at2 (partL (besideL l u) r c)) = 0) := by
  have p1 : 2 ^ (n + n2) ≤ 2 ^ 6 := Nat.pow_le_pow_right (by omega) h6
  have p2 : 2 ^ (m + m2) ≤ 2 ^ 6 := Nat.pow_le_pow_right (by omega) m6
  have hat := fun i j (hi : i < k) (hj : j < k) => part_beside (i := i) (j := j) hn hm hu hmu h1 h6 m6 hr hc kr kc hi hj
  have b1 := (selN_two ⟨n, by omega⟩ ⟨n2, by omega⟩ h6 ⟨r, by omega⟩ hr).1
  have d1 := (selN_two ⟨m, by omega⟩ ⟨m2, by omega⟩ m6 ⟨c, by omega⟩ hc).1
  simp only at b1 d1
  obtain ⟨x, hx⟩ : ∃ x, popcS (r % 2 ^ n) = x := ⟨_, rfl⟩
  obtain ⟨y, hy⟩ : ∃ y, popcS (c % 2 ^ m) = y := ⟨_, rfl⟩
  obtain ⟨x2, hx2⟩ : ∃ x, popcS (r / 2 ^ n) = x := ⟨_, rfl⟩
  rw [hx, hy] at hat ⊢
  rw [hx] at b1
  rw [hy] at d1
  rw [hx2] at b1 ⊢
  refine ⟨fun e => ?_, fun e => ?_⟩
  · subst e
    have hk : k = x + x2 := by omega
    subst hk
    rw [dt_block x2 x _ (fun i j hi hj hN => by rw [hat i j (by omega) hN, if_neg (by omega), if_neg (by omega)])]
    congr 1
    · exact dt_congr x fun i j hi hj => by rw [hat i j (by omega) (by omega), if_pos ⟨hi, hj⟩]
    · exact dt_congr x2 fun i j hi hj => by
        rw [hat _ _ (by omega) (by omega), if_neg (by omega), if_pos (by omega), show x + i - x = i by omega, show x + j - x = j by omega]
  · by_cases hlt : y < x
    · exact dt_thin _ hlt (by omega) fun i j hi hj hN => by rw [hat i j (by omega) hN, if_neg (by omega), if_neg (by omega)]
    · exact dt_thinT _ (show x < y by omega) (by omega) fun i j hi hN hj => by rw [hat i j hN (by omega), if_neg (by omega), if_neg (by omega)]

theorem two_sets : ∀ n k : Fin 7, n.val + k.val ≤ 6 → ∀ r s : Fin 64, r.val < 2 ^ n.val → s.val < 2 ^ k.val → r.val + 2 ^ n.val * s.val < 2 ^ (n.val + k.val) ∧ (r.val + 2 ^ n.val * s.val) % 2 ^ n.val = r.val ∧ (r.val + 2 ^ n.val * s.val) / 2 ^ n.val = s.val := by
  intro n k hnk r s hr hs
  refine ⟨?_, ?_, ?_⟩
  · rw [Nat.pow_add]
    have : 2 ^ n.val * s.val + 2 ^ n.val ≤ 2 ^ n.val * 2 ^ k.val := by
      rw [← Nat.mul_succ]; exact Nat.mul_le_mul_left _ hs
    omega
  · rw [Nat.add_mul_mod_self_left, Nat.mod_eq_of_lt hr]
  · rw [Nat.add_mul_div_left _ _ (Nat.pow_pos (by omega)), Nat.div_eq_of_lt hr, Nat.zero_add]

theorem rank_minor {l : List (List Int)} {n m : Nat} (hn : n ≤ 6) (hm : m ≤ 6) : ∃ r c, r < 2 ^ n ∧ c < 2 ^ m ∧ popcS r = rkR l (2 ^ m) (2 ^ n) ∧ popcS c = rkR l (2 ^ m) (2 ^ n) ∧ dt (rkR l (2 ^ m) (2 ^ n)) (at2 (partL l r c)) ≠ 0 := by
  by_cases h0 : 1 ≤ rkR l (2 ^ m) (2 ^ n)
  · obtain ⟨_, _, a3⟩ := rank_down (l := l) (n := n) (m := m) hn hm
    cases hb : hasB l (rkR l (2 ^ m) (2 ^ n)) (2 ^ n) (2 ^ m) with
    | false => exact absurd rfl ((a3 _ h0).2 hb)
    | true =>
      obtain ⟨r, c, ⟨r1, r2⟩, ⟨c1, c2⟩, hd⟩ := hasB_iff.1 hb
      exact ⟨r, c, r1, c1, r2, c2, hd⟩
  · have e : rkR l (2 ^ m) (2 ^ n) = 0 := by omega
    have p0 : popcS 0 = 0 := by decide
    rw [e]
    exact ⟨0, 0, Nat.pow_pos (by omega), Nat.pow_pos (by omega), p0, p0, by rw [dt_zero]; omega⟩
theorem rank_ge {l : List (List Int)} {n m r c k : Nat} (hn : n ≤ 6) (hm : m ≤ 6) (hr : r < 2 ^ n) (hc : c < 2 ^ m) (kr : popcS r = k) (kc : popcS c = k) (hd : dt k (at2 (partL l r c)) ≠ 0) : k ≤ rkR l (2 ^ m) (2 ^ n) := by
  by_cases h0 : 1 ≤ k
  · obtain ⟨_, _, a3⟩ := rank_down (l := l) (n := n) (m := m) hn hm
    exact (a3 k h0).1 (hasB_iff.2 ⟨r, c, ⟨hr, kr⟩, ⟨hc, kc⟩, hd⟩)
  · omega

theorem rank_beside {l u : List (List Int)} {n m n2 m2 : Nat} (hn : l.length = n) (hm : (l.getD 0 []).length = m) (hu : u.length = n2) (hmu : (u.getD 0 []).length = m2) (h1 : 1 ≤ n) (h6 : n + n2 ≤ 6) (m6 : m + m2 ≤ 6) :
    rkR (besideL l u) (2 ^ (m + m2)) (2 ^ (n + n2)) = rkR l (2 ^ m) (2 ^ n) + rkR u (2 ^ m2) (2 ^ n2) := by
  have g1 : 2 ^ n ≤ 2 ^ 6 := Nat.pow_le_pow_right (by omega) (by omega)
  have g2 : 2 ^ m ≤ 2 ^ 6 := Nat.pow_le_pow_right (by omega) (by omega)
  have g3 : 2 ^ n2 ≤ 2 ^ 6 := Nat.pow_le_pow_right (by omega) (by omega)
  have g4 : 2 ^ m2 ≤ 2 ^ 6 := Nat.pow_le_pow_right (by omega) (by omega)
  have p1 : 2 ^ (n + n2) ≤ 2 ^ 6 := Nat.pow_le_pow_right (by omega) h6
  have p2 : 2 ^ (m + m2) ≤ 2 ^ 6 := Nat.pow_le_pow_right (by omega) m6
  have q1 : rkR l (2 ^ m) (2 ^ n) + rkR u (2 ^ m2) (2 ^ n2) ≤ rkR (besideL l u) (2 ^ (m + m2)) (2 ^ (n + n2)) := by
    obtain ⟨r, c, a1, a2, a3, a4, a5⟩ := rank_minor (l := l) (n := n) (m := m) (by omega) (by omega)
    obtain ⟨s, d, b1, b2, b3, b4, b5⟩ := rank_minor (l := u) (n := n2) (m := m2) (by omega) (by omega)
    obtain ⟨t1, t2, t3⟩ := two_sets ⟨n, by omega⟩ ⟨n2, by omega⟩ h6 ⟨r, by omega⟩ ⟨s, by omega⟩ a1 b1
    obtain ⟨v1, v2, v3⟩ := two_sets ⟨m, by omega⟩ ⟨m2, by omega⟩ m6 ⟨c, by omega⟩ ⟨d, by omega⟩ a2 b2
    simp only at t1 t2 t3 v1 v2 v3
    have k1 := (selN_two ⟨n, by omega⟩ ⟨n2, by omega⟩ h6 ⟨r + 2 ^ n * s, by omega⟩ t1).1
    have k2 := (selN_two ⟨m, by omega⟩ ⟨m2, by omega⟩ m6 ⟨c + 2 ^ m * d, by omega⟩ v1).1
    simp only at k1 k2
    rw [t2, t3, a3, b3] at k1
    rw [v2, v3, a4, b4] at k2
    have e := (minor_beside hn hm hu hmu h1 h6 m6 t1 v1 k1 k2).1 (by rw [t2, v2, a3, a4])
    rw [t2, t3, v2, v3, a3, b3] at e
    exact rank_ge h6 m6 t1 v1 k1 k2 (by rw [e]; exact Int.mul_ne_zero a5 b5)
  have q2 : rkR (besideL l u) (2 ^ (m + m2)) (2 ^ (n + n2)) ≤ rkR l (2 ^ m) (2 ^ n) + rkR u (2 ^ m2) (2 ^ n2) := by
    obtain ⟨r, c, a1, a2, a3, a4, a5⟩ := rank_minor (l := besideL l u) (n := n + n2) (m := m + m2) h6 m6
    obtain ⟨e1, e2⟩ := minor_beside hn hm hu hmu h1 h6 m6 a1 a2 a3 a4
    by_cases hxy : popcS (r % 2 ^ n) = popcS (c % 2 ^ m)
    · rw [e1 hxy] at a5
      have k1 := (selN_two ⟨n, by omega⟩ ⟨n2, by omega⟩ h6 ⟨r, by omega⟩ a1).1
      have k2 := (selN_two ⟨m, by omega⟩ ⟨m2, by omega⟩ m6 ⟨c, by omega⟩ a2).1
      simp only at k1 k2
      have h1' : dt (popcS (r % 2 ^ n)) (at2 (partL l (r % 2 ^ n) (c % 2 ^ m))) ≠ 0 := fun h => a5 (by rw [h, Int.zero_mul])
      have h2' : dt (popcS (r / 2 ^ n)) (at2 (partL u (r / 2 ^ n) (c / 2 ^ m))) ≠ 0 := fun h => a5 (by rw [h, Int.mul_zero])
      have z1 := rank_ge (l := l) (n := n) (m := m) (by omega) (by omega) (Nat.mod_lt r (Nat.pow_pos (by omega))) (Nat.mod_lt c (Nat.pow_pos (by omega))) rfl hxy.symm h1'
      have z2 := rank_ge (l := u) (n := n2) (m := m2) (by omega) (by omega) (Nat.div_lt_of_lt_mul (by rw [← Nat.pow_add]; exact a1)) (Nat.div_lt_of_lt_mul (by rw [← Nat.pow_add]; exact a2)) rfl (show popcS (c / 2 ^ m) = popcS (r / 2 ^ n) by omega) h2'
      omega
    · exact absurd (e2 hxy) a5
  omega

theorem value_beside {l u : List (List Int)} {n n2 : Nat} (hn : l.length = n) (hm : (l.getD 0 []).length = n) (hu : u.length = n2) (hmu : (u.getD 0 []).length = n2) (h6 : n + n2 ≤ 6) : ordF (besideL l u) (n + n2) (n + n2) 0 = ordF l n n 0 * ordF u n2 n2 0 := by
  rw [ordF_all _ h6, ordF_all _ (by omega), ordF_all _ (by omega), dt_block n2 n _ (fun i j hi hj hN => by rw [at_beside (by omega) (by omega), if_neg (by omega), if_neg (by omega)])]
  congr 1
  · exact dt_congr n fun i j hi hj => by rw [at_beside (by omega) (by omega), if_pos (by omega)]
  · exact dt_congr n2 fun i j hi hj => by
      rw [at_beside (by omega) (by omega), if_neg (by omega), if_pos (by omega), hn, hm, show n + i - n = i by omega, show n + j - n = j by omega]

end Go.Proofs.Ytbclpbgomkfabaa
end

section
namespace Go.Proofs.Ytbclpbgomkfabaa

theorem selp_len : ∀ n : Fin 6, ∀ s : Fin 32, s.val < 2 ^ n.val → (sel s.val n.val n.val).length = popcS s.val := by decide +kernel
theorem net_minor {n : Nat} (h5 : n ≤ 5) {cs : List CH} (h : ∀ c ∈ cs, chOk n c) {l : List (List Int)} (hl : l.length = n) (hw : (l.getD 0 []).length = n) (ht : ∀ i k, i < n → k < n → at2 l i k = netM n cs i k)
    {s t : Nat} (hs : s < 2 ^ n) (htt : t < 2 ^ n) (hp : popcS s = popcS t) : dt (popcS s) (at2 (partL l s t)) = famN cs s t := by
  have p5 : 2 ^ n ≤ 2 ^ 5 := Nat.pow_le_pow_right (by omega) h5
  have l1 := selp_len ⟨n, by omega⟩ ⟨s, by omega⟩ hs
  have l2 := selp_len ⟨n, by omega⟩ ⟨t, by omega⟩ htt
  have q1 := popc_le5 ⟨n, by omega⟩ ⟨s, by omega⟩ hs
  simp only at l1 l2 q1
  rw [fam_minor h5 cs h s t hs htt hp]
  refine dt_congr _ fun i j hi hj => ?_
  have i1 := (seln_in ⟨n, by omega⟩ ⟨s, by omega⟩ hs ⟨i, by omega⟩ hi).1
  have i2 := (seln_in ⟨n, by omega⟩ ⟨t, by omega⟩ htt ⟨j, by omega⟩ (by simp only; omega)).1
  rw [partL_at l s t (by rw [hl, l1]; exact hi) (by rw [hw, l2]; omega), hl, hw]
  exact ht _ _ i1 i2
theorem net_most {n : Nat} (h5 : n ≤ 5) {cs : List CH} (h : ∀ c ∈ cs, chOk n c) {l : List (List Int)} (hl : l.length = n) (hw : (l.getD 0 []).length = n) (ht : ∀ i k, i < n → k < n → at2 l i k = netM n cs i k) {M : Nat}
    (h1 : ∃ s t, s < 2 ^ n ∧ t < 2 ^ n ∧ popcS s = M ∧ popcS t = M ∧ 0 < famN (cs.map oneZ) s t) (h2 : ∀ s t, s < 2 ^ n → t < 2 ^ n → popcS s = popcS t → 0 < famN (cs.map oneZ) s t → popcS s ≤ M) :
    rkR l (2 ^ n) (2 ^ n) ≤ M ∧ ((∀ c ∈ cs, 0 ≤ c.2.2) → rkR l (2 ^ n) (2 ^ n) = M) := by
  have hle : rkR l (2 ^ n) (2 ^ n) ≤ M := by
    obtain ⟨r, c, hr, hc, kr, kc, hd⟩ := rank_minor (l := l) (n := n) (m := n) (by omega) (by omega)
    have e := net_minor h5 h hl hw ht hr hc (kr.trans kc.symm)
    rw [kr] at e
    have := h2 r c hr hc (kr.trans kc.symm) (fam_some cs r c (by rw [← e]; exact hd))
    omega
  refine ⟨hle, fun hp => ?_⟩
  obtain ⟨s, t, hs, htt, ks, kt, hf⟩ := h1
  have e := net_minor h5 h hl hw ht hs htt (ks.trans kt.symm)
  rw [ks] at e
  have hpos := fam_plain cs hp s t hf
  have := rank_ge (l := l) (n := n) (m := n) (by omega) (by omega) hs htt ks kt (by rw [e]; omega)
  omega

end Go.Proofs.Ytbclpbgomkfabaa
end

section
namespace Go.Proofs.Ytbclpbgomkfabaa
open Go.RowKit Go.Deep Go.Shelf
attribute [local go_sem] Oper.semAt_some

set_option maxHeartbeats 400000 in
theorem hasKth_any (a : Option Addr) (cap n m k : Nat) (l : List (List Int)) (w : World) (hn : l.length = n) (hT : TabIn l) (hmm : (l.getD 0 []).length = m) (hm : MatR w a l) :
    Calls Try.prog 140 #[.slice a n cap, .int .i64 k] w fun e w' => e = .returned (.bool (inB k 0 (min n m : Nat))) ∧ w = w' := by
  have h6 := hT.2.1
  have h1 := hT.1
  rw [hn] at h6 h1
  have EW := width_any a cap n l w hn (by omega) (by omega) hm
  rw [hmm] at EW
  have EI := Lib.hid (fun x => inRange_any k 0 x w)
  replace EW := Lib.hid EW
  clear hn hT hmm hm
  have hmi : ((min n m : Nat) : Int) = min (n : Int) (m : Int) := by omega
  rw [hmi]
  go_enter Try.func140, Try.ntmps140
  go_wp2_with fail
  refine (EW.out).mono ?_
  rintro e w2 ⟨rfl, rfl⟩
  go_wp2_with fail
  all_goals
    refine (EI.out _).mono ?_
    rintro e w3 ⟨rfl, rfl⟩
    go_wp2
    go_ret
    first
      | (have e : min (n : Int) (m : Int) = m := by omega
         rw [e]; exact ⟨rfl, rfl⟩)
      | (have e : min (n : Int) (m : Int) = n := by omega
         rw [e]; exact ⟨rfl, rfl⟩)

def mkD (Ds : List Nat) : List Deferred := Ds.map fun D => { target := .collected D, args := #[] }
def MK (B C : Nat) (Ds : List Nat) (W : World) : Prop := Ds.Nodup ∧ ∀ D ∈ Ds, B ≤ D ∧ D < C ∧ W.heap[D]? = some (.deferred (some []))
theorem MK.grown {B C : Nat} {Ds : List Nat} {X Y : World} {row : Option Nat} (h : MK B C Ds X) (hg : X.grownBy Y row) (hr : ∀ r, row = some r → C ≤ r) : MK B C Ds Y :=
  ⟨h.1, fun D hD => by
    obtain ⟨h1, h2, h3⟩ := h.2 D hD
    exact ⟨h1, h2, (hg.block D (Array.getElem?_eq_some_iff.1 h3).1 (fun e => by have := hr D e.symm; omega)).trans h3⟩⟩
theorem MK.keeps {B C : Nat} {Ds : List Nat} {X Y : World} {own : Nat → Prop} (h : MK B C Ds X) (hk : Keeps own X Y) (ho : ∀ q, own q → q < B) : MK B C Ds Y :=
  ⟨h.1, fun D hD => by
    obtain ⟨h1, h2, h3⟩ := h.2 D hD
    exact ⟨h1, h2, hk.same D _ (fun e => by have := ho D e; omega) h3⟩⟩
theorem MK.mono {B C C' : Nat} {Ds : List Nat} {X : World} (h : MK B C Ds X) (hc : C ≤ C') : MK B C' Ds X := ⟨h.1, fun D hD => by
  obtain ⟨h1, h2, h3⟩ := h.2 D hD
  exact ⟨h1, by omega, h3⟩⟩
theorem MK.cons {B C C' D : Nat} {Ds : List Nat} {X : World} (h : MK B C Ds X) (hB : B ≤ C) (hD : C ≤ D) (hD2 : D < C') (hK : X.heap[D]? = some (.deferred (some []))) : MK B C' (D :: Ds) X :=
  ⟨List.nodup_cons.2 ⟨fun e => by have := (h.2 D e).2.1; omega, h.1⟩, fun E hE => by
    rcases List.mem_cons.1 hE with e | e
    · subst e; exact ⟨by omega, hD2, hK⟩
    · obtain ⟨h1, h2, h3⟩ := h.2 E e
      exact ⟨h1, by omega, h3⟩⟩
theorem leaves_marks {F : Fence} {n : Nat} {P : Program} {fn : Func} {tmps : Array Value} {R : Ending → World → Prop} {B C : Nat} (T : World → Prop) (hT : ∀ X D, T X → B ≤ D → T (X.putObj D (.deferred none))) (hfin : ∀ X, T X → LeavesIn F n P fn tmps R [] .returning X) :
    ∀ (Ds : List Nat) (W : World), MK B C Ds W → T W → LeavesInM F n P fn tmps R (mkD Ds) .returning W
  | [], W, _, h => hfin W h
  | D :: Ds, W, hm, h => by
    obtain ⟨h1, h2⟩ := hm
    rw [List.nodup_cons] at h1
    obtain ⟨g1, _, g2⟩ := h2 D (by simp)
    refine ⟨by simp, .inl ⟨_, _, rfl, run_takeDeferred g2, ?_⟩⟩
    refine leaves_marks (C := C) T hT hfin Ds _ (⟨h1.2, fun E hE => ?_⟩ : MK B C Ds _) (hT _ _ h g1)
    obtain ⟨q1, q3, q2⟩ := h2 E (by simp [hE])
    exact ⟨q1, q3, (World.putObj_heap_other (fun e => h1.1 (by first | exact e ▸ hE | (subst e; exact hE)))).trans q2⟩
structure AB (n₀ : Nat) (w0 : World) (Bt By lp : Nat) (a : Option Addr) (n cap : Nat) (X : World) : Prop where
  bt : X.cell? ⟨Bt, 0, none⟩ = some (.slice a n cap)
  yb : X.cell? ⟨By, 0, none⟩ = some (.func (.yield lp) #[] #[])
  old : OldT n₀ w0 X
theorem AB.grown {n₀ : Nat} {w0 : World} {Bt By lp : Nat} {a : Option Addr} {n cap : Nat} {X Y : World} {row : Option Nat} {B : Nat} (h : AB n₀ w0 Bt By lp a n cap X) (hz : n₀ ≤ X.heap.size) (h1 : n₀ ≤ B ∧ Bt < B ∧ By < B) (hg : X.grownBy Y row) (hr : ∀ r, row = some r → B ≤ r) : AB n₀ w0 Bt By lp a n cap Y :=
  ⟨cell_own h.bt h1.2.1 hg hr, cell_own h.yb h1.2.2 hg hr, h.old.grown hz hg (fun r e => by have := hr r e; omega)⟩
theorem AB.keeps {n₀ : Nat} {w0 : World} {Bt By lp : Nat} {a : Option Addr} {n cap : Nat} {X Y : World} {own : Nat → Prop} (h : AB n₀ w0 Bt By lp a n cap X) (hz : n₀ ≤ X.heap.size) (hk : Keeps own X Y) (ho : ∀ q, own q → n₀ ≤ q ∧ q ≠ Bt ∧ q ≠ By) : AB n₀ w0 Bt By lp a n cap Y :=
  ⟨hk.cell (a := ⟨Bt, 0, none⟩) (fun e => (ho _ e).2.1 rfl) h.bt, hk.cell (a := ⟨By, 0, none⟩) (fun e => (ho _ e).2.2 rfl) h.yb, h.old.keeps hz hk (fun q e => (ho q e).1)⟩

theorem partsTo_len {n m : Nat} (h6 : n ≤ 6) (hm : m ≤ 6) : ∀ j, (partsTo n m j).length ≤ j * 4096
  | 0 => by simp [partsTo]
  | j + 1 => by
    have h1 := partsTo_len h6 hm j
    have h2 := flat_len (j + 1) m hm (setsTo (j + 1) (2 ^ n))
    have h3 := setsTo_len (j + 1) (2 ^ n)
    have p : 2 ^ n ≤ 2 ^ 6 := Nat.pow_le_pow_right (by omega) h6
    have h4 : (setsTo (j + 1) (2 ^ n)).length * 64 ≤ 64 * 64 := Nat.mul_le_mul_right 64 (by omega)
    show (partsTo n m j ++ partsK (j + 1) n m).length ≤ _
    rw [List.length_append]
    have e : (partsK (j + 1) n m).length = ((setsTo (j + 1) (2 ^ n)).flatMap (prow (j + 1) m)).length := rfl
    omega

set_option maxRecDepth 100000 in
set_option maxHeartbeats 2000000 in
theorem all_seqE (f : Nat) (hf : 16 ≤ f) (Bt n m cap : Nat) (a : Option Addr) (l : List (List Int)) (w0 w : World) (hn : l.length = n) (hT : TabIn l) (hmm : (l.getD 0 []).length = m) (hm : MatR w0 a l) (hold : OldT w0.heap.size w0 w) (_hz0 : w0.heap.size ≤ w.heap.size) (hBt : w0.heap.size ≤ Bt) (ct : w.cell? ⟨Bt, 0, none⟩ = some (.slice a n cap)) :
    SeqE Fence.wide f Try.prog 139 #[.pointer (some ⟨Bt, 0, none⟩)] encP (fun x _ => x ∈ partsA n m) (fun q => q < w0.heap.size ∨ q = Bt) (fun ys => ys = partsA n m) (fun _ => True) 32768 w := by
  intro lp J Jx own W hW hown hJ hJx hY hj
  have h6 := hT.2.1
  have h1 := hT.1
  have hw := hT.width
  rw [hn] at h6 h1
  rw [hmm] at hw
  have lt := World.block_lt_of_cell? _ _ ct
  simp only at lt
  have c1 := (hW.cell (p := ⟨Bt, 0, none⟩) lt).trans ct
  have hWz := hW.size
  have hOW : OldT w0.heap.size w0 W := fun q hq => (hW.block q (by omega)).trans (hold q hq)
  have hso : ∀ q, own q → w0.heap.size ≤ q ∧ q ≠ Bt ∧ q < W.heap.size := fun q hq => by
    obtain ⟨g1, g2⟩ := hown q hq
    exact ⟨by
      by_cases e : q < w0.heap.size
      · exact absurd (.inl e) g2
      · omega, fun e => g2 (.inr e), g1⟩
  have EK := Lib.hid (fun (k : Nat) (V : World) (h : OldT w0.heap.size w0 V) => hasKth_any a cap n m k l V hn hT hmm (hm.oldT h))
  have HSEQ := Lib.hid (fun (g : Nat) (hg : 12 ≤ g) (Bt' Bk' k : Nat) (V : World) => kth_seqE g hg Bt' Bk' n m cap k a l w0 V hn hT hmm hm)
  clear hold ct hm hmm hT hn
  refine callsIn_of_wp_marks Try.func139 rfl trivial ?_ rfl
  simp only [Try.ntmps139, List.size_toArray, List.length_cons, List.length_nil, Nat.reduceAdd, Nat.reduceSub, Array.replicate_succ, Array.replicate_zero, List.push_toArray, List.append_toArray, List.nil_append, List.cons_append]
  have c2 : (W.alloc (.cells #[.func (.yield lp) #[] #[]] 54)).cell? ⟨Bt, 0, none⟩ = _ := cell_alloc_l _ c1
  have y0 : (W.alloc (.cells #[.func (.yield lp) #[] #[]] 54)).cell? ⟨W.heap.size, 0, none⟩ = _ := (cell_new_l W _ _).1
  have hg1 := World.grownBy_alloc W (.cells #[.func (.yield lp) #[] #[]] 54) none
  have hA1 : AB w0.heap.size w0 Bt W.heap.size lp a n cap (W.alloc (.cells #[.func (.yield lp) #[] #[]] 54)) := ⟨c2, y0, hOW.grown (by omega) hg1 (fun r e => by cases e)⟩
  have hj1 := hJ.alloc (.cells #[.func (.yield lp) #[] #[]] 54) hj
  have hso3 : ∀ q, own q → w0.heap.size ≤ q ∧ q ≠ Bt ∧ q ≠ W.heap.size := fun q hq => by have := hso q hq; omega
  gi_wp2
  refine wpIn_loop (fun a' X => ∃ (j : Nat) (Ds : List Nat) (u6 u7 u8 u9 u10 u11 u12 u13 : Value), 1 ≤ j ∧ j ≤ min n m + 1 ∧ a' = { tmps := #[.func (.yield lp) #[] #[], .pointer (some ⟨Bt, 0, none⟩), .pointer (some ⟨W.heap.size, 0, none⟩), .int .i64 (j : Int), undef, undef, u6, u7, u8, u9, u10, u11, u12, u13, undef, undef, undef, undef, undef, undef, undef], defers := mkD Ds } ∧ J (partsTo n m (j - 1)) X ∧ AB w0.heap.size w0 Bt W.heap.size lp a n cap X ∧ MK W.heap.size X.heap.size Ds X ∧ W.heap.size + 1 ≤ X.heap.size)
    (fun a' _ => 8 - (intOf (a'.tmps.getD 3 undef)).toNat) ⟨1, [], _, _, _, _, _, _, _, _, Nat.le_refl _, by omega, rfl, hj1, hA1, ⟨List.nodup_nil, fun D hD => by cases hD⟩, by simp⟩ ?_
  rintro a' X ⟨j, Ds, u6, u7, u8, u9, u10, u11, u12, u13, hj1', hj2, rfl, hjx, hAX, hMK, hzX⟩
  have EKj := Lib.hid (EK.out j X hAX.old)
  have cT := hAX.bt
  by_cases hjm : j ≤ min n m
  · have hin : inB (j : Int) 0 (min n m : Nat) = true := by simp [inB]; omega
    rw [hin] at EKj
    gi_wp2_with (first
      | (refine ⟨trivial, fun _ => by omega, ?_⟩; gi_at_call 140; refine (callsIn_wide.2 EKj.out).mono ?_; rintro e w' ⟨rfl, rfl⟩)
      | (refine ⟨trivial, fun _ => by omega, ?_⟩; gi_at_call 135; refine (kthParts_in _ _ _ _ _ _).mono ?_; rintro e w' ⟨rfl, rfl⟩))
    have hg2 := (World.grownBy_alloc X (.cells #[.slice a n cap] 66) none).trans (World.grownBy_alloc _ (.cells #[.int .i64 (j : Int)] 3) none)
    have bt2 : ((X.alloc (.cells #[.slice a n cap] 66)).alloc (.cells #[.int .i64 (j : Int)] 3)).cell? ⟨X.heap.size, 0, none⟩ = some (.slice a n cap) := cell_alloc_l _ (cell_new_l X _ _).1
    have bk2 : ((X.alloc (.cells #[.slice a n cap] 66)).alloc (.cells #[.int .i64 (j : Int)] 3)).cell? ⟨X.heap.size + 1, 0, none⟩ = some (.int .i64 (j : Int)) := by
      have := (cell_new_l (X.alloc (.cells #[.slice a n cap] 66)) (.int .i64 (j : Int)) 3).1
      rw [World.size_alloc] at this
      exact this
    have zV : ((X.alloc (.cells #[.slice a n cap] 66)).alloc (.cells #[.int .i64 (j : Int)] 3)).heap.size = X.heap.size + 2 := by simp
    obtain ⟨V, hV⟩ : ∃ V, (X.alloc (.cells #[.slice a n cap] 66)).alloc (.cells #[.int .i64 (j : Int)] 3) = V := ⟨_, rfl⟩
    rw [hV] at hg2 bt2 bk2 zV ⊢
    clear hV
    have hBX : w0.heap.size ≤ X.heap.size ∧ Bt < X.heap.size ∧ W.heap.size < X.heap.size := by omega
    have hAV := hAX.grown (by omega) hBX hg2 (fun r e => by cases e)
    have hMV := hMK.grown hg2 (fun r e => by cases e)
    have hpl := partsTo_len h6 hw.2 (j - 1)
    refine rangeF (F := Fence.wide) (n := f) rfl (by omega) (gf := 148) (lb := #[.pointer (some ⟨X.heap.size, 0, none⟩), .pointer (some ⟨X.heap.size + 1, 0, none⟩)]) rfl trivial (enters_of Try.func148 (by kernel_rfl) rfl)
      (HSEQ.out (f - 1) (by omega) X.heap.size (X.heap.size + 1) j V hAV.old (by omega) (by omega) (by omega) bt2 bk2) (fun _ => rfl) own (fun q hq => ⟨by have := hso q hq; omega, by have := hso q hq; omega⟩) (fun q hq => by omega)
      (fun (ps : List (Nat × Nat)) Y => (J (partsTo n m (j - 1) ++ ps) Y ∧ AB w0.heap.size w0 Bt W.heap.size lp a n cap Y ∧ MK W.heap.size X.heap.size Ds Y) ∧ V.heap.size ≤ Y.heap.size)
      (fun c _ Y => c = .ret ∧ (∃ q, Jx q Y) ∧ MK W.heap.size X.heap.size Ds Y)
      (fun ps Y Z row hs hg hr => ⟨⟨hJ _ Y Z row hs.1.1 hg (fun r e => by have := hr r e; omega), hs.1.2.1.grown (by have := hs.2; omega) hBX hg (fun r e => by have := hr r e; omega), hs.1.2.2.grown hg (fun r e => by have := hr r e; omega)⟩, Nat.le_trans hs.2 hg.size⟩)
      (fun c ps Y Z row hs hg hr => ⟨hs.1, by
        obtain ⟨q, hq⟩ := hs.2.1
        exact ⟨q, hJx _ Y Z row hq hg (fun r e => by have := hr r e; omega)⟩, hs.2.2.grown hg (fun r e => by have := hr r e; omega)⟩)
      ⟨⟨by rw [List.append_nil]; exact hJ _ X V none hjx hg2 (fun r e => by cases e), hAV, hMV⟩, Nat.le_refl _⟩
      (fun x a'' _ => a'' = { tmps := #[.func (.yield lp) #[] #[], .pointer (some ⟨Bt, 0, none⟩), .pointer (some ⟨W.heap.size, 0, none⟩), .int .i64 (j : Int), .int .i64 (x.1 : Int), .int .i64 (x.2 : Int), .slice a n cap, .int .i64 (j : Int), .bool true, u9, u10, .slice a n cap, .int .i64 (j : Int), .func (.func 148) #[] #[.pointer (some ⟨X.heap.size, 0, none⟩), .pointer (some ⟨X.heap.size + 1, 0, none⟩)], .int .i64 (x.1 : Int), .int .i64 (x.2 : Int), undef, undef, undef, undef, undef], defers := [] })
      (fun _ _ _ _ _ _ hA _ _ => hA)
      ?assign ?body ?done ?stop
    case assign =>
      rintro lq ps x Y K _ hi _ hK
      simp only [encP]
      gi_wp2
      exact hK _ _ (Keeps.refl _ _) hi rfl
    case body =>
      rintro lq ps x a'' Y hlq hzY _ ⟨⟨hjy, hAY, hMY⟩, _⟩ hpx rfl hlen
      have cY := hAY.yb
      have hxA : x ∈ partsA n m := by
        obtain ⟨⟨g1, g2⟩, g3, g4⟩ := partsK_mem.1 hpx
        exact (partsTo_mem _).2 ⟨by omega, by omega, by omega, g1, g3⟩
      have hl4 : (partsTo n m (j - 1) ++ ps).length < 32768 := by
        rw [List.length_append]
        omega
      obtain ⟨fn, tmps, assign, body, hy, hR⟩ := yieldAt_any (m' := f - 1 - 1 - 1) (hY _ x Y hjy hxA hl4)
      dsimp only [encP] at hy
      have HKEEP := Lib.hid (show ∀ Z, Keeps own Y Z → AB w0.heap.size w0 Bt W.heap.size lp a n cap Z ∧ MK W.heap.size X.heap.size Ds Z ∧ V.heap.size ≤ Z.heap.size from fun Z hk =>
        ⟨hAY.keeps (by omega) hk hso3, hMY.keeps hk (fun q hq => (hso q hq).2.2), by have := hk.size; omega⟩)
      clear hjy hAY hMY hxA
      obtain ⟨x1, x2⟩ := x
      simp only at hy hR ⊢
      gi_wp2
      refine ⟨fun h => by omega, ?_⟩
      refine RoundIn.mono (F := Fence.wide.inRound lq) hR ?_
      rintro e W3 (⟨rfl, hJ3, hk3⟩ | ⟨rfl, hx3, hk3⟩)
      · obtain ⟨q1, q2, q3⟩ := HKEEP.out _ hk3
        gi_wp2
        exact ⟨hk3, ⟨by rw [← List.append_assoc]; exact hJ3, q1, q2⟩, q3⟩
      · obtain ⟨q1, q2, q3⟩ := HKEEP.out _ hk3
        gi_wp2
        exact ⟨hk3, rfl, ⟨_, hx3⟩, q2⟩
    case done =>
      rintro D ps Y hD rfl ⟨⟨hjy, hAY, hMY⟩, hzY⟩ hK
      have hDY := (Array.getElem?_eq_some_iff.1 hK).1
      have hMC := hMY.cons (C' := Y.heap.size) (by omega) (by omega) hDY hK
      have hwj : IntKind.i64.wrap ((j : Int) + 1) = ((j + 1 : Nat) : Int) := by rw [IntWalk.i64_in _ ⟨by omega, by omega⟩]; omega
      have hnext : partsTo n m j = partsTo n m (j - 1) ++ partsK j n m := by
        obtain ⟨i, rfl⟩ : ∃ i, j = i + 1 := ⟨j - 1, by omega⟩
        rfl
      gi_wp2
      exact ⟨⟨j + 1, D :: Ds, _, _, _, _, _, _, _, _, by omega, by omega, rfl, by rw [Nat.add_sub_cancel, hnext]; exact hjy, hAY, hMC, by omega⟩, by simp [intOf]; omega⟩
    case stop =>
      rintro D c ps Y hD _ ⟨rfl, ⟨q, hq⟩, hMY⟩ hK
      have hDY := (Array.getElem?_eq_some_iff.1 hK).1
      have hMC := hMY.cons (C' := Y.heap.size) (by omega) (by omega) hDY hK
      gi_wp2
      refine leaves_marks (B := W.heap.size) (fun Z => Jx q Z) (fun Z E h hE => hJx.put _ h hE) (fun Z h => ?_) (D :: Ds) Y hMC hq
      refine ⟨.tuple #[], ?_, ⟨_, rfl⟩, .inr ⟨q, trivial, h⟩⟩
      simp [results, Try.f139, go_sem]
  · have hin : inB (j : Int) 0 (min n m : Nat) = false := by simp [inB]; omega
    rw [hin] at EKj
    obtain rfl : j = min n m + 1 := by omega
    gi_wp2_with (refine ⟨trivial, fun _ => by omega, ?_⟩; gi_at_call 140; refine (callsIn_wide.2 EKj.out).mono ?_; rintro e w' ⟨rfl, rfl⟩)
    refine leaves_marks (B := W.heap.size) (fun Z => J (partsA n m) Z) (fun Z E h hE => hJ.put _ h hE) (fun Z h => ?_) Ds _ hMK hjx
    refine ⟨.tuple #[], ?_, ⟨_, rfl⟩, .inl ⟨_, rfl, h⟩⟩
    simp [results, Try.f139, go_sem]

end Go.Proofs.Ytbclpbgomkfabaa
end

section
namespace Go.Proofs.Ytbclpbgomkfabaa
open Go.RowKit Go.Deep Go.Shelf
attribute [local go_sem] Oper.semAt_some

def posV (a : Option Addr) (n cap g : Nat) (lb : Array Value) : Value := .agg #[.slice a n cap, .func (.func g) #[] lb]
structure QS (w : World) (tv gv qv : Value) (b : Bool) (W : World) : Prop where
  b0 : W.heap[w.heap.size]? = some (.cells #[tv, gv] 78)
  bq : Boxed W (w.heap.size + 1) 3 qv
  br : Boxed W (w.heap.size + 2) 4 (.bool b)
  sn : w.Since w.heap.size W
theorem QS.kept {w W W' : World} {tv gv qv : Value} {b : Bool} {row : Option Nat} (h : QS w tv gv qv b W) (hg : W.grownBy W' row) (hr : ∀ r, row = some r → w.heap.size + 3 ≤ r) : QS w tv gv qv b W' :=
  ⟨(hg.block _ (Array.getElem?_eq_some_iff.1 h.b0).1 (fun e => by have := hr _ e.symm; omega)).trans h.b0, h.bq.kept hg (fun e => by have := hr _ e.symm; omega), h.br.kept hg (fun e => by have := hr _ e.symm; omega), since_row h.sn (Nat.le_refl _) hg (fun r e => by have := hr r e; omega)⟩
theorem cells2 {W : World} {b : Nat} {s g : Value} {t : TypeId} (h : W.heap[b]? = some (.cells #[s, g] t)) : W.cell? ⟨b, 0, none⟩ = some s ∧ W.cell? ⟨b, 1, none⟩ = some g := by
  simp [World.cell?, h]

theorem round_region_heldP {lp n id : Nat} {P : Program} {ops : Array Oper} {Q : Exit → Act → World → Prop} {a : Act} {w : World} {S : World → Prop} (hm : P.follows .mixedOrders = true) (hd : noDefer ops = true) (hno : ¬ LetsOut Q) (hS : S w.drew)
    (h : S w.drew → wpAnyH P .any ops Q S ops.size (Array.replicate ops.size false) a w.drew) : (Code.region id ops true).wpIn (Fence.wide.inRound lp) n P Q a w :=
  wpIn_region_any hm (wpAnyIn_of_wpAny hno (noDefer_of hd) _ _ _ _ (wpAny_of_held _ _ _ _ (h hS)))

set_option maxRecDepth 100000 in
set_option maxHeartbeats 2000000 in
theorem minorsFrom_any (a : Option Addr) (cap n m : Nat) (q : Int) (g : Nat) (lb : Array Value) (ps : List (Nat × Nat)) (N : Nat) (need : Nat → Prop) (l : List (List Int)) (w : World) (hn : l.length = n) (hmm : (l.getD 0 []).length = m) (hT : TabIn l) (hm : MatR w a l)
    (hps : ∀ x ∈ ps, popcS x.1 = popcS x.2 ∧ x.1 < 2 ^ n ∧ x.2 < 2 ^ m) (hneed : ∀ k, need k → k < w.heap.size)
    (hseq : ∀ V : World, OldT w.heap.size w V → w.heap.size ≤ V.heap.size → SeqE Fence.wide 29 Try.prog g lb encP (fun x _ => x ∈ ps) need (fun ys => ys = ps) (fun _ => True) N V)
    (eg : ∀ args w, (callFunc g args).run Try.prog w = .ok (.enter g args) w) :
    Calls Try.prog 89 #[posV a n cap g lb, .int .i64 q] w fun e w' => e = .returned (.bool (leastB l q ps)) ∧ w.Since w.heap.size w' := by
  have EM := Lib.hid (fun (x : Nat × Nat) (hx : x ∈ ps) (V : World) (h : w.Since w.heap.size V) => minor_any a cap n m x.1 x.2 l V hn hmm hT (hps x hx).2.1 (hps x hx).2.2 (hps x hx).1 (hm.since h))
  have HSEQ := Lib.hid hseq
  have EG := Lib.hid eg
  clear hn hmm hT hm hps hseq eg
  unfold posV
  refine (callsIn_wide (n := 30)).1 ?_
  refine callsIn_of_wp_marks Try.func89 rfl trivial ?_ rfl
  simp only [Try.ntmps89, List.size_toArray, List.length_cons, List.length_nil, Nat.reduceAdd, Nat.reduceSub, Array.replicate_succ, Array.replicate_zero, List.push_toArray, List.append_toArray, List.nil_append, List.cons_append]
  have hS0 : QS w (.slice a n cap) (.func (.func g) #[] lb) (.int .i64 q) false (((w.alloc (.cells #[.slice a n cap, .func (.func g) #[] lb] 78)).alloc (.cells #[.int .i64 q] 3)).alloc (.cells #[.bool false] 4)) := by
    have b1 := Boxed.new (w.alloc (.cells #[.slice a n cap, .func (.func g) #[] lb] 78)) 3 (.int .i64 q)
    have b2 := Boxed.new ((w.alloc (.cells #[.slice a n cap, .func (.func g) #[] lb] 78)).alloc (.cells #[.int .i64 q] 3)) 4 (.bool false)
    simp only [World.size_alloc] at b1 b2
    exact ⟨(Below.heap_alloc _ _ _ (by simp; omega)).trans ((Below.heap_alloc _ _ _ (by simp)).trans (World.alloc_heap_new w _)), b1.alloc _, b2, (((World.Since.refl _ w).alloc (Nat.le_refl _) _).alloc (by simp) _).alloc (by simp; omega) _⟩
  gi_wp2
  obtain ⟨V, hV⟩ : ∃ V, (((w.alloc (.cells #[.slice a n cap, .func (.func g) #[] lb] 78)).alloc (.cells #[.int .i64 q] 3)).alloc (.cells #[.bool false] 4)) = V := ⟨_, rfl⟩
  have zV : V.heap.size = w.heap.size + 3 := by rw [← hV]; simp
  rw [hV] at hS0 ⊢
  clear hV
  refine rangeF (F := Fence.wide) (n := 30) rfl (by omega) (gf := g) (lb := lb) rfl trivial EG.out
    (HSEQ.out V (oldT_since hS0.sn) (by omega)) (fun _ => rfl) (fun k => k = w.heap.size + 2) (fun k hk => ⟨by omega, fun h => by have := hneed _ h; omega⟩) (fun k hk => by have := hneed _ hk; omega)
    (fun (qs : List (Nat × Nat)) X => (QS w (.slice a n cap) (.func (.func g) #[] lb) (.int .i64 q) false X ∧ V.heap.size ≤ X.heap.size) ∧ leastB l q qs = true)
    (fun c _ X => c = .ret ∧ (Boxed X (w.heap.size + 2) 4 (.bool false) ∧ w.Since w.heap.size X) ∧ leastB l q ps = false)
    (fun qs X Y row hs hg hr => ⟨⟨hs.1.1.kept hg (fun r e => by have := hr r e; omega), Nat.le_trans hs.1.2 hg.size⟩, hs.2⟩)
    (fun c qs X Y row hs hg hr => ⟨hs.1, ⟨hs.2.1.1.kept hg (fun e => by have := hr _ e.symm; omega), since_row hs.2.1.2 (Nat.le_refl _) hg (fun r e => by have := hr r e; omega)⟩, hs.2.2⟩)
    ⟨⟨hS0, Nat.le_refl _⟩, rfl⟩
    (fun x a'' _ => a'' = { tmps := #[.agg #[.slice a n cap, .func (.func g) #[] lb], .int .i64 q, .pointer (some ⟨w.heap.size, 0, none⟩), .pointer (some ⟨w.heap.size + 1, 0, none⟩), .pointer (some ⟨w.heap.size + 1 + 1, 0, none⟩), .int .i64 (x.1 : Int), .int .i64 (x.2 : Int), .pointer (some ⟨w.heap.size, 1, none⟩), .func (.func g) #[] lb, .int .i64 (x.1 : Int), .int .i64 (x.2 : Int), undef, undef, undef, undef, undef, undef, undef], defers := [] })
    (fun _ _ _ _ _ _ hA _ _ => hA)
    ?assign ?body ?done ?stop
  case assign =>
    rintro lq qs x Y K _ hi _ hK
    simp only [encP]
    gi_wp2
    exact hK _ _ (Keeps.refl _ _) hi rfl
  case body =>
    rintro lq qs x a'' Y hlq hzY _ ⟨⟨hS, hz⟩, hp⟩ hpx rfl hlen
    have hmix : Try.prog.follows .mixedOrders = true := by kernel_rfl
    have cT : Y.drew.cell? ⟨w.heap.size, 0, none⟩ = _ := (cells2 hS.b0).1
    have cQ : Y.drew.cell? ⟨w.heap.size + 1, 0, none⟩ = _ := hS.bq.cell
    have E := Lib.hid (EM.out x hpx Y.drew (show w.Since w.heap.size Y.drew from hS.sn.drew))
    have HSS := Lib.hid hS
    have HY := Lib.hid (show mnP l x < q → leastB l q ps = false from fun h => leastB_no hpx h)
    have HP := Lib.hid (leastB_snoc l q qs x)
    have HPP := Lib.hid hp
    clear hS hp hpx
    obtain ⟨x1, x2⟩ := x
    simp only at E HY HP ⊢
    obtain ⟨v, hv⟩ : ∃ v, mnP l (x1, x2) = v := ⟨_, rfl⟩
    rw [hv] at E HY HP
    clear hv
    have HK2 := Lib.hid (show ∀ Z, Y.drew.Since Y.drew.heap.size Z → Y.grownBy Z none from fun Z h => (grown_drewP (World.grownBy.refl Y none)).trans (grownSH h))
    gi_wp2
    refine round_region_heldP (S := fun W' : World => W'.cell? ⟨w.heap.size, 0, none⟩ = some (.slice a n cap) ∧ W'.cell? ⟨w.heap.size + 1, 0, none⟩ = some (.int .i64 q)) hmix (by kernel_rfl) (by rintro ⟨a, w, h⟩; exact h) ⟨cT, cQ⟩ (fun hS => ?_)
    refine wpAnyH_take (i := 0) (v := .pointer (some ⟨w.heap.size, 0, none⟩)) rfl (by kernel_rfl) (by kernel_rfl) (by kernel_rfl) (fun _ _ _ h => h) (Or.inl ⟨by rfl, fun W' h => by go_simp⟩) hS ?_
    simp only [Act.put, List.setIfInBounds_toArray]
    refine wpAnyH_take (i := 1) (v := .slice a n cap) rfl (by kernel_rfl) (by kernel_rfl) (by kernel_rfl) (fun _ _ _ h => h) (Or.inl ⟨by rfl, fun W' h => by have hc := h.1; go_simp⟩) hS ?_
    simp only [Act.put]
    refine wpAnyH_take (i := 2) (v := .int .i64 x1) rfl (by kernel_rfl) (by kernel_rfl) (by kernel_rfl) (fun _ _ _ h => h) (Or.inl ⟨by rfl, fun W' h => by go_simp⟩) hS ?_
    simp only [Act.put]
    refine wpAnyH_take (i := 3) (v := .int .i64 x2) rfl (by kernel_rfl) (by kernel_rfl) (by kernel_rfl) (fun _ _ _ h => h) (Or.inl ⟨by rfl, fun W' h => by go_simp⟩) hS ?_
    simp only [Act.put]
    refine wpAnyH_take (i := 5) (v := .int .i64 q) rfl (by kernel_rfl) (by kernel_rfl) (by kernel_rfl) (fun _ _ _ h => h) (Or.inl ⟨by rfl, fun W' h => by have hc := h.2; go_simp⟩) hS ?_
    simp only [Act.put]
    refine wpAnyH_ready (rs := [4]) (by kernel_rfl) (by simp) (AllReadyH.cons rfl (fun K hK => ?_) AllReadyH.nil)
    go_simp
    refine E.out.mono ?_
    rintro e Z ⟨rfl, hs2⟩
    have HG := Lib.hid (HK2.out Z hs2)
    have hQZ := HSS.out.kept HG.out (fun r e => by cases e)
    refine hK.out _ _ ⟨(cells2 hQZ.b0).1, hQZ.bq.cell⟩ (fun hS1 => ?_)
    clear hK K hs2
    refine wpAnyH_take (i := 6) (v := .bool (decide (v < q))) rfl (by kernel_rfl) (by kernel_rfl) (by kernel_rfl) (fun _ _ _ h => h) (Or.inl ⟨by rfl, fun W' h => by go_simp⟩) hS1 ?_
    simp only [Act.put]
    refine wpAnyH_done (by kernel_rfl) ?_ _
    by_cases hv0 : v < q
    · have hvb : decide (v < q) = true := by simpa using hv0
      have cR := hQZ.br.cell
      have fR := hQZ.br.frozen
      gi_wp2
      exact ⟨(Keeps.grown HG.out (fun r e => by cases e)).trans (Keeps.grown (grownBy_setCell' Z (w.heap.size + 2) _) (fun r e => by cases e; rfl)), rfl, ⟨hQZ.br.set _, hQZ.sn.setCell (by simp; omega) _⟩, HY.out hv0⟩
    · have hvb : decide (v < q) = false := by simpa using hv0
      gi_wp2
      exact ⟨Keeps.grown HG.out (fun r e => by cases e), ⟨hQZ, by have := HG.out.size; omega⟩, by rw [HP.out, HPP.out]; simp; omega⟩
  case done =>
    rintro D qs X hD rfl ⟨⟨hS, hz⟩, hp⟩ hK
    have cS := hS.br.cell
    have fS := hS.br.frozen
    have hlt := (Array.getElem?_eq_some_iff.1 hK).1
    have hK2 : (X.setCell ⟨w.heap.size + 2, 0, none⟩ (.bool true)).heap[D]? = some (.deferred (some [])) := ((grownBy_setCell' X (w.heap.size + 2) (.bool true)).block D hlt (fun e => by injection e; omega)).trans hK
    have hB3 := (hS.br.set (.bool true)).kept (grownBy_putObj' (X.setCell ⟨w.heap.size + 2, 0, none⟩ (.bool true)) D (.deferred none)) (fun e => by injection e; omega)
    have cB := hB3.cell
    have hsn := since_row (hS.sn.setCell (a := ⟨w.heap.size + 2, 0, none⟩) (by simp) (.bool true)) (Nat.le_refl _) (grownBy_putObj' (X.setCell ⟨w.heap.size + 2, 0, none⟩ (.bool true)) D (.deferred none)) (fun r e => by cases e; omega)
    gi_wp2
    refine ⟨by simp, .inl ⟨_, _, rfl, run_takeDeferred hK2, ?_⟩⟩
    refine ⟨.bool true, ?_, by rw [hp], hsn⟩
    have cB' := cB
    simp [results, Try.f89, go_sem, cB']
  case stop =>
    rintro D c qs X hD _ ⟨rfl, ⟨bR, hs⟩, hb⟩ hK
    have hB3 := bR.kept (grownBy_putObj' X D (.deferred none)) (fun e => by injection e; omega)
    have cB := hB3.cell
    have hsn := since_row hs (Nat.le_refl _) (grownBy_putObj' X D (.deferred none)) (fun r e => by cases e; omega)
    gi_wp2
    refine ⟨by simp, .inl ⟨_, _, rfl, run_takeDeferred hK, ?_⟩⟩
    refine ⟨.bool false, ?_, by rw [hb], hsn⟩
    have cB' := cB
    simp [results, Try.f89, go_sem, cB']

structure QC (w : World) (tv gv : Value) (c : Int) (W : World) : Prop where
  b0 : W.heap[w.heap.size]? = some (.cells #[tv, gv] 78)
  bn : Boxed W (w.heap.size + 1) 3 (.int .i64 c)
  sn : w.Since w.heap.size W
theorem QC.kept {w W W' : World} {tv gv : Value} {c : Int} {row : Option Nat} (h : QC w tv gv c W) (hg : W.grownBy W' row) (hr : ∀ r, row = some r → w.heap.size + 2 ≤ r) : QC w tv gv c W' :=
  ⟨(hg.block _ (Array.getElem?_eq_some_iff.1 h.b0).1 (fun e => by have := hr _ e.symm; omega)).trans h.b0, h.bn.kept hg (fun e => by have := hr _ e.symm; omega), since_row h.sn (Nat.le_refl _) hg (fun r e => by have := hr r e; omega)⟩

set_option maxRecDepth 100000 in
set_option maxHeartbeats 2000000 in
theorem countParts_any (a : Option Addr) (cap n : Nat) (g : Nat) (lb : Array Value) (ps : List (Nat × Nat)) (N : Nat) (hN : N ≤ 32768) (need : Nat → Prop) (w : World) (hneed : ∀ k, need k → k < w.heap.size)
    (hseq : ∀ V : World, OldT w.heap.size w V → w.heap.size ≤ V.heap.size → SeqE Fence.wide 29 Try.prog g lb encP (fun x _ => x ∈ ps) need (fun ys => ys = ps) (fun _ => True) N V)
    (eg : ∀ args w, (callFunc g args).run Try.prog w = .ok (.enter g args) w) :
    Calls Try.prog 75 #[posV a n cap g lb] w fun e w' => e = .returned (.int .i64 (ps.length : Nat)) ∧ w.Since w.heap.size w' := by
  have HSEQ := Lib.hid hseq
  have EG := Lib.hid eg
  clear hseq eg
  unfold posV
  refine (callsIn_wide (n := 30)).1 ?_
  refine callsIn_of_wp_marks Try.func75 rfl trivial ?_ rfl
  simp only [Try.ntmps75, List.size_toArray, List.length_cons, List.length_nil, Nat.reduceAdd, Nat.reduceSub, Array.replicate_succ, Array.replicate_zero, List.push_toArray, List.append_toArray, List.nil_append, List.cons_append]
  have hS0 : QC w (.slice a n cap) (.func (.func g) #[] lb) 0 ((w.alloc (.cells #[.slice a n cap, .func (.func g) #[] lb] 78)).alloc (.cells #[.int .i64 0] 3)) := by
    have b1 := Boxed.new (w.alloc (.cells #[.slice a n cap, .func (.func g) #[] lb] 78)) 3 (.int .i64 0)
    simp only [World.size_alloc] at b1
    exact ⟨(Below.heap_alloc _ _ _ (by simp)).trans (World.alloc_heap_new w _), b1, ((World.Since.refl _ w).alloc (Nat.le_refl _) _).alloc (by simp) _⟩
  gi_wp2
  obtain ⟨V, hV⟩ : ∃ V, ((w.alloc (.cells #[.slice a n cap, .func (.func g) #[] lb] 78)).alloc (.cells #[.int .i64 0] 3)) = V := ⟨_, rfl⟩
  have zV : V.heap.size = w.heap.size + 2 := by rw [← hV]; simp
  rw [hV] at hS0 ⊢
  clear hV
  refine rangeF (F := Fence.wide) (n := 30) rfl (by omega) (gf := g) (lb := lb) rfl trivial EG.out
    (HSEQ.out V (oldT_since hS0.sn) (by omega)) (fun _ => rfl) (fun k => k = w.heap.size + 1) (fun k hk => ⟨by omega, fun h => by have := hneed _ h; omega⟩) (fun k hk => by have := hneed _ hk; omega)
    (fun (qs : List (Nat × Nat)) X => (QC w (.slice a n cap) (.func (.func g) #[] lb) (qs.length : Nat) X ∧ V.heap.size ≤ X.heap.size))
    (fun _ _ _ => False)
    (fun qs X Y row hs hg hr => ⟨hs.1.kept hg (fun r e => by have := hr r e; omega), Nat.le_trans hs.2 hg.size⟩)
    (fun c qs X Y row hs hg hr => hs)
    ⟨hS0, Nat.le_refl _⟩
    (fun x a'' _ => a'' = { tmps := #[.agg #[.slice a n cap, .func (.func g) #[] lb], .pointer (some ⟨w.heap.size, 0, none⟩), .int .i64 0, .pointer (some ⟨w.heap.size + 1, 0, none⟩), .pointer (some ⟨w.heap.size, 1, none⟩), .func (.func g) #[] lb, .int .i64 (x.1 : Int), .int .i64 (x.2 : Int), undef, undef, undef], defers := [] })
    (fun _ _ _ _ _ _ hA _ _ => hA)
    ?assign ?body ?done ?stop
  case assign =>
    rintro lq qs x Y K _ hi _ hK
    simp only [encP]
    gi_wp2
    exact hK _ _ (Keeps.refl _ _) hi (by simp)
  case body =>
    rintro lq qs x a'' Y hlq hzY _ ⟨hS, hz⟩ hpx rfl hlen
    have cN := hS.bn.cell
    have fN := hS.bn.frozen
    have hwj : IntKind.i64.wrap (((qs.length : Nat) : Int) + 1) = ((qs.length : Nat) : Int) + 1 := IntWalk.i64_in _ ⟨by omega, by omega⟩
    have HSS := Lib.hid hS
    have HL := Lib.hid (show (((qs ++ [x]).length : Nat) : Int) = ((qs.length : Nat) : Int) + 1 by rw [List.length_append, List.length_singleton]; omega)
    clear hS
    gi_wp2
    refine ⟨Keeps.grown (grownBy_setCell' Y (w.heap.size + 1) _) (fun r e => by cases e; rfl), ?_, by simp; omega⟩
    rw [HL.out]
    exact ⟨(Below.heap_setCell _ _ _ _ (by show w.heap.size ≠ w.heap.size + 1; omega)).trans HSS.out.b0, HSS.out.bn.set _, HSS.out.sn.setCell (by simp) _⟩
  case done =>
    rintro D qs X hD rfl ⟨hS, hz⟩ hK
    have cN := hS.bn.cell
    have hsn := since_row hS.sn (Nat.le_refl _) (grownBy_putObj' X D (.deferred none)) (fun r e => by cases e; omega)
    gi_wp2
    refine ⟨by simp, .inl ⟨_, _, rfl, run_takeDeferred hK, ?_⟩⟩
    refine ⟨.int .i64 (qs.length : Nat), ?_, rfl, hsn⟩
    simp [results, Try.f75, go_sem]
  case stop =>
    rintro D c qs X hD _ hF hK
    exact hF.elim

end Go.Proofs.Ytbclpbgomkfabaa
end

section
namespace Go.Proofs.Ytbclpbgomkfabaa
open Go.RowKit Go.Deep Go.Shelf
attribute [local go_sem] Oper.semAt_some

def wstep (l : List (List Int)) (s : Int × Nat × Nat) (x : Nat × Nat) : Int × Nat × Nat := if s.2.1 = 0 ∨ mnP l x < s.1 then (mnP l x, x.1, x.2) else s
def worstS (l : List (List Int)) (qs : List (Nat × Nat)) : Int × Nat × Nat := qs.foldl (wstep l) (0, 0, 0)
theorem worstS_snoc (l : List (List Int)) (qs : List (Nat × Nat)) (x : Nat × Nat) : worstS l (qs ++ [x]) = wstep l (worstS l qs) x := by
  unfold worstS; rw [List.foldl_append]; rfl
structure QW (w : World) (tv gv : Value) (s : Int × Nat × Nat) (W : World) : Prop where
  b0 : W.heap[w.heap.size]? = some (.cells #[tv, gv] 78)
  b1 : Boxed W (w.heap.size + 1) 3 (.int .i64 s.1)
  b2 : Boxed W (w.heap.size + 2) 3 (.int .i64 (s.2.1 : Int))
  b3 : Boxed W (w.heap.size + 3) 3 (.int .i64 (s.2.2 : Int))
  sn : w.Since w.heap.size W
theorem QW.kept {w W W' : World} {tv gv : Value} {s : Int × Nat × Nat} {row : Option Nat} (h : QW w tv gv s W) (hg : W.grownBy W' row) (hr : ∀ r, row = some r → w.heap.size + 4 ≤ r) : QW w tv gv s W' :=
  ⟨(hg.block _ (Array.getElem?_eq_some_iff.1 h.b0).1 (fun e => by have := hr _ e.symm; omega)).trans h.b0, h.b1.kept hg (fun e => by have := hr _ e.symm; omega), h.b2.kept hg (fun e => by have := hr _ e.symm; omega), h.b3.kept hg (fun e => by have := hr _ e.symm; omega), since_row h.sn (Nat.le_refl _) hg (fun r e => by have := hr r e; omega)⟩
theorem QW.set {w W : World} {tv gv : Value} {s : Int × Nat × Nat} (h : QW w tv gv s W) (x : Int) (r c : Nat) :
    QW w tv gv (x, r, c) (((W.setCell ⟨w.heap.size + 1, 0, none⟩ (.int .i64 x)).setCell ⟨w.heap.size + 2, 0, none⟩ (.int .i64 (r : Int))).setCell ⟨w.heap.size + 3, 0, none⟩ (.int .i64 (c : Int))) :=
  ⟨(Below.heap_setCell _ _ _ _ (by show w.heap.size ≠ w.heap.size + 3; omega)).trans ((Below.heap_setCell _ _ _ _ (by show w.heap.size ≠ w.heap.size + 2; omega)).trans ((Below.heap_setCell _ _ _ _ (by show w.heap.size ≠ w.heap.size + 1; omega)).trans h.b0)),
    ((h.b1.set _).other (by omega) _).other (by omega) _, ((h.b2.other (by omega) _).set _).other (by omega) _, ((h.b3.other (by omega) _).other (by omega) _).set _,
    ((h.sn.setCell (by simp) _).setCell (by simp) _).setCell (by simp) _⟩
theorem keeps_set3 {own : Nat → Prop} (W : World) {b1 b2 b3 : Nat} (x y z : Value) (h1 : own b1) (h2 : own b2) (h3 : own b3) : Keeps own W (((W.setCell ⟨b1, 0, none⟩ x).setCell ⟨b2, 0, none⟩ y).setCell ⟨b3, 0, none⟩ z) :=
  ((Keeps.grown (grownBy_setCell' W b1 _) (fun r e => by cases e; exact h1)).trans (Keeps.grown (grownBy_setCell' _ b2 _) (fun r e => by cases e; exact h2))).trans (Keeps.grown (grownBy_setCell' _ b3 _) (fun r e => by cases e; exact h3))

end Go.Proofs.Ytbclpbgomkfabaa
end

section
namespace Go.Proofs.Ytbclpbgomkfabaa
open Go.RowKit Go.Deep Go.Shelf
attribute [local go_sem] Oper.semAt_some

theorem rows_seqE (f : Nat) (hf : 2 ≤ f) (Bt Bs b o m cap s : Nat) (hm : m ≤ 7) (hs : s ≤ 63) (A : Nat → Option Addr) (L C : Nat → Nat) (w : World) (h1 : Bt < w.heap.size) (h2 : Bs < w.heap.size) (h3 : b < w.heap.size)
    (hBt : w.cell? ⟨Bt, 0, none⟩ = some (.slice (some ⟨b, o, none⟩) m cap)) (hBs : w.cell? ⟨Bs, 0, none⟩ = some (.int .i64 s))
    (hc : ∀ k, k < m → w.cell? ⟨b, o + k, none⟩ = some (.slice (A k) (L k) (C k))) :
    SeqE Fence.wide f Try.prog 131 #[.pointer (some ⟨Bt, 0, none⟩), .pointer (some ⟨Bs, 0, none⟩)] (fun x : {i : Nat // i < m} => #[.int .i64 (x.1 : Int), .slice (A x.1) (L x.1) (C x.1)]) (fun _ _ => True) (fun q => q = Bt ∨ q = Bs ∨ q = b) (fun ys => ys = sel s m m) (fun _ => True) m w := by
  intro l J Jx own W hW hown hJ hJx hY hj
  have cs := (hW.cell (p := ⟨Bs, 0, none⟩) h2).trans hBs
  have cr := fun k (hk : k < m) => (hW.cell (p := ⟨b, o + k, none⟩) h3).trans (hc k hk)
  refine CallsIn.mono (rows1_in f hf l Bt Bs b o m cap s hm hs A L C (fun X Y => Y.cell? ⟨Bs, 0, none⟩ = X.cell? ⟨Bs, 0, none⟩ ∧ ∀ k, k < m → Y.cell? ⟨b, o + k, none⟩ = X.cell? ⟨b, o + k, none⟩) (fun _ _ h => h)
    (fun pre W => J pre W ∧ W.cell? ⟨Bs, 0, none⟩ = some (.int .i64 s) ∧ ∀ k, k < m → W.cell? ⟨b, o + k, none⟩ = some (.slice (A k) (L k) (C k))) (fun pre W => Jx pre W) (fun pre x V hV hl => ?_) W
    ((hW.cell (p := ⟨Bt, 0, none⟩) h1).trans hBt) cs cr ⟨hj, cs, cr⟩) ?_
  · obtain ⟨hjv, c1, c2⟩ := hV
    obtain ⟨fn, tmps, assign, body, hy, hR⟩ := hY pre x V hjv trivial hl
    refine ⟨fn, tmps, assign, body, hy, hR.mono ?_⟩
    rintro e W' (⟨r1, r2, r3⟩ | ⟨r1, r2, _⟩)
    · have d1 := r3.cell (a := ⟨Bs, 0, none⟩) (fun h => (hown _ h).2 (.inr (.inl rfl))) c1
      have d2 := fun k (hk : k < m) => r3.cell (a := ⟨b, o + k, none⟩) (fun h => (hown _ h).2 (.inr (.inr rfl))) (c2 k hk)
      exact .inl ⟨r1, ⟨r2, d1, d2⟩, d1.trans c1.symm, fun k hk => (d2 k hk).trans (c2 k hk).symm⟩
    · exact .inr ⟨r1, r2⟩
  · rintro e W' ⟨r1, (⟨zs, rfl, hj2⟩ | ⟨pre, _, hj2⟩)⟩
    · exact ⟨r1, .inl ⟨_, rfl, hj2.1⟩⟩
    · exact ⟨r1, .inr ⟨_, trivial, hj2⟩⟩
theorem opIn_round {lp n : Nat} {P : Program} {Q : Exit → Act → World → Prop} {o : Oper} {a : Act} {w : World} {K : Act → World → Prop} (hd : ∀ c, o.op ≠ .defer c) (h : o.wpIn Fence.wide n P a w K Q) : o.wpIn (Fence.wide.inRound lp) n P a w K Q :=
  ⟨h.1, by
    have h2 := h.2
    rw [Oper.semAt_eq _ _ _ hd] at h2 ⊢
    exact h2⟩
theorem wpAnyIn_round {lp n : Nat} {P : Program} {md : Region.Mode} {ops : Array Oper} {Q : Exit → Act → World → Prop} (hd : ∀ (i : Nat) (o : Oper), ops[i]? = some o → ∀ c, o.op ≠ .defer c) :
    ∀ (fuel : Nat) (listed : Array Bool) (a : Act) (w : World), wpAnyIn Fence.wide n P md ops Q fuel listed a w → wpAnyIn (Fence.wide.inRound lp) n P md ops Q fuel listed a w
  | 0, _, _, _, h => h
  | fuel + 1, listed, a, w, h => ⟨h.1, fun i hi => by
      have h2 := h.2 i hi
      unfold wpOpIn at h2 ⊢
      split
      · rename_i e
        simp only [e] at h2
        exact wpAnyIn_round hd fuel _ _ _ h2
      · rename_i o e
        simp only [e] at h2
        split
        · rename_i hw
          simp only [hw, if_true] at h2
          exact Oper.wpIn_mono (fun a w h => wpAnyIn_round hd fuel _ a w h) (opIn_round (hd i o e) h2)
        · rename_i hw
          simp only [hw] at h2
          exact ⟨h2.1, wpAnyIn_round hd fuel _ _ _ h2.2⟩⟩
theorem sel_fullF (n : Nat) : ∀ k, k ≤ n → (sel (2 ^ n - 1) n k).map (·.1) = List.range k
  | 0, _ => rfl
  | k + 1, h => by
    rw [sel_yes _ n k (by omega) (by rw [Nat.testBit_two_pow_sub_one]; simp; omega), List.map_append, sel_fullF n k (by omega), List.range_succ]
    rfl

theorem runS_shl : ∀ k f : Fin 7, k.val + f.val ≤ 6 → wrap64 (((2 ^ k.val - 1 : Nat) : Int) * 2 ^ f.val) = ((runS f.val k.val : Nat) : Int) := by decide +kernel
theorem setBack_any (last n : Nat) (h1 : 1 ≤ n) (h2 : n ≤ last + 1) (h3 : last ≤ 5) (w : World) :
    Calls Try.prog 138 #[.int .i64 last, .int .i64 n] w fun e w' => e = .returned (.int .i64 (runS (last + 1 - n) n : Nat)) ∧ w = w' := by
  have E := Lib.hid (fullSet_any n (by omega) w)
  have hw1 : IntKind.i64.wrap ((last : Int) + 1) = (last : Int) + 1 := IntWalk.i64_in _ ⟨by omega, by omega⟩
  have hw2 : IntKind.i64.wrap ((last : Int) + 1 - (n : Int)) = ((last + 1 - n : Nat) : Int) := by rw [IntWalk.i64_in _ ⟨by omega, by omega⟩]; omega
  go_enter Try.func138, Try.ntmps138
  go_wp2_with fail
  refine (E.out).mono ?_
  rintro e w2 ⟨rfl, rfl⟩
  go_wp2_with fail
  go_ret
  have e := runS_shl ⟨n, by omega⟩ ⟨last + 1 - n, by omega⟩ (by simp only; omega)
  simp only at e
  exact ⟨by rw [← e]; rfl, rfl⟩

theorem first_len (m : Nat) : ∀ k, ((List.range k).flatMap (firstRow m)).length = k * m
  | 0 => by simp
  | k + 1 => by
    rw [List.range_succ, List.flatMap_append, List.length_append, first_len m k, Nat.succ_mul]
    simp [firstRow]
theorem first_len' (is : List Nat) (m : Nat) : (is.flatMap (firstRow m)).length = is.length * m := by
  induction is with
  | nil => simp
  | cons i is ih => rw [List.flatMap_cons, List.length_append, ih, List.length_cons, Nat.succ_mul]; simp [firstRow]; omega
theorem firstRow_snoc (m i k : Nat) (h : k < m) : (firstRow m i).take (k + 1) = (firstRow m i).take k ++ [(runS (i + 1 - (min i k + 1)) (min i k + 1), runS (k + 1 - (min i k + 1)) (min i k + 1))] := by
  unfold firstRow
  rw [List.take_add_one, List.getElem?_map, List.getElem?_range h]
  rfl

set_option maxRecDepth 100000 in
set_option maxHeartbeats 2000000 in
theorem first_seqE (f : Nat) (hf : 12 ≤ f) (Bt n m cap : Nat) (a : Option Addr) (l : List (List Int)) (w0 w : World) (hn : l.length = n) (hT : TabIn l) (hmm : (l.getD 0 []).length = m) (hm : MatR w0 a l) (hold : OldT w0.heap.size w0 w) (_hz0 : w0.heap.size ≤ w.heap.size) (hBt : w0.heap.size ≤ Bt) (ct : w.cell? ⟨Bt, 0, none⟩ = some (.slice a n cap)) :
    SeqE Fence.wide f Try.prog 137 #[.pointer (some ⟨Bt, 0, none⟩)] encP (fun x _ => x ∈ partsF n m) (fun q => q < w0.heap.size ∨ q = Bt) (fun ys => ys = partsF n m) (fun _ => True) 64 w := by
  intro lp J Jx own W hW hown hJ hJx hY hj
  have h6 := hT.2.1
  have h1 := hT.1
  have hw := hT.width
  rw [hn] at h6 h1
  rw [hmm] at hw
  have lt := World.block_lt_of_cell? _ _ ct
  simp only at lt
  have c1 := (hW.cell (p := ⟨Bt, 0, none⟩) lt).trans ct
  have hWz := hW.size
  have hOW : OldT w0.heap.size w0 W := fun q hq => (hW.block q (by omega)).trans (hold q hq)
  have hso : ∀ q, own q → w0.heap.size ≤ q ∧ q ≠ Bt ∧ q < W.heap.size := fun q hq => by
    obtain ⟨g1, g2⟩ := hown q hq
    exact ⟨by
      by_cases e : q < w0.heap.size
      · exact absurd (.inl e) g2
      · omega, fun e => g2 (.inr e), g1⟩
  obtain ⟨b, o, A, C, rfl, hc0⟩ := hm (by omega)
  have hc : ∀ k, k < n → w0.cell? ⟨b, o + k, none⟩ = some (.slice (A k) m (C k)) := fun k hk => by
    have := (hc0 k (by omega)).1
    rw [hT.row (by omega), hmm] at this
    exact this
  have hbl := World.block_lt_of_cell? _ _ (hc 0 (by omega))
  simp only at hbl
  have p63 : 2 ^ n ≤ 2 ^ 6 := Nat.pow_le_pow_right (by omega) h6
  have EA := Lib.hid (fun (V : World) => allRows_any (some ⟨b, o, none⟩) cap n V h6)
  have EB := Lib.hid (fun (x y : Nat) (h1 : 1 ≤ y) (h2 : y ≤ x + 1) (h3 : x ≤ 5) (V : World) => setBack_any x y h1 h2 h3 V)
  clear hold ct hm hmm hT hn hc0
  refine callsIn_of_wp_marks Try.func137 rfl trivial ?_ rfl
  simp only [Try.ntmps137, List.size_toArray, List.length_cons, List.length_nil, Nat.reduceAdd, Nat.reduceSub, Array.replicate_succ, Array.replicate_zero, List.push_toArray, List.append_toArray, List.nil_append, List.cons_append]
  have c2 : (W.alloc (.cells #[.func (.yield lp) #[] #[]] 54)).cell? ⟨Bt, 0, none⟩ = _ := cell_alloc_l _ c1
  have y0 : (W.alloc (.cells #[.func (.yield lp) #[] #[]] 54)).cell? ⟨W.heap.size, 0, none⟩ = _ := (cell_new_l W _ _).1
  have hso3 : ∀ q, own q → w0.heap.size ≤ q ∧ q ≠ Bt ∧ q ≠ W.heap.size := fun q hq => by have := hso q hq; omega
  have c2d : (W.alloc (.cells #[.func (.yield lp) #[] #[]] 54)).drew.cell? ⟨Bt, 0, none⟩ = _ := c2
  gi_wp2
  refine wpIn_wide.2 ?_
  go_region_held3 (fun W' : World => W'.cell? ⟨Bt, 0, none⟩ = some (.slice (some ⟨b, o, none⟩) n cap)) (first | exact c2d | exact cell_alloc_l _ (cell_alloc_l _ c2d))
    (first
      | (go_at_call 113; refine (EA.out _).mono ?_; rintro e w' ⟨rfl, rfl⟩)
      | (go_at_call 112; refine (rows_any _ _ _ _ _).mono ?_; rintro e w' ⟨rfl, rfl⟩))
  gi_wp2
  have c3 := cell_alloc_l (.cells #[.int .i64 ((2 ^ n - 1 : Nat) : Int)] 3) (cell_alloc_l (.cells #[.slice (some ⟨b, o, none⟩) n cap] 66) c2)
  have y3 := cell_alloc_l (.cells #[.int .i64 ((2 ^ n - 1 : Nat) : Int)] 3) (cell_alloc_l (.cells #[.slice (some ⟨b, o, none⟩) n cap] 66) y0)
  have hbt := cell_alloc_l (.cells #[.int .i64 ((2 ^ n - 1 : Nat) : Int)] 3) (cell_new_l (W.alloc (.cells #[.func (.yield lp) #[] #[]] 54)) (.slice (some ⟨b, o, none⟩) n cap) 66).1
  have hbs := (cell_new_l ((W.alloc (.cells #[.func (.yield lp) #[] #[]] 54)).alloc (.cells #[.slice (some ⟨b, o, none⟩) n cap] 66)) (.int .i64 ((2 ^ n - 1 : Nat) : Int)) 3).1
  have hg2 := ((World.grownBy_alloc W (.cells #[.func (.yield lp) #[] #[]] 54) none).trans (World.grownBy_alloc _ (.cells #[.slice (some ⟨b, o, none⟩) n cap] 66) none)).trans (World.grownBy_alloc _ (.cells #[.int .i64 ((2 ^ n - 1 : Nat) : Int)] 3) none)
  have hjV := hJ.alloc (.cells #[.int .i64 ((2 ^ n - 1 : Nat) : Int)] 3) (hJ.alloc (.cells #[.slice (some ⟨b, o, none⟩) n cap] 66) (hJ.alloc (.cells #[.func (.yield lp) #[] #[]] 54) hj))
  have zV : (((W.alloc (.cells #[.func (.yield lp) #[] #[]] 54)).alloc (.cells #[.slice (some ⟨b, o, none⟩) n cap] 66)).alloc (.cells #[.int .i64 ((2 ^ n - 1 : Nat) : Int)] 3)).heap.size = W.heap.size + 3 := by simp
  simp only [World.size_alloc] at hbt hbs
  obtain ⟨V0, hV0⟩ : ∃ V, ((W.alloc (.cells #[.func (.yield lp) #[] #[]] 54)).alloc (.cells #[.slice (some ⟨b, o, none⟩) n cap] 66)).alloc (.cells #[.int .i64 ((2 ^ n - 1 : Nat) : Int)] 3) = V := ⟨_, rfl⟩
  rw [hV0] at hbt hbs c3 y3 hg2 hjV zV ⊢
  clear hV0 c1 c2 c2d y0
  have hbt : V0.drew.cell? _ = _ := hbt
  have hbs : V0.drew.cell? _ = _ := hbs
  have c3 : V0.drew.cell? _ = _ := c3
  have y3 : V0.drew.cell? _ = _ := y3
  have hjV := hJ _ V0 V0.drew none hjV (grown_drewP (World.grownBy.refl _ none)) (fun r e => by cases e)
  have hg2 := grown_drewP hg2
  have zV : V0.drew.heap.size = _ := zV
  obtain ⟨V, hV⟩ : ∃ V, V0.drew = V := ⟨_, rfl⟩
  rw [hV] at hbt hbs c3 y3 hg2 hjV zV ⊢
  clear hV
  have hAV : AB w0.heap.size w0 Bt W.heap.size lp (some ⟨b, o, none⟩) n cap V := ⟨c3, y3, hOW.grown (by omega) hg2 (fun r e => by cases e)⟩
  have hBX : w0.heap.size ≤ V.heap.size ∧ Bt < V.heap.size ∧ W.heap.size < V.heap.size := by omega
  have hcV : ∀ k, k < n → V.cell? ⟨b, o + k, none⟩ = some (.slice (A k) m (C k)) := fun k hk => (hAV.old.cell (by exact hbl)).trans (hc k hk)
  refine rangeF (F := Fence.wide) (n := f) rfl (by omega) (gf := 131) (lb := #[.pointer (some ⟨W.heap.size + 1, 0, none⟩), .pointer (some ⟨W.heap.size + 1 + 1, 0, none⟩)]) rfl trivial (enters_of Try.func131 (by kernel_rfl) rfl)
    (rows_seqE (f - 1) (by omega) (W.heap.size + 1) (W.heap.size + 1 + 1) b o n cap (2 ^ n - 1) (by omega) (by omega) A (fun _ => m) C V (by omega) (by omega) (by omega) hbt hbs hcV) (fun _ => rfl) own (fun q hq => ⟨by have := hso q hq; omega, by have := hso q hq; omega⟩) (fun q hq => by omega)
    (fun (rs : List {i : Nat // i < n}) X => J ((rs.map (fun x : {i : Nat // i < n} => x.1)).flatMap (firstRow m)) X ∧ AB w0.heap.size w0 Bt W.heap.size lp (some ⟨b, o, none⟩) n cap X ∧ V.heap.size ≤ X.heap.size)
    (fun c _ X => c = .ret ∧ ∃ q, Jx q X)
    (fun rs X Y row hs hg hr => ⟨hJ _ X Y row hs.1 hg (fun r e => by have := hr r e; omega), hs.2.1.grown (by have := hs.2.2; omega) hBX hg hr, Nat.le_trans hs.2.2 hg.size⟩)
    (fun c rs X Y row hs hg hr => ⟨hs.1, by
      obtain ⟨q, hq⟩ := hs.2
      exact ⟨q, hJx _ X Y row hq hg (fun r e => by have := hr r e; omega)⟩⟩)
    ⟨hjV, hAV, Nat.le_refl _⟩
    (fun x a' _ => a' = { tmps := #[.func (.yield lp) #[] #[], .pointer (some ⟨Bt, 0, none⟩), .pointer (some ⟨W.heap.size, 0, none⟩), .int .i64 (x.1 : Int), .slice (A x.1) m (C x.1), undef, undef, .slice (some ⟨b, o, none⟩) n cap, .slice (some ⟨b, o, none⟩) n cap, .int .i64 ((2 ^ n - 1 : Nat) : Int), .func (.func 131) #[] #[.pointer (some ⟨W.heap.size + 1, 0, none⟩), .pointer (some ⟨W.heap.size + 1 + 1, 0, none⟩)], .int .i64 (x.1 : Int), .slice (A x.1) m (C x.1), undef, undef, undef, undef, undef, undef, undef, undef, undef, undef, undef, undef, undef, undef, undef, undef, undef, undef, undef], defers := [] })
    (fun _ _ _ _ _ _ hA _ _ => hA)
    ?assign ?body ?done ?stop
  case assign =>
    rintro lq rs x X K hzX hi _ hK
    gi_wp2
    exact hK _ _ (Keeps.refl _ _) hi rfl
  case body =>
    rintro lq rs x a' X hlq hzX _ ⟨hjx, hAX, _⟩ _ rfl hlen
    obtain ⟨i, hi⟩ := x
    have hmix : Try.prog.follows .mixedOrders = true := by kernel_rfl
    have HJX := Lib.hid hjx
    have HAX := Lib.hid hAX
    have hrl := first_len' (rs.map (fun x : {i : Nat // i < n} => x.1)) m
    rw [List.length_map] at hrl
    have hrl2 : rs.length * m ≤ 5 * 6 := Nat.mul_le_mul (by omega) hw.2
    simp only
    clear hjx hAX
    gi_wp2
    gi_loopw [15] (fun kv wr => ∃ k : Nat, k ≤ m ∧ kv = .int .i64 k ∧ J ((rs.map (fun x : {i : Nat // i < n} => x.1)).flatMap (firstRow m) ++ (firstRow m i).take k) wr ∧ AB w0.heap.size w0 Bt W.heap.size lp (some ⟨b, o, none⟩) n cap wr ∧ Keeps own X wr ∧ V.heap.size ≤ wr.heap.size) (fun kv _ => m - (intOf kv).toNat)
    case atStart => exact ⟨0, Nat.zero_le _, rfl, by rw [List.take_zero, List.append_nil]; exact HJX.out, HAX.out, Keeps.refl _ _, hzX⟩
    case round =>
      obtain ⟨k, hk, rfl, hjr, hAr, hkr, hzr⟩ := hrel
      by_cases hlt : k < m
      · obtain ⟨e, he⟩ : ∃ e, min i k + 1 = e := ⟨_, rfl⟩
        have hfs := firstRow_snoc m i k hlt
        have hmem : (runS (i + 1 - (min i k + 1)) (min i k + 1), runS (k + 1 - (min i k + 1)) (min i k + 1)) ∈ partsF n m := partsF_mem.2 ⟨i, k, hi, hlt, rfl⟩
        simp only [he] at hfs hmem
        have ES1 := EB.out i e (by omega) (by omega) (by omega)
        have ES2 := EB.out k e (by omega) (by omega) (by omega)
        obtain ⟨s1, hs1⟩ : ∃ s, runS (i + 1 - e) e = s := ⟨_, rfl⟩
        obtain ⟨s2, hs2⟩ : ∃ s, runS (k + 1 - e) e = s := ⟨_, rfl⟩
        simp only [hs1, hs2] at hfs hmem ES1 ES2
        have hl4 : ((rs.map (fun x : {i : Nat // i < n} => x.1)).flatMap (firstRow m) ++ (firstRow m i).take k).length < 64 := by
          rw [List.length_append, List.length_take]; omega
        obtain ⟨fn, tmps, assign, body, hy, hR⟩ := yieldAt_any (m' := f - 1 - 1 - 1) (hY _ (s1, s2) wr.drew (hJ _ wr wr.drew none hjr (grown_drewP (World.grownBy.refl _ none)) (fun r e => by cases e)) hmem hl4)
        dsimp only [encP] at hy
        have cY : wr.drew.cell? ⟨W.heap.size, 0, none⟩ = _ := hAr.yb
        have HKEEP := Lib.hid (show ∀ Z, Keeps own wr.drew Z → AB w0.heap.size w0 Bt W.heap.size lp (some ⟨b, o, none⟩) n cap Z ∧ Keeps own X Z ∧ V.heap.size ≤ Z.heap.size from fun Z hk => by
          have hk2 : Keeps own wr Z := (Keeps.grown (grown_drewP (World.grownBy.refl _ none)) (fun r e => by cases e)).trans hk
          exact ⟨hAr.keeps (by omega) hk2 hso3, hkr.trans hk2, by have := hk2.size; omega⟩)
        replace ES1 := Lib.hid (fun (V : World) => ES1 V)
        replace ES2 := Lib.hid (fun (V : World) => ES2 V)
        have HFS := Lib.hid hfs
        have hwe : IntKind.i64.wrap (((min i k : Nat) : Int) + 1) = (e : Int) := by rw [IntWalk.i64_in _ ⟨by omega, by omega⟩]; omega
        have hwk : IntKind.i64.wrap ((k : Int) + 1) = ((k + 1 : Nat) : Int) := by rw [IntWalk.i64_in _ ⟨by omega, by omega⟩]; omega
        clear hjr hAr hkr hfs hmem hs1 hs2 hl4 hc hcV hAV hbt hbs c3 y3 hg2 hjV
        have hii : (0:Int) ≤ (i:Int) := by omega
        by_cases hik : k < i
        · rw [show ((min i k : Nat) : Int) = (k : Int) by omega] at hwe
          gi_wp2
          refine wpIn_region_any hmix (wpAnyIn_round (noDefer_of (by kernel_rfl)) _ _ _ _ ?_)
          change wpAnyIn _ _ _ _ _ _ _ _ _ (World.drew _)
          refine wpAnyIn_take (i := 1) (v := .int .i64 i) rfl rfl (by kernel_rfl) (by kernel_rfl) (by kernel_rfl) (fun _ _ _ h => h) ⟨Or.inl ⟨by rfl, fun w => by go_simp⟩, fun _ => rfl⟩ ?_
          simp only [Act.put]
          refine wpAnyIn_take (i := 2) (v := .int .i64 e) rfl rfl (by kernel_rfl) (by kernel_rfl) (by kernel_rfl) (fun _ _ _ h => h) ⟨Or.inl ⟨by rfl, fun w => by go_simp⟩, fun _ => rfl⟩ ?_
          simp only [Act.put]
          refine wpAnyIn_take (i := 4) (v := .int .i64 k) rfl rfl (by kernel_rfl) (by kernel_rfl) (by kernel_rfl) (fun _ _ _ h => h) ⟨Or.inl ⟨by rfl, fun w => by go_simp⟩, fun _ => rfl⟩ ?_
          simp only [Act.put]
          refine wpAnyIn_take (i := 5) (v := .int .i64 e) rfl rfl (by kernel_rfl) (by kernel_rfl) (by kernel_rfl) (fun _ _ _ h => h) ⟨Or.inl ⟨by rfl, fun w => by go_simp⟩, fun _ => rfl⟩ ?_
          simp only [Act.put]
          refine wpAnyIn_ready (rs := [0, 3]) (by kernel_rfl) (by simp) (AllReadyIn.cons rfl (fun K hK => ?pA) (AllReadyIn.cons rfl (fun K hK => ?pB) AllReadyIn.nil))
          case pA =>
            go_simp
            refine hK _ _ ?_
            clear hK K
            refine wpAnyIn_ready (rs := [3]) (by kernel_rfl) (by simp) (AllReadyIn.cons rfl (fun K hK => ?_) AllReadyIn.nil)
            go_simp
            refine ⟨trivial, fun _ => by omega, ?_⟩
            gi_at_call 138
            refine (callsIn_wide.2 (ES1.out _)).mono ?_
            rintro e w' ⟨rfl, rfl⟩
            refine hK _ _ ?_
            clear hK K
            refine wpAnyIn_ready (rs := [6]) (by kernel_rfl) (by simp) (AllReadyIn.cons rfl (fun K hK => ?_) AllReadyIn.nil)
            go_simp
            refine ⟨trivial, fun _ => by omega, ?_⟩
            gi_at_call 138
            refine (callsIn_wide.2 (ES2.out _)).mono ?_
            rintro e w' ⟨rfl, rfl⟩
            refine hK _ _ ?_
            clear hK K
            refine wpAnyIn_ready (rs := [7]) (by kernel_rfl) (by simp) (AllReadyIn.cons rfl (fun K hK => ?_) AllReadyIn.nil)
            go_simp
            refine ⟨fun _ => by omega, hR.mono ?_⟩
            rintro e W3 (⟨rfl, hJ3, hk3⟩ | ⟨rfl, hx3, hk3⟩)
            · obtain ⟨q1, q2, q3⟩ := HKEEP.out _ hk3
              refine hK _ _ ?_
              clear hK K
              refine wpAnyIn_ready (rs := [8]) (by kernel_rfl) (by simp) (AllReadyIn.cons rfl (fun K hK => ?_) AllReadyIn.nil)
              go_simp
              refine hK _ _ ?_
              clear hK K
              refine wpAnyIn_done (by kernel_rfl) ?_ _
              gi_wp2
              go_roundw
              case rel => exact ⟨k + 1, by omega, by (first | rfl | (simp only [Value.int.injEq, true_and]; omega)), by rw [HFS.out, ← List.append_assoc]; exact hJ3, q1, q2, q3⟩
              case measure => simp [intOf]; omega
            · obtain ⟨q1, q2, q3⟩ := HKEEP.out _ hk3
              refine hK _ _ ?_
              clear hK K
              refine wpAnyIn_ready (rs := [8]) (by kernel_rfl) (by simp) (AllReadyIn.cons rfl (fun K hK => ?_) AllReadyIn.nil)
              go_simp
              refine hK _ _ ?_
              clear hK K
              refine wpAnyIn_done (by kernel_rfl) ?_ _
              gi_wp2
              exact ⟨q2, rfl, _, hx3⟩
          case pB =>
            go_simp
            refine ⟨trivial, fun _ => by omega, ?_⟩
            gi_at_call 138
            refine (callsIn_wide.2 (ES1.out _)).mono ?_
            rintro e w' ⟨rfl, rfl⟩
            refine hK _ _ ?_
            clear hK K
            refine wpAnyIn_ready (rs := [0, 6]) (by kernel_rfl) (by simp) (AllReadyIn.cons rfl (fun K hK => ?pC) (AllReadyIn.cons rfl (fun K hK => ?pD) AllReadyIn.nil))
            case pC =>
              go_simp
              refine hK _ _ ?_
              clear hK K
              refine wpAnyIn_ready (rs := [6]) (by kernel_rfl) (by simp) (AllReadyIn.cons rfl (fun K hK => ?_) AllReadyIn.nil)
              go_simp
              refine ⟨trivial, fun _ => by omega, ?_⟩
              gi_at_call 138
              refine (callsIn_wide.2 (ES2.out _)).mono ?_
              rintro e w' ⟨rfl, rfl⟩
              refine hK _ _ ?_
              clear hK K
              refine wpAnyIn_ready (rs := [7]) (by kernel_rfl) (by simp) (AllReadyIn.cons rfl (fun K hK => ?_) AllReadyIn.nil)
              go_simp
              refine ⟨fun _ => by omega, hR.mono ?_⟩
              rintro e W3 (⟨rfl, hJ3, hk3⟩ | ⟨rfl, hx3, hk3⟩)
              · obtain ⟨q1, q2, q3⟩ := HKEEP.out _ hk3
                refine hK _ _ ?_
                clear hK K
                refine wpAnyIn_ready (rs := [8]) (by kernel_rfl) (by simp) (AllReadyIn.cons rfl (fun K hK => ?_) AllReadyIn.nil)
                go_simp
                refine hK _ _ ?_
                clear hK K
                refine wpAnyIn_done (by kernel_rfl) ?_ _
                gi_wp2
                go_roundw
                case rel => exact ⟨k + 1, by omega, by (first | rfl | (simp only [Value.int.injEq, true_and]; omega)), by rw [HFS.out, ← List.append_assoc]; exact hJ3, q1, q2, q3⟩
                case measure => simp [intOf]; omega
              · obtain ⟨q1, q2, q3⟩ := HKEEP.out _ hk3
                refine hK _ _ ?_
                clear hK K
                refine wpAnyIn_ready (rs := [8]) (by kernel_rfl) (by simp) (AllReadyIn.cons rfl (fun K hK => ?_) AllReadyIn.nil)
                go_simp
                refine hK _ _ ?_
                clear hK K
                refine wpAnyIn_done (by kernel_rfl) ?_ _
                gi_wp2
                exact ⟨q2, rfl, _, hx3⟩
            case pD =>
              go_simp
              refine ⟨trivial, fun _ => by omega, ?_⟩
              gi_at_call 138
              refine (callsIn_wide.2 (ES2.out _)).mono ?_
              rintro e w' ⟨rfl, rfl⟩
              refine hK _ _ ?_
              clear hK K
              refine wpAnyIn_ready (rs := [0]) (by kernel_rfl) (by simp) (AllReadyIn.cons rfl (fun K hK => ?_) AllReadyIn.nil)
              go_simp
              refine hK _ _ ?_
              clear hK K
              refine wpAnyIn_ready (rs := [7]) (by kernel_rfl) (by simp) (AllReadyIn.cons rfl (fun K hK => ?_) AllReadyIn.nil)
              go_simp
              refine ⟨fun _ => by omega, hR.mono ?_⟩
              rintro e W3 (⟨rfl, hJ3, hk3⟩ | ⟨rfl, hx3, hk3⟩)
              · obtain ⟨q1, q2, q3⟩ := HKEEP.out _ hk3
                refine hK _ _ ?_
                clear hK K
                refine wpAnyIn_ready (rs := [8]) (by kernel_rfl) (by simp) (AllReadyIn.cons rfl (fun K hK => ?_) AllReadyIn.nil)
                go_simp
                refine hK _ _ ?_
                clear hK K
                refine wpAnyIn_done (by kernel_rfl) ?_ _
                gi_wp2
                go_roundw
                case rel => exact ⟨k + 1, by omega, by (first | rfl | (simp only [Value.int.injEq, true_and]; omega)), by rw [HFS.out, ← List.append_assoc]; exact hJ3, q1, q2, q3⟩
                case measure => simp [intOf]; omega
              · obtain ⟨q1, q2, q3⟩ := HKEEP.out _ hk3
                refine hK _ _ ?_
                clear hK K
                refine wpAnyIn_ready (rs := [8]) (by kernel_rfl) (by simp) (AllReadyIn.cons rfl (fun K hK => ?_) AllReadyIn.nil)
                go_simp
                refine hK _ _ ?_
                clear hK K
                refine wpAnyIn_done (by kernel_rfl) ?_ _
                gi_wp2
                exact ⟨q2, rfl, _, hx3⟩
        · rw [show ((min i k : Nat) : Int) = (i : Int) by omega] at hwe
          gi_wp2
          refine wpIn_region_any hmix (wpAnyIn_round (noDefer_of (by kernel_rfl)) _ _ _ _ ?_)
          change wpAnyIn _ _ _ _ _ _ _ _ _ (World.drew _)
          refine wpAnyIn_take (i := 1) (v := .int .i64 i) rfl rfl (by kernel_rfl) (by kernel_rfl) (by kernel_rfl) (fun _ _ _ h => h) ⟨Or.inl ⟨by rfl, fun w => by go_simp⟩, fun _ => rfl⟩ ?_
          simp only [Act.put]
          refine wpAnyIn_take (i := 2) (v := .int .i64 e) rfl rfl (by kernel_rfl) (by kernel_rfl) (by kernel_rfl) (fun _ _ _ h => h) ⟨Or.inl ⟨by rfl, fun w => by go_simp⟩, fun _ => rfl⟩ ?_
          simp only [Act.put]
          refine wpAnyIn_take (i := 4) (v := .int .i64 k) rfl rfl (by kernel_rfl) (by kernel_rfl) (by kernel_rfl) (fun _ _ _ h => h) ⟨Or.inl ⟨by rfl, fun w => by go_simp⟩, fun _ => rfl⟩ ?_
          simp only [Act.put]
          refine wpAnyIn_take (i := 5) (v := .int .i64 e) rfl rfl (by kernel_rfl) (by kernel_rfl) (by kernel_rfl) (fun _ _ _ h => h) ⟨Or.inl ⟨by rfl, fun w => by go_simp⟩, fun _ => rfl⟩ ?_
          simp only [Act.put]
          refine wpAnyIn_ready (rs := [0, 3]) (by kernel_rfl) (by simp) (AllReadyIn.cons rfl (fun K hK => ?pA) (AllReadyIn.cons rfl (fun K hK => ?pB) AllReadyIn.nil))
          case pA =>
            go_simp
            refine hK _ _ ?_
            clear hK K
            refine wpAnyIn_ready (rs := [3]) (by kernel_rfl) (by simp) (AllReadyIn.cons rfl (fun K hK => ?_) AllReadyIn.nil)
            go_simp
            refine ⟨trivial, fun _ => by omega, ?_⟩
            gi_at_call 138
            refine (callsIn_wide.2 (ES1.out _)).mono ?_
            rintro e w' ⟨rfl, rfl⟩
            refine hK _ _ ?_
            clear hK K
            refine wpAnyIn_ready (rs := [6]) (by kernel_rfl) (by simp) (AllReadyIn.cons rfl (fun K hK => ?_) AllReadyIn.nil)
            go_simp
            refine ⟨trivial, fun _ => by omega, ?_⟩
            gi_at_call 138
            refine (callsIn_wide.2 (ES2.out _)).mono ?_
            rintro e w' ⟨rfl, rfl⟩
            refine hK _ _ ?_
            clear hK K
            refine wpAnyIn_ready (rs := [7]) (by kernel_rfl) (by simp) (AllReadyIn.cons rfl (fun K hK => ?_) AllReadyIn.nil)
            go_simp
            refine ⟨fun _ => by omega, hR.mono ?_⟩
            rintro e W3 (⟨rfl, hJ3, hk3⟩ | ⟨rfl, hx3, hk3⟩)
            · obtain ⟨q1, q2, q3⟩ := HKEEP.out _ hk3
              refine hK _ _ ?_
              clear hK K
              refine wpAnyIn_ready (rs := [8]) (by kernel_rfl) (by simp) (AllReadyIn.cons rfl (fun K hK => ?_) AllReadyIn.nil)
              go_simp
              refine hK _ _ ?_
              clear hK K
              refine wpAnyIn_done (by kernel_rfl) ?_ _
              gi_wp2
              go_roundw
              case rel => exact ⟨k + 1, by omega, by (first | rfl | (simp only [Value.int.injEq, true_and]; omega)), by rw [HFS.out, ← List.append_assoc]; exact hJ3, q1, q2, q3⟩
              case measure => simp [intOf]; omega
            · obtain ⟨q1, q2, q3⟩ := HKEEP.out _ hk3
              refine hK _ _ ?_
              clear hK K
              refine wpAnyIn_ready (rs := [8]) (by kernel_rfl) (by simp) (AllReadyIn.cons rfl (fun K hK => ?_) AllReadyIn.nil)
              go_simp
              refine hK _ _ ?_
              clear hK K
              refine wpAnyIn_done (by kernel_rfl) ?_ _
              gi_wp2
              exact ⟨q2, rfl, _, hx3⟩
          case pB =>
            go_simp
            refine ⟨trivial, fun _ => by omega, ?_⟩
            gi_at_call 138
            refine (callsIn_wide.2 (ES1.out _)).mono ?_
            rintro e w' ⟨rfl, rfl⟩
            refine hK _ _ ?_
            clear hK K
            refine wpAnyIn_ready (rs := [0, 6]) (by kernel_rfl) (by simp) (AllReadyIn.cons rfl (fun K hK => ?pC) (AllReadyIn.cons rfl (fun K hK => ?pD) AllReadyIn.nil))
            case pC =>
              go_simp
              refine hK _ _ ?_
              clear hK K
              refine wpAnyIn_ready (rs := [6]) (by kernel_rfl) (by simp) (AllReadyIn.cons rfl (fun K hK => ?_) AllReadyIn.nil)
              go_simp
              refine ⟨trivial, fun _ => by omega, ?_⟩
              gi_at_call 138
              refine (callsIn_wide.2 (ES2.out _)).mono ?_
              rintro e w' ⟨rfl, rfl⟩
              refine hK _ _ ?_
              clear hK K
              refine wpAnyIn_ready (rs := [7]) (by kernel_rfl) (by simp) (AllReadyIn.cons rfl (fun K hK => ?_) AllReadyIn.nil)
              go_simp
              refine ⟨fun _ => by omega, hR.mono ?_⟩
              rintro e W3 (⟨rfl, hJ3, hk3⟩ | ⟨rfl, hx3, hk3⟩)
              · obtain ⟨q1, q2, q3⟩ := HKEEP.out _ hk3
                refine hK _ _ ?_
                clear hK K
                refine wpAnyIn_ready (rs := [8]) (by kernel_rfl) (by simp) (AllReadyIn.cons rfl (fun K hK => ?_) AllReadyIn.nil)
                go_simp
                refine hK _ _ ?_
                clear hK K
                refine wpAnyIn_done (by kernel_rfl) ?_ _
                gi_wp2
                go_roundw
                case rel => exact ⟨k + 1, by omega, by (first | rfl | (simp only [Value.int.injEq, true_and]; omega)), by rw [HFS.out, ← List.append_assoc]; exact hJ3, q1, q2, q3⟩
                case measure => simp [intOf]; omega
              · obtain ⟨q1, q2, q3⟩ := HKEEP.out _ hk3
                refine hK _ _ ?_
                clear hK K
                refine wpAnyIn_ready (rs := [8]) (by kernel_rfl) (by simp) (AllReadyIn.cons rfl (fun K hK => ?_) AllReadyIn.nil)
                go_simp
                refine hK _ _ ?_
                clear hK K
                refine wpAnyIn_done (by kernel_rfl) ?_ _
                gi_wp2
                exact ⟨q2, rfl, _, hx3⟩
            case pD =>
              go_simp
              refine ⟨trivial, fun _ => by omega, ?_⟩
              gi_at_call 138
              refine (callsIn_wide.2 (ES2.out _)).mono ?_
              rintro e w' ⟨rfl, rfl⟩
              refine hK _ _ ?_
              clear hK K
              refine wpAnyIn_ready (rs := [0]) (by kernel_rfl) (by simp) (AllReadyIn.cons rfl (fun K hK => ?_) AllReadyIn.nil)
              go_simp
              refine hK _ _ ?_
              clear hK K
              refine wpAnyIn_ready (rs := [7]) (by kernel_rfl) (by simp) (AllReadyIn.cons rfl (fun K hK => ?_) AllReadyIn.nil)
              go_simp
              refine ⟨fun _ => by omega, hR.mono ?_⟩
              rintro e W3 (⟨rfl, hJ3, hk3⟩ | ⟨rfl, hx3, hk3⟩)
              · obtain ⟨q1, q2, q3⟩ := HKEEP.out _ hk3
                refine hK _ _ ?_
                clear hK K
                refine wpAnyIn_ready (rs := [8]) (by kernel_rfl) (by simp) (AllReadyIn.cons rfl (fun K hK => ?_) AllReadyIn.nil)
                go_simp
                refine hK _ _ ?_
                clear hK K
                refine wpAnyIn_done (by kernel_rfl) ?_ _
                gi_wp2
                go_roundw
                case rel => exact ⟨k + 1, by omega, by (first | rfl | (simp only [Value.int.injEq, true_and]; omega)), by rw [HFS.out, ← List.append_assoc]; exact hJ3, q1, q2, q3⟩
                case measure => simp [intOf]; omega
              · obtain ⟨q1, q2, q3⟩ := HKEEP.out _ hk3
                refine hK _ _ ?_
                clear hK K
                refine wpAnyIn_ready (rs := [8]) (by kernel_rfl) (by simp) (AllReadyIn.cons rfl (fun K hK => ?_) AllReadyIn.nil)
                go_simp
                refine hK _ _ ?_
                clear hK K
                refine wpAnyIn_done (by kernel_rfl) ?_ _
                gi_wp2
                exact ⟨q2, rfl, _, hx3⟩
      · obtain rfl : k = m := by omega
        gi_wp2
        refine ⟨hkr, ?_, hAr, hzr⟩
        rw [List.map_append, List.flatMap_append]
        have e : (firstRow k i).take k = firstRow k i := List.take_of_length_le (by simp [firstRow])
        rw [e] at hjr
        simpa using hjr
  case done =>
    rintro D rs X hD rfl ⟨hjx, _, _⟩ hK
    have hjz := hJ.put (.deferred none) hjx (show W.heap.size ≤ D by omega)
    gi_wp2
    show LeavesInM _ _ _ _ _ _ _ _ _
    refine ⟨by simp, .inl ⟨_, _, rfl, run_takeDeferred hK, ?_⟩⟩
    refine ⟨.tuple #[], ?_, ⟨_, rfl⟩, .inl ⟨_, rfl, by rw [sel_fullF n n (Nat.le_refl n)] at hjz; exact hjz⟩⟩
    simp [results, Try.f137, go_sem]
  case stop =>
    rintro D c rs X hD _ ⟨rfl, q, hq⟩ hK
    have hjz := hJx.put (.deferred none) hq (show W.heap.size ≤ D by omega)
    gi_wp2
    show LeavesInM _ _ _ _ _ _ _ _ _
    refine ⟨by simp, .inl ⟨_, _, rfl, run_takeDeferred hK, ?_⟩⟩
    refine ⟨.tuple #[], ?_, ⟨_, rfl⟩, .inr ⟨q, trivial, hjz⟩⟩
    simp [results, Try.f137, go_sem]

end Go.Proofs.Ytbclpbgomkfabaa
end

section
namespace Go.Proofs.Ytbclpbgomkfabaa
open Go.RowKit Go.Deep Go.Shelf
attribute [local go_sem] Oper.semAt_some

theorem allParts_any (a : Option Addr) (n cap : Nat) (w : World) :
    Calls Try.prog 121 #[.slice a n cap] w fun e w' => e = .returned (.func (.func 139) #[] #[.pointer (some ⟨w.heap.size, 0, none⟩)]) ∧ w' = w.alloc (.cells #[.slice a n cap] 66) := by
  go_enter Try.func121, Try.ntmps121
  go_wp2
  go_ret
  exact ⟨rfl, rfl⟩

theorem withAll_any (a : Option Addr) (n cap : Nat) (w : World) :
    Calls Try.prog 88 #[.slice a n cap] w fun e w' => e = .returned (posV a n cap 139 #[.pointer (some ⟨w.heap.size + 1, 0, none⟩)]) ∧ w.Since w.heap.size w' ∧ w'.cell? ⟨w.heap.size + 1, 0, none⟩ = some (.slice a n cap) := by
  have EA := Lib.hid (fun (W : World) => allParts_any a n cap W)
  go_enter Try.func88, Try.ntmps88
  go_wp2_with fail
  refine (EA.out _).mono ?_
  rintro e w2 ⟨rfl, rfl⟩
  have hB : ((w.alloc (.cells #[.slice none 0 0, Value.nilFunc] 78)).alloc (.cells #[.slice a n cap] 66)).heap[w.heap.size]? = some (.cells #[.slice none 0 0, Value.nilFunc] 78) := (Below.heap_alloc _ _ _ (by simp)).trans (World.alloc_heap_new w _)
  have hc := (cells2 hB)
  obtain ⟨hc0, hc1⟩ := hc
  go_wp2_with fail
  refine bodyPost_ret (v := posV a n cap 139 #[.pointer (some ⟨w.heap.size + 1, 0, none⟩)]) ?_ rfl ?_
  · have hB2 : ((w.alloc (.cells #[.slice a n cap, .func (.func 139) #[] #[.pointer (some ⟨w.heap.size + 1, 0, none⟩)]] 78)).alloc (.cells #[.slice a n cap] 66)).heap[w.heap.size]? = some (.cells #[.slice a n cap, .func (.func 139) #[] #[.pointer (some ⟨w.heap.size + 1, 0, none⟩)]] 78) := (Below.heap_alloc _ _ _ (by simp)).trans (World.alloc_heap_new w _)
    obtain ⟨d0, d1⟩ := cells2 hB2
    simp [results, Try.f88, go_sem, d0, d1, posV]
  · have h := (cell_new_l (w.alloc (.cells #[.slice a n cap, .func (.func 139) #[] #[.pointer (some ⟨w.heap.size + 1, 0, none⟩)]] 78)) (.slice a n cap) 66).1
    rw [World.size_alloc] at h
    exact ⟨rfl, ((World.Since.refl _ w).alloc (Nat.le_refl _) _).alloc (by simp) _, h⟩

theorem firstParts_any (a : Option Addr) (n cap : Nat) (w : World) :
    Calls Try.prog 120 #[.slice a n cap] w fun e w' => e = .returned (.func (.func 137) #[] #[.pointer (some ⟨w.heap.size, 0, none⟩)]) ∧ w' = w.alloc (.cells #[.slice a n cap] 66) := by
  go_enter Try.func120, Try.ntmps120
  go_wp2
  go_ret
  exact ⟨rfl, rfl⟩

theorem withFirst_any (a : Option Addr) (n cap : Nat) (w : World) :
    Calls Try.prog 74 #[.slice a n cap] w fun e w' => e = .returned (posV a n cap 137 #[.pointer (some ⟨w.heap.size + 1, 0, none⟩)]) ∧ w.Since w.heap.size w' ∧ w'.cell? ⟨w.heap.size + 1, 0, none⟩ = some (.slice a n cap) := by
  have EA := Lib.hid (fun (W : World) => firstParts_any a n cap W)
  go_enter Try.func74, Try.ntmps74
  go_wp2_with fail
  refine (EA.out _).mono ?_
  rintro e w2 ⟨rfl, rfl⟩
  have hB : ((w.alloc (.cells #[.slice none 0 0, Value.nilFunc] 78)).alloc (.cells #[.slice a n cap] 66)).heap[w.heap.size]? = some (.cells #[.slice none 0 0, Value.nilFunc] 78) := (Below.heap_alloc _ _ _ (by simp)).trans (World.alloc_heap_new w _)
  have hc := (cells2 hB)
  obtain ⟨hc0, hc1⟩ := hc
  go_wp2_with fail
  refine bodyPost_ret (v := posV a n cap 137 #[.pointer (some ⟨w.heap.size + 1, 0, none⟩)]) ?_ rfl ?_
  · have hB2 : ((w.alloc (.cells #[.slice a n cap, .func (.func 137) #[] #[.pointer (some ⟨w.heap.size + 1, 0, none⟩)]] 78)).alloc (.cells #[.slice a n cap] 66)).heap[w.heap.size]? = some (.cells #[.slice a n cap, .func (.func 137) #[] #[.pointer (some ⟨w.heap.size + 1, 0, none⟩)]] 78) := (Below.heap_alloc _ _ _ (by simp)).trans (World.alloc_heap_new w _)
    obtain ⟨d0, d1⟩ := cells2 hB2
    simp [results, Try.f74, go_sem, d0, d1, posV]
  · have h := (cell_new_l (w.alloc (.cells #[.slice a n cap, .func (.func 137) #[] #[.pointer (some ⟨w.heap.size + 1, 0, none⟩)]] 78)) (.slice a n cap) 66).1
    rw [World.size_alloc] at h
    exact ⟨rfl, ((World.Since.refl _ w).alloc (Nat.le_refl _) _).alloc (by simp) _, h⟩

theorem oldT_two {w w3 V : World} (hs : w.Since w.heap.size w3) (ho : OldT w3.heap.size w3 V) : OldT w.heap.size w V := fun k hk => (ho k (by have := hs.size; omega)).trans (hs.block k hk)
theorem partsA_ok {n m : Nat} (hn : n ≤ 6) (hm : m ≤ 6) {x : Nat × Nat} (hx : x ∈ partsA n m) : popcS x.1 = popcS x.2 ∧ x.1 < 2 ^ n ∧ x.2 < 2 ^ m := ((partsA_mem hn hm).1 hx).2

theorem allMinors_any (a : Option Addr) (cap n m : Nat) (q : Int) (l : List (List Int)) (w w3 : World) (hn : l.length = n) (hmm : (l.getD 0 []).length = m) (hT : TabIn l) (hm : MatR w a l) (hs : w.Since w.heap.size w3) (hc : w3.cell? ⟨w.heap.size + 1, 0, none⟩ = some (.slice a n cap)) :
    Calls Try.prog 89 #[posV a n cap 139 #[.pointer (some ⟨w.heap.size + 1, 0, none⟩)], .int .i64 q] w3 fun e w' => e = .returned (.bool (leastB l q (partsA n m))) ∧ w3.Since w3.heap.size w' := by
  have h6 := hT.2.1
  have hw := hT.width
  rw [hn] at h6
  rw [hmm] at hw
  have hlt := World.block_lt_of_cell? _ _ hc
  simp only at hlt
  have hz := hs.size
  exact minorsFrom_any a cap n m q _ _ (partsA n m) 32768 (fun k => k < w.heap.size ∨ k = w.heap.size + 1) l w3 hn hmm hT (hm.since hs) (fun x hx => partsA_ok h6 hw.2 hx) (fun k hk => by omega)
    (fun V ho hzV => all_seqE 29 (by omega) (w.heap.size + 1) n m cap a l w V hn hT hmm hm (oldT_two hs ho) (by omega) (by omega) ((ho.cell (by exact hlt)).trans hc)) (enters_of Try.func139 (by kernel_rfl) rfl)

theorem firstMinors_any (a : Option Addr) (cap n m : Nat) (q : Int) (l : List (List Int)) (w w3 : World) (hn : l.length = n) (hmm : (l.getD 0 []).length = m) (hT : TabIn l) (hm : MatR w a l) (hs : w.Since w.heap.size w3) (hc : w3.cell? ⟨w.heap.size + 1, 0, none⟩ = some (.slice a n cap)) :
    Calls Try.prog 89 #[posV a n cap 137 #[.pointer (some ⟨w.heap.size + 1, 0, none⟩)], .int .i64 q] w3 fun e w' => e = .returned (.bool (leastB l q (partsF n m))) ∧ w3.Since w3.heap.size w' := by
  have h6 := hT.2.1
  have hw := hT.width
  rw [hn] at h6
  rw [hmm] at hw
  have hlt := World.block_lt_of_cell? _ _ hc
  simp only at hlt
  have hz := hs.size
  exact minorsFrom_any a cap n m q _ _ (partsF n m) 64 (fun k => k < w.heap.size ∨ k = w.heap.size + 1) l w3 hn hmm hT (hm.since hs) (fun x hx => ⟨(partsF_ok h6 hw.2 hx).1, (partsF_ok h6 hw.2 hx).2.1, (partsF_ok h6 hw.2 hx).2.2.1⟩) (fun k hk => by omega)
    (fun V ho hzV => first_seqE 29 (by omega) (w.heap.size + 1) n m cap a l w V hn hT hmm hm (oldT_two hs ho) (by omega) (by omega) ((ho.cell (by exact hlt)).trans hc)) (enters_of Try.func137 (by kernel_rfl) rfl)

theorem firstCount_any (a : Option Addr) (cap n m : Nat) (l : List (List Int)) (w w3 : World) (hn : l.length = n) (hmm : (l.getD 0 []).length = m) (hT : TabIn l) (hm : MatR w a l) (hs : w.Since w.heap.size w3) (hc : w3.cell? ⟨w.heap.size + 1, 0, none⟩ = some (.slice a n cap)) :
    Calls Try.prog 75 #[posV a n cap 137 #[.pointer (some ⟨w.heap.size + 1, 0, none⟩)]] w3 fun e w' => e = .returned (.int .i64 (n * m : Nat)) ∧ w3.Since w3.heap.size w' := by
  have hlt := World.block_lt_of_cell? _ _ hc
  simp only at hlt
  have hz := hs.size
  rw [← partsF_len]
  exact countParts_any a cap n _ _ (partsF n m) 64 (by omega) (fun k => k < w.heap.size ∨ k = w.heap.size + 1) w3 (fun k hk => by omega)
    (fun V ho hzV => first_seqE 29 (by omega) (w.heap.size + 1) n m cap a l w V hn hT hmm hm (oldT_two hs ho) (by omega) (by omega) ((ho.cell (by exact hlt)).trans hc)) (enters_of Try.func137 (by kernel_rfl) rfl)

set_option maxHeartbeats 1000000 in
theorem implPosLasting_any (a : Option Addr) (cap n : Nat) (l : List (List Int)) (w : World) (hn : l.length = n) (hsz : szL l ≤ 1048576) (hm : MatR w a l) :
    Calls Try.prog 35 #[.slice a n cap] w fun e w' => e = .returned (.bool (tabIn l && leastB l 0 (partsA n (l.getD 0 []).length))) ∧ w.Since w.heap.size w' := by
  have E := Lib.hid (implTableIn_any a cap n l w hn hsz hm)
  cases hT : tabIn l with
  | false =>
    rw [hT] at E
    clear hT hsz hm hn
    go_enter Try.func35, Try.ntmps35
    go_wp2_with fail
    refine (E.out).mono ?_
    rintro e w1 ⟨rfl, hd⟩
    have HS := Lib.hid hd
    clear hd
    go_wp2
    go_ret
    exact ⟨rfl, HS.out⟩
  | true =>
    rw [hT] at E
    have EC := Lib.hid (fun (W w3 : World) (h : w.Since w.heap.size W) (hs : W.Since W.heap.size w3) (hc : w3.cell? ⟨W.heap.size + 1, 0, none⟩ = some (.slice a n cap)) => allMinors_any a cap n (l.getD 0 []).length 0 l W w3 hn rfl (tabIn_of hT) (hm.since h) hs hc)
    have EW := Lib.hid (fun (W : World) => withAll_any a n cap W)
    obtain ⟨B, hB⟩ : ∃ B, leastB l 0 (partsA n (l.getD 0 []).length) = B := ⟨_, rfl⟩
    rw [hB] at EC ⊢
    clear hT hsz hm hn hB
    go_enter Try.func35, Try.ntmps35
    go_wp2_with fail
    refine (E.out).mono ?_
    rintro e w1 ⟨rfl, hd⟩
    have HS := Lib.hid hd
    clear hd
    go_wp2_with fail
    refine (EW.out w1).mono ?_
    rintro e w2 ⟨rfl, hs2, hc2⟩
    have HS2 := Lib.hid (HS.out.trans (since_mono hs2 HS.out.size))
    have EC2 := Lib.hid (EC.out w1 w2 HS.out hs2 hc2)
    clear hs2 hc2
    go_wp2_with fail
    refine (EC2.out).mono ?_
    rintro e w3 ⟨rfl, hs3⟩
    have HS3 := Lib.hid (HS2.out.trans (since_mono hs3 HS2.out.size))
    clear hs3
    cases B
    · go_wp2
      go_ret
      exact ⟨rfl, HS3.out⟩
    · go_wp2
      go_ret
      exact ⟨rfl, HS3.out⟩

end Go.Proofs.Ytbclpbgomkfabaa
end

section
namespace Go.Proofs.Ytbclpbgomkfabaa
open Go.RowKit Go.Deep

theorem results_four {fn : Func} {a b c d : Tmp} (h : fn.results = #[.tmp a, .tmp b, .tmp c, .tmp d]) (tmps : Array Value) (P : Program) (w : World) :
    (results fn tmps).run P w = .ok (.tuple #[tmps.getD a undef, tmps.getD b undef, tmps.getD c undef, tmps.getD d undef]) w := by
  simp [results, h]

end Go.Proofs.Ytbclpbgomkfabaa
end

section
namespace Go.Proofs.Ytbclpbgomkfabaa
open Go.RowKit Go.Deep

set_option maxRecDepth 100000 in
set_option maxHeartbeats 1000000 in
theorem l92Lines_any (a : Option Addr) (nb cb : Nat) (w : World) (hc : nb ≤ cb) (h63 : cb ≤ 9223372036854775807) (hb : BytR w a nb) :
    Calls Try.prog 45 #[.slice a nb cb] w fun e w' => ∃ (n : Nat) (a' : Option Addr) (cap : Nat) (cs : List RC) (i k : Int), e = .returned (.tuple #[.int .i64 n, .slice a' cs.length cap, .int .i64 i, .int .i64 k]) ∧ w.Since w.heap.size w' ∧ (2 ≤ n ∧ n ≤ 5) ∧ DrawnC w w' a' cap cs := by
  have E := Lib.hid (l6Open_any a nb cb w hc h63 hb)
  clear hb
  go_enter Try.func45, Try.ntmps45
  go_wp2_with fail
  refine (E.out).mono ?_
  rintro e w1 ⟨n', c', rfl, hs, hz, hd⟩
  have HD1 := Lib.hid hd
  have HS := Lib.hid hs
  have hz1 : w.heap.size < w1.heap.size := by omega
  clear hd hs hz
  go_wp2_with fail
  refine (pick_any w _ w.heap.size n' c' _ a _ HD1.out (by omega)).mono ?_
  rintro e w2 ⟨y2, rfl, hy2, hg2, hd2⟩
  have HD2 := Lib.hid hd2
  have HG2 := Lib.hid hg2
  clear hd2 hg2
  obtain ⟨n, hn, hhn⟩ : ∃ n : Nat, IntKind.i64.wrap (2 + (y2 : Int)) = n ∧ n = y2 + 2 := ⟨y2 + 2, (IntWalk.i64_in _ ⟨by omega, by omega⟩).trans (by omega), rfl⟩
  have hbn : 2 ≤ n ∧ n ≤ 5 := by omega
  clear hhn hy2
  go_wp2_with fail
  refine (l91Chips_any w _ w.heap.size n' c' _ n 8 a HD2.out (by omega) (by omega) (by omega)).mono ?_
  rintro e w3 ⟨v, cs, p', rfl, hl, hnv, hg3, hd3, hp', hW⟩
  have HD := Lib.hid hd3
  have HW := Lib.hid hW
  have HG := Lib.hid (grown_trans HG2.out hg3)
  have hz2 := HG2.out.size
  have hGW : w.heap.size < w2.heap.size := by omega
  clear hg3 hd3 hW HD2 HD1
  go_wp2_with (go_at_call 57; refine (pick_any w _ w.heap.size n' c' _ a _ HD.out (by omega)).mono ?_; rintro e w4 ⟨y, rfl, hy, hg, hd⟩; have HW := Lib.hid (HW.out.kept hg hGW); have HG := Lib.hid (grown_trans HG.out hg); have HD := Lib.hid hd; clear hd hg hy)
  obtain ⟨a', cap, rfl, hD⟩ := HW.out.drawn (w := w) (by omega) hl hnv
  have HDD := Lib.hid hD
  have HS3 := Lib.hid (HS.out.trans (since_grown HG.out (Nat.le_refl _) (by omega)))
  clear hD hl hnv
  refine bodyPost_ret (results_four rfl _ _ _) rfl ?_
  exact ⟨_, _, _, _, _, _, rfl, HS3.out, hbn, HDD.out⟩

end Go.Proofs.Ytbclpbgomkfabaa
end

section
namespace Go.Proofs.Ytbclpbgomkfabaa
open Go.RowKit Go.Deep

theorem and_less : ∀ s : Fin 64, ∃ t : Fin 64, bits BinOp.and IntKind.i64 (s.val : Int) ((s.val : Int) - 1) = ((t.val : Nat) : Int) := by decide +kernel

def DF (w w1 : World) (G B nb cb : Nat) (a : Option Addr) (v : Value) (cs : List RC) (P : Nat) (wr : World) : Prop := ∃ p, p ≤ P ∧ RD w wr G a nb cb 103 p ∧ w1.grownBy wr (some G) ∧ CW B wr v cs
theorem pickF {w w1 wr : World} {G B nb cb P : Nat} {a : Option Addr} {v : Value} {cs : List RC} (m : Int) (h : DF w w1 G B nb cb a v cs P wr) (hP : P ≤ 1000) (hG : G < B) :
    Calls Try.prog 57 #[.pointer (some ⟨G, 0, none⟩), .int .i64 m] wr fun e w' => ∃ x : Nat, e = .returned (.int .i64 x) ∧ ((x : Int) < m ∨ x = 0) ∧ DF w w1 G B nb cb a v cs (P + 1) w' := by
  obtain ⟨p, hp, hd, hg, hc⟩ := h
  refine (pick_any w wr G nb cb p a m hd (by omega)).mono ?_
  rintro e w' ⟨x, e1, e2, hg2, hd2⟩
  exact ⟨x, e1, e2, p + 1, by omega, hd2, grown_trans hg hg2, hc.kept hg2 hG⟩
theorem DF.drew {w w1 wr : World} {G B nb cb P : Nat} {a : Option Addr} {v : Value} {cs : List RC} (h : DF w w1 G B nb cb a v cs P wr) : DF w w1 G B nb cb a v cs P wr.drew := by
  obtain ⟨p, hp, hd, hg, hc⟩ := h
  exact ⟨p, hp, hd.grown (row := none) (w := wr) ⟨rfl, rfl, rfl, Nat.le_refl _, fun _ _ _ => rfl⟩ (fun k e => by cases e), ⟨hg.os, hg.tape, hg.output, hg.size, hg.block⟩, hc⟩
theorem DF.mono {w w1 wr : World} {G B nb cb P P' : Nat} {a : Option Addr} {v : Value} {cs : List RC} (h : DF w w1 G B nb cb a v cs P wr) (hP : P ≤ P') : DF w w1 G B nb cb a v cs P' wr := by
  obtain ⟨p, hp, hd⟩ := h
  exact ⟨p, by omega, hd⟩
theorem le63 {y M : Nat} (h : (y : Int) < (M : Int) ∨ y = 0) (hM : M ≤ 32) : y ≤ 31 := by omega
theorem le63b {y M d : Nat} (h : (y : Int) < IntKind.i64.wrap ((M : Int) + IntKind.i64.wrap (d : Int)) ∨ y = 0) (hM : M ≤ 32) (hd : d ≤ 1) : y ≤ 63 := by
  rw [IntWalk.i64_in (d : Int) ⟨by omega, by omega⟩, IntWalk.i64_in _ ⟨by omega, by omega⟩] at h
  omega
theorem div23 {y : Nat} (h : (y : Int) < 24 ∨ y = 0) : ∃ d : Nat, (y : Int).tdiv 23 = (d : Int) ∧ d ≤ 1 := by
  refine ⟨y / 23, ?_, by omega⟩
  rw [Int.tdiv_eq_ediv_of_nonneg (by omega)]
  omega

set_option maxRecDepth 100000 in
set_option maxHeartbeats 2000000 in
theorem drawNetFamilies_any (a : Option Addr) (nb cb : Nat) (w : World) (hc : nb ≤ cb) (h63 : cb ≤ 9223372036854775807) (hb : BytR w a nb) :
    Calls Try.prog 17 #[.slice a nb cb] w fun e w' => ∃ (n : Nat) (a' : Option Addr) (cap : Nat) (cs : List RC) (i k : Int), e = .returned (.tuple #[.int .i64 n, .slice a' cs.length cap, .int .i64 i, .int .i64 k]) ∧ w.Since w.heap.size w' ∧ (2 ≤ n ∧ n ≤ 5) ∧ DrawnC w w' a' cap cs := by
  have E := Lib.hid (l6Open_any a nb cb w hc h63 hb)
  clear hb
  go_enter Try.func17, Try.ntmps17
  go_wp2_with fail
  refine (E.out).mono ?_
  rintro e w1 ⟨n', c', rfl, hs, hz, hd⟩
  have HD1 := Lib.hid hd
  have HS := Lib.hid hs
  have hz1 : w.heap.size < w1.heap.size := by omega
  clear hd hs hz
  go_wp2_with fail
  refine (pick_any w _ w.heap.size n' c' _ a _ HD1.out (by omega)).mono ?_
  rintro e w2 ⟨y2, rfl, hy2, hg2, hd2⟩
  have HD2 := Lib.hid hd2
  have HG2 := Lib.hid hg2
  clear hd2 hg2
  obtain ⟨n, hn, hhn⟩ : ∃ n : Nat, IntKind.i64.wrap (2 + (y2 : Int)) = n ∧ n = y2 + 2 := ⟨y2 + 2, (IntWalk.i64_in _ ⟨by omega, by omega⟩).trans (by omega), rfl⟩
  have hbn : 2 ≤ n ∧ n ≤ 5 := by omega
  clear hhn hy2
  go_wp2_with fail
  refine (l91Chips_any w _ w.heap.size n' c' _ n 9 a HD2.out (by omega) (by omega) (by omega)).mono ?_
  rintro e w3 ⟨v, cs, p', rfl, hl, hnv, hg3, hd3, hp', hW⟩
  have HD := Lib.hid hd3
  have HW := Lib.hid hW
  have HG := Lib.hid (grown_trans HG2.out hg3)
  have hz2 := HG2.out.size
  have hGW : w.heap.size < w2.heap.size := by omega
  clear hg3 hd3 hW HD2 HD1
  obtain ⟨⟨p1, p2⟩, p3, p4, p5⟩ := p5_fin ⟨n, by omega⟩
  simp only at p1 p2 p3 p4 p5
  obtain ⟨M, hM⟩ : ∃ M : Nat, 2 ^ n = M := ⟨_, rfl⟩
  rw [hM] at p1 p2 p4 p5
  clear hM p3
  have HF := Lib.hid (show DF w w1 w.heap.size w2.heap.size n' c' a v cs 101 w3 from ⟨p', by omega, HD.out, HG.out, HW.out⟩)
  clear HD HW HG
  go_wp2_with fail
  refine (pickF _ HF.out (by omega) hGW).mono ?_
  rintro e w4 ⟨ya, rfl, hya, hf⟩
  have hya2 := le63 hya p5
  have HF4 := Lib.hid hf
  clear hf hya HF
  go_wp2_with fail
  go_region_held3 (fun _ => True) (first | trivial)
    (first
      | (go_at_call 57; with_reducible refine (pickF 24 HF4.out.drew (by omega) hGW).mono ?_; rintro e w5 ⟨yq, rfl, hyq, hf5⟩; have HF5 := Lib.hid hf5; obtain ⟨d, hd1, hd2⟩ := div23 hyq; clear hf5 hyq)
      | (go_at_call 57; refine (pickF _ HF5.out (by omega) hGW).mono ?_; rintro e w6 ⟨yb, rfl, hyb, hf6⟩; have HF6 := Lib.hid hf6; clear hf6))
  have hyb2 := le63b hyb p5 hd2
  clear hyb HF5 HF4
  go_wp2
  go_loopg [9, 10, 11] 5 (fun g av bv kv wr => ∃ k i j : Nat, k ≤ 5 ∧ g = 5 - k ∧ kv = .int .i64 k ∧ av = .int .i64 i ∧ bv = .int .i64 j ∧ i ≤ 63 ∧ j ≤ 63 ∧ DF w w1 w.heap.size w2.heap.size n' c' a v cs (200 + k) wr)
  case atStart => exact ⟨0, ya, yb, by omega, rfl, rfl, rfl, rfl, by omega, hyb2, HF6.out.mono (by omega)⟩
  case round =>
    obtain ⟨k, i, j, hk, rfl, rfl, rfl, rfl, hi, hj, hf⟩ := hrel
    have HF := Lib.hid hf
    clear hf HF6
    have Z1 := fun (W : World) => l2Size_any i (by omega) W
    have Z2 := fun (W : World) => l2Size_any j (by omega) W
    obtain ⟨si, hsi⟩ : ∃ s, popcS i = s := ⟨_, rfl⟩
    obtain ⟨sj, hsj⟩ : ∃ s, popcS j = s := ⟨_, rfl⟩
    simp only [hsi] at Z1
    simp only [hsj] at Z2
    replace Z1 := Lib.hid Z1
    replace Z2 := Lib.hid Z2
    obtain ⟨⟨ti, hti⟩, hai⟩ := and_less ⟨i, by omega⟩
    obtain ⟨⟨tj, htj⟩, haj⟩ := and_less ⟨j, by omega⟩
    simp only at hai haj
    clear hsi hsj
    by_cases hk5 : k < 5
    · have hkb : decide ((k : Int) < 5) = true := by simp; omega
      by_cases hs : si = sj
      · have hsb : ((si : Int) != (sj : Int)) = false := by simp [hs]
        go_wp2_with fail
        refine (Z1.out _).mono ?_
        rintro e wz ⟨rfl, rfl⟩
        go_wp2_with fail
        refine (Z2.out _).mono ?_
        rintro e wz ⟨rfl, rfl⟩
        go_wp2
        obtain ⟨p, hp, hd, hg, hc⟩ := HF.out
        obtain ⟨a', cap, rfl, hD⟩ := hc.drawn (w := w) (by omega) hl hnv
        have HDD := Lib.hid hD
        have HS3 := Lib.hid (HS.out.trans (since_grown hg (Nat.le_refl _) (by omega)))
        clear hD hl hnv
        refine bodyPost_ret (results_four rfl _ _ _) rfl ?_
        exact ⟨_, _, _, _, _, _, rfl, HS3.out, hbn, HDD.out⟩
      · have hsb : ((si : Int) != (sj : Int)) = true := by simp; omega
        go_wp2_with fail
        refine (Z1.out _).mono ?_
        rintro e wz ⟨rfl, rfl⟩
        go_wp2_with fail
        refine (Z2.out _).mono ?_
        rintro e wz ⟨rfl, rfl⟩
        go_wp2_with fail
        refine (pickF _ HF.out (by omega) hGW).mono ?_
        rintro e wy ⟨x, rfl, _, hfx⟩
        have HFX := Lib.hid hfx
        clear hfx
        by_cases hx0 : x = 0
        · have hxb : decide ((0 : Int) < (x : Int)) = false := by simp [hx0]
          go_wp2
          obtain ⟨p, hp, hd, hg, hc⟩ := HFX.out
          obtain ⟨a', cap, rfl, hD⟩ := hc.drawn (w := w) (by omega) hl hnv
          have HDD := Lib.hid hD
          have HS3 := Lib.hid (HS.out.trans (since_grown hg (Nat.le_refl _) (by omega)))
          clear hD hl hnv
          refine bodyPost_ret (results_four rfl _ _ _) rfl ?_
          exact ⟨_, _, _, _, _, _, rfl, HS3.out, hbn, HDD.out⟩
        · have hxb : decide ((0 : Int) < (x : Int)) = true := by simp; omega
          by_cases hgt : sj < si
          · have hgb : decide ((sj : Int) < (si : Int)) = true := by simp; omega
            go_wp2_with fail
            refine (Z1.out _).mono ?_
            rintro e wz ⟨rfl, rfl⟩
            go_wp2_with fail
            refine (Z2.out _).mono ?_
            rintro e wz ⟨rfl, rfl⟩
            go_wp2
            go_roundg (5 - (k + 1))
            case measure => omega
            case rel => exact ⟨k + 1, ti, j, by omega, rfl, by go_num, rfl, rfl, by omega, hj, HFX.out.mono (by omega)⟩
          · have hgb : decide ((sj : Int) < (si : Int)) = false := by simp; omega
            go_wp2_with fail
            refine (Z1.out _).mono ?_
            rintro e wz ⟨rfl, rfl⟩
            go_wp2_with fail
            refine (Z2.out _).mono ?_
            rintro e wz ⟨rfl, rfl⟩
            go_wp2
            go_roundg (5 - (k + 1))
            case measure => omega
            case rel => exact ⟨k + 1, i, tj, by omega, rfl, by go_num, rfl, rfl, hi, by omega, HFX.out.mono (by omega)⟩
    · have hkb : decide ((k : Int) < 5) = false := by simp; omega
      go_wp2
      obtain ⟨p, hp, hd, hg, hc⟩ := HF.out
      obtain ⟨a', cap, rfl, hD⟩ := hc.drawn (w := w) (by omega) hl hnv
      have HDD := Lib.hid hD
      have HS3 := Lib.hid (HS.out.trans (since_grown hg (Nat.le_refl _) (by omega)))
      clear hD hl hnv
      refine bodyPost_ret (results_four rfl _ _ _) rfl ?_
      exact ⟨_, _, _, _, _, _, rfl, HS3.out, hbn, HDD.out⟩

end Go.Proofs.Ytbclpbgomkfabaa
end

section
namespace Go.Proofs.Ytbclpbgomkfabaa

def famL : List CH → Nat → Int → List (Nat × Int)
  | [], s, x => [(s, x)]
  | c :: cs, s, x => if c.1 = 2 then (if s.testBit c.2.1 = true then famL cs s (x * c.2.2) else famL cs s x)
    else if s.testBit (cFrom c) = true ∧ s.testBit (cTo c) = false then famL cs (s ^^^ 2 ^ cFrom c ^^^ 2 ^ cTo c) (x * c.2.2) ++ famL cs s x else famL cs s x
def twoP : Nat → Nat
  | 0 => 1
  | k + 1 => 2 * twoP k
theorem twoP_le {k : Nat} (h : k ≤ 10) : twoP k ≤ 1024 := by
  have : ∀ j : Fin 11, twoP j.val ≤ 1024 := by decide
  exact this ⟨k, by omega⟩
theorem twoP_pos : ∀ k, 1 ≤ twoP k
  | 0 => by decide
  | k + 1 => by have := twoP_pos k; show 1 ≤ 2 * twoP k; omega
theorem famL_len : ∀ (cs : List CH) (s : Nat) (x : Int), (famL cs s x).length ≤ twoP cs.length
  | [], s, x => by simp [famL, twoP]
  | c :: cs, s, x => by
    have h1 := famL_len cs s x
    have h2 := famL_len cs s (x * c.2.2)
    have h3 := famL_len cs (s ^^^ 2 ^ cFrom c ^^^ 2 ^ cTo c) (x * c.2.2)
    have e : twoP (c :: cs).length = 2 * twoP cs.length := rfl
    rw [e]
    unfold famL
    split
    · split <;> omega
    · split
      · rw [List.length_append]; omega
      · omega
def sumTo2 (t : Nat) (l : List (Nat × Int)) : Int := l.foldl (fun a y => if y.1 = t then a + y.2 else a) 0
theorem foldl_add (t : Nat) : ∀ (l : List (Nat × Int)) (a : Int), l.foldl (fun a y => if y.1 = t then a + y.2 else a) a = a + l.foldl (fun a y => if y.1 = t then a + y.2 else a) 0
  | [], a => by simp
  | y :: l, a => by
    simp only [List.foldl_cons]
    rw [foldl_add t l (if y.1 = t then a + y.2 else a), foldl_add t l (if y.1 = t then 0 + y.2 else 0)]
    split <;> omega
theorem sumTo2_app (t : Nat) (l m : List (Nat × Int)) : sumTo2 t (l ++ m) = sumTo2 t l + sumTo2 t m := by
  unfold sumTo2
  rw [List.foldl_append, foldl_add t m]
theorem famL_sum (t : Nat) : ∀ (cs : List CH) (s : Nat) (x : Int), sumTo2 t (famL cs s x) = x * famN cs s t
  | [], s, x => by
    unfold famL famN sumTo2
    by_cases e : s = t <;> simp [e]
  | c :: cs, s, x => by
    unfold famL famN
    split
    · split
      · rw [famL_sum t cs s, Int.mul_assoc]
      · exact famL_sum t cs s x
    · split
      · rw [sumTo2_app, famL_sum t cs, famL_sum t cs, Int.mul_add, Int.mul_assoc]; omega
      · rw [Int.add_zero]; exact famL_sum t cs s x
def nineP : Nat → Int
  | 0 => 1
  | k + 1 => 9 * nineP k
theorem nineP_pos : ∀ k, 1 ≤ nineP k
  | 0 => by decide
  | k + 1 => by have := nineP_pos k; show 1 ≤ 9 * nineP k; omega
theorem nineP_le {k : Nat} (h : k ≤ 10) : nineP k ≤ 10000000000 := by
  have : ∀ j : Fin 11, nineP j.val ≤ 10000000000 := by decide
  exact this ⟨k, by omega⟩
theorem famL_mem : ∀ (cs : List CH) (s : Nat) (x : Int) (y : Nat × Int), (∀ c ∈ cs, -9 ≤ c.2.2 ∧ c.2.2 ≤ 9) → y ∈ famL cs s x → ∀ B : Int, 0 ≤ B → -B ≤ x → x ≤ B → -(nineP cs.length * B) ≤ y.2 ∧ y.2 ≤ nineP cs.length * B
  | [], s, x, y, _, hy, B, h0, h1, h2 => by
    unfold famL at hy
    simp at hy
    subst hy
    simp [nineP, h1, h2]
  | c :: cs, s, x, y, hc, hy, B, h0, h1, h2 => by
    have hcc := hc c (by simp)
    have hc' : ∀ d ∈ cs, -9 ≤ d.2.2 ∧ d.2.2 ≤ 9 := fun d hd => hc d (by simp [hd])
    have hm : -(9 * B) ≤ x * c.2.2 ∧ x * c.2.2 ≤ 9 * B := by
      rw [Int.mul_comm x c.2.2]
      exact mul_bd9 hcc.1 hcc.2 h1 h2
    have e : nineP (c :: cs).length * B = nineP cs.length * (9 * B) := by
      show 9 * nineP cs.length * B = _
      rw [Int.mul_comm 9, Int.mul_assoc]
    have hp := nineP_pos cs.length
    have hq : nineP cs.length * B ≤ nineP cs.length * (9 * B) := Int.mul_le_mul_of_nonneg_left (by omega) (by omega)
    rw [e]
    have A1 := fun (h : y ∈ famL cs s (x * c.2.2)) => famL_mem cs s _ y hc' h (9 * B) (by omega) hm.1 hm.2
    have A2 := fun (h : y ∈ famL cs s x) => famL_mem cs s _ y hc' h B h0 h1 h2
    have A3 := fun (h : y ∈ famL cs (s ^^^ 2 ^ cFrom c ^^^ 2 ^ cTo c) (x * c.2.2)) => famL_mem cs _ _ y hc' h (9 * B) (by omega) hm.1 hm.2
    unfold famL at hy
    split at hy
    · split at hy
      · exact A1 hy
      · have := A2 hy; omega
    · split at hy
      · rcases List.mem_append.1 hy with hy | hy
        · exact A3 hy
        · have := A2 hy; omega
      · have := A2 hy; omega
theorem sumTo2_bd (t : Nat) {B : Int} (hB : 0 ≤ B) : ∀ (l : List (Nat × Int)), (∀ y ∈ l, -B ≤ y.2 ∧ y.2 ≤ B) → -(B * l.length) ≤ sumTo2 t l ∧ sumTo2 t l ≤ B * l.length
  | [], _ => by simp [sumTo2]
  | y :: l, h => by
    have h1 := sumTo2_bd t hB l (fun z hz => h z (by simp [hz]))
    have h2 := h y (by simp)
    have e : sumTo2 t (y :: l) = (if y.1 = t then y.2 else 0) + sumTo2 t l := by
      unfold sumTo2
      rw [List.foldl_cons, foldl_add]
      split <;> omega
    rw [e, List.length_cons]
    have e2 : B * ((l.length + 1 : Nat) : Int) = B * l.length + B := by rw [Int.natCast_add, Int.mul_add]; omega
    rw [e2]
    split <;> omega

end Go.Proofs.Ytbclpbgomkfabaa
end

section
namespace Go.Proofs.Ytbclpbgomkfabaa
open Go.RowKit Go.Deep Go.Shelf
attribute [local go_sem] Oper.semAt_some

def encF (x : Nat × Int) : Array Value := #[.int .i64 (x.1 : Int), .int .i64 x.2]
structure FB (By Bg l : Nat) (W : World) : Prop where
  yb : W.cell? ⟨By, 0, none⟩ = some (.func (.yield l) #[] #[])
  bg : W.cell? ⟨Bg, 0, none⟩ = some (.func (.func 129) #[] #[.pointer (some ⟨By, 0, none⟩), .pointer (some ⟨Bg, 0, none⟩)])
theorem FB.keeps {By Bg l : Nat} {W W' : World} {own : Nat → Prop} (h : FB By Bg l W) (hk : Keeps own W W') (h1 : ¬ own By) (h2 : ¬ own Bg) : FB By Bg l W' := ⟨hk.cell (a := ⟨By, 0, none⟩) h1 h.yb, hk.cell (a := ⟨Bg, 0, none⟩) h2 h.bg⟩
def FE (own : Nat → Prop) (J Jx : List (Nat × Int) → World → Prop) (all : List (Nat × Int)) (W : World) (e : Ending) (W' : World) : Prop :=
  (e = .returned (.bool true) ∧ J all W' ∧ Keeps own W W') ∨ (e = .returned (.bool false) ∧ (∃ q, q <+: all ∧ Jx q W') ∧ Keeps own W W')

set_option maxRecDepth 100000 in
set_option maxHeartbeats 1000000 in
theorem goF_nil (l By Bg N : Nat) (own : Nat → Prop) (J Jx : List (Nat × Int) → World → Prop)
    (hY : ∀ m pre x W, J pre W → pre.length < N → YieldAt Fence.wide m Try.prog l (encF x) W fun e W' => (e = .returned (.bool true) ∧ J (pre ++ [x]) W' ∧ Keeps own W W') ∨ (e = .returned (.bool false) ∧ Jx (pre ++ [x]) W' ∧ Keeps own W W'))
    (a : Option Addr) (cap s : Nat) (x : Int) (pre : List (Nat × Int)) (W : World) (hb : FB By Bg l W) (hj : J pre W) (hN : pre.length < N) :
    Calls Try.prog 129 #[.slice a 0 cap, .int .i64 s, .int .i64 x, .pointer (some ⟨By, 0, none⟩), .pointer (some ⟨Bg, 0, none⟩)] W (FE own J Jx (pre ++ [(s, x)]) W) := by
  obtain ⟨fn, tmps, assign, body, hy, hR⟩ := hY 7 pre (s, x) W hj hN
  have hyb := hb.yb
  dsimp only [encF] at hy
  clear hb hj hN
  refine (callsIn_wide (n := 8)).1 ?_
  refine callsIn_of_wp Try.func129 rfl trivial ?_ rfl
  simp only [Try.ntmps129, List.size_toArray, List.length_cons, List.length_nil, Nat.reduceAdd, Nat.reduceSub, Array.replicate_succ, Array.replicate_zero, List.push_toArray, List.append_toArray, List.nil_append, List.cons_append]
  gi_wp2
  refine hR.mono ?_
  rintro e W3 (⟨rfl, hJ3, hk3⟩ | ⟨rfl, hx3, hk3⟩)
  · gi_wp2
    go_ret
    exact .inl ⟨rfl, hJ3, hk3⟩
  · gi_wp2
    go_ret
    exact .inr ⟨rfl, ⟨_, List.prefix_refl _, hx3⟩, hk3⟩

theorem keeps_since {own : Nat → Prop} {W V : World} (h : W.Since W.heap.size V) : Keeps own W V := Keeps.grown (row := none) ⟨h.os, h.tape, h.output, h.size, fun k hk _ => h.block k hk⟩ (fun r e => by cases e)
theorem FE.from {own : Nat → Prop} {J Jx : List (Nat × Int) → World → Prop} {all : List (Nat × Int)} {W V W' : World} {e : Ending} (h : FE own J Jx all V e W') (hk : Keeps own W V) : FE own J Jx all W e W' := by
  rcases h with ⟨he, hj, hk2⟩ | ⟨he, hj, hk2⟩
  · exact .inl ⟨he, hj, hk.trans hk2⟩
  · exact .inr ⟨he, hj, hk.trans hk2⟩

set_option maxRecDepth 100000 in
set_option maxHeartbeats 400000 in
theorem goF_g (By Bg l : Nat) (own : Nat → Prop) (J Jx : List (Nat × Int) → World → Prop) (all : List (Nat × Int)) (K : ByteArray) (V x : Int) (M cap b o s L F T : Nat) (W : World) (hF : F ≤ 4) (hs : s ≤ 31) (hsF : s.testBit F = false)
    (EF : ∀ W : World, Calls Try.prog 114 #[.agg #[.string K, .int .i64 L, .int .i64 V]] W fun e w' => e = .returned (.tuple #[.int .i64 F, .int .i64 T]) ∧ W.Since W.heap.size w')
    (hb : FB By Bg l W)
    (IHP : ∀ (X : World) (q c' : Nat), W.Since W.heap.size X → (q = o + 3 ∨ cap = 1) → M ≤ c' → c' ≤ cap → Calls Try.prog 129 #[.slice (some ⟨b, q, none⟩) M c', .int .i64 s, .int .i64 x, .pointer (some ⟨By, 0, none⟩), .pointer (some ⟨Bg, 0, none⟩)] X (FE own J Jx all X)) (hM : M + 1 ≤ 10) (hcap : M + 1 ≤ cap) (hc63 : cap ≤ 9223372036854775807)
    (k1 : W.cell? ⟨b, o, none⟩ = some (.string K)) (k2 : W.cell? ⟨b, o + 1, none⟩ = some (.int .i64 L)) (k3 : W.cell? ⟨b, o + 2, none⟩ = some (.int .i64 V)) :
    Calls Try.prog 129 #[.slice (some ⟨b, o, none⟩) (M + 1) cap, .int .i64 s, .int .i64 x, .pointer (some ⟨By, 0, none⟩), .pointer (some ⟨Bg, 0, none⟩)] W (FE own J Jx all W) := by
  obtain ⟨d1, d2, d3⟩ := chip_box W K L V 36
  have HS := Lib.hid ((World.Since.refl W.heap.size W).alloc (Nat.le_refl _) (.cells #[.string K, .int .i64 L, .int .i64 V] 36))
  have E1 := fun X => inSet_any s F (by omega) (by omega) X
  simp only [hsF] at E1
  replace E1 := Lib.hid E1
  replace EF := Lib.hid EF
  replace IHP := Lib.hid IHP
  have HB := Lib.hid hb
  clear hb hsF
  rcases Nat.lt_or_eq_of_le (show 1 ≤ cap by omega) with hc1 | rfl
  · have hb1 : (0 : Int) ≤ (M : Int) := by omega
    have hb2 : (1 : Int) ≤ (M : Int) + 1 := by omega
    have hb3 : (M : Int) + 1 ≤ (cap : Int) := by omega
    have hc2 : ¬ cap = 1 := by omega
    have hc3 : ¬ 1 = cap := by omega
    go_enter Try.func129, Try.ntmps129
    have a1 := fun ob => cell_alloc_l ob k1
    have a2 := fun ob => cell_alloc_l ob k2
    have a3 := fun ob => cell_alloc_l ob k3
    have hbg := cell_alloc_l (.cells #[.string K, .int .i64 L, .int .i64 V] 36) HB.out.bg
    have hbl := World.block_lt_of_cell? _ _ hbg
    go_wp2_with fail
    go_region
    clear a1 a2 a3
    go_wp2_with (first
      | (go_at_call 114; refine (EF.out _).mono ?_; rintro e w1 ⟨rfl, hs1⟩; replace hs1 := since_of_drew hs1; have hbg1 := (hs1.cell hbl).trans hbg; have HS1 := Lib.hid (HS.out.trans (since_mono hs1 HS.out.size)); clear hs1)
      | (go_at_call 130; refine (E1.out _).mono ?_; rintro e w2 ⟨rfl, rfl⟩))
    go_quiet ((go_at_call 130; exact Calls.quiet_of_same ((E1.out _).mono fun _ _ h => ⟨h.1, h.2.symm⟩)))
    have hs3 : W.Since W.heap.size (w1.drewN nq) := since_drewN HS1.out nq
    have hbg3 : (w1.drewN nq).cell? ⟨Bg, 0, none⟩ = _ := hbg1
    have HS3 := Lib.hid hs3
    clear hs3
    go_wp2_with fail
    refine (IHP.out _ _ _ HS3.out (by first | exact .inr trivial | exact .inr rfl | exact .inl rfl) (by omega) (by omega)).mono ?_
    rintro e w4 hE
    replace hE := hE.from (keeps_since HS3.out)
    rcases hE with ⟨rfl, hJ4, hk4⟩ | ⟨rfl, hx4, hk4⟩
    · go_wp2_with fail
      go_ret
      exact .inl ⟨rfl, hJ4, hk4⟩
    · go_wp2_with fail
      go_ret
      exact .inr ⟨rfl, hx4, hk4⟩
  · obtain rfl : M = 0 := by omega
    clear hM hcap hc63
    go_enter Try.func129, Try.ntmps129
    have a1 := fun ob => cell_alloc_l ob k1
    have a2 := fun ob => cell_alloc_l ob k2
    have a3 := fun ob => cell_alloc_l ob k3
    have hbg := cell_alloc_l (.cells #[.string K, .int .i64 L, .int .i64 V] 36) HB.out.bg
    have hbl := World.block_lt_of_cell? _ _ hbg
    go_wp2_with fail
    go_region
    clear a1 a2 a3
    go_wp2_with (first
      | (go_at_call 114; refine (EF.out _).mono ?_; rintro e w1 ⟨rfl, hs1⟩; replace hs1 := since_of_drew hs1; have hbg1 := (hs1.cell hbl).trans hbg; have HS1 := Lib.hid (HS.out.trans (since_mono hs1 HS.out.size)); clear hs1)
      | (go_at_call 130; refine (E1.out _).mono ?_; rintro e w2 ⟨rfl, rfl⟩))
    go_quiet ((go_at_call 130; exact Calls.quiet_of_same ((E1.out _).mono fun _ _ h => ⟨h.1, h.2.symm⟩)))
    have hs3 : W.Since W.heap.size (w1.drewN nq) := since_drewN HS1.out nq
    have hbg3 : (w1.drewN nq).cell? ⟨Bg, 0, none⟩ = _ := hbg1
    have HS3 := Lib.hid hs3
    clear hs3
    go_wp2_with fail
    refine (IHP.out _ _ _ HS3.out (by first | exact .inr trivial | exact .inr rfl | exact .inl rfl) (by omega) (by omega)).mono ?_
    rintro e w4 hE
    replace hE := hE.from (keeps_since HS3.out)
    rcases hE with ⟨rfl, hJ4, hk4⟩ | ⟨rfl, hx4, hk4⟩
    · go_wp2_with fail
      go_ret
      exact .inl ⟨rfl, hJ4, hk4⟩
    · go_wp2_with fail
      go_ret
      exact .inr ⟨rfl, hx4, hk4⟩

set_option maxRecDepth 100000 in
set_option maxHeartbeats 400000 in
theorem goF_h (By Bg l : Nat) (own : Nat → Prop) (J Jx : List (Nat × Int) → World → Prop) (all : List (Nat × Int)) (K : ByteArray) (V x : Int) (M cap b o s L F : Nat) (W : World) (hF : F ≤ 4) (hs : s ≤ 31) (hsF : s.testBit F = true) (hw1 : IntKind.i64.wrap (x * V) = x * V)
    (EF : ∀ W : World, Calls Try.prog 114 #[.agg #[.string K, .int .i64 L, .int .i64 V]] W fun e w' => e = .returned (.tuple #[.int .i64 F, .int .i64 F]) ∧ W.Since W.heap.size w')
    (hb : FB By Bg l W)
    (IHP : ∀ (X : World) (q c' : Nat), W.Since W.heap.size X → (q = o + 3 ∨ cap = 1) → M ≤ c' → c' ≤ cap → Calls Try.prog 129 #[.slice (some ⟨b, q, none⟩) M c', .int .i64 s, .int .i64 (x * V), .pointer (some ⟨By, 0, none⟩), .pointer (some ⟨Bg, 0, none⟩)] X (FE own J Jx all X)) (hM : M + 1 ≤ 10) (hcap : M + 1 ≤ cap) (hc63 : cap ≤ 9223372036854775807)
    (k1 : W.cell? ⟨b, o, none⟩ = some (.string K)) (k2 : W.cell? ⟨b, o + 1, none⟩ = some (.int .i64 L)) (k3 : W.cell? ⟨b, o + 2, none⟩ = some (.int .i64 V)) :
    Calls Try.prog 129 #[.slice (some ⟨b, o, none⟩) (M + 1) cap, .int .i64 s, .int .i64 x, .pointer (some ⟨By, 0, none⟩), .pointer (some ⟨Bg, 0, none⟩)] W (FE own J Jx all W) := by
  obtain ⟨d1, d2, d3⟩ := chip_box W K L V 36
  have HS := Lib.hid ((World.Since.refl W.heap.size W).alloc (Nat.le_refl _) (.cells #[.string K, .int .i64 L, .int .i64 V] 36))
  have E1 := fun X => inSet_any s F (by omega) (by omega) X
  simp only [hsF] at E1
  replace E1 := Lib.hid E1
  replace EF := Lib.hid EF
  replace IHP := Lib.hid IHP
  have HB := Lib.hid hb
  clear hb hsF
  rcases Nat.lt_or_eq_of_le (show 1 ≤ cap by omega) with hc1 | rfl
  · have hb1 : (0 : Int) ≤ (M : Int) := by omega
    have hb2 : (1 : Int) ≤ (M : Int) + 1 := by omega
    have hb3 : (M : Int) + 1 ≤ (cap : Int) := by omega
    have hc2 : ¬ cap = 1 := by omega
    have hc3 : ¬ 1 = cap := by omega
    go_enter Try.func129, Try.ntmps129
    have a1 := fun ob => cell_alloc_l ob k1
    have a2 := fun ob => cell_alloc_l ob k2
    have a3 := fun ob => cell_alloc_l ob k3
    have hbg := cell_alloc_l (.cells #[.string K, .int .i64 L, .int .i64 V] 36) HB.out.bg
    have hbl := World.block_lt_of_cell? _ _ hbg
    go_wp2_with fail
    go_region
    clear a1 a2 a3
    go_wp2_with (first
      | (go_at_call 114; refine (EF.out _).mono ?_; rintro e w1 ⟨rfl, hs1⟩; replace hs1 := since_of_drew hs1; have hbg1 := (hs1.cell hbl).trans hbg; have hw3 := (hs1.cell (World.block_lt_of_cell? _ _ d3)).trans d3; have HS1 := Lib.hid (HS.out.trans (since_mono hs1 HS.out.size)); clear hs1)
      | (go_at_call 130; refine (E1.out _).mono ?_; rintro e w2 ⟨rfl, rfl⟩))
    have HS3 := HS1
    refine (IHP.out _ _ _ HS3.out (by first | exact .inr trivial | exact .inr rfl | exact .inl rfl) (by omega) (by omega)).mono ?_
    rintro e w4 hE
    replace hE := hE.from (keeps_since HS3.out)
    rcases hE with ⟨rfl, hJ4, hk4⟩ | ⟨rfl, hx4, hk4⟩
    · go_wp2_with fail
      go_ret
      exact .inl ⟨rfl, hJ4, hk4⟩
    · go_wp2_with fail
      go_ret
      exact .inr ⟨rfl, hx4, hk4⟩
  · obtain rfl : M = 0 := by omega
    clear hM hcap hc63
    go_enter Try.func129, Try.ntmps129
    have a1 := fun ob => cell_alloc_l ob k1
    have a2 := fun ob => cell_alloc_l ob k2
    have a3 := fun ob => cell_alloc_l ob k3
    have hbg := cell_alloc_l (.cells #[.string K, .int .i64 L, .int .i64 V] 36) HB.out.bg
    have hbl := World.block_lt_of_cell? _ _ hbg
    go_wp2_with fail
    go_region
    clear a1 a2 a3
    go_wp2_with (first
      | (go_at_call 114; refine (EF.out _).mono ?_; rintro e w1 ⟨rfl, hs1⟩; replace hs1 := since_of_drew hs1; have hbg1 := (hs1.cell hbl).trans hbg; have hw3 := (hs1.cell (World.block_lt_of_cell? _ _ d3)).trans d3; have HS1 := Lib.hid (HS.out.trans (since_mono hs1 HS.out.size)); clear hs1)
      | (go_at_call 130; refine (E1.out _).mono ?_; rintro e w2 ⟨rfl, rfl⟩))
    have HS3 := HS1
    refine (IHP.out _ _ _ HS3.out (by first | exact .inr trivial | exact .inr rfl | exact .inl rfl) (by omega) (by omega)).mono ?_
    rintro e w4 hE
    replace hE := hE.from (keeps_since HS3.out)
    rcases hE with ⟨rfl, hJ4, hk4⟩ | ⟨rfl, hx4, hk4⟩
    · go_wp2_with fail
      go_ret
      exact .inl ⟨rfl, hJ4, hk4⟩
    · go_wp2_with fail
      go_ret
      exact .inr ⟨rfl, hx4, hk4⟩

end Go.Proofs.Ytbclpbgomkfabaa
end

section
namespace Go.Proofs.Ytbclpbgomkfabaa
open Go.RowKit Go.Deep Go.Shelf
attribute [local go_sem] Oper.semAt_some

set_option maxRecDepth 100000 in
set_option maxHeartbeats 400000 in
theorem goF_m (By Bg l : Nat) (own : Nat → Prop) (J Jx : List (Nat × Int) → World → Prop) (all : List (Nat × Int)) (K : ByteArray) (V x : Int) (M cap b o s L F T : Nat) (W : World) (hF : F ≤ 4) (hT : T ≤ 4) (hs : s ≤ 31) (hFT : F ≠ T) (hsF : s.testBit F = true) (hsT : s.testBit T = true)
    (EF : ∀ W : World, Calls Try.prog 114 #[.agg #[.string K, .int .i64 L, .int .i64 V]] W fun e w' => e = .returned (.tuple #[.int .i64 F, .int .i64 T]) ∧ W.Since W.heap.size w')
    (hb : FB By Bg l W)
    (IHP : ∀ (X : World) (q c' : Nat), W.Since W.heap.size X → (q = o + 3 ∨ cap = 1) → M ≤ c' → c' ≤ cap → Calls Try.prog 129 #[.slice (some ⟨b, q, none⟩) M c', .int .i64 s, .int .i64 x, .pointer (some ⟨By, 0, none⟩), .pointer (some ⟨Bg, 0, none⟩)] X (FE own J Jx all X)) (hM : M + 1 ≤ 10) (hcap : M + 1 ≤ cap) (hc63 : cap ≤ 9223372036854775807)
    (k1 : W.cell? ⟨b, o, none⟩ = some (.string K)) (k2 : W.cell? ⟨b, o + 1, none⟩ = some (.int .i64 L)) (k3 : W.cell? ⟨b, o + 2, none⟩ = some (.int .i64 V)) :
    Calls Try.prog 129 #[.slice (some ⟨b, o, none⟩) (M + 1) cap, .int .i64 s, .int .i64 x, .pointer (some ⟨By, 0, none⟩), .pointer (some ⟨Bg, 0, none⟩)] W (FE own J Jx all W) := by
  obtain ⟨d1, d2, d3⟩ := chip_box W K L V 36
  have HS := Lib.hid ((World.Since.refl W.heap.size W).alloc (Nat.le_refl _) (.cells #[.string K, .int .i64 L, .int .i64 V] 36))
  have E1 := fun X => inSet_any s F (by omega) (by omega) X
  simp only [hsF] at E1
  replace E1 := Lib.hid E1
  have E2 := fun X => inSet_any s T (by omega) (by omega) X
  simp only [hsT] at E2
  replace E2 := Lib.hid E2
  have hftb : ((F : Int) == (T : Int)) = false := by simp; omega
  replace EF := Lib.hid EF
  replace IHP := Lib.hid IHP
  have HB := Lib.hid hb
  clear hb hsF hsT
  rcases Nat.lt_or_eq_of_le (show 1 ≤ cap by omega) with hc1 | rfl
  · have hb1 : (0 : Int) ≤ (M : Int) := by omega
    have hb2 : (1 : Int) ≤ (M : Int) + 1 := by omega
    have hb3 : (M : Int) + 1 ≤ (cap : Int) := by omega
    have hc2 : ¬ cap = 1 := by omega
    have hc3 : ¬ 1 = cap := by omega
    go_enter Try.func129, Try.ntmps129
    have a1 := fun ob => cell_alloc_l ob k1
    have a2 := fun ob => cell_alloc_l ob k2
    have a3 := fun ob => cell_alloc_l ob k3
    have hbg := cell_alloc_l (.cells #[.string K, .int .i64 L, .int .i64 V] 36) HB.out.bg
    have hbl := World.block_lt_of_cell? _ _ hbg
    go_wp2_with fail
    go_region
    clear a1 a2 a3
    go_wp2_with (first
      | (go_at_call 114; refine (EF.out _).mono ?_; rintro e w1 ⟨rfl, hs1⟩; replace hs1 := since_of_drew hs1; have hbg1 := (hs1.cell hbl).trans hbg; have HS1 := Lib.hid (HS.out.trans (since_mono hs1 HS.out.size)); clear hs1)
      | (go_at_call 130; ((with_reducible refine (E1.out _).mono ?_); rintro e w2 ⟨rfl, rfl⟩)))
    go_quiet (first | (go_at_call 130; with_reducible exact Calls.quiet_of_same ((E1.out _).mono fun _ _ h => ⟨h.1, h.2.symm⟩)) | (go_at_call 130; with_reducible exact Calls.quiet_of_same ((E2.out _).mono fun _ _ h => ⟨h.1, h.2.symm⟩)))
    have hs3 : W.Since W.heap.size (w1.drewN nq) := since_drewN HS1.out nq
    have hbg3 : (w1.drewN nq).cell? ⟨Bg, 0, none⟩ = _ := hbg1
    have HS3 := Lib.hid hs3
    clear hs3
    go_wp2_with fail
    refine (IHP.out _ _ _ HS3.out (by first | exact .inr trivial | exact .inr rfl | exact .inl rfl) (by omega) (by omega)).mono ?_
    rintro e w4 hE
    replace hE := hE.from (keeps_since HS3.out)
    rcases hE with ⟨rfl, hJ4, hk4⟩ | ⟨rfl, hx4, hk4⟩
    · go_wp2_with fail
      go_ret
      exact .inl ⟨rfl, hJ4, hk4⟩
    · go_wp2_with fail
      go_ret
      exact .inr ⟨rfl, hx4, hk4⟩
  · obtain rfl : M = 0 := by omega
    clear hM hcap hc63
    go_enter Try.func129, Try.ntmps129
    have a1 := fun ob => cell_alloc_l ob k1
    have a2 := fun ob => cell_alloc_l ob k2
    have a3 := fun ob => cell_alloc_l ob k3
    have hbg := cell_alloc_l (.cells #[.string K, .int .i64 L, .int .i64 V] 36) HB.out.bg
    have hbl := World.block_lt_of_cell? _ _ hbg
    go_wp2_with fail
    go_region
    clear a1 a2 a3
    go_wp2_with (first
      | (go_at_call 114; refine (EF.out _).mono ?_; rintro e w1 ⟨rfl, hs1⟩; replace hs1 := since_of_drew hs1; have hbg1 := (hs1.cell hbl).trans hbg; have HS1 := Lib.hid (HS.out.trans (since_mono hs1 HS.out.size)); clear hs1)
      | (go_at_call 130; ((with_reducible refine (E1.out _).mono ?_); rintro e w2 ⟨rfl, rfl⟩)))
    go_quiet (first | (go_at_call 130; with_reducible exact Calls.quiet_of_same ((E1.out _).mono fun _ _ h => ⟨h.1, h.2.symm⟩)) | (go_at_call 130; with_reducible exact Calls.quiet_of_same ((E2.out _).mono fun _ _ h => ⟨h.1, h.2.symm⟩)))
    have hs3 : W.Since W.heap.size (w1.drewN nq) := since_drewN HS1.out nq
    have hbg3 : (w1.drewN nq).cell? ⟨Bg, 0, none⟩ = _ := hbg1
    have HS3 := Lib.hid hs3
    clear hs3
    go_wp2_with fail
    refine (IHP.out _ _ _ HS3.out (by first | exact .inr trivial | exact .inr rfl | exact .inl rfl) (by omega) (by omega)).mono ?_
    rintro e w4 hE
    replace hE := hE.from (keeps_since HS3.out)
    rcases hE with ⟨rfl, hJ4, hk4⟩ | ⟨rfl, hx4, hk4⟩
    · go_wp2_with fail
      go_ret
      exact .inl ⟨rfl, hJ4, hk4⟩
    · go_wp2_with fail
      go_ret
      exact .inr ⟨rfl, hx4, hk4⟩

end Go.Proofs.Ytbclpbgomkfabaa
end

section
namespace Go.Proofs.Ytbclpbgomkfabaa
open Go.RowKit Go.Deep Go.Shelf
attribute [local go_sem] Oper.semAt_some

theorem FE.one {own : Nat → Prop} {J Jx : List (Nat × Int) → World → Prop} {all : List (Nat × Int)} {W W' : World} {e : Ending} (h : FE own J Jx all W e W') : ∃ bb, e = .returned (.bool bb) ∧ Keeps own W W' ∧ (bb = true → J all W') ∧ (bb = false → ∃ q, q <+: all ∧ Jx q W') := by
  rcases h with ⟨he, hj, hk⟩ | ⟨he, hj, hk⟩
  · exact ⟨true, he, hk, fun _ => hj, fun h => by simp at h⟩
  · exact ⟨false, he, hk, fun h => by simp at h, fun _ => hj⟩
set_option maxRecDepth 100000 in
set_option maxHeartbeats 400000 in
theorem goF_o (By Bg l : Nat) (own : Nat → Prop) (J Jx : List (Nat × Int) → World → Prop) (mid all : List (Nat × Int)) (hmid : mid <+: all) (K : ByteArray) (V x : Int) (M cap b o s L F T : Nat) (W : World) (hF : F ≤ 4) (hT : T ≤ 4) (hs : s ≤ 31) (hFT : F ≠ T) (hsF : s.testBit F = true) (hsT : s.testBit T = false) (hw1 : IntKind.i64.wrap (x * V) = x * V) (u : Nat) (hu : bits BinOp.xor IntKind.i64 (s : Int) (bits BinOp.or IntKind.i64 (2 ^ F) (2 ^ T)) = (u : Int)) (hB1 : ¬ own Bg) (hown : ∀ k, own k → k < W.heap.size)
    (EF : ∀ W : World, Calls Try.prog 114 #[.agg #[.string K, .int .i64 L, .int .i64 V]] W fun e w' => e = .returned (.tuple #[.int .i64 F, .int .i64 T]) ∧ W.Since W.heap.size w')
    (hb : FB By Bg l W)
    (IHO : ∀ (X : World) (q c' : Nat), W.Since W.heap.size X → (q = o + 3 ∨ cap = 1) → M ≤ c' → c' ≤ cap → Calls Try.prog 129 #[.slice (some ⟨b, q, none⟩) M c', .int .i64 u, .int .i64 (x * V), .pointer (some ⟨By, 0, none⟩), .pointer (some ⟨Bg, 0, none⟩)] X (FE own J Jx mid X))
    (IHP : ∀ (X : World) (q c' : Nat), J mid X → Keeps own W X → (q = o + 3 ∨ cap = 1) → M ≤ c' → c' ≤ cap → Calls Try.prog 129 #[.slice (some ⟨b, q, none⟩) M c', .int .i64 s, .int .i64 x, .pointer (some ⟨By, 0, none⟩), .pointer (some ⟨Bg, 0, none⟩)] X (FE own J Jx all X)) (hM : M + 1 ≤ 10) (hcap : M + 1 ≤ cap) (hc63 : cap ≤ 9223372036854775807)
    (k1 : W.cell? ⟨b, o, none⟩ = some (.string K)) (k2 : W.cell? ⟨b, o + 1, none⟩ = some (.int .i64 L)) (k3 : W.cell? ⟨b, o + 2, none⟩ = some (.int .i64 V)) :
    Calls Try.prog 129 #[.slice (some ⟨b, o, none⟩) (M + 1) cap, .int .i64 s, .int .i64 x, .pointer (some ⟨By, 0, none⟩), .pointer (some ⟨Bg, 0, none⟩)] W (FE own J Jx all W) := by
  obtain ⟨d1, d2, d3⟩ := chip_box W K L V 36
  have HS := Lib.hid ((World.Since.refl W.heap.size W).alloc (Nat.le_refl _) (.cells #[.string K, .int .i64 L, .int .i64 V] 36))
  have E1 := fun X => inSet_any s F (by omega) (by omega) X
  simp only [hsF] at E1
  replace E1 := Lib.hid E1
  have E2 := fun X => inSet_any s T (by omega) (by omega) X
  simp only [hsT] at E2
  replace E2 := Lib.hid E2
  have hftb : ((F : Int) == (T : Int)) = false := by simp; omega
  replace EF := Lib.hid EF
  replace IHP := Lib.hid IHP
  replace IHO := Lib.hid IHO
  have HU := Lib.hid hu
  have HMid := Lib.hid hmid
  obtain ⟨p1, _⟩ := p2w_fin ⟨F, by omega⟩
  obtain ⟨p2, _⟩ := p2w_fin ⟨T, by omega⟩
  simp only at p1 p2
  have hm1 : min F 64 = F := by omega
  have hm2 : min T 64 = T := by omega
  clear hu hmid
  have HB := Lib.hid hb
  clear hb hsF hsT
  rcases Nat.lt_or_eq_of_le (show 1 ≤ cap by omega) with hc1 | rfl
  · have hb1 : (0 : Int) ≤ (M : Int) := by omega
    have hb2 : (1 : Int) ≤ (M : Int) + 1 := by omega
    have hb3 : (M : Int) + 1 ≤ (cap : Int) := by omega
    have hc2 : ¬ cap = 1 := by omega
    have hc3 : ¬ 1 = cap := by omega
    go_enter Try.func129, Try.ntmps129
    have a1 := fun ob => cell_alloc_l ob k1
    have a2 := fun ob => cell_alloc_l ob k2
    have a3 := fun ob => cell_alloc_l ob k3
    have hbg := cell_alloc_l (.cells #[.string K, .int .i64 L, .int .i64 V] 36) HB.out.bg
    have hbl := World.block_lt_of_cell? _ _ hbg
    go_wp2_with fail
    go_region
    clear a1 a2 a3
    go_wp2_with (first
      | (go_at_call 114; refine (EF.out _).mono ?_; rintro e w1 ⟨rfl, hs1⟩; replace hs1 := since_of_drew hs1; have hbg1 := (hs1.cell hbl).trans hbg; have hw3 := (hs1.cell (World.block_lt_of_cell? _ _ d3)).trans d3; have HS1 := Lib.hid (HS.out.trans (since_mono hs1 HS.out.size)); clear hs1)
      | (go_at_call 130; ((with_reducible refine (E1.out _).mono ?_); rintro e w2 ⟨rfl, rfl⟩)))
    have hS7 : w1.cell? ⟨Bg, 0, none⟩ = some (.func (.func 129) #[] #[.pointer (some ⟨By, 0, none⟩), .pointer (some ⟨Bg, 0, none⟩)]) ∧ w1.cell? ⟨W.heap.size, 2, none⟩ = some (.int .i64 V) := ⟨hbg1, hw3⟩
    have hu := HU.out
    have hKC := fun (X : World) (hk : Keeps own w1 X) => show X.cell? ⟨Bg, 0, none⟩ = some (.func (.func 129) #[] #[.pointer (some ⟨By, 0, none⟩), .pointer (some ⟨Bg, 0, none⟩)]) ∧ X.cell? ⟨W.heap.size, 2, none⟩ = some (.int .i64 V) from ⟨hk.cell (a := ⟨Bg, 0, none⟩) hB1 hbg1, hk.cell (a := ⟨W.heap.size, 2, none⟩) (fun h => by have := hown _ h; simp at this) hw3⟩
    have HKC := Lib.hid hKC
    clear hKC
    go_region_held3 (fun W' => W'.cell? ⟨Bg, 0, none⟩ = some (.func (.func 129) #[] #[.pointer (some ⟨By, 0, none⟩), .pointer (some ⟨Bg, 0, none⟩)]) ∧ W'.cell? ⟨W.heap.size, 2, none⟩ = some (.int .i64 V))
      (first | exact g9 | exact hS7)
      (first
        | (go_at_call 130; ((with_reducible refine (E1.out _).mono ?_); rintro e w2 ⟨rfl, rfl⟩))
        | (go_at_call 130; ((with_reducible refine (E2.out _).mono ?_); rintro e w2 ⟨rfl, rfl⟩))
        | (go_at_call 129; refine (IHO.out _ _ _ HS1.out.drew (by first | exact .inr trivial | exact .inr rfl | exact .inl rfl) (by omega) (by omega)).mono ?_; rintro e w5 hE; obtain ⟨bb, rfl, hk5, hJ5, hx5⟩ := hE.one; have g9 := HKC.out _ ((keeps_since ((World.Since.refl w1.heap.size w1).drew)).trans hk5); have HK5 := Lib.hid ((keeps_since (own := own) (HS1.out.drew)).trans hk5); have HJ5 := Lib.hid hJ5; have HX5 := Lib.hid hx5; clear hk5 hJ5 hx5))
    all_goals
      obtain ⟨hg5, _⟩ := g9
      cases bb
      · obtain ⟨q5, hq5, hx5⟩ := HX5.out rfl
        go_wp2_with fail
        go_ret
        exact .inr ⟨rfl, ⟨q5, hq5.trans HMid.out, hx5⟩, HK5.out⟩
      · have hJ5 := HJ5.out rfl
        go_wp2_with fail
        refine (IHP.out _ _ _ hJ5 HK5.out (by first | exact .inr trivial | exact .inr rfl | exact .inl rfl) (by omega) (by omega)).mono ?_
        rintro e w6 hE
        replace hE := hE.from HK5.out
        rcases hE with ⟨rfl, hJ6, hk6⟩ | ⟨rfl, hx6, hk6⟩
        · go_wp2_with fail
          go_ret
          exact .inl ⟨rfl, hJ6, hk6⟩
        · go_wp2_with fail
          go_ret
          exact .inr ⟨rfl, hx6, hk6⟩
  · obtain rfl : M = 0 := by omega
    clear hM hcap hc63
    go_enter Try.func129, Try.ntmps129
    have a1 := fun ob => cell_alloc_l ob k1
    have a2 := fun ob => cell_alloc_l ob k2
    have a3 := fun ob => cell_alloc_l ob k3
    have hbg := cell_alloc_l (.cells #[.string K, .int .i64 L, .int .i64 V] 36) HB.out.bg
    have hbl := World.block_lt_of_cell? _ _ hbg
    go_wp2_with fail
    go_region
    clear a1 a2 a3
    go_wp2_with (first
      | (go_at_call 114; refine (EF.out _).mono ?_; rintro e w1 ⟨rfl, hs1⟩; replace hs1 := since_of_drew hs1; have hbg1 := (hs1.cell hbl).trans hbg; have hw3 := (hs1.cell (World.block_lt_of_cell? _ _ d3)).trans d3; have HS1 := Lib.hid (HS.out.trans (since_mono hs1 HS.out.size)); clear hs1)
      | (go_at_call 130; ((with_reducible refine (E1.out _).mono ?_); rintro e w2 ⟨rfl, rfl⟩)))
    have hS7 : w1.cell? ⟨Bg, 0, none⟩ = some (.func (.func 129) #[] #[.pointer (some ⟨By, 0, none⟩), .pointer (some ⟨Bg, 0, none⟩)]) ∧ w1.cell? ⟨W.heap.size, 2, none⟩ = some (.int .i64 V) := ⟨hbg1, hw3⟩
    have hu := HU.out
    have hKC := fun (X : World) (hk : Keeps own w1 X) => show X.cell? ⟨Bg, 0, none⟩ = some (.func (.func 129) #[] #[.pointer (some ⟨By, 0, none⟩), .pointer (some ⟨Bg, 0, none⟩)]) ∧ X.cell? ⟨W.heap.size, 2, none⟩ = some (.int .i64 V) from ⟨hk.cell (a := ⟨Bg, 0, none⟩) hB1 hbg1, hk.cell (a := ⟨W.heap.size, 2, none⟩) (fun h => by have := hown _ h; simp at this) hw3⟩
    have HKC := Lib.hid hKC
    clear hKC
    go_region_held3 (fun W' => W'.cell? ⟨Bg, 0, none⟩ = some (.func (.func 129) #[] #[.pointer (some ⟨By, 0, none⟩), .pointer (some ⟨Bg, 0, none⟩)]) ∧ W'.cell? ⟨W.heap.size, 2, none⟩ = some (.int .i64 V))
      (first | exact g9 | exact hS7)
      (first
        | (go_at_call 130; ((with_reducible refine (E1.out _).mono ?_); rintro e w2 ⟨rfl, rfl⟩))
        | (go_at_call 130; ((with_reducible refine (E2.out _).mono ?_); rintro e w2 ⟨rfl, rfl⟩))
        | (go_at_call 129; refine (IHO.out _ _ _ HS1.out.drew (by first | exact .inr trivial | exact .inr rfl | exact .inl rfl) (by omega) (by omega)).mono ?_; rintro e w5 hE; obtain ⟨bb, rfl, hk5, hJ5, hx5⟩ := hE.one; have g9 := HKC.out _ ((keeps_since ((World.Since.refl w1.heap.size w1).drew)).trans hk5); have HK5 := Lib.hid ((keeps_since (own := own) (HS1.out.drew)).trans hk5); have HJ5 := Lib.hid hJ5; have HX5 := Lib.hid hx5; clear hk5 hJ5 hx5))
    all_goals
      obtain ⟨hg5, _⟩ := g9
      cases bb
      · obtain ⟨q5, hq5, hx5⟩ := HX5.out rfl
        go_wp2_with fail
        go_ret
        exact .inr ⟨rfl, ⟨q5, hq5.trans HMid.out, hx5⟩, HK5.out⟩
      · have hJ5 := HJ5.out rfl
        go_wp2_with fail
        refine (IHP.out _ _ _ hJ5 HK5.out (by first | exact .inr trivial | exact .inr rfl | exact .inl rfl) (by omega) (by omega)).mono ?_
        rintro e w6 hE
        replace hE := hE.from HK5.out
        rcases hE with ⟨rfl, hJ6, hk6⟩ | ⟨rfl, hx6, hk6⟩
        · go_wp2_with fail
          go_ret
          exact .inl ⟨rfl, hJ6, hk6⟩
        · go_wp2_with fail
          go_ret
          exact .inr ⟨rfl, hx6, hk6⟩

end Go.Proofs.Ytbclpbgomkfabaa
end

section
namespace Go.Proofs.Ytbclpbgomkfabaa
open Go.RowKit Go.Deep Go.Shelf
attribute [local go_sem] Oper.semAt_some

theorem xorO_fin : ∀ s : Fin 32, ∀ i k : Fin 5, i ≠ k → bits BinOp.xor IntKind.i64 (s.val : Int) (bits BinOp.or IntKind.i64 (2 ^ i.val) (2 ^ k.val)) = ((s.val ^^^ 2 ^ i.val ^^^ 2 ^ k.val : Nat) : Int) ∧ s.val ^^^ 2 ^ i.val ^^^ 2 ^ k.val ≤ 31 := by decide +kernel
theorem ChipsR.keeps {own : Nat → Prop} {W X : World} {b o : Nat} {cs : List RC} (h : ChipsR W (some ⟨b, o, none⟩) cs) (hk : Keeps own W X) (hb : ¬ own b) : ChipsR X (some ⟨b, o, none⟩) cs := fun h0 => by
  obtain ⟨b', o', e, hc⟩ := h h0
  simp only [Option.some.injEq, Addr.mk.injEq, and_true] at e
  obtain ⟨rfl, rfl⟩ := e
  exact ⟨b, o, rfl, fun i hi => ⟨hk.cell (a := ⟨b, o + i * 3, none⟩) hb (hc i hi).1, hk.cell (a := ⟨b, o + i * 3 + 1, none⟩) hb (hc i hi).2.1, hk.cell (a := ⟨b, o + i * 3 + 2, none⟩) hb (hc i hi).2.2⟩⟩
theorem FB.since {By Bg l : Nat} {W X : World} (h : FB By Bg l W) (hs : W.Since W.heap.size X) : FB By Bg l X := h.keeps (own := fun _ => False) (keeps_since hs) (fun h => h) (fun h => h)
theorem nine_w {x V B : Int} (hv : -9 ≤ V ∧ V ≤ 9) (hx : -B ≤ x ∧ x ≤ B) : -(9 * B) ≤ x * V ∧ x * V ≤ 9 * B := by
  have h : V = -9 ∨ V = -8 ∨ V = -7 ∨ V = -6 ∨ V = -5 ∨ V = -4 ∨ V = -3 ∨ V = -2 ∨ V = -1 ∨ V = 0 ∨ V = 1 ∨ V = 2 ∨ V = 3 ∨ V = 4 ∨ V = 5 ∨ V = 6 ∨ V = 7 ∨ V = 8 ∨ V = 9 := by omega
  rcases h with rfl | rfl | rfl | rfl | rfl | rfl | rfl | rfl | rfl | rfl | rfl | rfl | rfl | rfl | rfl | rfl | rfl | rfl | rfl <;> omega

def pxF (x : Nat × Int) : Prop := x.1 ≤ 31 ∧ -(nineP 10) ≤ x.2 ∧ x.2 ≤ nineP 10

set_option maxRecDepth 100000 in
set_option maxHeartbeats 1000000 in
theorem goF_one (l By Bg : Nat) (own : Nat → Prop) (J Jx : List (Nat × Int) → World → Prop)
    (a : Option Addr) (cap s : Nat) (x : Int) (pre : List (Nat × Int)) (W : World) (hb : FB By Bg l W) (hY : YieldAt Fence.wide 7 Try.prog l (encF (s, x)) W fun e W' => (e = .returned (.bool true) ∧ J (pre ++ [(s, x)]) W' ∧ Keeps own W W') ∨ (e = .returned (.bool false) ∧ Jx (pre ++ [(s, x)]) W' ∧ Keeps own W W')) :
    Calls Try.prog 129 #[.slice a 0 cap, .int .i64 s, .int .i64 x, .pointer (some ⟨By, 0, none⟩), .pointer (some ⟨Bg, 0, none⟩)] W (FE own J Jx (pre ++ [(s, x)]) W) := by
  obtain ⟨fn, tmps, assign, body, hy, hR⟩ := hY
  have hyb := hb.yb
  dsimp only [encF] at hy
  clear hb
  refine (callsIn_wide (n := 8)).1 ?_
  refine callsIn_of_wp Try.func129 rfl trivial ?_ rfl
  simp only [Try.ntmps129, List.size_toArray, List.length_cons, List.length_nil, Nat.reduceAdd, Nat.reduceSub, Array.replicate_succ, Array.replicate_zero, List.push_toArray, List.append_toArray, List.nil_append, List.cons_append]
  gi_wp2
  refine hR.mono ?_
  rintro e W3 (⟨rfl, hJ3, hk3⟩ | ⟨rfl, hx3, hk3⟩)
  · gi_wp2
    go_ret
    exact .inl ⟨rfl, hJ3, hk3⟩
  · gi_wp2
    go_ret
    exact .inr ⟨rfl, ⟨_, List.prefix_refl _, hx3⟩, hk3⟩

theorem goF_any (l By Bg NN B : Nat) (own : Nat → Prop) (J Jx : List (Nat × Int) → World → Prop) (hJ : FromB B J) (hBy : B ≤ By) (hBg : B ≤ Bg) (hown : ∀ k, own k → k < B)
    (hY : ∀ m pre x W, J pre W → pxF x → pre.length < NN → YieldAt Fence.wide m Try.prog l (encF x) W fun e W' => (e = .returned (.bool true) ∧ J (pre ++ [x]) W' ∧ Keeps own W W') ∨ (e = .returned (.bool false) ∧ Jx (pre ++ [x]) W' ∧ Keeps own W W')) :
    ∀ (cs : List RC) (a : Option Addr) (N cap s : Nat) (x : Int) (pre : List (Nat × Int)) (W : World), cs.length = N → N ≤ 10 → N ≤ cap → cap ≤ 9223372036854775807 → (∀ c ∈ cs, RCok c ∧ chOk 5 (toC c)) → s ≤ 31 → -(nineP (10 - N)) ≤ x ∧ x ≤ nineP (10 - N) → FB By Bg l W → ChipsR W a cs → (0 < N → ∀ b o, a = some ⟨b, o, none⟩ → ¬ own b) → J pre W → pre.length + (famL (cs.map toC) s x).length ≤ NN →
    Calls Try.prog 129 #[.slice a N cap, .int .i64 s, .int .i64 x, .pointer (some ⟨By, 0, none⟩), .pointer (some ⟨Bg, 0, none⟩)] W (FE own J Jx (pre ++ famL (cs.map toC) s x) W)
  | [], a, N, cap, s, x, pre, W, hN, _, _, _, _, hs, hx, hb, _, _, hj, hl => by
    obtain rfl : N = 0 := hN.symm
    exact goF_one l By Bg own J Jx a cap s x pre W hb (hY 7 pre (s, x) W hj ⟨hs, hx⟩ (by simp [famL] at hl; omega))
  | c :: cs, a, N, cap, s, x, pre, W, hN, h10, hcap, hc63, hok, hs, hx, hb, hm, hnb, hj, hl => by
    obtain ⟨b, o, rfl, ⟨k1, k2, k3⟩, ht⟩ := hm.split
    obtain ⟨hrc, h5⟩ := hok c (by simp)
    obtain ⟨M, rfl⟩ : ∃ M, N = M + 1 := ⟨cs.length, by simpa using hN.symm⟩
    have hM : cs.length = M := by simpa using hN
    have hbn := hnb (by omega) b o rfl
    have hBl : B ≤ W.heap.size := by have := World.block_lt_of_cell? _ _ hb.yb; simp only at this; omega
    have e9 : nineP (10 - M) = 9 * nineP (10 - (M + 1)) := by rw [show 10 - M = (10 - (M + 1)) + 1 by omega]; rfl
    have hp9 := nineP_le (k := 10 - M) (by omega)
    have hq9 := nineP_pos (10 - (M + 1))
    have hxw := nine_w hrc.2.2 hx
    have hw1 : IntKind.i64.wrap (x * c.w) = x * c.w := IntWalk.i64_in _ ⟨by omega, by omega⟩
    have IH := fun (X : World) (q c' s' : Nat) (x' : Int) (pre' : List (Nat × Int)) (hk : Keeps own W X) (hcr : ChipsR W (some ⟨b, q, none⟩) cs) (h1 : M ≤ c') (h2 : c' ≤ cap) (hs' : s' ≤ 31) (hx' : -(nineP (10 - M)) ≤ x' ∧ x' ≤ nineP (10 - M)) (hj' : J pre' X) (hl' : pre'.length + (famL (cs.map toC) s' x').length ≤ NN) =>
      goF_any l By Bg NN B own J Jx hJ hBy hBg hown hY cs (some ⟨b, q, none⟩) M c' s' x' pre' X hM (by omega) h1 (by omega) (fun c hc => hok c (by simp [hc])) hs' hx' (hb.keeps hk (fun h => by have := hown _ h; omega) (fun h => by have := hown _ h; omega)) (hcr.keeps hk hbn) (fun _ b' o' e => by injection e with e; injection e with e1; subst e1; exact hbn) hj' hl'
    have hJs := fun (X : World) (h : W.Since W.heap.size X) => hJ pre W X none hj ⟨h.os, h.tape, h.output, h.size, fun k hk _ => h.block k hk⟩ (fun r e => by cases e)
    have htW := fun (q : Nat) (hq : q = o + 3 ∨ cap = 1) => ht W q cap (World.Since.refl _ _) (by omega) hq
    have EF := fun (X : World) => ends_any c X hrc
    have hxs : -(nineP (10 - M)) ≤ x ∧ x ≤ nineP (10 - M) := by omega
    have hxv : -(nineP (10 - M)) ≤ x * c.w ∧ x * c.w ≤ nineP (10 - M) := by omega
    obtain ⟨g1, g2⟩ := toC_ok5 h5
    obtain ⟨K, l', V⟩ := c
    obtain ⟨hkk, ⟨hl0, hl10⟩, hv9⟩ := hrc
    simp only at k1 k2 k3 hw1 hxv EF hl0 hv9
    obtain ⟨L, rfl⟩ : ∃ L : Nat, l' = L := ⟨l'.toNat, by omega⟩
    have hCw : (toC ⟨K, (L : Int), V⟩).2.2 = V := toC_w _
    rw [List.map_cons] at hl ⊢
    obtain ⟨CC, hCC⟩ : ∃ CC, toC ⟨K, (L : Int), V⟩ = CC := ⟨_, rfl⟩
    rw [hCC] at hl g1 g2 h5 hCw ⊢
    simp only [hCC] at EF
    by_cases e2 : CC.1 = 2
    · have c1 : chR CC = CC.2.1 := if_pos e2
      have c2 : chK CC = CC.2.1 := if_pos e2
      rw [c1, c2] at EF
      cases hbit : s.testBit CC.2.1 with
      | true =>
        have hf : famL (CC :: cs.map toC) s x = famL (cs.map toC) s (x * V) := by
          show (if CC.1 = 2 then _ else _) = _
          rw [if_pos e2, if_pos hbit, hCw]
        rw [hf] at hl ⊢
        exact goF_h By Bg l own J Jx _ K V x M cap b o s L CC.2.1 W g1 hs hbit hw1 EF hb (fun X q c' h hq h1 h2 => IH X q c' s (x * V) pre (keeps_since h) (htW q hq) h1 h2 hs hxv (hJs X h) hl) h10 hcap hc63 k1 k2 k3
      | false =>
        have hf : famL (CC :: cs.map toC) s x = famL (cs.map toC) s x := by
          show (if CC.1 = 2 then _ else _) = _
          rw [if_pos e2, if_neg (by rw [hbit]; simp)]
        rw [hf] at hl ⊢
        exact goF_g By Bg l own J Jx _ K V x M cap b o s L CC.2.1 CC.2.1 W g1 hs hbit EF hb (fun X q c' h hq h1 h2 => IH X q c' s x pre (keeps_since h) (htW q hq) h1 h2 hs hxs (hJs X h) hl) h10 hcap hc63 k1 k2 k3
    · have c1 : chR CC = cFrom CC := if_neg e2
      have c2 : chK CC = cTo CC := if_neg e2
      rw [c1, c2] at EF
      obtain ⟨hF, hT⟩ := g2 e2
      have hne := (ch_ft h5 e2).2.2
      cases hbF : s.testBit (cFrom CC) with
      | false =>
        have hf : famL (CC :: cs.map toC) s x = famL (cs.map toC) s x := by
          show (if CC.1 = 2 then _ else _) = _
          rw [if_neg e2, if_neg (by rw [hbF]; simp)]
        rw [hf] at hl ⊢
        exact goF_g By Bg l own J Jx _ K V x M cap b o s L (cFrom CC) (cTo CC) W hF hs hbF EF hb (fun X q c' h hq h1 h2 => IH X q c' s x pre (keeps_since h) (htW q hq) h1 h2 hs hxs (hJs X h) hl) h10 hcap hc63 k1 k2 k3
      | true =>
        cases hbT : s.testBit (cTo CC) with
        | true =>
          have hf : famL (CC :: cs.map toC) s x = famL (cs.map toC) s x := by
            show (if CC.1 = 2 then _ else _) = _
            rw [if_neg e2, if_neg (by rw [hbT]; simp)]
          rw [hf] at hl ⊢
          exact goF_m By Bg l own J Jx _ K V x M cap b o s L (cFrom CC) (cTo CC) W hF hT hs hne hbF hbT EF hb (fun X q c' h hq h1 h2 => IH X q c' s x pre (keeps_since h) (htW q hq) h1 h2 hs hxs (hJs X h) hl) h10 hcap hc63 k1 k2 k3
        | false =>
          have hf : famL (CC :: cs.map toC) s x = famL (cs.map toC) (s ^^^ 2 ^ cFrom CC ^^^ 2 ^ cTo CC) (x * V) ++ famL (cs.map toC) s x := by
            show (if CC.1 = 2 then _ else _) = _
            rw [if_neg e2, if_pos ⟨hbF, hbT⟩, hCw]
          rw [hf] at hl ⊢
          obtain ⟨u1, u2⟩ := xorO_fin ⟨s, by omega⟩ ⟨cFrom CC, by omega⟩ ⟨cTo CC, by omega⟩ (fun e => hne (by injection e))
          simp only at u1 u2
          rw [List.length_append] at hl
          rw [← List.append_assoc]
          exact goF_o By Bg l own J Jx (pre ++ famL (cs.map toC) (s ^^^ 2 ^ cFrom CC ^^^ 2 ^ cTo CC) (x * V)) _ (List.prefix_append _ _) K V x M cap b o s L (cFrom CC) (cTo CC) W hF hT hs hne hbF hbT hw1 _ u1 (fun h => by have := hown _ h; omega) (fun k h => by have := hown _ h; omega) EF hb
            (fun X q c' h hq h1 h2 => IH X q c' _ (x * V) pre (keeps_since h) (htW q hq) h1 h2 u2 hxv (hJs X h) (by omega))
            (fun X q c' hm hk hq h1 h2 => IH X q c' s x _ hk (htW q hq) h1 h2 hs hxs hm (by rw [List.length_append]; omega)) h10 hcap hc63 k1 k2 k3

end Go.Proofs.Ytbclpbgomkfabaa
end

section
namespace Go.Proofs.Ytbclpbgomkfabaa
open Go.RowKit Go.Deep Go.Shelf
attribute [local go_sem] Oper.semAt_some

theorem families_any (a : Option Addr) (N cap : Nat) (s : Int) (w : World) :
    Calls Try.prog 106 #[.slice a N cap, .int .i64 s] w fun e w' => e = .returned (.func (.func 128) #[] #[.pointer (some ⟨w.heap.size, 0, none⟩), .pointer (some ⟨w.heap.size + 1, 0, none⟩)]) ∧ w' = (w.alloc (.cells #[.slice a N cap] 23)).alloc (.cells #[.int .i64 s] 3) := by
  go_enter Try.func106, Try.ntmps106
  go_wp2
  go_ret
  exact ⟨rfl, by simp⟩

set_option maxRecDepth 100000 in
set_option maxHeartbeats 1000000 in
theorem families_stops (k Bc Bf N cap s : Nat) (a : Option Addr) (cs : List RC) (w : World) (hN : cs.length = N) (h10 : N ≤ 10) (hcap : N ≤ cap) (hc63 : cap ≤ 9223372036854775807) (hok : ∀ c ∈ cs, RCok c ∧ chOk 5 (toC c)) (hs : s ≤ 31) (hm : ChipsR w a cs) (hc : w.cell? ⟨Bc, 0, none⟩ = some (.slice a N cap)) (hf : w.cell? ⟨Bf, 0, none⟩ = some (.int .i64 s)) :
    SeqE Fence.wide k Try.prog 128 #[.pointer (some ⟨Bc, 0, none⟩), .pointer (some ⟨Bf, 0, none⟩)] encF (fun x _ => pxF x) (fun q => q = Bc ∨ q = Bf ∨ (0 < N ∧ ∃ b o, a = some ⟨b, o, none⟩ ∧ q = b)) (fun ys => ys = famL (cs.map toC) s 1) (fun ys => ys <+: famL (cs.map toC) s 1) 1025 w := by
  intro l J Jx own W hW hown hJ hJx hY hj
  refine callsIn_wide.2 ?_
  have hlc := World.block_lt_of_cell? _ _ hc
  have hlf := World.block_lt_of_cell? _ _ hf
  have c1 := (hW.cell (p := ⟨Bc, 0, none⟩) hlc).trans hc
  have c2 := (hW.cell (p := ⟨Bf, 0, none⟩) hlf).trans hf
  have hl : (famL (cs.map toC) s 1).length ≤ 1024 := by
    have h1 := famL_len (cs.map toC) s 1
    have h2 := twoP_le (k := (cs.map toC).length) (by rw [List.length_map]; omega)
    omega
  have hmW : ChipsR W a cs := fun h0 => by
    obtain ⟨b, o, e, hh⟩ := hm h0
    have hbl := World.block_lt_of_cell? _ _ (hh 0 h0).1
    exact ⟨b, o, e, fun i hi => ⟨(hW.cell (p := ⟨b, o + i * 3, none⟩) hbl).trans (hh i hi).1, (hW.cell (p := ⟨b, o + i * 3 + 1, none⟩) hbl).trans (hh i hi).2.1, (hW.cell (p := ⟨b, o + i * 3 + 2, none⟩) hbl).trans (hh i hi).2.2⟩⟩
  have hn1 := nineP_pos (10 - N)
  have HG := Lib.hid (fun (V : World) (hs2 : W.Since W.heap.size V) (hb : FB W.heap.size (W.heap.size + 1) l V) (hjv : J [] V) =>
    goF_any l W.heap.size (W.heap.size + 1) 1025 W.heap.size own J Jx hJ (Nat.le_refl _) (by omega) (fun k hk => (hown k hk).1) (fun m pre x V' hp hpx hl => yieldAt_any (hY pre x V' hp hpx hl)) cs a N cap s 1 [] V hN h10 hcap hc63 hok hs ⟨by omega, by omega⟩ hb (hmW.since hs2) (fun h0 b o e h => (hown _ h).2 (.inr (.inr ⟨h0, b, o, e, rfl⟩))) hjv (by simp; omega))
  have HJ := Lib.hid hJ
  have HJJ := Lib.hid hj
  have d1 := fun o1 o2 => cell_alloc_l o2 (cell_alloc_l o1 c1)
  have d2 := fun o1 o2 => cell_alloc_l o2 (cell_alloc_l o1 c2)
  clear hJ hJx hY hj hown hmW hm hok hl
  go_enter Try.func128, Try.ntmps128
  go_wp2_with fail
  refine (HG.out _ (((World.Since.refl _ _).alloc (Nat.le_refl _) _).alloc (by simp) _) ⟨cell_alloc_l _ (cell_new_l W _ _).1, ?hbg⟩ (HJ.out.alloc _ (HJ.out.alloc _ HJJ.out))).mono ?_
  case hbg => rw [← World.size_alloc W (.cells #[.func (.yield l) #[] #[]] 54)]; exact (cell_new_l _ _ _).1
  rintro e w2 (⟨rfl, hj2, hk2⟩ | ⟨rfl, ⟨q, hqp, hq⟩, hk2⟩)
  · go_wp2_with fail
    go_end0
    exact ⟨⟨_, rfl⟩, .inl ⟨_, rfl, hj2⟩⟩
  · go_wp2_with fail
    go_end0
    exact ⟨⟨_, rfl⟩, .inr ⟨_, hqp, hq⟩⟩

end Go.Proofs.Ytbclpbgomkfabaa
end

section
namespace Go.Proofs.Ytbclpbgomkfabaa
open Go.RowKit Go.Deep Go.Shelf
attribute [local go_sem] Oper.semAt_some

structure SBF (w : World) (y : Int) (W : World) : Prop where
  bs : Boxed W w.heap.size 3 (.int .i64 y)
  sn : w.Since w.heap.size W
theorem SBF.kept {w W W' : World} {y : Int} {row : Option Nat} (h : SBF w y W) (hg : W.grownBy W' row) (hr : ∀ r, row = some r → w.heap.size + 1 ≤ r) : SBF w y W' :=
  ⟨h.bs.kept hg (fun e => by have := hr _ e.symm; omega), h.sn.grown hg h.sn.size (fun k e => by have := hr k e; omega)⟩
theorem SBF.set {w W : World} {y : Int} (h : SBF w y W) (z : Int) : SBF w z (W.setCell ⟨w.heap.size, 0, none⟩ (.int .i64 z)) :=
  ⟨h.bs.set _, h.sn.setCell (Nat.le_refl _) _⟩
theorem sbf_start (w : World) (y : Int) : SBF w y (w.alloc (.cells #[.int .i64 y] 3)) := ⟨Boxed.new w 3 (.int .i64 y), (World.Since.refl _ w).alloc (Nat.le_refl _) _⟩
theorem sumTo2_snoc (t : Nat) (l : List (Nat × Int)) (x : Nat × Int) : sumTo2 t (l ++ [x]) = if x.1 = t then sumTo2 t l + x.2 else sumTo2 t l := by
  rw [sumTo2_app]
  unfold sumTo2
  simp only [List.foldl_cons, List.foldl_nil]
  split <;> simp

set_option maxRecDepth 100000 in
set_option maxHeartbeats 1000000 in
theorem familySum_any (a : Option Addr) (N cap s t : Nat) (cs : List RC) (w : World) (hN : cs.length = N) (h10 : N ≤ 10) (hcap : N ≤ cap) (hc63 : cap ≤ 9223372036854775807) (hok : ∀ c ∈ cs, RCok c ∧ chOk 5 (toC c)) (hs : s ≤ 31) (ht : t ≤ 31) (hm : ChipsR w a cs) :
    Calls Try.prog 53 #[.slice a N cap, .int .i64 s, .int .i64 t] w fun e w' => e = .returned (.int .i64 (famN (cs.map toC) s t)) ∧ w.Since w.heap.size w' := by
  have hfs : sumTo2 t (famL (cs.map toC) s 1) = famN (cs.map toC) s t := by rw [famL_sum]; omega
  have HM := Lib.hid hm
  have HOK := Lib.hid hok
  have HFS := Lib.hid hfs
  clear hm hok hfs
  refine (callsIn_wide (n := 9)).1 ?_
  refine callsIn_of_wp_marks Try.func53 rfl trivial ?_ rfl
  simp only [Try.ntmps53, List.size_toArray, List.length_cons, List.length_nil, Nat.reduceAdd, Nat.reduceSub, Array.replicate_succ, Array.replicate_zero, List.push_toArray, List.append_toArray, List.nil_append, List.cons_append]
  gi_wp2_with (refine ⟨trivial, ?_⟩; gi_at_call 106; refine (callsIn_wide.2 (families_any a N cap _ _)).mono ?_; rintro e w' ⟨rfl, rfl⟩)
  obtain ⟨w1, hw1⟩ : ∃ w1, w.alloc (.cells #[.int .i64 (t : Int)] 3) = w1 := ⟨_, rfl⟩
  have hz1 : w1.heap.size = w.heap.size + 1 := by rw [← hw1]; simp
  have hs1 : w.Since w.heap.size w1 := by rw [← hw1]; exact (World.Since.refl _ _).alloc (Nat.le_refl _) _
  have ct : w1.cell? ⟨w.heap.size, 0, none⟩ = some (.int .i64 t) := by rw [← hw1]; exact (cell_new_l w _ 3).1
  have hP2 := ((sbf_start w1 0).kept (World.grownBy_alloc _ (.cells #[.slice a N cap] 23) none) (fun r e => by cases e)).kept (World.grownBy_alloc _ (.cells #[.int .i64 (s : Int)] 3) none) (fun r e => by cases e)
  have hbc := cell_alloc_l (.cells #[.int .i64 (s : Int)] 3) (cell_new_l (w1.alloc (.cells #[.int .i64 0] 3)) (.slice a N cap) 23).1
  have hbf := (cell_new_l ((w1.alloc (.cells #[.int .i64 0] 3)).alloc (.cells #[.slice a N cap] 23)) (.int .i64 (s : Int)) 3).1
  have hz2 : (((w1.alloc (.cells #[.int .i64 0] 3)).alloc (.cells #[.slice a N cap] 23)).alloc (.cells #[.int .i64 (s : Int)] 3)).heap.size = w1.heap.size + 3 := by simp
  simp only [World.size_alloc] at hbc hbf
  rw [hw1]
  obtain ⟨W0, hW0⟩ : ∃ W0, ((w1.alloc (.cells #[.int .i64 0] 3)).alloc (.cells #[.slice a N cap] 23)).alloc (.cells #[.int .i64 (s : Int)] 3) = W0 := ⟨_, rfl⟩
  rw [hW0] at hbc hbf hP2 hz2 ⊢
  rw [hz1] at hbc hbf hz2
  have hmW := HM.out.since (hs1.trans (since_mono hP2.sn hs1.size))
  clear hW0 hw1
  have hneed : ∀ q, (q = w.heap.size + 1 + 1 ∨ q = w.heap.size + 1 + 1 + 1 ∨ (0 < N ∧ ∃ b o, a = some ⟨b, o, none⟩ ∧ q = b)) → q < W0.heap.size ∧ q ≠ w1.heap.size := fun q hq => by
    rcases hq with rfl | rfl | ⟨h0, b, o, e, rfl⟩
    · omega
    · omega
    · obtain ⟨b', o', e', hc⟩ := HM.out (by omega)
      have hl := World.block_lt_of_cell? _ _ (hc 0 (by omega)).1
      rw [e] at e'
      injection e' with e'
      injection e' with e1
      simp only at hl
      omega
  refine rangeC (F := Fence.wide) (n := 9) rfl (by omega) (gf := 128) (lb := #[.pointer (some ⟨w.heap.size + 1 + 1, 0, none⟩), .pointer (some ⟨w.heap.size + 1 + 1 + 1, 0, none⟩)]) rfl trivial (enters_of Try.func128 (by kernel_rfl) rfl)
    (families_stops 8 (w.heap.size + 1 + 1) (w.heap.size + 1 + 1 + 1) N cap s a cs W0 hN h10 hcap hc63 HOK.out hs hmW hbc hbf).toC (fun _ => rfl) (fun _ _ _ _ _ h _ _ => h) (fun k => k = w1.heap.size) (by rintro k rfl; exact ⟨by omega, fun h => (hneed _ h).2 rfl⟩) (fun k h => (hneed k h).1)
    (fun (pre : List (Nat × Int)) W => SBF w1 (sumTo2 t pre) W ∧ pre.length ≤ 1025 ∧ ∀ x ∈ pre, -10000000000 ≤ x.2 ∧ x.2 ≤ 10000000000)
    (fun pre X Y row hs hg hr => ⟨hs.1.kept hg (fun r e => by have := hr r e; omega), hs.2⟩)
    ⟨hP2, by simp⟩
    (fun x => { tmps := #[.slice a N cap, .int .i64 s, .int .i64 t, undef, undef, .pointer (some ⟨w.heap.size, 0, none⟩), .int .i64 0, .pointer (some ⟨w.heap.size + 1, 0, none⟩), .int .i64 (x.1 : Int), .int .i64 x.2, .slice a N cap, .int .i64 s, .func (.func 128) #[] #[.pointer (some ⟨w.heap.size + 1 + 1, 0, none⟩), .pointer (some ⟨w.heap.size + 1 + 1 + 1, 0, none⟩)], .int .i64 (x.1 : Int), .int .i64 x.2, undef, undef, undef, undef, undef, undef, undef], defers := [] }) ?assign ?body ?done
  case assign =>
    intro lp x W K hK
    simp only [encF]
    gi_wp2
    exact hK
  case body =>
    rintro lp pre x W hl ⟨hv, hpl, hpre⟩ hpx hlen
    have hyb := sumTo2_bd t (B := 10000000000) (by omega) pre hpre
    have hsn := sumTo2_snoc t pre x
    have hx9 := nineP_le (k := 10) (by omega)
    obtain ⟨_, hx1, hx2⟩ := hpx
    have hmul : (10000000000 : Int) * pre.length ≤ 10000000000 * 1025 := Int.mul_le_mul_of_nonneg_left (by omega) (by omega)
    obtain ⟨y, hy⟩ : ∃ y, sumTo2 t pre = y := ⟨_, rfl⟩
    rw [hy] at hv hyb hsn
    obtain ⟨x1, x2⟩ := x
    simp only at hx1 hx2 hsn ⊢
    have hws : IntKind.i64.wrap (y + x2) = y + x2 := IntWalk.i64_in _ ⟨by omega, by omega⟩
    have cS : W.cell? ⟨w.heap.size + 1, 0, none⟩ = some (.int .i64 y) := by rw [← hz1]; exact hv.bs.cell
    have fS : W.frozen? ⟨w.heap.size + 1, 0, none⟩ = false := by rw [← hz1]; exact hv.bs.frozen
    have cT : W.cell? ⟨w.heap.size, 0, none⟩ = some (.int .i64 t) := (hv.sn.cell (by show w.heap.size < _; omega)).trans ct
    have HSN := Lib.hid hsn
    have HV := Lib.hid hv
    have HPRE := Lib.hid (show ∀ x' ∈ pre ++ [(x1, x2)], -10000000000 ≤ x'.2 ∧ x'.2 ≤ 10000000000 from fun x' hx' => by
      rcases List.mem_append.1 hx' with h | h
      · exact hpre x' h
      · simp at h; subst h; simp only; omega)
    have hl2 : (pre ++ [(x1, x2)]).length ≤ 1025 := by rw [List.length_append, List.length_singleton]; omega
    clear hyb hmul hsn hv hpre hy
    by_cases he : x1 = t
    · subst he
      have hS := HSN.out
      rw [if_pos rfl] at hS
      have HS2 := Lib.hid hS
      clear hS HSN
      gi_wp2
      exact ⟨Keeps.grown (grownBy_setCell' W (w.heap.size + 1) _) (fun r e => by cases e; rfl), by rw [HS2.out, ← hz1]; exact HV.out.set _, hl2, fun p q h => HPRE.out (p, q) h⟩
    · have heb : ((x1 : Int) == (t : Int)) = false := by simp; omega
      have hS := HSN.out
      rw [if_neg he] at hS
      have HS2 := Lib.hid hS
      clear hS HSN he
      gi_wp2
      exact ⟨Keeps.refl _ _, by rw [HS2.out]; exact HV.out, hl2, fun p q h => HPRE.out (p, q) h⟩
  case done =>
    rintro D ys W hD hS ⟨hv, _⟩ hK
    rw [hS, HFS.out] at hv
    have cS : W.cell? ⟨w.heap.size + 1, 0, none⟩ = some (.int .i64 (famN (cs.map toC) s t)) := by rw [← hz1]; exact hv.bs.cell
    have hlt := hv.bs.lt
    have HS := Lib.hid (since_rowC (hs1.trans (since_mono hv.sn hs1.size)) (grownBy_putObj' W D (.deferred none)) (fun r e => by cases e; omega))
    obtain ⟨y, hyy⟩ : ∃ y, famN (cs.map toC) s t = y := ⟨_, rfl⟩
    rw [hyy] at cS
    have HYY := Lib.hid hyy
    clear hv hS hyy
    gi_wp2
    refine ⟨by simp, .inl ⟨_, _, rfl, run_takeDeferred hK, ?_⟩⟩
    refine ⟨.int .i64 y, ?_, by rw [HYY.out], HS.out⟩
    simp [results, Try.f53, go_sem]

end Go.Proofs.Ytbclpbgomkfabaa
end

section
namespace Go.Proofs.Ytbclpbgomkfabaa
open Go.RowKit Go.Deep

theorem chOk_mono {n : Nat} {c : CH} (h : chOk n c) (hn : n ≤ 5) : chOk 5 c := by
  unfold chOk at h ⊢
  refine ⟨h.1, ?_⟩
  have h2 := h.2
  split
  · rename_i e
    rw [if_pos e] at h2
    omega
  · rename_i e
    rw [if_neg e] at h2
    omega

set_option maxHeartbeats 400000 in
theorem implNetFamilies_any (a : Option Addr) (cap N : Nat) (n s t : Int) (cs : List RC) (w : World) (hN : cs.length = N) (hcap : N ≤ cap) (h63 : cap ≤ 9223372036854775807) (hm : ChipsR w a cs) :
    Calls Try.prog 15 #[.int .i64 n, .slice a N cap, .int .i64 s, .int .i64 t] w fun e w' => e = .returned (.tuple #[.int .i64 (famsV n cs s t), .bool (famsB n cs s t)]) ∧ w.Since w.heap.size w' := by
  have E := implNetIn_any a cap N n cs w hN (by omega) hm
  cases hb : netB n cs with
  | false =>
    have hl : famsB n cs s t = false := by unfold famsB; rw [hb, Bool.false_and]
    unfold famsV
    rw [hl, if_neg (by simp)]
    rw [hb] at E
    replace E := Lib.hid E
    clear hb hm hN hl
    go_enter Try.func15, Try.ntmps15
    go_wp2_with (go_at_call 46; refine (E.out).mono ?_; rintro e w1 ⟨rfl, hs1⟩; have HS1 := Lib.hid hs1; clear hs1)
    go_ret2
    exact ⟨rfl, HS1.out⟩
  | true =>
    obtain ⟨m, rfl, ho⟩ := netB_ok hb
    rw [hb] at E
    replace E := Lib.hid E
    have hn2 := ho.lo
    have hn5 := ho.hi
    have h10 := ho.len
    rw [hN] at h10
    obtain ⟨_, p3, p4, p5⟩ := p5_fin ⟨m, by omega⟩
    simp only at p3 p4 p5
    have hlb : famsB m cs s t = (inB s 0 ((2 ^ m - 1 : Nat) : Int) && (inB t 0 ((2 ^ m - 1 : Nat) : Int) && (popcS s.toNat == popcS t.toNat))) := by
      unfold famsB
      rw [hb, Bool.true_and, Int.toNat_natCast, p3, show ((2 ^ m : Nat) : Int) - 1 = ((2 ^ m - 1 : Nat) : Int) by omega]
    have E1 := fun (W : World) => isSet_any s m (by omega) W
    have E2 := fun (W : World) => isSet_any t m (by omega) W
    obtain ⟨b1, hb1⟩ : ∃ b, inB s 0 ((2 ^ m - 1 : Nat) : Int) = b := ⟨_, rfl⟩
    obtain ⟨b2, hb2⟩ : ∃ b, inB t 0 ((2 ^ m - 1 : Nat) : Int) = b := ⟨_, rfl⟩
    simp only [hb1] at E1
    simp only [hb2] at E2
    rw [hb1, hb2] at hlb
    replace E1 := Lib.hid E1
    replace E2 := Lib.hid E2
    by_cases hbb : b1 = true ∧ b2 = true
    · obtain ⟨rfl, rfl⟩ := hbb
      unfold inB at hb1 hb2
      simp only [decide_eq_true_eq] at hb1 hb2
      obtain ⟨j, rfl⟩ : ∃ j : Nat, s = j := ⟨s.toNat, by omega⟩
      obtain ⟨l, rfl⟩ : ∃ l : Nat, t = l := ⟨t.toNat, by omega⟩
      rw [Bool.true_and, Bool.true_and, Int.toNat_natCast, Int.toNat_natCast] at hlb
      have E3 := Lib.hid (fun (W : World) => members_any j (by omega) W)
      have E4 := Lib.hid (fun (W : World) => members_any l (by omega) W)
      have hok5 : ∀ c ∈ cs, RCok c ∧ chOk 5 (toC c) := fun c hc => ⟨(ho.ok c hc).1, chOk_mono (ho.ok c hc).2 hn5⟩
      have E5 := Lib.hid (fun (W : World) (hs : w.Since w.heap.size W) => familySum_any a N cap j l cs W hN h10 hcap h63 hok5 (by omega) (by omega) (hm.since hs))
      have hv : famsV m cs j l = if popcS j = popcS l then famN (cs.map toC) j l else 0 := by
        unfold famsV
        rw [hlb]
        by_cases e : popcS j = popcS l
        · simp [e]
        · simp [e]
      rw [hv, hlb]
      obtain ⟨P, hP⟩ : ∃ P, famN (cs.map toC) j l = P := ⟨_, rfl⟩
      rw [hP] at E5 ⊢
      clear hb hm hN hP hlb hv ho hb1 hb2 p3 p4 p5 hok5
      by_cases hpp : popcS j = popcS l
      · rw [if_pos hpp]
        have hpb : (popcS j == popcS l) = true := by simpa using hpp
        rw [hpb]
        rw [hpp] at E3
        clear hpp hpb
        go_enter Try.func15, Try.ntmps15
        go_wp2_with (first
          | (go_at_call 46; refine (E.out).mono ?_; rintro e w1 ⟨rfl, hs1⟩; have HS1 := Lib.hid hs1; clear hs1)
          | (go_at_call 51; ((with_reducible refine (E1.out _).mono ?_); rintro e w2 ⟨rfl, rfl⟩))
          | (go_at_call 51; ((with_reducible refine (E2.out _).mono ?_); rintro e w2 ⟨rfl, rfl⟩))
          | (go_at_call 52; ((with_reducible refine (E3.out _).mono ?_); rintro e w2 ⟨rfl, rfl⟩))
          | (go_at_call 52; ((with_reducible refine (E4.out _).mono ?_); rintro e w2 ⟨rfl, rfl⟩))
          | (go_at_call 53; refine (E5.out _ HS1.out).mono ?_; rintro e w3 ⟨rfl, hs3⟩; have HS3 := Lib.hid (HS1.out.trans (since_mono hs3 HS1.out.size)); clear hs3))
        go_ret2
        exact ⟨rfl, HS3.out⟩
      · rw [if_neg hpp]
        have hpb : (popcS j == popcS l) = false := by simpa using hpp
        have hpi : ((popcS j : Int) == (popcS l : Int)) = false := by simp; omega
        rw [hpb]
        go_enter Try.func15, Try.ntmps15
        go_wp2_with (first
          | (go_at_call 46; refine (E.out).mono ?_; rintro e w1 ⟨rfl, hs1⟩; have HS1 := Lib.hid hs1; clear hs1)
          | (go_at_call 51; ((with_reducible refine (E1.out _).mono ?_); rintro e w2 ⟨rfl, rfl⟩))
          | (go_at_call 51; ((with_reducible refine (E2.out _).mono ?_); rintro e w2 ⟨rfl, rfl⟩))
          | (go_at_call 52; ((with_reducible refine (E3.out _).mono ?_); rintro e w2 ⟨rfl, rfl⟩))
          | (go_at_call 52; ((with_reducible refine (E4.out _).mono ?_); rintro e w2 ⟨rfl, rfl⟩)))
        go_ret2
        exact ⟨rfl, HS1.out⟩
    · have hlf : famsB m cs s t = false := by rw [hlb]; cases b1 <;> cases b2 <;> simp at hbb ⊢
      unfold famsV
      rw [hlf, if_neg (by simp)]
      clear hb hm hN hlb hlf ho hb1 hb2 p3 p4 p5
      cases b1 <;> cases b2
      case true.true => exact absurd ⟨rfl, rfl⟩ hbb
      all_goals
        clear hbb
        go_enter Try.func15, Try.ntmps15
        go_wp2_with (first
          | (go_at_call 46; refine (E.out).mono ?_; rintro e w1 ⟨rfl, hs1⟩; have HS1 := Lib.hid hs1; clear hs1)
          | (go_at_call 51; ((with_reducible refine (E1.out _).mono ?_); rintro e w2 ⟨rfl, rfl⟩))
          | (go_at_call 51; ((with_reducible refine (E2.out _).mono ?_); rintro e w2 ⟨rfl, rfl⟩)))
        go_ret2
        exact ⟨rfl, HS1.out⟩

end Go.Proofs.Ytbclpbgomkfabaa
end

section
namespace Go.Proofs.Ytbclpbgomkfabaa
open Go.RowKit Go.Deep

noncomputable def partOk (l : List (List Int)) (s c : Int) : Bool := tabIn l && (inB s 1 (2 ^ l.length - 1 : Nat) && inB c 1 (2 ^ (l.getD 0 []).length - 1 : Nat))
theorem partOk_tab {l : List (List Int)} {s c : Int} (h : partOk l s c = true) : TabIn (partL l s.toNat c.toNat) := by
  unfold partOk at h
  rw [Bool.and_eq_true, Bool.and_eq_true] at h
  have h2 := of_decide_eq_true h.2.1
  have h3 := of_decide_eq_true h.2.2
  have p1 := Nat.one_le_two_pow (n := l.length)
  have p2 := Nat.one_le_two_pow (n := (l.getD 0 []).length)
  exact partL_tab (tabIn_of h.1) (by omega) (by omega) (by omega) (by omega)

end Go.Proofs.Ytbclpbgomkfabaa
end

section
namespace Go.Proofs.Ytbclpbgomkfabaa
open Go.RowKit Go.Deep

def popc (s : Nat) : Nat := (sel s 6 6).length
theorem popc_step : ∀ s : Fin 64, popc s.val = s.val % 2 + popc (s.val / 2) := by decide +kernel
theorem popc_sel : ∀ n : Fin 7, ∀ s : Fin 64, s.val < 2 ^ n.val → (sel s.val n.val n.val).length = popc s.val := by decide +kernel
theorem and1_fin : ∀ s : Fin 64, bits BinOp.and IntKind.i64 (s.val : Int) 1 = ((s.val % 2 : Nat) : Int) := by decide +kernel

set_option maxHeartbeats 1000000 in
theorem size_any (s : Nat) (hs : s ≤ 63) (w : World) : Calls Try.prog 21 #[.int .i64 s] w fun e w' => e = .returned (.int .i64 (popc s)) ∧ w = w' := by
  have hp6 : popc s ≤ 6 := sel_length s 6 6
  go_enter Try.func21, Try.ntmps21
  go_wp2
  go_loopg [0, 3] s (fun g v k wr => ∃ x j : Nat, x ≤ s ∧ g = x ∧ v = .int .i64 (x : Nat) ∧ k = .int .i64 (j : Nat) ∧ j + popc x = popc s ∧ w = wr)
  case atStart => exact ⟨s, 0, Nat.le_refl _, rfl, rfl, rfl, Nat.zero_add _, rfl⟩
  case round =>
    obtain ⟨x, j, hx, rfl, rfl, rfl, hj, rfl⟩ := hrel
    by_cases h0 : 0 < gk
    · have h0' : decide ((0 : Int) < (gk : Int)) = true := by simp; omega
      have hst := popc_step ⟨gk, by omega⟩
      have hb := and1_fin ⟨gk, by omega⟩
      simp only at hst hb
      obtain ⟨d, hd⟩ : ∃ d, gk % 2 = d := ⟨_, rfl⟩
      have hd2 : d ≤ 1 := by omega
      rw [hd] at hst hb
      have HD := Lib.hid hd
      clear hd
      have hw : IntKind.i64.wrap ((j : Int) + (d : Int)) = (j : Int) + (d : Int) := IntWalk.i64_in _ ⟨by omega, by omega⟩
      go_wp2
      go_roundg (gk / 2)
      case measure => omega
      case rel => exact ⟨gk / 2, j + d, by omega, rfl, by first | rfl | go_num, by go_num, by omega, rfl⟩
    · have h0' : decide ((0 : Int) < (gk : Int)) = false := by simp; omega
      have hg0 : gk = 0 := by omega
      have hp0 : popc 0 = 0 := by decide
      subst hg0
      go_wp2
      go_ret
      exact ⟨by rw [← hj, hp0]; rfl, rfl⟩

end Go.Proofs.Ytbclpbgomkfabaa
end

section
namespace Go.Proofs.Ytbclpbgomkfabaa
open Go.RowKit Go.Deep

def nnB (cs : List RC) : Bool := cs.all fun c => decide (0 ≤ c.w)
def allW (cs : List RC) : Int := cs.foldl (fun x c => if c.k.toList == [104] then x * c.w else x) 1
theorem nnB_snoc (cs : List RC) (c : RC) : nnB (cs ++ [c]) = (nnB cs && decide (0 ≤ c.w)) := by unfold nnB; rw [List.all_append]; simp
theorem allW_snoc (cs : List RC) (c : RC) : allW (cs ++ [c]) = if c.k.toList == [104] then allW cs * c.w else allW cs := by unfold allW; rw [List.foldl_append]; rfl
theorem allW_mul : ∀ (cs : List RC) (x : Int), cs.foldl (fun x c => if c.k.toList == [104] then x * c.w else x) x = x * allW cs
  | [], x => by simp [allW]
  | c :: cs, x => by
    show cs.foldl _ (if c.k.toList == [104] then x * c.w else x) = x * cs.foldl _ (if c.k.toList == [104] then 1 * c.w else 1)
    rw [allW_mul cs, allW_mul cs]
    split
    · rw [Int.one_mul, Int.mul_assoc]
    · rw [Int.one_mul]
theorem allW_all : ∀ (cs : List RC), (∀ c ∈ cs, RCok c) → allW cs = allH (cs.map toC)
  | [], _ => rfl
  | c :: cs, h => by
    have ih := allW_all cs (fun d hd => h d (by simp [hd]))
    have hc := (h c (by simp)).1
    have e : allW (c :: cs) = (if c.k.toList == [104] then c.w else 1) * allW cs := by
      show cs.foldl _ (if c.k.toList == [104] then 1 * c.w else 1) = _
      rw [allW_mul]
      split
      · rw [Int.one_mul]
      · rfl
    rw [e, ih]
    show _ = (if (toC c).1 = 2 then (toC c).2.2 * allH (cs.map toC) else allH (cs.map toC))
    rcases hc with hk | hk | hk
    · have h2 : (toC c).1 = 2 := by unfold toC; rw [hk]; rfl
      rw [if_pos h2, hk]; rfl
    · have h2 : (toC c).1 ≠ 2 := by unfold toC; rw [hk]; simp
      rw [if_neg h2, hk]; simp
    · have h2 : (toC c).1 ≠ 2 := by unfold toC; rw [hk]; simp
      rw [if_neg h2, hk]; simp
theorem allW_bd : ∀ (cs : List RC), (∀ c ∈ cs, -9 ≤ c.w ∧ c.w ≤ 9) → -(nineP cs.length) ≤ allW cs ∧ allW cs ≤ nineP cs.length
  | [], _ => by simp [allW, nineP]
  | c :: cs, h => by
    have ih := allW_bd cs (fun d hd => h d (by simp [hd]))
    have hc := h c (by simp)
    have e : allW (c :: cs) = (if c.k.toList == [104] then c.w else 1) * allW cs := by
      show cs.foldl _ (if c.k.toList == [104] then 1 * c.w else 1) = _
      rw [allW_mul]
      split
      · rw [Int.one_mul]
      · rfl
    have e2 : nineP (c :: cs).length = 9 * nineP cs.length := rfl
    have hp := nineP_pos cs.length
    rw [e, e2]
    split
    · exact mul_bd9 hc.1 hc.2 ih.1 ih.2
    · rw [Int.one_mul]; omega
theorem full_set : ∀ n : Fin 6, ∀ s : Fin 32, s.val < 2 ^ n.val → popcS s.val = n.val → s.val = 2 ^ n.val - 1 := by decide +kernel

set_option maxRecDepth 100000 in
set_option maxHeartbeats 2000000 in
theorem fnFamiliesSign (a : Option Addr) (cap n : Nat) (w : World) (hc : n ≤ cap) (h63 : cap ≤ 9223372036854775807) (hb : BytR w a n) :
    Calls Try.prog 5 #[.slice a n cap] w fun e w' => e = .returned (.bool true) ∧ w.Since w.heap.size w' := by
  by_cases hlen : 1048576 < n
  · have hl' : decide ((1048576 : Int) < (n : Int)) = true := by simp; omega
    clear hb
    go_enter Try.func5, Try.ntmps5
    go_wp2
    go_ret
    exact ⟨rfl, World.Since.refl _ _⟩
  · have hl' : decide ((1048576 : Int) < (n : Int)) = false := by simp; omega
    have ED := Lib.hid (drawNetFamilies_any a n cap w hc h63 hb)
    clear hb
    go_enter Try.func5, Try.ntmps5
    go_wp2_with fail
    refine (ED.out).mono ?_
    rintro e w1 ⟨m, a1, ca, cs, i, k, rfl, hs1, hm, hl, ⟨g, rfl⟩, hcl, hc63, ho⟩
    clear ED
    obtain ⟨N, hN⟩ : ∃ N, cs.length = N := ⟨_, rfl⟩
    rw [hN] at hl hcl ⊢
    have HS1 := Lib.hid hs1
    have E1 := fun (W : World) (h : w1.Since w1.heap.size W) => implNetFamilies_any (some ⟨g, 0, none⟩) ca N m i k cs W hN (by omega) (by omega) (ho.chips.since h)
    have E2 := fun (W : World) (h : w1.Since w1.heap.size W) => specNetFamilies_any (some ⟨g, 0, none⟩) ca N m i k cs W hN (by omega) (by omega) (ho.chips.since h)
    cases hok : famsB m cs i k with
    | false =>
      have hv : famsV m cs i k = 0 := by unfold famsV; rw [hok, if_neg (by simp)]
      simp only [hok, hv] at E1 E2
      replace E1 := Lib.hid E1
      replace E2 := Lib.hid E2
      clear ho hs1 hok hN hv
      go_wp2_with (first
        | (go_at_call 15; refine (E1.out _ (World.Since.refl _ _)).mono ?_; rintro e w2 ⟨rfl, hs2⟩; have HS2 := Lib.hid hs2; clear hs2)
        | (go_at_call 18; refine (E2.out _ HS2.out).mono ?_; rintro e w3 ⟨rfl, hs3⟩; have HS3 := Lib.hid (HS1.out.trans (since_mono (HS2.out.trans (since_mono hs3 HS2.out.size)) HS1.out.size)); clear hs3))
      go_ret
      exact ⟨rfl, HS3.out⟩
    | true =>
      obtain ⟨_, j, l, hq, ho2, ⟨rfl, hj, hj31⟩, ⟨rfl, hl2, hl31⟩, hpp⟩ := fams_ok hok
      obtain rfl := Int.ofNat.inj hq
      have h10 := ho2.len
      rw [hN] at h10
      have hv : famsV m cs j l = famN (cs.map toC) j l := by unfold famsV; rw [hok]; rfl
      have hnn : nnB cs = true → 0 ≤ famN (cs.map toC) j l := fun h => fam_nn _ (fun c hc => by
        obtain ⟨d, hd, rfl⟩ := List.mem_map.1 hc
        unfold nnB at h
        rw [List.all_eq_true] at h
        rw [toC_w]
        exact of_decide_eq_true (h d hd)) j l
      have hfu : popcS j = m → famN (cs.map toC) j l = allW cs := fun h => by
        have p5 : 2 ^ m ≤ 2 ^ 5 := Nat.pow_le_pow_right (by omega) hm.2
        have e1 := full_set ⟨m, by omega⟩ ⟨j, by omega⟩ hj h
        have e2 := full_set ⟨m, by omega⟩ ⟨l, by omega⟩ hl2 (by simp only; omega)
        simp only at e1 e2
        rw [allW_all cs (fun c hc => (ho2.ok c hc).1), e1, e2]
        exact fam_full _ (fun c hc => by
          obtain ⟨d, hd, rfl⟩ := List.mem_map.1 hc
          exact (ho2.ok d hd).2)
      have hbd := fun r => allW_bd (cs.take r) (fun c hc => (ho2.ok c (List.mem_of_mem_take hc)).1.2.2)
      have hbd2 : ∀ r, r ≤ N → -10000000000 ≤ allW (cs.take r) ∧ allW (cs.take r) ≤ 10000000000 := fun r hr => by
        have h1 := hbd r
        have h2 : (cs.take r).length ≤ 10 := by rw [List.length_take]; omega
        have h3 := nineP_le h2
        omega
      have EZ := Lib.hid (fun (W : World) => size_any j (by omega) W)
      have hpc : popc j = popcS j := rfl
      rw [hpc] at EZ
      obtain ⟨P, hP⟩ : ∃ P, famN (cs.map toC) j l = P := ⟨_, rfl⟩
      obtain ⟨sj, hsj⟩ : ∃ s, popcS j = s := ⟨_, rfl⟩
      rw [hP] at hv hnn hfu
      rw [hsj] at hfu EZ
      simp only [hok, hv] at E1 E2
      replace E1 := Lib.hid E1
      replace E2 := Lib.hid E2
      have HO := Lib.hid ho
      have HN := Lib.hid hN
      have HOK := Lib.hid (fun c hc => (ho2.ok c hc).1.2.2)
      have HBD := Lib.hid hbd2
      have HNN := Lib.hid hnn
      have HFU := Lib.hid hfu
      clear ho hs1 hok hN hv hP ho2 hq hpp hsj hnn hfu hbd hbd2 hpc
      go_wp2_with (first
        | (go_at_call 15; refine (E1.out _ (World.Since.refl _ _)).mono ?_; rintro e w2 ⟨rfl, hs2⟩; have HS2 := Lib.hid hs2; clear hs2)
        | (go_at_call 18; refine (E2.out _ HS2.out).mono ?_; rintro e w3 ⟨rfl, hs3⟩; have HS3 := Lib.hid (HS2.out.trans (since_mono hs3 HS2.out.size)); clear hs3))
      go_loopg [11, 12, 13] N (fun gg pv av iv wr => ∃ r : Nat, r ≤ N ∧ gg = N - r ∧ iv = .int .i64 r ∧ pv = .bool (nnB (cs.take r)) ∧ av = .int .i64 (allW (cs.take r)) ∧ w3.Since w3.heap.size wr)
      case atStart => exact ⟨0, Nat.zero_le _, rfl, rfl, rfl, rfl, World.Since.refl _ _⟩
      case round =>
        obtain ⟨r, hr, rfl, rfl, rfl, rfl, hS⟩ := hrel
        have HS4 := Lib.hid (HS3.out.trans (since_mono hS HS3.out.size))
        have HSX := Lib.hid hS
        clear hS
        by_cases hlt : r < N
        · obtain ⟨b, o, e, k1, k2, k3⟩ := (HO.out.chips.since HS4.out).at (show r < cs.length by rw [HN.out]; exact hlt)
          simp only [Option.some.injEq, Addr.mk.injEq, and_true] at e
          obtain ⟨rfl, rfl⟩ := e
          rw [Nat.zero_add] at k1 k3
          have hts := take_map_snoc id cs r (by rw [HN.out]; exact hlt)
          simp only [List.map_id, id] at hts
          have hn1 := nnB_snoc (cs.take r) (cs.getD r rc0)
          have ha1 := allW_snoc (cs.take r) (cs.getD r rc0)
          rw [← hts] at hn1 ha1
          have hb1 := HBD.out r hr
          have hb2 := HBD.out (r + 1) hlt
          have hwd := HOK.out (cs.getD r rc0) (by
            have : cs.getD r rc0 = cs[r]'(by rw [HN.out]; exact hlt) := by simp [List.getD, HN.out, hlt]
            rw [this]; exact List.getElem_mem _)
          obtain ⟨KK, hK⟩ : ∃ K, (cs.getD r rc0).k = K := ⟨_, rfl⟩
          obtain ⟨V, hV⟩ : ∃ V, (cs.getD r rc0).w = V := ⟨_, rfl⟩
          rw [hK] at k1 ha1
          rw [hV] at k3 hn1 ha1 hwd
          obtain ⟨B, hB⟩ : ∃ B, nnB (cs.take r) = B := ⟨_, rfl⟩
          obtain ⟨X, hX⟩ : ∃ X, allW (cs.take r) = X := ⟨_, rfl⟩
          rw [hB] at hn1 ⊢
          rw [hX] at ha1 hb1 ⊢
          have hgs : ((r : Nat) : Int) < ((N : Nat) : Int) := by omega
          have HN1 := Lib.hid hn1
          by_cases hk : KK.toList = [104]
          · have hkt : (KK.toList == [104]) = true := by simpa using hk
            rw [hkt, if_pos rfl] at ha1
            have hwx : IntKind.i64.wrap (X * V) = X * V := by rw [ha1] at hb2; exact IntWalk.i64_in _ ⟨by omega, by omega⟩
            have HA1 := Lib.hid ha1
            clear hts hn1 ha1 hK hV hB hX k2 hb1 hb2
            cases B
            · go_wp2
              go_roundg (N - (r + 1))
              case measure => omega
              case rel => exact ⟨r + 1, by omega, rfl, by go_num, by rw [HN1.out]; first | rfl | (simp only [Bool.true_and, ge_iff_le]), by rw [HA1.out], HSX.out⟩
            · go_wp2
              go_roundg (N - (r + 1))
              case measure => omega
              case rel => exact ⟨r + 1, by omega, rfl, by go_num, by rw [HN1.out]; first | rfl | (simp only [Bool.true_and, ge_iff_le]), by rw [HA1.out], HSX.out⟩
          · have hkt : (KK.toList == [104]) = false := by simpa using hk
            rw [hkt, if_neg (by simp)] at ha1
            have HA1 := Lib.hid ha1
            clear hts hn1 ha1 hK hV hB hX k2 hb1 hb2
            cases B
            · go_wp2
              go_roundg (N - (r + 1))
              case measure => omega
              case rel => exact ⟨r + 1, by omega, rfl, by go_num, by rw [HN1.out]; first | rfl | (simp only [Bool.true_and, ge_iff_le]), by rw [HA1.out], HSX.out⟩
            · go_wp2
              go_roundg (N - (r + 1))
              case measure => omega
              case rel => exact ⟨r + 1, by omega, rfl, by go_num, by rw [HN1.out]; first | rfl | (simp only [Bool.true_and, ge_iff_le]), by rw [HA1.out], HSX.out⟩
        · obtain rfl : r = N := by omega
          have htk : cs.take r = cs := List.take_of_length_le (by rw [HN.out]; exact Nat.le_refl _)
          rw [htk]
          obtain ⟨B, hB⟩ : ∃ B, nnB cs = B := ⟨_, rfl⟩
          obtain ⟨X, hX⟩ : ∃ X, allW cs = X := ⟨_, rfl⟩
          rw [hB] at HNN ⊢
          rw [hX] at HFU ⊢
          have hnn := HNN.out
          have hfu := HFU.out
          have HS5 := Lib.hid (HS1.out.trans (since_mono HS4.out HS1.out.size))
          clear htk hB hX
          by_cases hsm : sj = m
          · have hPX := hfu hsm
            have hsb : ((sj : Int) != (m : Int)) = false := by simp [hsm]
            have hpb : (P == X) = true := by simp [hPX]
            cases B
            · go_wp2_with fail
              refine (EZ.out _).mono ?_
              rintro e wz ⟨rfl, rfl⟩
              go_wp2
              go_ret
              exact ⟨rfl, HS5.out⟩
            · have hP0 := hnn rfl
              have hp0 : decide ((0 : Int) ≤ P) = true := by simpa using hP0
              go_wp2_with fail
              refine (EZ.out _).mono ?_
              rintro e wz ⟨rfl, rfl⟩
              go_wp2
              go_ret
              exact ⟨rfl, HS5.out⟩
          · have hsb : ((sj : Int) != (m : Int)) = true := by simp; omega
            cases B
            · go_wp2_with fail
              refine (EZ.out _).mono ?_
              rintro e wz ⟨rfl, rfl⟩
              go_wp2
              go_ret
              exact ⟨rfl, HS5.out⟩
            · have hP0 := hnn rfl
              have hp0 : decide ((0 : Int) ≤ P) = true := by simpa using hP0
              go_wp2_with fail
              refine (EZ.out _).mono ?_
              rintro e wz ⟨rfl, rfl⟩
              go_wp2
              go_ret
              exact ⟨rfl, HS5.out⟩

end Go.Proofs.Ytbclpbgomkfabaa
end

section
namespace Go.Proofs.Ytbclpbgomkfabaa
open Go.RowKit Go.Deep

theorem net_lasts {m : Nat} {cs : List RC} (h5 : m ≤ 5) (h1 : 1 ≤ m) (hc : ∀ c ∈ cs, chOk m (toC c)) (hn : nnB cs = true) : leastB (outC m cs) 0 (partsA m m) = true := by
  have hok : ∀ c ∈ cs.map toC, chOk m c := fun c h => by
    obtain ⟨d, hd, rfl⟩ := List.mem_map.1 h
    exact hc d hd
  have hL : (outC m cs).length = m := outT_length m _
  have hW : ((outC m cs).getD 0 []).length = m := outT_row _ (by omega)
  refine leastB_iff.2 fun x hx => ?_
  obtain ⟨_, g2, g3, g4⟩ := (partsA_mem (by omega) (by omega)).1 hx
  unfold mnP
  rw [net_minor h5 hok hL hW (fun i k hi hk => outT_at _ hi hk) g3 g4 g2]
  exact fam_nn _ (fun c hcm => by
    obtain ⟨d, hd, rfl⟩ := List.mem_map.1 hcm
    unfold nnB at hn
    rw [List.all_eq_true] at hn
    rw [toC_w]
    exact of_decide_eq_true (hn d hd)) _ _
theorem outC_sz {m : Nat} {cs : List RC} (hT : TabIn (outC m cs)) : szL (outC m cs) ≤ 1048576 := szL_tab hT

set_option maxRecDepth 100000 in
set_option maxHeartbeats 2000000 in
theorem fnNetLasting (a : Option Addr) (cap n : Nat) (w : World) (hc : n ≤ cap) (h63 : cap ≤ 9223372036854775807) (hb : BytR w a n) :
    Calls Try.prog 9 #[.slice a n cap] w fun e w' => e = .returned (.bool true) ∧ w.Since w.heap.size w' := by
  by_cases hlen : 1048576 < n
  · have hl' : decide ((1048576 : Int) < (n : Int)) = true := by simp; omega
    clear hb
    go_enter Try.func9, Try.ntmps9
    go_wp2
    go_ret
    exact ⟨rfl, World.Since.refl _ _⟩
  · have hl' : decide ((1048576 : Int) < (n : Int)) = false := by simp; omega
    have ED := Lib.hid (drawNetTable_any a n cap w hc h63 hb)
    clear hb
    go_enter Try.func9, Try.ntmps9
    go_wp2_with fail
    refine (ED.out).mono ?_
    rintro e w1 ⟨m, a1, ca, cs, rfl, hs1, hm, hl, ⟨g, rfl⟩, hcl, hc63, ho⟩
    clear ED
    obtain ⟨N, hN⟩ : ∃ N, cs.length = N := ⟨_, rfl⟩
    rw [hN] at hl hcl ⊢
    have HS1 := Lib.hid hs1
    have E1 := fun (W : World) (h : w1.Since w1.heap.size W) => implNetTable_any (some ⟨g, 0, none⟩) ca N m cs W hN (by omega) (ho.chips.since h)
    have E2 := fun (W : World) (h : w1.Since w1.heap.size W) => specNetTable_any (some ⟨g, 0, none⟩) ca N m cs W hN (by omega) (ho.chips.since h)
    cases hok : ntabB m cs with
    | false =>
      have hL : ntabL m cs = [] := by unfold ntabL; rw [hok]; rfl
      simp only [hok, hL, List.length_nil] at E1 E2
      replace E1 := Lib.hid E1
      replace E2 := Lib.hid E2
      have ES := Lib.hid (fun (W : World) (x y : Option Addr) (p q : Nat) => sameRows_same x y p q 0 [] W rfl (by omega) (fun r h => by simp at h) (fun h => by simp at h) (fun h => by simp at h))
      clear ho hs1 hok hN hL
      go_wp2_with (first
        | (go_at_call 19; refine (E1.out _ (World.Since.refl _ _)).mono ?_; rintro e w2 ⟨x2, p2, rfl, hs2, _⟩; have HS2 := Lib.hid hs2; clear hs2)
        | (go_at_call 33; refine (E2.out _ HS2.out).mono ?_; rintro e w3 ⟨x3, p3, rfl, hs3, _⟩; have HS3 := Lib.hid (HS1.out.trans (since_mono (HS2.out.trans (since_mono hs3 HS2.out.size)) HS1.out.size)); clear hs3)
        | (go_at_call 34; refine (ES.out _ _ _ _ _).mono ?_; rintro e w4 ⟨rfl, hd4⟩; have HS3 := Lib.hid (HS3.out.trans (since_mono (hd4.since _) HS3.out.size)); clear hd4))
      go_ret
      exact ⟨rfl, HS3.out⟩
    | true =>
      have hnb : netB m cs = true := by
        unfold ntabB at hok
        rw [Bool.and_eq_true] at hok
        exact hok.1
      obtain ⟨m', hm', hoo⟩ := netB_ok hnb
      obtain rfl := Int.ofNat.inj hm'
      have hL : ntabL m cs = outC m cs := by unfold ntabL; rw [hok]; rfl
      have hTb : tabIn (outC m cs) = true := by unfold ntabB at hok; rw [hnb, Bool.true_and] at hok; exact hok
      have hT : TabIn (outC m cs) := tabIn_of hTb
      have hll : (outC m cs).length = m := outT_length _ _
      have hw0 : ((outC m cs).getD 0 []).length = m := outT_row _ (by omega)
      have hsz := outC_sz hT
      have hrow : ∀ r, r < (outC m cs).length → ((outC m cs).getD r []).length ≤ 9223372036854775807 := fun r hr => by have := hT.row hr; omega
      simp only [hok, hL, hll] at E1 E2
      have ES := Lib.hid (fun (W : World) (x y : Option Addr) (p q : Nat) (h1 : MatR W x (outC m cs)) (h2 : MatR W y (outC m cs)) => sameRows_same x y p q m (outC m cs) W hll (by omega) hrow h1 h2)
      have EV := fun (W : World) (x : Option Addr) (p : Nat) (h : MatR W x (outC m cs)) => implPosLasting_any x p m (outC m cs) W hll hsz h
      simp only [hTb, hw0, Bool.true_and] at EV
      have hlast : nnB cs = true → leastB (outC m cs) 0 (partsA m m) = true := net_lasts (m := m) hm.2 (by omega) (fun c hc => (hoo.ok c hc).2)
      obtain ⟨LB, hLB⟩ : ∃ b, leastB (outC m cs) 0 (partsA m m) = b := ⟨_, rfl⟩
      rw [hLB] at hlast
      simp only [hLB] at EV
      have HO := Lib.hid ho
      have HN := Lib.hid hN
      have HLA := Lib.hid hlast
      obtain ⟨T, hTT⟩ : ∃ T, outC m cs = T := ⟨_, rfl⟩
      rw [hTT] at ES E1 E2 EV
      replace E1 := Lib.hid E1
      replace E2 := Lib.hid E2
      replace EV := Lib.hid EV
      clear ho hs1 hok hN hnb hm' hoo hL hT hTb hll hw0 hsz hrow hTT hlast hLB
      go_wp2_with (first
        | (go_at_call 19; refine (E1.out _ (World.Since.refl _ _)).mono ?_; rintro e w2 ⟨x2, p2, rfl, hs2, ho2⟩; have HS2 := Lib.hid hs2; have HO2 := Lib.hid ho2; clear hs2 ho2)
        | (go_at_call 33; refine (E2.out _ HS2.out).mono ?_; rintro e w3 ⟨x3, p3, rfl, hs3, ho3⟩; have HS3 := Lib.hid (HS2.out.trans (since_mono hs3 HS2.out.size)); have HO2 := Lib.hid (HO2.out.since hs3); have HO3 := Lib.hid ho3; clear hs3 ho3)
        | (go_at_call 34; refine (ES.out _ _ _ _ _ HO2.out.matR HO3.out.matR).mono ?_; rintro e w4 ⟨rfl, hd4⟩; have HS4 := Lib.hid (HS3.out.trans (since_mono (hd4.since w3.heap.size) HS3.out.size)); have HO2 := Lib.hid (HO2.out.since (hd4.since w3.heap.size)); clear hd4))
      go_loopg [9] N (fun gg iv wr => ∃ r : Nat, r ≤ N ∧ gg = N - r ∧ iv = .int .i64 r ∧ nnB (cs.take r) = true ∧ w4.Since w4.heap.size wr)
      case atStart => exact ⟨0, Nat.zero_le _, rfl, rfl, rfl, World.Since.refl _ _⟩
      case round =>
        obtain ⟨r, hr, rfl, rfl, hB, hS⟩ := hrel
        have HS6 := Lib.hid (HS4.out.trans (since_mono hS HS4.out.size))
        have HSX := Lib.hid hS
        have HO6 := Lib.hid (HO2.out.since hS)
        clear hS
        by_cases hlt : r < N
        · obtain ⟨b, o, e, k1, k2, k3⟩ := (HO.out.chips.since HS6.out).at (show r < cs.length by rw [HN.out]; exact hlt)
          simp only [Option.some.injEq, Addr.mk.injEq, and_true] at e
          obtain ⟨rfl, rfl⟩ := e
          rw [Nat.zero_add] at k3
          have hts := take_map_snoc id cs r (by rw [HN.out]; exact hlt)
          simp only [List.map_id, id] at hts
          have hn1 := nnB_snoc (cs.take r) (cs.getD r rc0)
          rw [← hts, hB, Bool.true_and] at hn1
          obtain ⟨V, hV⟩ : ∃ V, (cs.getD r rc0).w = V := ⟨_, rfl⟩
          rw [hV] at k3 hn1
          have hgs : ((r : Nat) : Int) < ((N : Nat) : Int) := by omega
          have HN1 := Lib.hid hn1
          clear hts hn1 hV hB k1 k2
          by_cases hv0 : V < 0
          · have hvb : decide (V < 0) = true := by simpa using hv0
            go_wp2
            go_ret
            exact ⟨rfl, HS1.out.trans (since_mono HS6.out HS1.out.size)⟩
          · have hvb : decide (V < 0) = false := by simpa using hv0
            go_wp2
            go_roundg (N - (r + 1))
            case measure => omega
            case rel => exact ⟨r + 1, by omega, rfl, by go_num, by rw [HN1.out]; simp; omega, HSX.out⟩
        · obtain rfl : r = N := by omega
          have htk : cs.take r = cs := List.take_of_length_le (by rw [HN.out]; exact Nat.le_refl _)
          rw [htk] at hB
          have h1 := HLA.out hB
          subst h1
          clear htk hB
          go_wp2_with fail
          refine (EV.out _ _ _ HO6.out.matR).mono ?_
          rintro e w7 ⟨rfl, hs7⟩
          have HS7 := Lib.hid (HS1.out.trans (since_mono (HS6.out.trans (since_mono hs7 HS6.out.size)) HS1.out.size))
          clear hs7
          go_wp2
          go_ret
          exact ⟨rfl, HS7.out⟩

end Go.Proofs.Ytbclpbgomkfabaa
end

section
namespace Go.Proofs.Ytbclpbgomkfabaa
open Go.ChangeShapes Go.WideShapes Go.ChangeAt Go.RowKit Go.Deep

theorem below_since' {B : Nat} {w w' : World} (h : Below B w w') : w.Since B w' := ⟨h.os, h.tape, h.output, h.size, h.block⟩
theorem since_below' {B : Nat} {w w' : World} (h : w.Since B w') : Below B w w' := ⟨h.os, h.tape, h.output, h.size, h.block⟩

section
variable {H : Type} {enc : TypeId × Value → H} {P : Program}
theorem post_of_below {f : Func} {s : ChangeSpec} {apart fresh handsOn again : Bool} {W W' : World} {args : Array Value} {v : Value} {ds gs : List (DataW H)} {before pa pv : List MemPlace}
    (hW : DataW.Whole enc P f.params.toList s.vars apart W args.toList ds gs before)
    (hres : ∀ (b : Nat) (sp : Nat → Bool) (hd : Bool), DataW.TrodAll enc P W' b sp hd f.resultTypes.toList (v.resultList f.resultTypes.size) (s.fn H (ds ++ gs)).results [])
    (hargs : ∀ sp : Nat → Bool, (∀ p ∈ before, sp p.block = true) → DataW.TrodAll enc P W' 0 sp true f.params.toList args.toList (s.fn H (ds ++ gs)).args pa)
    (hvars : ∀ sp : Nat → Bool, (∀ p ∈ before, sp p.block = true) → DataW.TrodVars enc P W' sp s.vars (s.fn H (ds ++ gs)).vars pv)
    (hps : before = pa ++ pv) (hb : Below W.heap.size W W') (hag : again = false) :
    s.post enc P f apart fresh handsOn again W args v W' := by
  have hlt : ∀ p ∈ before, p.block < W.heap.size := fun p hp => hW.lt p hp
  have hold : ∀ p ∈ before, (fun b => decide (b < W.heap.size)) p.block = true := fun p hp => by simpa using hlt p hp
  refine ⟨ds, gs, before, [], pa, pv, hW, hres _ _ _, hargs _ hold, hvars _ hold, World.keptBut_mono (fun p hp => ⟨hp, ?_⟩) (hb.frame (· ∈ before)), fun h => ?_⟩
  · rw [hps, List.mem_append] at hp
    exact Or.inr hp
  · rw [hag] at h; cases h

theorem open_mat {W : World} {t e q : TypeId} {a : Option Addr} {n cap : Nat} {d : DataW H} {p : List MemPlace} (ht : P.underlying t = some (.slice e)) (he : P.underlying e = some (.slice q)) (hq : P.underlying q = some (.int .i64))
    (ce : P.cellsOf e = 1) (cq : P.cellsOf q = 1) (h : DataW.Trod enc P W 0 (fun _ => true) true t (.slice a n cap) d p) :
    ∃ l : List (List Int), l.length = n ∧ MatR W a l ∧ n ≤ 9223372036854775807 ∧ ∀ r, r < l.length → (l.getD r []).length ≤ 9223372036854775807 := by
  obtain ⟨fuel, hf⟩ := h
  rcases open_int_rows ht he hq ce cq hf with ⟨hcs, _⟩ | ⟨a', len', cap', A, L, C, Z, hcs, _, hl, hm, _, hrows⟩
  · simp [Value.cells] at hcs
    obtain ⟨rfl, rfl, rfl⟩ := hcs
    exact ⟨[], rfl, (fun h => by simp at h), by omega, fun r hr => by simp at hr⟩
  · simp [Value.cells] at hcs
    obtain ⟨rfl, rfl, rfl⟩ := hcs
    have hmx : maxLen = 9223372036854775807 := rfl
    have hlen : ∀ r, r < n → ((Z r).take (L r)).length = L r := fun r hr => by
      obtain ⟨_, h1, _, h2, _⟩ := hrows r (by omega)
      rw [List.length_take]; omega
    have hget : ∀ r, r < n → ((List.range n).map fun r => (Z r).take (L r)).getD r [] = (Z r).take (L r) := fun r hr => by simp [List.getD, hr]
    refine ⟨(List.range n).map fun r => (Z r).take (L r), by simp, fun h => ?_, by omega, fun r hr => ?_⟩
    · obtain ⟨b, o, spot⟩ := a'
      simp at h
      have hspot : spot = none := by simpa [Addr.add] using World.cell?_spot (hrows 0 (by omega)).1
      subst hspot
      refine ⟨b, o, A, C, rfl, fun r hr => ?_⟩
      simp at hr
      rw [hget r hr, hlen r hr]
      obtain ⟨g1, g2, g3, g4, g5, g6, g7⟩ := hrows r (by omega)
      refine ⟨by rw [← add_plain]; exact g1, fun h0 => ?_⟩
      rw [hlen r hr] at h0
      cases hA : A r with
      | none => have := g6 hA; omega
      | some a'' =>
        obtain ⟨_, hcell⟩ := g7 a'' hA
        obtain ⟨b', o', sp⟩ := a''
        have hs : sp = none := by simpa [Addr.add] using World.cell?_spot (hcell 0 (by omega))
        subst hs
        refine ⟨b', o', rfl, fun i hi => ?_⟩
        rw [hlen r hr] at hi
        rw [← add_plain, hcell i (by omega)]
        congr 2
        simp [List.getD, hi]
    · simp at hr
      rw [hget r hr, hlen r hr]
      obtain ⟨_, h1, h2, _⟩ := hrows r (by omega)
      omega
end

theorem Try.own : ownKnob Try.prog.godebug = none := by kernel_rfl
theorem Try.laidOut : laidOutB Try.prog = true := by kernel_rfl
theorem Try.cellsR : Try.prog.cellsOf 43 = 1 := by kernel_rfl
theorem Try.cellsI : Try.prog.cellsOf 3 = 1 := by kernel_rfl

end Go.Proofs.Ytbclpbgomkfabaa
end

section
namespace Go.Proofs.Ytbclpbgomkfabaa
open Go.ChangeShapes Go.WideShapes Go.ChangeAt Go.RowKit Go.Deep

theorem wf_u8_of {n : Int} (h : (Lit.int .u8 n).wf = true) : 0 ≤ n ∧ n ≤ 255 := by
  have h2 : (0 : Int) ≤ n ∧ n ≤ 255 := by simpa [Lit.wf, IntKind.min, IntKind.max, IntKind.signed, IntKind.bits] using h
  exact h2

theorem open_bytes {H : Type} {enc : TypeId × Value → H} {P : Program} {W : World} {t e : TypeId} {a : Option Addr} {n cap : Nat} {d : DataW H} {p : List MemPlace} (ht : P.underlying t = some (.slice e)) (he : P.underlying e = some (.int .u8)) (ce : P.cellsOf e = 1)
    (h : DataW.Trod enc P W 0 (fun _ => true) true t (.slice a n cap) d p) : BytR W a n ∧ n ≤ cap ∧ cap ≤ 9223372036854775807 := by
  obtain ⟨fuel, hf⟩ := h
  rcases open_ints ht he ce hf with ⟨hcs, _⟩ | ⟨a', len, cap', zs, hcs, _, hl, hm, hlen, _, hcell, hwf⟩
  · simp [Value.cells] at hcs
    obtain ⟨rfl, rfl, rfl⟩ := hcs
    exact ⟨fun h => absurd h (by omega), by omega, by omega⟩
  · simp [Value.cells] at hcs
    obtain ⟨rfl, rfl, rfl⟩ := hcs
    have hmx : maxLen = 9223372036854775807 := rfl
    have hzl : zs.length = cap := by simpa using hlen
    refine ⟨fun h0 => ?_, by omega, by omega⟩
    obtain ⟨b, o, spot⟩ := a'
    have hspot : spot = none := by simpa [Addr.add] using World.cell?_spot (hcell 0 (by omega))
    subst hspot
    refine ⟨b, o, rfl, fun i hi => ?_⟩
    have hi' : i < zs.length := by omega
    have hw := wf_u8_of (hwf (zs.getD i 0) (by simp [List.getD, hi']))
    obtain ⟨z, hz⟩ := Int.eq_ofNat_of_zero_le hw.1
    refine ⟨z, by omega, ?_⟩
    rw [← add_plain, hcell i hi', hz]

theorem Try.cellsB : Try.prog.cellsOf 5 = 1 := by kernel_rfl

end Go.Proofs.Ytbclpbgomkfabaa
end
