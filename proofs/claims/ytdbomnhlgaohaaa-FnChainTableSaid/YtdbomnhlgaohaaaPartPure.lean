/- Parts of tables by sets: the pure side. -/
import Derived.Test.YtdbomnhlgaohaaaIter
import Derived.Test.YtdbomnhlgaohaaaTurnImpl
namespace Go.Proofs.Ytdbomnhlgaohaaa
open Go.RowKit Go.Deep

/-- The numbers of a row by a set. -/
def pickTo (c : Nat) (x : List Int) (m k : Nat) : List Int := (sel c m k).map fun y => x.getD y.1 0
theorem pickTo_yes (c : Nat) (x : List Int) (m k : Nat) (h : k < m) (hb : c.testBit k = true) : pickTo c x m (k + 1) = pickTo c x m k ++ [x.getD k 0] := by simp [pickTo, sel_yes c m k h hb]
theorem pickTo_no (c : Nat) (x : List Int) (m k : Nat) (hb : c.testBit k = false) : pickTo c x m (k + 1) = pickTo c x m k := by simp [pickTo, sel_no c m k hb]
theorem pickTo_length (c : Nat) (x : List Int) (m k : Nat) : (pickTo c x m k).length ≤ k := by simpa [pickTo] using sel_length c m k

/-- The rows by a set of columns, of the rows that have come. -/
def partRows (c : Nat) (l : List (List Int)) (m n : Nat) (pre : List {i : Nat // i < n}) : List (List Int) := pre.map fun r => pickTo c (l.getD r.1 []) m m
theorem partRows_snoc (c : Nat) (l : List (List Int)) (m n : Nat) (pre : List {i : Nat // i < n}) (x : {i : Nat // i < n}) : partRows c l m n (pre ++ [x]) = partRows c l m n pre ++ [pickTo c (l.getD x.1 []) m m] := by simp [partRows]
/-- The part of a table by two sets. -/
def partL (l : List (List Int)) (s c : Nat) : List (List Int) := partRows c l (l.getD 0 []).length l.length (sel s l.length l.length)

theorem sel_pos (s n : Nat) (h1 : 1 ≤ s) (h2 : s < 2 ^ n) : 1 ≤ (sel s n n).length := by
  obtain ⟨i, hi⟩ := Nat.exists_testBit_of_ne_zero (x := s) (by omega)
  have hin : i < n := by
    by_cases h : i < n
    · exact h
    · have : s < 2 ^ i := Nat.lt_of_lt_of_le h2 (Nat.pow_le_pow_right (by omega) (by omega))
      rw [Nat.testBit_lt_two_pow this] at hi
      cases hi
  have := List.length_pos_of_mem (sel_mem s n hin (Nat.le_refl _) hi)
  omega

theorem partRows_get (c : Nat) (l : List (List Int)) (m n : Nat) (pre : List {i : Nat // i < n}) {r : Nat} (hr : r < pre.length) : ∃ j, j < n ∧ (partRows c l m n pre).getD r [] = pickTo c (l.getD j []) m m :=
  ⟨pre[r].1, pre[r].2, by simp [partRows, List.getD, hr]⟩
theorem pickTo_len (c : Nat) (x : List Int) (m k : Nat) : (pickTo c x m k).length = (sel c m k).length := by simp [pickTo]
theorem pickTo_get (c : Nat) (x : List Int) (m k : Nat) {i : Nat} (hi : i < (sel c m k).length) : ∃ j, j < m ∧ (pickTo c x m k).getD i 0 = x.getD j 0 :=
  ⟨(sel c m k)[i].1, (sel c m k)[i].2, by simp [pickTo, List.getD, hi]⟩

theorem partL_tab {l : List (List Int)} {s c : Nat} (hT : TabIn l) (hs1 : 1 ≤ s) (hs2 : s < 2 ^ l.length) (hc1 : 1 ≤ c) (hc2 : c < 2 ^ (l.getD 0 []).length) : TabIn (partL l s c) := by
  have h6 := hT.2.1
  have hw := hT.width
  have hsl := sel_length s l.length l.length
  have hcl := sel_length c (l.getD 0 []).length (l.getD 0 []).length
  have hsp := sel_pos s _ hs1 hs2
  have hcp := sel_pos c _ hc1 hc2
  have hlen : (partL l s c).length = (sel s l.length l.length).length := by simp [partL, partRows]
  have hrow : ∀ r, r < (partL l s c).length → ((partL l s c).getD r []).length = (sel c (l.getD 0 []).length (l.getD 0 []).length).length := fun r hr => by
    obtain ⟨j, _, e⟩ := partRows_get c l (l.getD 0 []).length l.length (sel s l.length l.length) (r := r) (by rw [← hlen]; exact hr)
    show ((partRows _ _ _ _ _).getD r []).length = _
    rw [e, pickTo_len]
  refine ⟨by omega, by omega, fun r hr => ⟨?_, ?_, ?_, fun k hk => ?_⟩⟩
  · rw [hrow r hr, hrow 0 (by omega)]
  · rw [hrow r hr]; exact hcp
  · rw [hrow r hr]; omega
  · rw [hrow r hr] at hk
    obtain ⟨j, hj, e⟩ := partRows_get c l (l.getD 0 []).length l.length (sel s l.length l.length) (r := r) (by rw [← hlen]; exact hr)
    have e' : (partL l s c).getD r [] = pickTo c (l.getD j []) (l.getD 0 []).length (l.getD 0 []).length := e
    rw [e']
    obtain ⟨i, hi, e2⟩ := pickTo_get c (l.getD j []) _ _ hk
    rw [e2]
    exact hT.at hj hi

theorem szL_tab {l : List (List Int)} (h : TabIn l) : szL l ≤ 1048576 := by
  have h6 := h.2.1
  have h3 := sumTo_le_mul l 6 (fun r hr => (h.2.2 r hr).2.2.1) l.length (Nat.le_refl _)
  unfold szL
  omega

end Go.Proofs.Ytdbomnhlgaohaaa
