/- The two parts of a table beside another one. -/
import Derived.Test.YtenkafcdachlkaaBack5
import Derived.Test.YtenkafcdachlkaaBesideSpec
namespace Go.Proofs.Ytenkafcdachlkaa
open Go.RowKit Go.Deep

theorem sels_low : ∀ n k : Fin 7, n.val + k.val ≤ 6 → sels (2 ^ n.val - 1) (n.val + k.val) = List.range n.val := by decide +kernel
theorem sels_high : ∀ n k : Fin 7, n.val + k.val ≤ 6 → sels ((2 ^ k.val - 1) * 2 ^ n.val) (n.val + k.val) = (List.range k.val).map (n.val + ·) := by decide +kernel
theorem inB_low : ∀ n k : Fin 7, 1 ≤ n.val → n.val + k.val ≤ 6 → inB ((2 ^ n.val - 1 : Nat) : Int) 1 ((2 ^ (n.val + k.val) - 1 : Nat) : Int) = true := by decide +kernel
theorem inB_high : ∀ n k : Fin 7, 1 ≤ k.val → n.val + k.val ≤ 6 → inB (((2 ^ k.val - 1) * 2 ^ n.val : Nat) : Int) 1 ((2 ^ (n.val + k.val) - 1 : Nat) : Int) = true := by decide +kernel
theorem shl_fin : ∀ k n : Fin 7, wrap64 (((2 ^ k.val - 1 : Nat) : Int) * 2 ^ n.val) = (((2 ^ k.val - 1) * 2 ^ n.val : Nat) : Int) := by decide +kernel

theorem range_at (n k : Nat) (h : k < n) : (List.range n).getD k 0 = k := by simp [List.getD, h]
theorem range_add_at (n a k : Nat) (h : k < n) : ((List.range n).map (a + ·)).getD k 0 = a + k := by simp [List.getD, h]

theorem besideOk_of {l u : List (List Int)} (h : besideOk l u = true) : TabIn l ∧ TabIn u ∧ TabIn (besideL l u) := by
  unfold besideOk at h
  simp only [Bool.and_eq_true] at h
  exact ⟨tabIn_of h.1, tabIn_of h.2.1, tabIn_of h.2.2⟩
theorem besideL_width (l u : List (List Int)) (h : 1 ≤ l.length) : ((besideL l u).getD 0 []).length = (l.getD 0 []).length + (u.getD 0 []).length := tabF_len _ _ _ _ (by omega)

theorem beside_low {l u : List (List Int)} (h : besideOk l u = true) : partOk (besideL l u) ((2 ^ l.length - 1 : Nat) : Int) ((2 ^ (l.getD 0 []).length - 1 : Nat) : Int) = true ∧ partL (besideL l u) (2 ^ l.length - 1) (2 ^ (l.getD 0 []).length - 1) = l := by
  obtain ⟨hT, hTu, hM⟩ := besideOk_of h
  have hs := hT.sides
  have hm := hM.sides
  have hrow : ∀ r, r < l.length → (l.getD r []).length = (l.getD 0 []).length := fun r hr => hT.row hr
  have hw := besideL_width l u hs.1.1
  have hl := besideL_length l u
  have hat : ∀ i k, i < l.length → k < (l.getD 0 []).length → at2 (besideL l u) i k = at2 l i k := fun i k hi hk => by
    have e : at2 (besideL l u) i k = besideF l u l.length (l.getD 0 []).length i k := tabF_at _ _ _ _ _ (by omega) (by omega)
    rw [e]; unfold besideF; rw [if_pos ⟨hi, hk⟩]
  rw [hw, hl] at hm
  refine ⟨?_, ?_⟩
  · unfold partOk
    rw [tabIn_true hM, hw, hl, inB_low ⟨l.length, by omega⟩ ⟨u.length, by omega⟩ hs.1.1 hm.1.2, inB_low ⟨(l.getD 0 []).length, by omega⟩ ⟨(u.getD 0 []).length, by omega⟩ hs.2.1 hm.2.2]
    rfl
  · rw [partL_tabF, hw, hl, sels_low ⟨l.length, by omega⟩ ⟨u.length, by omega⟩ hm.1.2, sels_low ⟨(l.getD 0 []).length, by omega⟩ ⟨(u.getD 0 []).length, by omega⟩ hm.2.2]
    simp only [List.length_range]
    refine Eq.trans (tabF_congr fun i k hi hk => ?_) (tab_self rfl hrow)
    rw [range_at _ _ hi, range_at _ _ hk]
    exact hat i k hi hk

theorem beside_high {l u : List (List Int)} (h : besideOk l u = true) : partOk (besideL l u) (((2 ^ u.length - 1) * 2 ^ l.length : Nat) : Int) (((2 ^ (u.getD 0 []).length - 1) * 2 ^ (l.getD 0 []).length : Nat) : Int) = true ∧ partL (besideL l u) ((2 ^ u.length - 1) * 2 ^ l.length) ((2 ^ (u.getD 0 []).length - 1) * 2 ^ (l.getD 0 []).length) = u := by
  obtain ⟨hT, hTu, hM⟩ := besideOk_of h
  have hs := hT.sides
  have hsu := hTu.sides
  have hm := hM.sides
  have hrow : ∀ r, r < u.length → (u.getD r []).length = (u.getD 0 []).length := fun r hr => hTu.row hr
  have hw := besideL_width l u hs.1.1
  have hl := besideL_length l u
  have hat : ∀ i k, i < u.length → k < (u.getD 0 []).length → at2 (besideL l u) (l.length + i) ((l.getD 0 []).length + k) = at2 u i k := fun i k hi hk => by
    have e : at2 (besideL l u) (l.length + i) ((l.getD 0 []).length + k) = besideF l u l.length (l.getD 0 []).length (l.length + i) ((l.getD 0 []).length + k) := tabF_at _ _ _ _ _ (by omega) (by omega)
    rw [e]; unfold besideF
    rw [if_neg (by omega), if_pos ⟨by omega, by omega⟩]
    congr 1 <;> omega
  rw [hw, hl] at hm
  refine ⟨?_, ?_⟩
  · unfold partOk
    rw [tabIn_true hM, hw, hl, inB_high ⟨l.length, by omega⟩ ⟨u.length, by omega⟩ hsu.1.1 hm.1.2, inB_high ⟨(l.getD 0 []).length, by omega⟩ ⟨(u.getD 0 []).length, by omega⟩ hsu.2.1 hm.2.2]
    rfl
  · rw [partL_tabF, hw, hl, sels_high ⟨l.length, by omega⟩ ⟨u.length, by omega⟩ hm.1.2, sels_high ⟨(l.getD 0 []).length, by omega⟩ ⟨(u.getD 0 []).length, by omega⟩ hm.2.2]
    simp only [List.length_map, List.length_range]
    refine Eq.trans (tabF_congr fun i k hi hk => ?_) (tab_self rfl hrow)
    rw [range_add_at _ _ _ hi, range_add_at _ _ _ hk]
    exact hat i k hi hk

end Go.Proofs.Ytenkafcdachlkaa
