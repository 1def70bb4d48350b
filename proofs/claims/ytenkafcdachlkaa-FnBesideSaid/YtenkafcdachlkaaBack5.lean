/- Parts turned. -/
import Derived.Test.YtenkafcdachlkaaBack3
import Derived.Test.YtenkafcdachlkaaSize
namespace Go.Proofs.Ytenkafcdachlkaa
open Go.RowKit Go.Deep

theorem map_getD {α β : Type} (l : List α) (d : α) (f : α → β) : l.map f = (List.range l.length).map fun i => f (l.getD i d) := by
  refine List.ext_getElem (by simp) fun i h1 h2 => ?_
  rw [List.length_map] at h1
  simp [List.getD, h1]
/-- The numbers of a set, in order. -/
def sels (s n : Nat) : List Nat := (sel s n n).map (·.1)
theorem sels_length (s n : Nat) : (sels s n).length = (sel s n n).length := by simp [sels]
theorem sels_lt (s n : Nat) {i : Nat} (h : i < (sels s n).length) : (sels s n).getD i 0 < n := by
  have h1 : i < (sel s n n).length := by rw [← sels_length]; exact h
  have : (sels s n).getD i 0 = ((sel s n n)[i]).1 := by simp [sels, List.getD, h1]
  rw [this]
  exact ((sel s n n)[i]).2
theorem partL_tabF (l : List (List Int)) (s c : Nat) : partL l s c = tabF (sels s l.length).length (sels c (l.getD 0 []).length).length fun i k => at2 l ((sels s l.length).getD i 0) ((sels c (l.getD 0 []).length).getD k 0) := by
  have e1 : partL l s c = (sels s l.length).map fun r => (sels c (l.getD 0 []).length).map fun k => (l.getD r []).getD k 0 := by
    unfold partL partRows sels pickTo
    rw [List.map_map]
    refine List.map_congr_left fun r _ => ?_
    simp only [Function.comp_apply, List.map_map]
    rfl
  rw [e1, map_getD _ 0]
  unfold tabF
  refine List.map_congr_left fun i _ => ?_
  rw [map_getD _ 0]
  rfl

theorem partOk_of {l : List (List Int)} {x y : Int} (h : partOk l x y = true) : TabIn l ∧ (1 ≤ x ∧ x ≤ (2 ^ l.length - 1 : Nat)) ∧ (1 ≤ y ∧ y ≤ (2 ^ (l.getD 0 []).length - 1 : Nat)) := by
  unfold partOk at h
  simp only [Bool.and_eq_true] at h
  exact ⟨tabIn_of h.1, of_decide_eq_true h.2.1, of_decide_eq_true h.2.2⟩

theorem part_turn {l : List (List Int)} {x y : Int} (h : partOk l x y = true) : partOk (turnL l) y x = true ∧ partL (turnL l) y.toNat x.toNat = turnL (partL l x.toNat y.toNat) := by
  obtain ⟨hT, hx, hy⟩ := partOk_of h
  have hM := partOk_tab h
  constructor
  · unfold partOk
    rw [tabIn_true (turnL_tab hT), turnL_length, turnL_width hT]
    have e1 : inB y 1 (2 ^ (l.getD 0 []).length - 1 : Nat) = true := decide_eq_true hy
    have e2 : inB x 1 (2 ^ l.length - 1 : Nat) = true := decide_eq_true hx
    rw [e1, e2]; rfl
  · have h1 := hM.1
    have hw : ((partL l x.toNat y.toNat).getD 0 []).length = (sels y.toNat (l.getD 0 []).length).length := by
      rw [partL_tabF] at h1 ⊢
      rw [tabF_length] at h1
      exact tabF_len _ _ _ _ (by omega)
    have hl : (partL l x.toNat y.toNat).length = (sels x.toNat l.length).length := by rw [partL_tabF, tabF_length]
    rw [partL_tabF (turnL l), turnL_length, turnL_width hT]
    show _ = tabF ((partL l x.toNat y.toNat).getD 0 []).length (partL l x.toNat y.toNat).length fun k i => at2 (partL l x.toNat y.toNat) i k
    rw [hw, hl]
    refine tabF_congr fun k i hk hi => ?_
    have e : at2 (partL l x.toNat y.toNat) i k = at2 l ((sels x.toNat l.length).getD i 0) ((sels y.toNat (l.getD 0 []).length).getD k 0) := by
      rw [partL_tabF]
      exact tabF_at _ _ _ _ _ hi hk
    rw [e]
    exact turnL_at (sels_lt _ _ hi) (sels_lt _ _ hk)

theorem part_sizes {l : List (List Int)} {x y : Int} (h : partOk l x y = true) : (partL l x.toNat y.toNat).length = popc x.toNat ∧ ((partL l x.toNat y.toNat).getD 0 []).length = popc y.toNat := by
  obtain ⟨hT, hx, hy⟩ := partOk_of h
  have hM := partOk_tab h
  have hs := hT.sides
  have p1 : 2 ^ l.length ≤ 2 ^ 6 := Nat.pow_le_pow_right (by omega) hs.1.2
  have p2 : 2 ^ (l.getD 0 []).length ≤ 2 ^ 6 := Nat.pow_le_pow_right (by omega) hs.2.2
  have h1 := hM.1
  have hl : (partL l x.toNat y.toNat).length = (sels x.toNat l.length).length := by rw [partL_tabF, tabF_length]
  have hw : ((partL l x.toNat y.toNat).getD 0 []).length = (sels y.toNat (l.getD 0 []).length).length := by
    rw [hl] at h1
    rw [partL_tabF]
    exact tabF_len _ _ _ _ (by omega)
  rw [hl, hw, sels_length, sels_length]
  exact ⟨popc_sel ⟨l.length, by omega⟩ ⟨x.toNat, by omega⟩ (by show x.toNat < 2 ^ l.length; omega), popc_sel ⟨(l.getD 0 []).length, by omega⟩ ⟨y.toNat, by omega⟩ (by show y.toNat < 2 ^ (l.getD 0 []).length; omega)⟩

theorem size_int (x : Int) (h : 0 ≤ x ∧ x ≤ 63) (w : World) : Calls Try.prog 37 #[.int .i64 x] w fun e w' => e = .returned (.int .i64 (popc x.toNat)) ∧ w = w' := by
  obtain ⟨s, rfl⟩ := Int.eq_ofNat_of_zero_le h.1
  exact size_any s (by omega) w

end Go.Proofs.Ytenkafcdachlkaa
