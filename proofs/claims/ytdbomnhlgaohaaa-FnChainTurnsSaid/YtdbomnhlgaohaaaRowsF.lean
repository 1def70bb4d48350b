/- The value of a square as spec.l2Rows finds it by first rows: the pure side. -/
import Derived.Test.YtdbomnhlgaohaaaOrdF
import Derived.Test.YtdbomnhlgaohaaaPartPure
namespace Go.Proofs.Ytdbomnhlgaohaaa
open Go.RowKit Go.Deep

/-- The square without its first row and column k. -/
def minorL (l : List (List Int)) (n k : Nat) : List (List Int) := partL l (2 ^ n - 2) (2 ^ n - 1 - 2 ^ k)
/-- What l2Rows returns of a square of d rows. -/
def rowF : Nat → List (List Int) → Int
  | 0, _ => 1
  | d + 1, l => sumN (fun k => sg k (at2 l 0 k * rowF d (minorL l (d + 1) k))) (d + 1)
theorem rowF_zero (l : List (List Int)) : rowF 0 l = 1 := rfl
theorem rowF_succ (d : Nat) (l : List (List Int)) : rowF (d + 1) l = sumN (fun k => sg k (at2 l 0 k * rowF d (minorL l (d + 1) k))) (d + 1) := rfl

theorem sel_rows : ∀ n : Fin 7, (sel (2 ^ n.val - 2) n.val n.val).length = n.val - 1 := by decide +kernel
theorem sel_cols : ∀ n : Fin 7, ∀ k : Fin 6, k.val < n.val → (sel (2 ^ n.val - 1 - 2 ^ k.val) n.val n.val).length = n.val - 1 := by decide +kernel
theorem pow_lt6 : ∀ n : Fin 7, ∀ k : Fin 6, k.val < n.val → 2 ≤ n.val → 1 ≤ 2 ^ n.val - 2 ∧ 2 ^ n.val - 2 < 2 ^ n.val ∧ 1 ≤ 2 ^ n.val - 1 - 2 ^ k.val ∧ 2 ^ n.val - 1 - 2 ^ k.val < 2 ^ n.val := by decide +kernel

theorem partL_length (l : List (List Int)) (s c : Nat) : (partL l s c).length = (sel s l.length l.length).length := by simp [partL, partRows]
theorem partL_rowlen (l : List (List Int)) (s c : Nat) {r : Nat} (h : r < (partL l s c).length) : ((partL l s c).getD r []).length = (sel c (l.getD 0 []).length (l.getD 0 []).length).length := by
  rw [partL_length] at h
  obtain ⟨j, _, e⟩ := partRows_get c l (l.getD 0 []).length l.length (sel s l.length l.length) h
  show ((partRows _ _ _ _ _).getD r []).length = _
  rw [e, pickTo_len]

/-- A square of d rows: none, or a table with as many columns. -/
def SqD (d : Nat) (l : List (List Int)) : Prop := l.length = d ∧ (1 ≤ d → TabIn l ∧ (l.getD 0 []).length = d)
theorem minor_sq {d : Nat} {l : List (List Int)} (h : SqD (d + 1) l) {k : Nat} (hk : k < d + 1) : SqD d (minorL l (d + 1) k) := by
  obtain ⟨hn, hs⟩ := h
  obtain ⟨hT, hm⟩ := hs (by omega)
  have h6 := hT.2.1
  have hlen : (minorL l (d + 1) k).length = d := by
    show (partL l _ _).length = d
    rw [partL_length, hn]
    exact sel_rows ⟨d + 1, by omega⟩
  refine ⟨hlen, fun hd => ?_⟩
  have hp := pow_lt6 ⟨d + 1, by omega⟩ ⟨k, by omega⟩ hk (show 2 ≤ d + 1 by omega)
  simp only at hp
  refine ⟨partL_tab hT hp.1 (by rw [hn]; exact hp.2.1) hp.2.2.1 (by rw [hm]; exact hp.2.2.2), ?_⟩
  show ((partL l _ _).getD 0 []).length = d
  rw [partL_rowlen _ _ _ (by have h2 : (partL l (2 ^ (d + 1) - 2) (2 ^ (d + 1) - 1 - 2 ^ k)).length = d := hlen; omega), hm]
  exact sel_cols ⟨d + 1, by omega⟩ ⟨k, by omega⟩ hk

theorem rowF_bd : ∀ (d : Nat) (l : List (List Int)), SqD d l → -(p180 d) ≤ rowF d l ∧ rowF d l ≤ p180 d
  | 0, l, _ => by rw [rowF_zero]; simp [p180]
  | d + 1, l, h => by
    obtain ⟨hT, hm⟩ := h.2 (by omega)
    have h6 := hT.2.1
    have hn := h.1
    have h1 := sumN_bdB (f := fun k => sg k (at2 l 0 k * rowF d (minorL l (d + 1) k))) (B := 30 * p180 d) (d + 1) (fun k hk => by
      have ih := rowF_bd d _ (minor_sq h hk)
      have hb := hT.at (i := 0) (k := k) (by omega) (by omega)
      exact sg_bd (mul_bdB hb.1 hb.2 ih.1 ih.2))
    have hp := p180_pos d
    have h2 : ((d + 1 : Nat) : Int) * (30 * p180 d) ≤ 6 * (30 * p180 d) := Int.mul_le_mul_of_nonneg_right (by omega) (by omega)
    rw [rowF_succ]
    unfold p180
    omega

/-- What has been added up at column k. -/
theorem rowS_bd {d : Nat} {l : List (List Int)} (h : SqD (d + 1) l) {q : Nat} (hq : q ≤ d + 1) : -(180 * p180 d) ≤ sumN (fun k => sg k (at2 l 0 k * rowF d (minorL l (d + 1) k))) q ∧ sumN (fun k => sg k (at2 l 0 k * rowF d (minorL l (d + 1) k))) q ≤ 180 * p180 d := by
  obtain ⟨hT, hm⟩ := h.2 (by omega)
  have h6 := hT.2.1
  have hn := h.1
  have h1 := sumN_bdB (f := fun k => sg k (at2 l 0 k * rowF d (minorL l (d + 1) k))) (B := 30 * p180 d) q (fun k hk => by
    have ih := rowF_bd d _ (minor_sq h (show k < d + 1 by omega))
    have hb := hT.at (i := 0) (k := k) (by omega) (by omega)
    exact sg_bd (mul_bdB hb.1 hb.2 ih.1 ih.2))
  have hp := p180_pos d
  have h2 : (q : Int) * (30 * p180 d) ≤ 6 * (30 * p180 d) := Int.mul_le_mul_of_nonneg_right (by omega) (by omega)
  omega

end Go.Proofs.Ytdbomnhlgaohaaa
