/- Two rows of a table exchanged: the contract of the method swapped. -/
import Derived.Test.YtlgjplhffpmfpaaPartImpl
import Derived.Test.YtlgjplhffpmfpaaWR
import Derived.Deep.DeepCutAuto
namespace Go.Proofs.Ytlgjplhffpmfpaa
open Go.RowKit Go.Deep

/-- The row that comes to row r. -/
def sw (i k r : Nat) : Nat := if r = k then i else if r = i then k else r
def swapL (l : List (List Int)) (i k : Nat) : List (List Int) := (List.range l.length).map fun r => l.getD (sw i k r) []
theorem swapL_length (l : List (List Int)) (i k : Nat) : (swapL l i k).length = l.length := by simp [swapL]
theorem swapL_get (l : List (List Int)) (i k : Nat) {r : Nat} (h : r < l.length) : (swapL l i k).getD r [] = l.getD (sw i k r) [] := by simp [swapL, List.getD, h]
theorem sw_lt {i k r n : Nat} (hi : i < n) (hk : k < n) (hr : r < n) : sw i k r < n := by unfold sw; split <;> (try split) <;> omega
theorem sw_sw (i k r : Nat) : sw i k (sw i k r) = r := by
  unfold sw
  by_cases h1 : r = k
  · subst h1
    by_cases h2 : i = r
    · subst h2; simp
    · simp [h2]
  · by_cases h2 : r = i
    · subst h2; simp
    · simp [h1, h2]
theorem sw_inj {i k r r' : Nat} (h : sw i k r = sw i k r') : r = r' := by
  have := congrArg (sw i k) h
  rwa [sw_sw, sw_sw] at this
theorem swapL_tab {l : List (List Int)} {i k : Nat} (hT : TabIn l) (hi : i < l.length) (hk : k < l.length) : TabIn (swapL l i k) := by
  have h1 := hT.1
  have h2 := hT.2.1
  refine ⟨by rw [swapL_length]; exact h1, by rw [swapL_length]; exact h2, fun r hr => ?_⟩
  rw [swapL_length] at hr
  rw [swapL_get l i k (show 0 < l.length by omega), swapL_get l i k hr]
  have h3 := hT.2.2 _ (sw_lt hi hk hr)
  rw [hT.row (sw_lt hi hk (show 0 < l.length by omega))]
  exact h3

theorem sel_full (n k : Nat) (hk : k ≤ n) : (sel (2 ^ n - 1) n k).map (·.1) = List.range k := by
  induction k with
  | zero => rfl
  | succ k ih =>
    rw [sel_yes _ _ _ (by omega) (by rw [Nat.testBit_two_pow_sub_one]; simp; omega), List.map_append, ih (by omega), List.range_succ]
    rfl
theorem range_getD {α : Type} (x : List α) (d : α) : (List.range x.length).map (fun j => x.getD j d) = x := by
  refine List.ext_getElem (by simp) fun i h1 h2 => ?_
  simp [List.getD, h2]
theorem pickTo_full (x : List Int) (m : Nat) (h : x.length = m) : pickTo (2 ^ m - 1) x m m = x := by
  have e : pickTo (2 ^ m - 1) x m m = ((sel (2 ^ m - 1) m m).map (·.1)).map (fun j => x.getD j 0) := by rw [List.map_map]; rfl
  rw [e, sel_full m m (Nat.le_refl _), ← h, range_getD]
theorem partL_full {l : List (List Int)} (hT : Rec l) : partL l (2 ^ l.length - 1) (2 ^ (l.getD 0 []).length - 1) = l := by
  have e : partL l (2 ^ l.length - 1) (2 ^ (l.getD 0 []).length - 1) = ((sel (2 ^ l.length - 1) l.length l.length).map (·.1)).map (fun r => pickTo (2 ^ (l.getD 0 []).length - 1) (l.getD r []) (l.getD 0 []).length (l.getD 0 []).length) := by rw [List.map_map]; rfl
  rw [e, sel_full _ _ (Nat.le_refl _)]
  have h : (List.range l.length).map (fun r => pickTo (2 ^ (l.getD 0 []).length - 1) (l.getD r []) (l.getD 0 []).length (l.getD 0 []).length) = (List.range l.length).map (fun r => l.getD r []) :=
    List.map_congr_left fun r hr => pickTo_full _ _ (hT.row (List.mem_range.1 hr))
  rw [h, range_getD]

/-- Two rows are exchanged. -/
theorem OwnD.swap {lo hi : Nat} {w : World} {b : Nat} {A : Nat → Option Addr} {G C : Nat → Nat} {n m : Nat} {Z : Nat → Nat → Int} (h : OwnD lo hi w b A G C n (fun _ => m) Z) {i k : Nat} (hi' : i < n) (hk : k < n) :
    OwnD lo hi ((w.setCell ⟨b, i, none⟩ (.slice (A k) m (C k))).setCell ⟨b, k, none⟩ (.slice (A i) m (C i))) b (fun r => A (sw i k r)) (fun r => G (sw i k r)) (fun r => C (sw i k r)) n (fun _ => m) (fun r c => Z (sw i k r) c) := by
  refine ⟨fun r hr => ?_, fun r hr h0 => h.addr _ (sw_lt hi' hk hr) h0, fun r hr h0 => h.inside _ (sw_lt hi' hk hr) h0, fun r hr c hc => ?_, fun r hr c hc => by rw [World.frozen?_setCell, World.frozen?_setCell]; exact h.free _ (sw_lt hi' hk hr) c hc, fun r r' hr hr' h0 h0' e => sw_inj (h.apart _ _ (sw_lt hi' hk hr) (sw_lt hi' hk hr') h0 h0' e)⟩
  · by_cases e1 : r = k
    · subst e1
      have : sw i r r = i := by simp [sw]
      rw [this]
      refine World.cell?_setCell_same' _ _ _ ?_
      by_cases e2 : i = r
      · subst e2
        rw [World.cell?_setCell_same' _ _ _ (by rw [h.top i hi']; rfl)]; rfl
      · rw [World.cell?_setCell_other _ _ _ _ (fun e => e2 (by injection e)), h.top r hk]; rfl
    · rw [World.cell?_setCell_other _ _ _ _ (fun e => e1 (by injection e with _ e; exact e.symm))]
      by_cases e2 : r = i
      · subst e2
        have : sw r k r = k := by simp [sw, e1]
        rw [this]
        exact World.cell?_setCell_same' _ _ _ (by rw [h.top r hr]; rfl)
      · have : sw i k r = r := by simp [sw, e1, e2]
        rw [this, World.cell?_setCell_other _ _ _ _ (fun e => e2 (by injection e with _ e; exact e.symm))]
        exact h.top r hr
  · have hl := sw_lt hi' hk hr
    have hin := h.inside _ hl (by omega)
    rw [World.cell?_setCell_other _ _ _ _ (fun e => hin.2.2 (by injection e with e; exact e.symm)), World.cell?_setCell_other _ _ _ _ (fun e => hin.2.2 (by injection e with e; exact e.symm))]
    exact h.cell _ hl c hc
theorem OwnD.swapT {lo hi : Nat} {w : World} {b : Nat} {A : Nat → Option Addr} {G C : Nat → Nat} {n m : Nat} {Z : Nat → Nat → Int} {l : List (List Int)} (h : OwnD lo hi w b A G C n (fun _ => m) Z) {i k : Nat} (hi' : i < n) (hk : k < n) (hb : lo ≤ b ∧ b < hi)
    (hn : l.length = n) (hm : ∀ r, r < n → (l.getD r []).length = m) (hZ : ∀ r c, r < n → c < m → Z r c = at2 l r c) : OwnT lo hi ((w.setCell ⟨b, i, none⟩ (.slice (A k) m (C k))).setCell ⟨b, k, none⟩ (.slice (A i) m (C i))) (some ⟨b, 0, none⟩) (swapL l i k) :=
  (h.swap hi' hk).ownT hb ((swapL_length _ _ _).trans hn) (fun r hr => by rw [swapL_get l i k (by omega)]; exact hm _ (sw_lt hi' hk hr)) (fun r hr c hc => by rw [swapL_get l i k (by omega)]; exact (hZ _ c (sw_lt hi' hk hr) hc).symm)

set_option maxRecDepth 100000 in
set_option maxHeartbeats 2000000 in
theorem swapped_any (a : Option Addr) (cap n i k : Nat) (l : List (List Int)) (w : World) (hn : l.length = n) (hT : Rec l) (hi : i < n) (hk : k < n) (hm : MatR w a l) :
    Calls Try.prog 107 #[.slice a n cap, .int .i64 i, .int .i64 k] w fun e w' => ∃ a' cap', e = .returned (.slice a' n cap') ∧ w.Since w.heap.size w' ∧ OwnT w.heap.size w'.heap.size w' a' (swapL l i k) := by
  have h6 := hT.high
  have h1 := hT.low
  have hw := hT.width
  rw [hn] at h6 h1
  obtain ⟨m, hmm⟩ : ∃ m, (l.getD 0 []).length = m := ⟨_, rfl⟩
  have E1 := Lib.hid (allRows_any a cap n w h6)
  have E2 := width_any a cap n l w hn (by omega) (by omega) hm
  rw [hmm] at E2 hw
  replace E2 := Lib.hid E2
  have E3 := Lib.hid (fullSet_any m hw.2 w)
  have p1 : 2 ^ n ≤ 2 ^ 6 := Nat.pow_le_pow_right (by omega) h6
  have p2 : 2 ^ m ≤ 2 ^ 6 := Nat.pow_le_pow_right (by omega) hw.2
  have E4 := part_rec a cap n (2 ^ n - 1) (2 ^ m - 1) l w hn hT (by omega) (by omega) hm
  have hfull := partL_full hT
  rw [hn, hmm] at hfull
  rw [hfull, hn] at E4
  replace E4 := Lib.hid E4
  have hrow : ∀ r, r < n → (l.getD r []).length = m := fun r hr => by rw [hT.row (by omega), hmm]
  have HN := Lib.hid hn
  have HROW := Lib.hid hrow
  clear hm hT hfull hrow hmm hn p1 p2
  go_enter Try.func107, Try.ntmps107
  go_wp2_with fail
  refine (E1.out).mono ?_
  rintro e w1 ⟨rfl, rfl⟩
  go_wp2_with fail
  refine (E2.out).mono ?_
  rintro e w1 ⟨rfl, rfl⟩
  go_wp2_with fail
  refine (E3.out).mono ?_
  rintro e w1 ⟨rfl, rfl⟩
  go_wp2_with fail
  refine (E4.out).mono ?_
  rintro e w2 ⟨a2, cap2, rfl, hs2, ho2, hfr⟩
  obtain ⟨b, A, G, C, rfl, hb, hWR⟩ := ho2.wr HN.out (by omega) HROW.out hs2 (fun _ _ => 0)
  have hO := hWR.own
  have c1 := hO.top i hi
  have c2 := hO.top k hk
  have HF := Lib.hid (hO.swapT hi hk hb HN.out HROW.out (fun r c _ _ => by unfold updF; rw [if_neg (by omega)]))
  have f1 := hfr b i rfl hi
  have f2 := hfr b k rfl hk
  have HS := Lib.hid (show w.Since w.heap.size ((w2.setCell ⟨b, i, none⟩ (.slice (A k) m (C k))).setCell ⟨b, k, none⟩ (.slice (A i) m (C i))) from (hs2.setCell hb.1 _).setCell hb.1 _)
  have HZ := Lib.hid (show ((w2.setCell ⟨b, i, none⟩ (.slice (A k) m (C k))).setCell ⟨b, k, none⟩ (.slice (A i) m (C i))).heap.size = w2.heap.size by simp)
  obtain ⟨y1, hy1⟩ : ∃ y, y = A i := ⟨_, rfl⟩
  obtain ⟨y2, hy2⟩ : ∃ y, y = A k := ⟨_, rfl⟩
  obtain ⟨z1, hz1⟩ : ∃ y, y = C i := ⟨_, rfl⟩
  obtain ⟨z2, hz2⟩ : ∃ y, y = C k := ⟨_, rfl⟩
  rw [← hy1, ← hy2, ← hz1, ← hz2] at HF HS HZ
  rw [← hy1, ← hz1] at c1
  rw [← hy2, ← hz2] at c2
  obtain ⟨Y, hY⟩ : ∃ Y, (w2.setCell ⟨b, i, none⟩ (.slice y2 m z2)).cell? ⟨b, k, none⟩ = some Y := by
    by_cases e : i = k
    · subst e; exact ⟨_, World.cell?_setCell_same' _ _ _ (by rw [c1]; rfl)⟩
    · exact ⟨_, (World.cell?_setCell_other _ _ _ _ (fun e' => e (by injection e'))).trans c2⟩
  clear hWR hO ho2 hfr hs2 hy1 hy2 hz1 hz2
  go_wp2
  go_region
  go_wp2
  go_ret
  exact ⟨_, _, rfl, HS.out.drew, (HF.out.mono (Nat.le_refl _) (by rw [World.size_drew, HZ.out]; exact Nat.le_refl _))⟩

end Go.Proofs.Ytlgjplhffpmfpaa
