/- The walk of laws.FnPowersValue. -/
import Derived.Test.YtkahgpgnfodpgaaDrawKn
import Derived.Test.YtkahgpgnfodpgaaKnownW
namespace Go.Proofs.Ytkahgpgnfodpgaa
open Go.RowKit Go.Deep

/-- Whether two of the numbers are the same, in the order in which it is found. -/
def smI (x : List Int) (i : Nat) (b : Bool) : Nat → Bool
  | 0 => b
  | k + 1 => smI x i b k || (x.getD i 0 == x.getD k 0)
def smO (x : List Int) : Nat → Bool
  | 0 => false
  | i + 1 => smI x i (smO x i) i
theorem smI_iff (x : List Int) (i : Nat) (b : Bool) : ∀ k, smI x i b k = true ↔ b = true ∨ ∃ t, t < k ∧ x.getD i 0 = x.getD t 0
  | 0 => by simp [smI]
  | k + 1 => by
    rw [show smI x i b (k + 1) = (smI x i b k || (x.getD i 0 == x.getD k 0)) from rfl, Bool.or_eq_true, smI_iff x i b k, beq_iff_eq]
    constructor
    · rintro ((h | ⟨t, h1, h2⟩) | h)
      · exact .inl h
      · exact .inr ⟨t, by omega, h2⟩
      · exact .inr ⟨k, by omega, h⟩
    · rintro (h | ⟨t, h1, h2⟩)
      · exact .inl (.inl h)
      · rcases Nat.lt_succ_iff_lt_or_eq.1 h1 with h | h
        · exact .inl (.inr ⟨t, h, h2⟩)
        · subst h; exact .inr h2
theorem smO_iff (x : List Int) : ∀ m, smO x m = true ↔ vdO x m = 0
  | 0 => by simp [smO, vdO]
  | m + 1 => by
    rw [show smO x (m + 1) = smI x m (smO x m) m from rfl, show vdO x (m + 1) = vdI x m (vdO x m) m from rfl, smI_iff, vdI_zero, smO_iff x m]

/-- The first two exchanged. -/
def swp (x : List Int) : List Int := (x.set 0 (x.getD 1 0)).set 1 (x.getD 0 0)
theorem swp_length (x : List Int) : (swp x).length = x.length := by simp [swp]
theorem swp_at {x : List Int} (h : 2 ≤ x.length) : (swp x).getD 0 0 = x.getD 1 0 ∧ (swp x).getD 1 0 = x.getD 0 0 ∧ ∀ j, 2 ≤ j → (swp x).getD j 0 = x.getD j 0 := by
  refine ⟨?_, ?_, fun j hj => ?_⟩
  · simp [swp, List.getD, List.getElem?_set, show 0 < x.length by omega]
  · simp [swp, List.getD, List.getElem?_set, show 1 < x.length by omega]
  · simp [swp, List.getD, List.getElem?_set, show ¬ 1 = j by omega, show ¬ 0 = j by omega]
theorem swp_ok {x : List Int} {most : Int} (h2 : 2 ≤ x.length) (h : l8B x most = true) : l8B (swp x) most = true := by
  obtain ⟨h1, h3, h4⟩ := l8B_of h
  obtain ⟨s0, s1, s2⟩ := swp_at h2
  have hL : ListK (swp x) most (swp x).length := fun j hj => by
    rw [swp_length] at hj
    by_cases e0 : j = 0
    · subst e0; rw [s0]; exact h1 1 (by omega)
    · by_cases e1 : j = 1
      · subst e1; rw [s1]; exact h1 0 (by omega)
      · rw [s2 j (by omega)]; exact h1 j hj
  rw [l8B_all hL, swp_length]
  simp [inB]; omega

/-- What is so of a copy of one's own whose first two numbers are exchanged. -/
theorem swp_facts {B k : Nat} {w3 : World} {v1 : Value} {x : List Int} {x0 x1 : Int} (h : RW B w3 v1 x) (hk : x.length = k) (h2 : 2 ≤ k) (h0 : x.getD 0 0 = x0) (h1 : x.getD 1 0 = x1) :
    ∃ g cp, v1 = .slice (some ⟨g, 0, none⟩) k cp ∧ k ≤ cp ∧ cp ≤ 9223372036854775807 ∧ B ≤ g ∧ w3.cell? ⟨g, 0, none⟩ = some (.int .i64 x0) ∧ w3.frozen? ⟨g, 0, none⟩ = false ∧
      (w3.setCell ⟨g, 0, none⟩ (.int .i64 x1)).cell? ⟨g, 1, none⟩ = some (.int .i64 x1) ∧ (w3.setCell ⟨g, 0, none⟩ (.int .i64 x1)).frozen? ⟨g, 1, none⟩ = false ∧
      RowR ((w3.setCell ⟨g, 0, none⟩ (.int .i64 x1)).setCell ⟨g, 1, none⟩ (.int .i64 x0)) (some ⟨g, 0, none⟩) (swp x) := by
  obtain ⟨ax, cp, hv1, _, hcp1, hcp2⟩ := h.rowC hk
  obtain ⟨g, cp', hv2, hBg, hrowB⟩ := h.form (by omega)
  rw [hk, hv1] at hv2
  have eA : ax = some ⟨g, 0, none⟩ := by injection hv2
  subst eA
  subst hv1
  have c0 := hrowB.cell (i := 0) (by omega)
  have f0 := hrowB.frozen 0
  have r2 : RW B (w3.setCell ⟨g, 0, none⟩ (.int .i64 x1)) (.slice (some ⟨g, 0, none⟩) k cp) (x.set 0 x1) := h.set' hk (by omega) x1
  have hl2 : (x.set 0 x1).length = k := by rw [List.length_set, hk]
  obtain ⟨_, hB2⟩ := r2.rowB (by omega)
  have c1 := hB2.cell (i := 1) (by omega)
  have f1 := hB2.frozen 1
  have e1 : (x.set 0 x1).getD 1 0 = x1 := by
    rw [← h1]
    simp [List.getD, List.getElem?_set]
  rw [e1] at c1
  rw [h0] at c0
  have r3 := r2.set' hl2 (k := 1) (by omega) x0
  obtain ⟨ay, cy, hvy, hry⟩ := r3.rowR (j := k) (by rw [List.length_set, hl2])
  have eY : ay = some ⟨g, 0, none⟩ := by injection hvy with e1 _ _; exact e1.symm
  subst eY
  refine ⟨g, cp, rfl, hcp1, hcp2, hBg, c0, f0, c1, f1, ?_⟩
  have e : swp x = (x.set 0 x1).set 1 x0 := by rw [← h0, ← h1]; rfl
  rw [e]
  exact hry

set_option maxRecDepth 100000 in
set_option maxHeartbeats 4000000 in
theorem fnPowersValue (a : Option Addr) (cap n : Nat) (w : World) (hc : n ≤ cap) (h63 : cap ≤ 9223372036854775807) (hb : BytR w a n) :
    Calls Try.prog 4 #[.slice a n cap] w fun e w' => e = .returned (.bool true) ∧ w.Since w.heap.size w' := by
  by_cases hlen : 1048576 < n
  · have hl' : decide ((1048576 : Int) < (n : Int)) = true := by simp; omega
    clear hb
    go_enter Try.func4, Try.ntmps4
    go_wp2
    go_ret
    exact ⟨rfl, World.Since.refl _ _⟩
  · have hl' : decide ((1048576 : Int) < (n : Int)) = false := by simp; omega
    have ED := Lib.hid (drawKnownPowersValue_any a n cap w hc h63 hb)
    clear hb
    go_enter Try.func4, Try.ntmps4
    go_wp2_with fail
    refine (ED.out).mono ?_
    rintro e w1 ⟨ax, cx, x, rfl, hs1, hx, hr, hcap⟩
    obtain ⟨m, hm⟩ : ∃ m, x.length = m := ⟨_, rfl⟩
    have hx7 : m ≤ 7 := by have := hx.2.1; omega
    rw [hm] at hcap ⊢
    have HS1 := Lib.hid hs1
    have E1 := implKnownPowersValue_any ax cx m x w1 hm (by omega) hcap.1 hr
    have E2 := specKnownPowersValue_any ax cx m x w1 hm (by omega) hr
    cases hok : l8B x 9 with
    | false =>
      rw [hok] at E1 E2
      replace E1 := Lib.hid E1
      replace E2 := Lib.hid E2
      clear hok hr hm hx hs1
      go_wp2_with fail
      refine (E1.out).mono ?_
      rintro e w' ⟨rfl, rfl⟩
      go_wp2_with fail
      refine (E2.out).mono ?_
      rintro e w2 ⟨rfl, hs2⟩
      go_wp2
      go_ret
      exact ⟨rfl, HS1.out.trans (since_mono hs2 HS1.out.size)⟩
    | true =>
      rw [hok] at E1 E2
      obtain ⟨hk9, h1, h6⟩ := l8B_of hok
      rw [hm] at hk9 h1 h6
      obtain ⟨b, o, rfl, hc⟩ := hr (by omega)
      have HC := Lib.hid (fun (W : World) (hd : w1.Since w1.heap.size W) (k : Nat) (hk : k < m) => by
        have c := hc k (by omega)
        exact (hd.cell (a := ⟨b, o + k, none⟩) (World.block_lt_of_cell? _ _ c)).trans c)
      have hz := smO_iff x m
      have hb9 := RngK.all9 hm hk9
      have hvb : -6746640616477458432 ≤ vdO x m ∧ vdO x m ≤ 6746640616477458432 := by
        obtain ⟨i, hi⟩ : ∃ i, m = i + 1 := ⟨m - 1, by omega⟩
        rw [hi]
        exact vdI_lt hb9 (i := i) (k := i) (by omega) (Nat.le_refl _)
      obtain ⟨v, hv⟩ : ∃ v, vdO x m = v := ⟨_, rfl⟩
      rw [hv] at E1 E2 hz hvb
      replace E1 := Lib.hid E1
      replace E2 := Lib.hid E2
      have HM := Lib.hid hm
      have HOK := Lib.hid hok
      have HV := Lib.hid hv
      have HZ := Lib.hid hz
      clear hok hm hx hs1 hc hk9 hv hr hz hb9
      go_wp2_with fail
      refine (E1.out).mono ?_
      rintro e w' ⟨rfl, rfl⟩
      go_wp2_with fail
      refine (E2.out).mono ?_
      rintro e w2 ⟨rfl, hs2⟩
      have HS2 := Lib.hid hs2
      clear hs2
      go_wp2
      go_loopg [8, 9, 10] m (fun g s i _ wr => ∃ k : Nat, k ≤ m ∧ g = m - k ∧ i = .int .i64 k ∧ s = .bool (smO x k) ∧ w1.Since w1.heap.size wr)
      case atStart => exact ⟨0, Nat.zero_le _, rfl, rfl, rfl, HS2.out⟩
      case round =>
        obtain ⟨k, hk, rfl, rfl, rfl, hR⟩ := hrel
        by_cases hlt : k < m
        · have HR := Lib.hid hR
          clear hR HS2
          obtain ⟨wo, hwo⟩ : ∃ wo : World, wo = wr := ⟨_, rfl⟩
          rw [← hwo] at HR ⊢
          clear hwo wr
          go_wp2
          go_loopg [8, 10] k (fun g s i wi => ∃ t : Nat, t ≤ k ∧ g = k - t ∧ i = .int .i64 t ∧ s = .bool (smI x k (smO x k) t) ∧ w1.Since w1.heap.size wi)
          case atStart => exact ⟨0, Nat.zero_le _, rfl, rfl, rfl, HR.out⟩
          case round =>
            obtain ⟨t, ht, rfl, rfl, rfl, hI⟩ := hrel
            clear HR
            by_cases htl : t < k
            · have ck := HC.out wr hI k hlt
              have ct := HC.out wr hI t (by omega)
              have hst : smI x k (smO x k) (t + 1) = (smI x k (smO x k) t || (x.getD k 0 == x.getD t 0)) := rfl
              obtain ⟨y, hy⟩ : ∃ y, x.getD k 0 = y := ⟨_, rfl⟩
              obtain ⟨z, hz⟩ : ∃ z, x.getD t 0 = z := ⟨_, rfl⟩
              rw [hy] at ck
              rw [hz] at ct
              rw [hy, hz] at hst
              obtain ⟨q, hq⟩ : ∃ q, smI x k (smO x k) t = q := ⟨_, rfl⟩
              rw [hq] at hst ⊢
              have HST := Lib.hid hst
              have hkm : (k : Int) < (m : Int) := by omega
              have htm : (t : Int) < (m : Int) := by omega
              have hk0 : k < m := hlt
              have ht0 : t < m := by omega
              have HI := Lib.hid hI
              clear hst hy hz hq hI
              cases q with
              | true =>
                go_wp2
                go_quiet (fail)
                go_wp2
                go_roundg (k - (t + 1))
                case measure => omega
                case rel => exact ⟨t + 1, by omega, rfl, by go_num, by rw [HST.out]; rfl, HI.out.trans (since_mono (Drawn.since (Drawn.mk _ _) _) HI.out.size)⟩
              | false =>
                go_wp2
                go_quiet (fail)
                go_wp2
                go_roundg (k - (t + 1))
                case measure => omega
                case rel => exact ⟨t + 1, by omega, rfl, by go_num, by rw [HST.out]; rfl, HI.out.trans (since_mono (Drawn.since (Drawn.mk _ _) _) HI.out.size)⟩
            · have htk : t = k := by omega
              subst htk
              go_wp2
              go_roundg (m - (t + 1))
              case measure => omega
              case rel => exact ⟨t + 1, by omega, rfl, by go_num, rfl, hI⟩
        · have hkm : k = m := by omega
          subst hkm
          clear HS2
          by_cases h2 : k < 2
          · have hk1 : k = 1 := by omega
            subst hk1
            have hv1 : v = 1 := by rw [← HV.out]; rfl
            subst hv1
            go_wp2
            go_ret
            exact ⟨rfl, HS1.out.trans (since_mono hR HS1.out.size)⟩
          · have hyk := swp_at (x := x) (by rw [HM.out]; omega)
            have hyl := swp_length x
            rw [HM.out] at hyl
            have hyo := swp_ok (x := x) (by rw [HM.out]; omega) HOK.out
            have hyv : vdO (swp x) k = -v := by
              obtain ⟨j, hj⟩ : ∃ j, k = j + 2 := ⟨k - 2, by omega⟩
              rw [← HV.out, hj]
              exact vdO_swap hyk.1 hyk.2.1 hyk.2.2 j
            obtain ⟨i3, hi3⟩ := info3_parts
            have HJ := Lib.hid hi3
            obtain ⟨x0, hx0⟩ : ∃ x0, x.getD 0 0 = x0 := ⟨_, rfl⟩
            obtain ⟨x1, hx1⟩ : ∃ x1, x.getD 1 0 = x1 := ⟨_, rfl⟩
            have hcells : ∀ (j : Nat) (u : Value), (x.map (Value.int .i64))[j]? = some u → (wr.alloc (.cells #[] 3)).cell? ((⟨b, o, none⟩ : Addr).add j) = some u := fun j u hj => by
              rw [Go.WideShapes.add_plain]
              obtain ⟨hjl, he⟩ := List.getElem?_eq_some_iff.1 hj
              have hjx : j < k := by rw [← HM.out]; simpa using hjl
              refine cell_alloc_l _ ?_
              have c := HC.out wr hR j hjx
              show wr.cell? ⟨b, o + j, none⟩ = some u
              rw [c, ← he]
              simp [List.getD, show j < x.length by rw [HM.out]; exact hjx]
            have HCE := Lib.hid hcells
            have HRB := Lib.hid (show (wr.alloc (.cells #[] 3)).ownsRow wr.heap.size 3 1 (.slice (some ⟨wr.heap.size, 0, none⟩) 0 0) 0 [] from World.ownsRow_made wr #[] 0 (Nat.le_refl _) (Nat.zero_le _) rfl)
            have HR := Lib.hid hR
            clear hcells hi3 hR
            have hk0 : (0 : Int) < (k : Int) := by omega
            have hk1 : (1 : Int) < (k : Int) := by omega
            have HXX := Lib.hid (And.intro hx0 hx1)
            have HYL := Lib.hid hyl
            have HYO := Lib.hid (And.intro hyo hyv)
            clear hx0 hx1 hyl hyo hyv hyk
            cases hsm : smO x k with
            | true =>
              have hv0 : v = 0 := HZ.out.1 hsm
              subst hv0
              clear hsm
              go_wp2_with (at_builtin; (refine wpList_append_own _ rfl (.tmp 77) (.tmp 78) 23 rfl wr.heap.size 3 i3 (.int .i64 0) 1 8 Try.underlying23 HJ.out.1 HJ.out.2.1 HJ.out.2.2.1 HJ.out.2.2.2 rfl (by decide) _ 0 [] rfl HRB.out ⟨b, o, none⟩ k _ (x.map (Value.int .i64)) rfl (by rw [List.length_map, HM.out]; omega) HCE.out (fun u hu => by obtain ⟨z, _, rfl⟩ := List.mem_map.1 hu; rfl) (by unfold maxLen; omega) (by omega) (by simp) ?_); intro v1 w3 hown1 hgrow1 _; have hrb := RB.of_append #[] HM.out hown1 hgrow1; clear hown1 hgrow1; have hs3 : w1.Since w1.heap.size w3 := HR.out.trans (since_mono hrb.since HR.out.size); obtain ⟨g, cp, rfl, hcp1, hcp2, hBg, c0, f0, c1, f1, hry⟩ := swp_facts (show RW wr.heap.size w3 v1 x from hrb.own) HM.out (by omega) HXX.out.1 HXX.out.2; have hs4 : w1.Since w1.heap.size (w3.setCell ⟨g, 0, none⟩ (.int .i64 x1)) := hs3.setCell (Nat.le_trans HR.out.size hBg) _; have HS5 := Lib.hid (show w1.Since w1.heap.size ((w3.setCell ⟨g, 0, none⟩ (.int .i64 x1)).setCell ⟨g, 1, none⟩ (.int .i64 x0)) from hs4.setCell (Nat.le_trans HR.out.size hBg) _); have hx1c := HC.out w3 hs3 1 (by omega); have hx0c := HC.out (w3.setCell ⟨g, 0, none⟩ (.int .i64 x1)) hs4 0 (by omega); rw [HXX.out.2] at hx1c; rw [HXX.out.1, Nat.add_zero] at hx0c; have hE3 := implKnownPowersValue_any (some ⟨g, 0, none⟩) cp k (swp x) _ HYL.out (by omega) hcp1 hry; rw [HYO.out.1, HYO.out.2] at hE3; have E3 := Lib.hid hE3; clear hrb hs3 hs4 hry hE3)
              go_wp2_with fail
              refine (E3.out).mono ?_
              rintro e w' ⟨rfl, rfl⟩
              go_wp2
              go_ret
              exact ⟨rfl, HS1.out.trans (since_mono HS5.out HS1.out.size)⟩
            | false =>
              have hvn : (v == 0) = false := by simpa using fun h => by have := HZ.out.2 h; rw [hsm] at this; exact Bool.noConfusion this
              clear hsm
              go_wp2_with (at_builtin; (refine wpList_append_own _ rfl (.tmp 77) (.tmp 78) 23 rfl wr.heap.size 3 i3 (.int .i64 0) 1 8 Try.underlying23 HJ.out.1 HJ.out.2.1 HJ.out.2.2.1 HJ.out.2.2.2 rfl (by decide) _ 0 [] rfl HRB.out ⟨b, o, none⟩ k _ (x.map (Value.int .i64)) rfl (by rw [List.length_map, HM.out]; omega) HCE.out (fun u hu => by obtain ⟨z, _, rfl⟩ := List.mem_map.1 hu; rfl) (by unfold maxLen; omega) (by omega) (by simp) ?_); intro v1 w3 hown1 hgrow1 _; have hrb := RB.of_append #[] HM.out hown1 hgrow1; clear hown1 hgrow1; have hs3 : w1.Since w1.heap.size w3 := HR.out.trans (since_mono hrb.since HR.out.size); obtain ⟨g, cp, rfl, hcp1, hcp2, hBg, c0, f0, c1, f1, hry⟩ := swp_facts (show RW wr.heap.size w3 v1 x from hrb.own) HM.out (by omega) HXX.out.1 HXX.out.2; have hs4 : w1.Since w1.heap.size (w3.setCell ⟨g, 0, none⟩ (.int .i64 x1)) := hs3.setCell (Nat.le_trans HR.out.size hBg) _; have HS5 := Lib.hid (show w1.Since w1.heap.size ((w3.setCell ⟨g, 0, none⟩ (.int .i64 x1)).setCell ⟨g, 1, none⟩ (.int .i64 x0)) from hs4.setCell (Nat.le_trans HR.out.size hBg) _); have hx1c := HC.out w3 hs3 1 (by omega); have hx0c := HC.out (w3.setCell ⟨g, 0, none⟩ (.int .i64 x1)) hs4 0 (by omega); rw [HXX.out.2] at hx1c; rw [HXX.out.1, Nat.add_zero] at hx0c; have hE3 := implKnownPowersValue_any (some ⟨g, 0, none⟩) cp k (swp x) _ HYL.out (by omega) hcp1 hry; rw [HYO.out.1, HYO.out.2] at hE3; have E3 := Lib.hid hE3; clear hrb hs3 hs4 hry hE3)
              go_wp2_with fail
              refine (E3.out).mono ?_
              rintro e w' ⟨rfl, rfl⟩
              go_wp2
              go_ret
              exact ⟨rfl, HS1.out.trans (since_mono HS5.out HS1.out.size)⟩

end Go.Proofs.Ytkahgpgnfodpgaa
