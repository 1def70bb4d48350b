/- Chapter 8: spec.KnownSums. -/
import Derived.Test.YtjlcbkbekogblaaKnownL
namespace Go.Proofs.Ytjlcbkbekogblaa
open Go.RowKit Go.Deep

set_option maxRecDepth 100000 in
set_option maxHeartbeats 4000000 in
theorem specKnownSums_any (n : Int) (a : Option Addr) (L cap : Nat) (x : List Int) (w : World) (hn : x.length = L) (h63 : cap ≤ 9223372036854775807) (hc : L ≤ cap) (hm : RowR w a x) :
    Calls Try.prog 41 #[.int .i64 n, .slice a L cap] w (SpecT w (suB n L && tabIn (suL n.toNat x)) (suL n.toNat x)) := by
  have E1 := l6In_any n 1 6 w
  have hsp : suB n L = (inB n 1 6 && decide ((L : Int) = 2 * n - 1)) := rfl
  cases h1 : inB n 1 6 with
  | false =>
    rw [h1, Bool.false_and] at hsp
    rw [hsp, Bool.false_and]
    rw [h1] at E1
    replace E1 := Lib.hid E1
    clear hm hn h1 hsp
    go_enter Try.func41, Try.ntmps41
    go_wp2_with fail
    refine (E1.out).mono ?_
    rintro e w' ⟨rfl, rfl⟩
    go_wp2_with fail
    refine (l1None_any w).mono ?_
    rintro e w2 ⟨rfl, hs2⟩
    go_wp2
    go_ret2
    exact ⟨_, _, rfl, hs2, InT.nil _ _ _ _⟩
  | true =>
    rw [h1] at E1
    replace E1 := Lib.hid E1
    have h16 := of_decide_eq_true h1
    obtain ⟨m, rfl⟩ := Int.eq_ofNat_of_zero_le (show 0 ≤ n by omega)
    rw [Int.toNat_natCast]
    by_cases h2 : (L : Int) = 2 * (m : Int) - 1
    · rw [h1, decide_eq_true h2] at hsp
      rw [hsp, Bool.and_self, Bool.true_and]
      have hne : ((L : Int) != 2 * (m : Int) - 1) = false := by simp [h2]
      obtain ⟨b, o, rfl, hcx⟩ := hm (by omega)
      have HCX := Lib.hid (fun (W : World) (hd : w.Since w.heap.size W) (k : Nat) (hk : k < L) => by
        have c := hcx k (by omega)
        exact (hd.cell (a := ⟨b, o + k, none⟩) (World.block_lt_of_cell? _ _ c)).trans c)
      have hL0 : (L : Int) = 2 * (m : Int) - 1 := h2
      have hm6 : 1 ≤ m ∧ m ≤ 6 := by omega
      unfold suL
      obtain ⟨f, hf⟩ : ∃ f : Nat → Nat → Int, f = fun i k => x.getD (i + k) 0 := ⟨_, rfl⟩
      have HF := Lib.hid (fun i k => congrFun (congrFun hf i) k)
      rw [← hf]
      obtain ⟨i42, hi42⟩ := info42_parts
      obtain ⟨i3, hi3⟩ := info3_parts
      have HI := Lib.hid hi42
      have HJ := Lib.hid hi3
      have HST := Lib.hid (bt_start w (fun _ => none) (fun _ => 0) #[] rfl)
      clear hcx hn h1 hsp h2 hi42 hi3 hf
      go_enter Try.func41, Try.ntmps41
      go_wp2_with fail
      refine (E1.out).mono ?_
      rintro e w' ⟨rfl, rfl⟩
      go_wp2
      go_loopg [6, 7] m (fun g v k wr => ∃ r : Nat, ∃ A C, r ≤ m ∧ g = m - r ∧ k = .int .i64 r ∧ BT w wr v (tabF r m f) A C)
      case atStart => exact ⟨0, _, _, Nat.zero_le _, rfl, rfl, HST.out⟩
      case round =>
        obtain ⟨r, A, C, hr, rfl, rfl, hR⟩ := hrel
        clear HST
        by_cases hlt : r < m
        · obtain ⟨y, hy⟩ : ∃ y, y = rowTo f r m := ⟨_, rfl⟩
          have HMM := Lib.hid (show y.length = m by rw [hy, rowTo_length])
          have HY := Lib.hid hy
          have hcells : ∀ (j : Nat) (u : Value), (y.map (Value.int .i64))[j]? = some u → (wr.alloc (.cells #[] 3)).cell? ((⟨b, o + r, none⟩ : Addr).add j) = some u := fun j u hj => by
            rw [Go.WideShapes.add_plain]
            obtain ⟨hjl, he⟩ := List.getElem?_eq_some_iff.1 hj
            have hjx : j < m := by rw [← HMM.out]; simpa using hjl
            refine cell_alloc_l _ ?_
            have c := HCX.out wr hR.since (r + j) (by omega)
            show wr.cell? ⟨b, o + r + j, none⟩ = some u
            rw [show o + r + j = o + (r + j) by omega, c, ← he]
            simp [hy, rowTo, HF.out]
          have HCE := Lib.hid hcells
          have HR := Lib.hid hR
          have hsz := hR.since.size
          have hlen := tabF_length r m f
          have HRB := Lib.hid (show (wr.alloc (.cells #[] 3)).ownsRow wr.heap.size 3 1 (.slice (some ⟨wr.heap.size, 0, none⟩) 0 0) 0 [] from World.ownsRow_made wr #[] 0 (Nat.le_refl _) (Nat.zero_le _) rfl)
          have hrm1 : (r : Int) + (m : Int) ≤ (cap : Int) := by omega
          have hrm2 : (r : Int) ≤ (r : Int) + (m : Int) := by omega
          clear hcells hR hy
          go_wp2_with (first
            | (at_builtin; (refine wpList_append_own _ rfl (.tmp 29) (.tmp 35) 31 rfl wr.heap.size 3 i3 (.int .i64 0) 1 8 Try.underlying31 HJ.out.1 HJ.out.2.1 HJ.out.2.2.1 HJ.out.2.2.2 rfl (by decide) _ 0 [] rfl HRB.out ⟨b, o + r, none⟩ (r + m - r) _ (y.map (Value.int .i64)) rfl (by rw [List.length_map, HMM.out]; omega) HCE.out (fun u hu => by obtain ⟨z, _, rfl⟩ := List.mem_map.1 hu; rfl) (by unfold maxLen; omega) (by omega) (by simp) ?_);
                intro v1 w1 hown1 hgrow1 _; have hrb := RB.of_append #[] (show y.length = r + m - r by rw [HMM.out]; omega) hown1 hgrow1; obtain ⟨ra, rcp, hv1, hrow1⟩ := hrb.slice; rw [HMM.out] at hv1; subst hv1; have HBT := Lib.hid (HR.out.later hrb.since); have HRW := Lib.hid hrow1; have hz1 := hrb.since.size; clear hown1 hgrow1 hrb hrow1)
            | (at_builtin; (refine wpList_append_own _ rfl (.tmp 28) (.tmp 37) 22 rfl w.heap.size 31 i42 (.slice none 0 0) 1 24 Try.underlying22 HI.out.1 HI.out.2.1 HI.out.2.2.1 HI.out.2.2.2 rfl (by decide) _ _ _ rfl (HBT.out.own.alloc _) ⟨w1.heap.size, 0, none⟩ 1 1 [.slice ra m rcp] rfl rfl (cell_one_at _ _ _ rfl) (fun x hx => by simp at hx; subst hx; rfl) (by unfold maxLen; omega) (by omega) (by simp; omega) ?_); intro v' w2 hown' hgrow _))
          have hP := HBT.out.push (rv := .slice ra m rcp) (x := y) (a := ra) (cp := rcp) (by rw [HMM.out]) (fun h => by obtain ⟨G, e, h2, h3⟩ := HRW.out h; exact ⟨G, e, by omega, h3⟩) (fun h => by obtain ⟨G, e, h2, _⟩ := HRW.out h; exact HR.out.fresh e h2) hown' hgrow
          rw [HY.out, ← tabF_succ] at hP
          have HP := Lib.hid hP
          clear hP hown' hgrow hlen
          go_roundg (m - (r + 1))
          case measure => omega
          case rel => exact ⟨r + 1, _, _, by omega, rfl, by go_num, HP.out⟩
        · have hrm : r = m := by omega
          subst hrm
          obtain ⟨ra, rcp, hv, hin⟩ := hR.slice
          rw [tabF_length] at hv
          subst hv
          have HS := Lib.hid hR.since
          have hsw := hR.since.size
          have HD := Lib.hid (l1Done_any ra rcp r _ _ (tabF r r f) wr (tabF_length r r f) (szL_tabF _ _ _ (by omega) (by omega)) hin)
          clear hR hin
          go_wp2_with fail
          refine (HD.out).mono ?_
          rintro e w2 ⟨a', c', rfl, hs2, hin2⟩
          go_wp2
          go_ret2
          exact ⟨a', c', rfl, HS.out.trans (since_mono hs2 hsw), hin2.mono (Nat.le_refl _) hs2.size⟩
    · rw [h1, decide_eq_false h2] at hsp
      rw [hsp]
      have hne : ((L : Int) != 2 * (m : Int) - 1) = true := by simp [h2]
      clear hm hn h1 hsp
      go_enter Try.func41, Try.ntmps41
      go_wp2_with fail
      refine (E1.out).mono ?_
      rintro e w' ⟨rfl, rfl⟩
      go_wp2_with fail
      refine (l1None_any w).mono ?_
      rintro e w2 ⟨rfl, hs2⟩
      go_wp2
      go_ret2
      exact ⟨_, _, rfl, hs2, InT.nil _ _ _ _⟩

end Go.Proofs.Ytjlcbkbekogblaa
