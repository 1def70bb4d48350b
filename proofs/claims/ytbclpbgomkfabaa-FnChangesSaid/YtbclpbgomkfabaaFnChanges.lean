/- The walk of laws.FnChanges. -/
import Derived.Test.YtbclpbgomkfabaaDrawChg
import Derived.Test.YtbclpbgomkfabaaChgM
namespace Go.Proofs.Ytbclpbgomkfabaa
open Go.RowKit Go.Deep

set_option maxRecDepth 100000 in
set_option maxHeartbeats 2000000 in
theorem fnChanges (a : Option Addr) (cap n : Nat) (w : World) (hc : n ≤ cap) (h63 : cap ≤ 9223372036854775807) (hb : BytR w a n) :
    Calls Try.prog 8 #[.slice a n cap] w fun e w' => e = .returned (.bool true) ∧ w.Since w.heap.size w' := by
  by_cases hlen : 1048576 < n
  · have hl' : decide ((1048576 : Int) < (n : Int)) = true := by simp; omega
    clear hb
    go_enter Try.func8, Try.ntmps8
    go_wp2
    go_ret
    exact ⟨rfl, World.Since.refl _ _⟩
  · have hl' : decide ((1048576 : Int) < (n : Int)) = false := by simp; omega
    obtain ⟨i3, hi3⟩ := info3_parts
    have HJ := Lib.hid hi3
    have ED := Lib.hid (drawPosChanges_any a n cap w hc h63 hb)
    clear hb hi3
    go_enter Try.func8, Try.ntmps8
    go_wp2_with fail
    refine (ED.out).mono ?_
    rintro e w1 ⟨ax, cx, x, rfl, hs1, hx13, hr⟩
    obtain ⟨m, hm⟩ : ∃ m, x.length = m := ⟨_, rfl⟩
    rw [hm] at hx13 ⊢
    have E1 := implPosChanges_any ax cx m x w1 hm (by omega) hr
    have E2 := specPosChanges_any ax cx m x w1 hm (by omega) hr
    have HS1 := Lib.hid hs1
    have HR := Lib.hid hr
    have HM := Lib.hid hm
    cases hok : chgOk x with
    | false =>
      obtain ⟨v, hv⟩ : ∃ v, chgV x = v := ⟨_, rfl⟩
      rw [hok, hv] at E1 E2
      replace E1 := Lib.hid E1
      replace E2 := Lib.hid E2
      clear hs1 hm hr hv hok
      go_wp2_with fail
      refine (E1.out).mono ?_
      rintro e w2 ⟨rfl, rfl⟩
      go_wp2_with fail
      refine (E2.out).mono ?_
      rintro e w2 ⟨rfl, rfl⟩
      go_wp2
      go_ret
      exact ⟨rfl, HS1.out⟩
    | true =>
      have hb0 := chgV_lt hok
      have hyk := backN_ok hok
      have hyv := backN_v hok
      rw [hm] at hb0 hyk hyv
      obtain ⟨v, hv⟩ : ∃ v, chgV x = v := ⟨_, rfl⟩
      rw [hok, hv] at E1 E2
      rw [hv] at hb0 hyv
      have EY := Lib.hid (fun (W : World) (b : Option Addr) (c : Nat) (h : RowR W b (backN x m m)) => hyv ▸ hyk ▸ implPosChanges_any b c m (backN x m m) W (backN_length x m m) (by omega) h)
      have hx := (chgOk_of hok).2
      rw [hm] at hx
      have HX := Lib.hid hx
      replace E1 := Lib.hid E1
      replace E2 := Lib.hid E2
      clear hs1 hm hr hv hok hyk hyv hx
      go_wp2_with fail
      refine (E1.out).mono ?_
      rintro e w2 ⟨rfl, rfl⟩
      go_wp2_with fail
      refine (E2.out).mono ?_
      rintro e w2 ⟨rfl, rfl⟩
      have HG3 := Lib.hid (show w1.grownBy (w1.alloc (.cells #[] 3)) (some w1.heap.size) from grown_alloc (World.grownBy_refl w1 (some w1.heap.size)) (.cells #[] 3))
      have HW3 := Lib.hid (show RW w1.heap.size (w1.alloc (.cells #[] 3)) (.slice (some ⟨w1.heap.size, 0, none⟩) 0 0) [] from World.ownsRow_made w1 #[] 0 (Nat.le_refl _) (Nat.zero_le _) rfl)
      go_wp2
      go_loopg [8, 9] m (fun g y i wr => ∃ (j : Nat) (z : Int), j ≤ m ∧ g = m - j ∧ i = .int .i64 z ∧ z = (m : Int) - 1 - j ∧ w1.grownBy wr (some w1.heap.size) ∧ RW w1.heap.size wr y (backN x m j))
      case atStart => exact ⟨0, _, Nat.zero_le _, rfl, rfl, by simp, HG3.out, HW3.out⟩
      case round =>
        obtain ⟨j, z, hj, rfl, rfl, hz, hgi, hW⟩ := hrel
        clear HG3 HW3
        have HG := Lib.hid hgi
        have HW := Lib.hid hW
        have hz4 := hgi.size
        clear hgi hW
        by_cases hjN : j < m
        · obtain ⟨t, ht⟩ : ∃ t : Nat, z = t := ⟨m - 1 - j, by omega⟩
          have htm : t < m := by omega
          have htj : t = m - 1 - j := by omega
          subst ht
          obtain ⟨b, o, hax, hcs⟩ := HR.out (by rw [HM.out]; omega)
          subst hax
          have cj := hcs t (by rw [HM.out]; exact htm)
          have ct := ((since_grown HG.out (Nat.le_refl _) (Nat.le_refl _)).cell (a := ⟨b, o + t, none⟩) (World.block_lt_of_cell? _ _ cj)).trans cj
          have hy := HX.out t htm
          simp only [inB, decide_eq_true_eq] at hy
          have HB := Lib.hid (show backN x m (j + 1) = backN x m j ++ [-(x.getD t 0)] by rw [backN_succ, htj])
          obtain ⟨y, hyy⟩ : ∃ y, x.getD t 0 = y := ⟨_, rfl⟩
          rw [hyy] at ct hy
          replace HB := Lib.hid (hyy ▸ HB.out)
          have hxl := backN_length x m j
          have hge := fun i e => (World.ownsRow.lt HW.out i e).1
          have HGE := Lib.hid hge
          have HZ := Lib.hid hz
          clear cj hcs hyy htj hge hz
          go_wp2_with (at_builtin; (refine wpList_append_own _ rfl _ _ 43 rfl w1.heap.size 3 i3 (.int .i64 0) 1 8 Try.underlying43 HJ.out.1 HJ.out.2.1 HJ.out.2.2.1 HJ.out.2.2.2 rfl (by decide) _ _ ((backN x m j).map (Value.int .i64)) rfl (World.ownsRow.alloc HW.out _) ⟨wr.heap.size, 0, none⟩ 1 1 [.int .i64 (-y)] rfl rfl (cell_one_at _ _ _ rfl) (fun x hx => by simp at hx; subst hx; rfl) (by unfold maxLen; omega) (by omega) (by simp; omega) ?_); intro v' w5 hown' hgrow _)
          have HW5 := Lib.hid (show RW w1.heap.size w5 v' (backN x m (j + 1)) by
            have := hown'
            rw [HB.out]
            unfold RW
            rw [List.length_append, List.map_append]
            exact this)
          have hge := HGE.out
          have HG5 := Lib.hid (grown_new (grown_alloc HG.out _) hgrow hge)
          clear hown' hgrow hge
          go_roundg (m - (j + 1))
          case measure => omega
          case rel => exact ⟨j + 1, (t : Int) - 1, by omega, rfl, by go_num, by have := HZ.out; omega, HG5.out, HW5.out⟩
        · have hz1 : z = -1 := by omega
          subst hz1
          have hjj : j = m := by omega
          subst hjj
          obtain ⟨ay, cy, hv, hrr⟩ := HW.out.rowR (backN_length x j j)
          subst hv
          have EY1 := Lib.hid (EY.out _ ay cy hrr)
          have HS5 := Lib.hid (HS1.out.trans (since_grown HG.out HS1.out.size HS1.out.size))
          obtain ⟨hb1, hb2, hb3⟩ := hb0
          have HB3 := Lib.hid hb3
          clear hrr EY hz hb3
          go_wp2_with fail
          refine (EY1.out).mono ?_
          rintro e w6 ⟨rfl, rfl⟩
          by_cases h0 : j = 0
          · subst h0
            go_wp2
            go_ret
            exact ⟨rfl, HS5.out⟩
          · have d0 : ((j : Int) == 0) = false := by simp; omega
            have d1 : decide (v < (j : Int)) = true := by have := HB3.out (by omega); simpa using this
            go_wp2
            go_ret
            exact ⟨rfl, HS5.out⟩

end Go.Proofs.Ytbclpbgomkfabaa
