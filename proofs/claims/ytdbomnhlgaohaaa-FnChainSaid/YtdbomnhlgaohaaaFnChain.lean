/- The walk of laws.FnChain. -/
import Derived.Test.YtdbomnhlgaohaaaDrawCh
import Derived.Test.YtdbomnhlgaohaaaChainI
namespace Go.Proofs.Ytdbomnhlgaohaaa
open Go.RowKit Go.Deep

/-- The chain backwards, as far as its first j numbers. -/
def bkC (x : List Int) (m j : Nat) : List Int := (List.range j).map fun i => x.getD (m - 1 - i) 0
theorem bkC_succ (x : List Int) (m j : Nat) : bkC x m (j + 1) = bkC x m j ++ [x.getD (m - 1 - j) 0] := by simp [bkC, List.range_succ]
theorem bkC_length (x : List Int) (m j : Nat) : (bkC x m j).length = j := by simp [bkC]
theorem bkC_at (x : List Int) {m j i : Nat} (h : i < j) : (bkC x m j).getD i 0 = x.getD (m - 1 - i) 0 := by simp [bkC, List.getD, h]
theorem bkC_ok {x : List Int} {m : Nat} (hm : x.length = m) (h : l9B x = true) : l9B (bkC x m m) = true := by
  have h6 := (l9B_of h).2
  rw [l9B_all fun j hj => ?_, bkC_length]
  · simp; omega
  · rw [bkC_length] at hj
    rw [bkC_at x hj]
    have := l9B_all9 h (m - 1 - j)
    simp only [inB, decide_eq_true_eq]
    exact this
theorem bkC_v {x : List Int} {m : Nat} (hm : x.length = m) : chV (bkC x m m) = chV x := by
  unfold chV
  rw [bkC_length, hm, ← kf_back m fun i => x.getD i 0]
  exact kf_congr _ fun i hi => bkC_at x hi

set_option maxRecDepth 100000 in
set_option maxHeartbeats 4000000 in
theorem fnChain (a : Option Addr) (cap n : Nat) (w : World) (hc : n ≤ cap) (h63 : cap ≤ 9223372036854775807) (hb : BytR w a n) :
    Calls Try.prog 3 #[.slice a n cap] w fun e w' => e = .returned (.bool true) ∧ w.Since w.heap.size w' := by
  by_cases hlen : 1048576 < n
  · have hl' : decide ((1048576 : Int) < (n : Int)) = true := by simp; omega
    clear hb
    go_enter Try.func3, Try.ntmps3
    go_wp2
    go_ret
    exact ⟨rfl, World.Since.refl _ _⟩
  · have hl' : decide ((1048576 : Int) < (n : Int)) = false := by simp; omega
    have ED := Lib.hid (drawChainValue_any a n cap w hc h63 hb)
    clear hb
    go_enter Try.func3, Try.ntmps3
    go_wp2_with fail
    refine (ED.out).mono ?_
    rintro e w1 ⟨ax, cx, x, rfl, hs1, hx7, hr, hcap⟩
    obtain ⟨m, hm⟩ : ∃ m, x.length = m := ⟨_, rfl⟩
    rw [hm] at hx7 hcap ⊢
    obtain ⟨i3, hi3⟩ := info3_parts
    have HJ := Lib.hid hi3
    have HS1 := Lib.hid hs1
    have HR := Lib.hid hr
    have HM := Lib.hid hm
    have E1 := implChainValue_any ax cx m x w1 hm (by omega) hr
    have E2 := fun (W : World) (h : w1.Since w1.heap.size W) => specChainValue_any ax cx m x W hm (by omega) (hr.since h)
    cases hok : l9B x with
    | false =>
      rw [hok] at E1
      simp only [hok] at E2
      replace E1 := Lib.hid E1
      replace E2 := Lib.hid E2
      clear hok hr hm hs1 hi3
      go_wp2_with fail
      refine (E1.out).mono ?_
      rintro e w2 ⟨rfl, hs2⟩
      have HS2 := Lib.hid hs2
      clear hs2
      go_wp2_with fail
      refine (E2.out w2 HS2.out).mono ?_
      rintro e w' ⟨rfl, rfl⟩
      go_wp2
      go_ret
      exact ⟨rfl, HS1.out.trans (since_mono HS2.out HS1.out.size)⟩
    | true =>
      have hyk := bkC_ok hm hok
      have hyv := bkC_v hm
      obtain ⟨v, hv⟩ : ∃ v, chV x = v := ⟨_, rfl⟩
      rw [hok, hv] at E1
      simp only [hok, hv] at E2
      rw [hv] at hyv
      have EY := Lib.hid (fun (W : World) (b : Option Addr) (c : Nat) (h : RowR W b (bkC x m m)) => hyv ▸ hyk ▸ implChainValue_any b c m (bkC x m m) W (bkC_length x m m) (by omega) h)
      replace E1 := Lib.hid E1
      replace E2 := Lib.hid E2
      clear hok hr hm hs1 hv hyk hyv hi3
      go_wp2_with fail
      refine (E1.out).mono ?_
      rintro e w2 ⟨rfl, hs2⟩
      have HS2 := Lib.hid hs2
      clear hs2
      go_wp2_with fail
      refine (E2.out w2 HS2.out).mono ?_
      rintro e w' ⟨rfl, rfl⟩
      have HG3 := Lib.hid (show w2.grownBy (w2.alloc (.cells #[] 3)) (some w2.heap.size) from grown_alloc (World.grownBy_refl w2 (some w2.heap.size)) (.cells #[] 3))
      have HW3 := Lib.hid (show RW w2.heap.size (w2.alloc (.cells #[] 3)) (.slice (some ⟨w2.heap.size, 0, none⟩) 0 0) [] from World.ownsRow_made w2 #[] 0 (Nat.le_refl _) (Nat.zero_le _) rfl)
      go_wp2
      go_loopg [8, 9] m (fun g y i wr => ∃ (j : Nat) (z : Int), j ≤ m ∧ g = m - j ∧ i = .int .i64 z ∧ z = (m : Int) - 1 - j ∧ w2.grownBy wr (some w2.heap.size) ∧ RW w2.heap.size wr y (bkC x m j))
      case atStart => exact ⟨0, _, Nat.zero_le _, rfl, rfl, by simp, HG3.out, HW3.out⟩
      case round =>
        obtain ⟨j, z, hj, rfl, rfl, hz, hgi, hW⟩ := hrel
        clear HG3 HW3
        have HG := Lib.hid hgi
        have HW := Lib.hid hW
        have hz4 := hgi.size
        clear hgi hW
        by_cases hjN : j < m
        · obtain ⟨t, ht⟩ : ∃ t : Nat, z = t := ⟨m - 1 - j, by omega⟩
          have htm : t < m := by omega
          have htj : t = m - 1 - j := by omega
          subst ht
          obtain ⟨b, o, hax, hcs⟩ := HR.out (by rw [HM.out]; omega)
          subst hax
          have cj := hcs t (by rw [HM.out]; exact htm)
          have c2 := (HS2.out.cell (a := ⟨b, o + t, none⟩) (World.block_lt_of_cell? _ _ cj)).trans cj
          have ct := ((since_grown HG.out (Nat.le_refl _) (Nat.le_refl _)).cell (a := ⟨b, o + t, none⟩) (World.block_lt_of_cell? _ _ c2)).trans c2
          have HB := Lib.hid (show bkC x m (j + 1) = bkC x m j ++ [x.getD t 0] by rw [bkC_succ, htj])
          obtain ⟨y, hyy⟩ : ∃ y, x.getD t 0 = y := ⟨_, rfl⟩
          rw [hyy] at ct
          replace HB := Lib.hid (hyy ▸ HB.out)
          have hxl := bkC_length x m j
          have hge := fun i e => (World.ownsRow.lt HW.out i e).1
          have HGE := Lib.hid hge
          have HZ := Lib.hid hz
          clear cj c2 hcs hyy htj hge hz
          go_wp2_with (at_builtin; (refine wpList_append_own _ rfl _ _ 23 rfl w2.heap.size 3 i3 (.int .i64 0) 1 8 Try.underlying23 HJ.out.1 HJ.out.2.1 HJ.out.2.2.1 HJ.out.2.2.2 rfl (by decide) _ _ ((bkC x m j).map (Value.int .i64)) rfl (World.ownsRow.alloc HW.out _) ⟨wr.heap.size, 0, none⟩ 1 1 [.int .i64 y] rfl rfl (cell_one_at _ _ _ rfl) (fun x hx => by simp at hx; subst hx; rfl) (by unfold maxLen; omega) (by omega) (by simp; omega) ?_); intro v' w5 hown' hgrow _)
          have HW5 := Lib.hid (show RW w2.heap.size w5 v' (bkC x m (j + 1)) by
            have := hown'
            rw [HB.out]
            unfold RW
            rw [List.length_append, List.map_append]
            exact this)
          have hge := HGE.out
          have HG5 := Lib.hid (grown_new (grown_alloc HG.out _) hgrow hge)
          clear hown' hgrow hge
          go_roundg (m - (j + 1))
          case measure => omega
          case rel => exact ⟨j + 1, (t : Int) - 1, by omega, rfl, by go_num, by have := HZ.out; omega, HG5.out, HW5.out⟩
        · have hz1 : z = -1 := by omega
          subst hz1
          have hjj : j = m := by omega
          subst hjj
          obtain ⟨ay, cy, hv, hrr⟩ := HW.out.rowR (bkC_length x j j)
          subst hv
          have EY1 := Lib.hid (EY.out _ ay cy hrr)
          have HS5 := Lib.hid (HS1.out.trans (since_mono (HS2.out.trans (since_grown HG.out HS2.out.size HS2.out.size)) HS1.out.size))
          clear hrr EY hz
          go_wp2_with fail
          refine (EY1.out).mono ?_
          rintro e w6 ⟨rfl, hs6⟩
          go_wp2
          go_ret
          exact ⟨rfl, HS5.out.trans (since_mono hs6 HS5.out.size)⟩

end Go.Proofs.Ytdbomnhlgaohaaa
