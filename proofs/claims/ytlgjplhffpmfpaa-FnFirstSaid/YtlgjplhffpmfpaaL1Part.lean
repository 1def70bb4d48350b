/- The contract of spec.l1Part. -/
import Derived.Test.YtlgjplhffpmfpaaPartPure
import Derived.Test.YtlgjplhffpmfpaaCopy
import Derived.Test.YtlgjplhffpmfpaaGrid
namespace Go.Proofs.Ytlgjplhffpmfpaa
open Go.RowKit Go.Deep

theorem bit0_fin : ∀ s : Fin 64, ∀ i : Fin 6, (bits BinOp.and IntKind.i64 ((s.val : Int) / 2 ^ i.val) 1 == 0) = !s.val.testBit i.val := by decide +kernel
theorem bit0_any (s i : Nat) (hs : s ≤ 63) (hi : i ≤ 5) : (bits BinOp.and IntKind.i64 ((s : Int) / 2 ^ i) 1 == 0) = !s.testBit i := bit0_fin ⟨s, by omega⟩ ⟨i, by omega⟩
theorem pow_wrap (n : Nat) (h : n ≤ 6) : wrap64 (wrap64 (2 ^ n) - 1) = ((2 ^ n - 1 : Nat) : Int) := by
  have h : n = 0 ∨ n = 1 ∨ n = 2 ∨ n = 3 ∨ n = 4 ∨ n = 5 ∨ n = 6 := by omega
  rcases h with rfl | rfl | rfl | rfl | rfl | rfl | rfl <;> decide +kernel

set_option maxRecDepth 100000 in
set_option maxHeartbeats 4000000 in
theorem l1Part_any (a : Option Addr) (cap n s c : Nat) (l : List (List Int)) (w : World) (hn : l.length = n) (hT : TabIn l) (hs : s ≤ 63) (hc63 : c ≤ 63) (hm : MatR w a l) :
    Calls Try.prog 32 #[.slice a n cap, .int .i64 s, .int .i64 c] w fun e w' => ∃ a' cap', e = .returned (.slice a' (partL l s c).length cap') ∧ w.Since w.heap.size w' ∧ InT w.heap.size w'.heap.size w' a' (partL l s c) := by
  obtain ⟨i42, hi42⟩ := info42_parts
  obtain ⟨i3, hi3⟩ := info3_parts
  have HI := Lib.hid hi42
  have HJ := Lib.hid hi3
  have hst := bt_start w (fun _ => none) (fun _ => 0) #[] rfl
  have hw := hT.width
  have h6 := hT.2.1
  have h1 := hT.1
  rw [hn] at h6 h1
  obtain ⟨m, hmm⟩ : ∃ m, (l.getD 0 []).length = m := ⟨_, rfl⟩
  have hpl : partL l s c = partRows c l m n (sel s n n) := by unfold partL; rw [hmm, hn]
  rw [hmm] at hw
  rw [hpl]
  obtain ⟨b, o, A0, C0, rfl, hlen, hcell⟩ := hm.grid hn hT hmm
  have HC := Lib.hid hcell
  have HLEN := Lib.hid hlen
  clear hi42 hi3 hm hT hn hmm hpl hcell hlen
  go_enter Try.func32, Try.ntmps32
  go_wp2
  go_loopg [7, 8, 9, 10] n (fun g v i _ _ wr => ∃ r : Nat, ∃ A C, r ≤ n ∧ g = n - r ∧ i = .int .i64 r ∧ BT w wr v (partRows c l m n (sel s n r)) A C)
  case atStart => exact ⟨0, _, _, Nat.zero_le _, rfl, rfl, hst⟩
  case round =>
    obtain ⟨r, A, C, hr, rfl, rfl, hR⟩ := hrel
    clear hst
    by_cases hlt : r < n
    · have HR := Lib.hid hR
      have hsz := hR.since.size
      have hbit := bit0_any s r hs (by omega)
      clear hR
      cases hb : s.testBit r with
      | false =>
        rw [hb] at hbit
        have HB := Lib.hid hb
        clear hb
        go_wp2
        go_roundg (n - (r + 1))
        case measure => omega
        case rel => exact ⟨r + 1, A, C, by omega, rfl, by go_num, by rw [sel_no s n r HB.out]; exact HR.out⟩
      | true =>
        rw [hb] at hbit
        have HB := Lib.hid hb
        have HSN := Lib.hid (partRows_snoc c l m n (sel s n r) ⟨r, hlt⟩)
        have hlenr : (partRows c l m n (sel s n r)).length ≤ 6 := by
          have := sel_length s n r
          simp [partRows]; omega
        obtain ⟨L, hL⟩ : ∃ L, partRows c l m n (sel s n r) = L := ⟨_, rfl⟩
        rw [hL] at HSN hlenr HR
        obtain ⟨X, hX⟩ : ∃ X, l.getD r [] = X := ⟨_, rfl⟩
        have HX := Lib.hid hX
        have hrb := rb_start wr #[] rfl
        have HRB := Lib.hid hrb
        obtain ⟨wo, rfl⟩ : ∃ wo : World, wo = wr := ⟨_, rfl⟩
        clear hb hL hX hrb
        go_wp2
        go_loopg [9, 10] m (fun g v k wi => ∃ k' : Nat, k' ≤ m ∧ g = m - k' ∧ k = .int .i64 k' ∧ RB wo wi v (pickTo c X m k'))
        case atStart => exact ⟨0, Nat.zero_le _, rfl, rfl, HRB.out⟩
        case round =>
          obtain ⟨k, hk, rfl, rfl, hI⟩ := hrel
          clear HRB hbit
          have hS := HR.out.since.trans (since_mono hI.since hsz)
          have hc0 := HLEN.out r hlt
          rw [← hS.cell (a := ⟨b, o + r, none⟩) (World.block_lt_of_cell? _ _ hc0)] at hc0
          have hle := pickTo_length c X m k
          have hzi := hI.since.size
          by_cases hkm : k < m
          · have hbit := bit_any c k hc63 (by omega)
            obtain ⟨b', o', e1, e2, _⟩ := HC.out r k hlt hkm
            rw [← hS.cell (a := ⟨b, o + r, none⟩) (World.block_lt_of_cell? _ _ e1)] at e1
            rw [← hS.cell (a := ⟨b', o' + k, none⟩) (World.block_lt_of_cell? _ _ e2)] at e2
            have hat : at2 l r k = X.getD k 0 := by unfold at2; rw [HX.out]
            rw [hat] at e2
            obtain ⟨y, hy⟩ : ∃ y, X.getD k 0 = y := ⟨_, rfl⟩
            rw [hy] at e2
            have HY := Lib.hid hy
            have HII := Lib.hid hI
            clear hI hS hc0 hat hy
            cases hb : c.testBit k with
            | true =>
              rw [hb] at hbit
              have HBK := Lib.hid hb
              clear hb
              go_wp2_with (at_builtin; (refine wpList_append_own _ rfl _ _ 27 rfl wo.heap.size 3 i3 (.int .i64 0) 1 8 Try.underlying27 HJ.out.1 HJ.out.2.1 HJ.out.2.2.1 HJ.out.2.2.2 rfl (by decide) _ _ _ rfl (HII.out.own.alloc _) ⟨wr.heap.size, 0, none⟩ 1 1 [.int .i64 y] rfl rfl (cell_one_at _ _ _ rfl) (fun x hx => by simp at hx; subst hx; rfl) (by unfold maxLen; omega) (by omega) (by simp; omega) ?_); intro v' w1 hown' hgrow _)
              have hP := HII.out.push hown' hgrow
              rw [← HY.out, ← pickTo_yes c X m k hkm HBK.out] at hP
              have HP := Lib.hid hP
              clear hP hown' hgrow hle e1 e2 hbit
              go_roundg (m - (k + 1))
              case measure => omega
              case rel => exact ⟨k + 1, by omega, rfl, by go_num, HP.out⟩
            | false =>
              rw [hb] at hbit
              have HBK := Lib.hid hb
              clear hb
              go_wp2
              go_roundg (m - (k + 1))
              case measure => omega
              case rel => exact ⟨k + 1, by omega, rfl, by go_num, by rw [pickTo_no c X m k HBK.out]; exact HII.out⟩
          · have : k = m := by omega
            subst this
            obtain ⟨ra, rcp, hv, hrow⟩ := hI.slice
            obtain ⟨R, hRR⟩ : ∃ R, pickTo c X k k = R := ⟨_, rfl⟩
            rw [hRR] at hv hrow hle
            subst hv
            have HII := Lib.hid hI
            have HROW := Lib.hid hrow
            have HBT := Lib.hid (HR.out.later hI.since)
            have HRR := Lib.hid hRR
            clear hI hrow hS hRR
            go_wp2_with (at_builtin; (refine wpList_append_own _ rfl _ _ 23 rfl w.heap.size 27 i42 (.slice none 0 0) 1 24 Try.underlying23 HI.out.1 HI.out.2.1 HI.out.2.2.1 HI.out.2.2.2 rfl (by decide) _ _ _ rfl (HBT.out.own.alloc _) ⟨wr.heap.size, 0, none⟩ 1 1 [.slice ra R.length rcp] rfl rfl (cell_one_at _ _ _ rfl) (fun x hx => by simp at hx; subst hx; rfl) (by unfold maxLen; omega) (by omega) (by simp; omega) ?_); intro v' w1 hown' hgrow _)
            have hP := HBT.out.push (rv := .slice ra R.length rcp) (x := R) (a := ra) (cp := rcp) rfl (fun h => by obtain ⟨G, e, h2, h3⟩ := HROW.out h; exact ⟨G, e, by omega, h3⟩) (fun h => by obtain ⟨G, e, h2, _⟩ := HROW.out h; exact HR.out.fresh e h2) hown' hgrow
            have hsn := HSN.out
            rw [HX.out, HRR.out] at hsn
            rw [← hsn, ← sel_yes s n r hlt HB.out] at hP
            have HP := Lib.hid hP
            clear hP hown' hgrow hle hsn hc0
            go_roundg (n - (r + 1))
            case measure => omega
            case rel => exact ⟨r + 1, _, _, by omega, rfl, by go_num, HP.out⟩
    · have : r = n := by omega
      subst this
      obtain ⟨ra, rcp, hv, hin⟩ := hR.slice
      have HS := Lib.hid hR.since
      have HIN := Lib.hid hin
      subst hv
      clear hR hin
      go_wp2
      go_ret
      exact ⟨ra, rcp, rfl, HS.out, HIN.out⟩

end Go.Proofs.Ytlgjplhffpmfpaa
