import Derived.Test.YtkahgpgnfodpgaaFnPowersStrictLa
import Derived.Test.YtkahgpgnfodpgaaL2Square
import Derived.Test.YtkahgpgnfodpgaaHarn2
import Derived.RangeFuncNested
import Derived.Test.YtkahgpgnfodpgaaSetsK
import Derived.Test.YtkahgpgnfodpgaaRoads
import Derived.Test.YtkahgpgnfodpgaaSig
import Derived.Test.YtkahgpgnfodpgaaMembers
import Derived.Test.YtkahgpgnfodpgaaPivotsI
import Derived.Test.YtkahgpgnfodpgaaMinorV
import Derived.Test.YtkahgpgnfodpgaaSets
import Derived.Laws.EntriesVeiled
import Derived.WalkHide
import Derived.LoopNIn
import Derived.Test.YtkahgpgnfodpgaaRound
import Derived.OrdersHeld
import Derived.Test.YtkahgpgnfodpgaaTabInImpl
import Derived.Test.YtkahgpgnfodpgaaRows
import Derived.Test.YtkahgpgnfodpgaaData
import Derived.ProofKit
import Derived.Deep.Matrix
import Derived.Test.YtkahgpgnfodpgaaDraw0

section
namespace Go.Proofs.Ytkahgpgnfodpgaa
open Go.RowKit Go.Deep

def rowTo (f : Nat → Nat → Int) (r k : Nat) : List Int := (List.range k).map fun j => f r j
theorem rowTo_succ (f : Nat → Nat → Int) (r k : Nat) : rowTo f r (k + 1) = rowTo f r k ++ [f r k] := by simp [rowTo, List.range_succ]
theorem rowTo_length (f : Nat → Nat → Int) (r k : Nat) : (rowTo f r k).length = k := by simp [rowTo]
theorem szL_res {ok : Bool} {n : Nat} {f : Nat → Nat → Int} (h : ok = true → n ≤ 6) : szL (resT ok (tabF n n f)) ≤ 1048576 := by
  cases ok with
  | false => simp [resT, szL, sumTo]
  | true => exact szL_tabF _ _ _ (by have := h rfl; omega) (by have := h rfl; omega)
theorem tabF_succ (r m : Nat) (f : Nat → Nat → Int) : tabF (r + 1) m f = tabF r m f ++ [rowTo f r m] := by simp [tabF, rowTo, List.range_succ]

set_option maxRecDepth 100000 in
set_option maxHeartbeats 4000000 in
theorem specKnownDivisors_any (n : Int) (w : World) :
    Calls Try.prog 33 #[.int .i64 n] w (SpecT w (inB n 1 6) (gcL n.toNat)) := by
  have E := l6In_any n 1 6 w
  cases hin : inB n 1 6 with
  | false =>
    rw [hin] at E
    replace E := Lib.hid E
    clear hin
    go_enter Try.func33, Try.ntmps33
    go_wp2_with fail
    refine (E.out).mono ?_
    rintro e w' ⟨rfl, rfl⟩
    go_wp2_with fail
    refine (l1None_any w).mono ?_
    rintro e w2 ⟨rfl, hs2⟩
    go_wp2
    go_ret2
    exact ⟨_, _, rfl, hs2, InT.nil _ _ _ _⟩
  | true =>
    rw [hin] at E
    replace E := Lib.hid E
    have h6 := of_decide_eq_true hin
    obtain ⟨m, rfl⟩ := Int.eq_ofNat_of_zero_le (show 0 ≤ n by omega)
    clear hin
    rw [Int.toNat_natCast]
    unfold gcL
    have hm6 : 1 ≤ m ∧ m ≤ 6 := by omega
    obtain ⟨i42, hi42⟩ := info42_parts
    obtain ⟨i3, hi3⟩ := info3_parts
    have HI := Lib.hid hi42
    have HJ := Lib.hid hi3
    have HST := Lib.hid (bt_start w (fun _ => none) (fun _ => 0) #[] rfl)
    clear hi42 hi3
    go_enter Try.func33, Try.ntmps33
    go_wp2_with fail
    refine (E.out).mono ?_
    rintro e w' ⟨rfl, rfl⟩
    go_wp2
    go_loopg [4, 5, 6, 7] m (fun g v k _ _ wr => ∃ r : Nat, ∃ A C, r ≤ m ∧ g = m - r ∧ k = .int .i64 ((r : Int) + 1) ∧ BT w wr v (tabF r m (fun i k => ((Nat.gcd (i + 1) (k + 1) : Nat) : Int))) A C)
    case atStart => exact ⟨0, _, _, Nat.zero_le _, rfl, by go_num, HST.out⟩
    case round =>
      obtain ⟨r, A, C, hr, rfl, rfl, hR⟩ := hrel
      clear HST
      by_cases hlt : r < m
      · have HR := Lib.hid hR
        have hrb := rb_start wr #[] rfl
        have HRB := Lib.hid hrb
        have hsz2 := hR.since.size
        have hlen := tabF_length r m (fun i k => ((Nat.gcd (i + 1) (k + 1) : Nat) : Int))
        have hkd : decide ((r : Int) + 1 ≤ (m : Int)) = true := by simp; omega
        obtain ⟨wo, rfl⟩ : ∃ wo : World, wo = wr := ⟨_, rfl⟩
        clear hR hrb
        go_wp2
        go_loopg [6, 7] m (fun g v i wi => ∃ t : Nat, t ≤ m ∧ g = m - t ∧ i = .int .i64 ((t : Int) + 1) ∧ RB wo wi v (rowTo (fun i k => ((Nat.gcd (i + 1) (k + 1) : Nat) : Int)) r t))
        case atStart => exact ⟨0, Nat.zero_le _, rfl, by go_num, HRB.out⟩
        case round =>
          obtain ⟨t, ht, rfl, rfl, hI⟩ := hrel
          clear HRB
          by_cases htm : t < m
          · have hle := rowTo_length (fun i k => ((Nat.gcd (i + 1) (k + 1) : Nat) : Int)) r t
            have hzi := hI.since.size
            have hS := HR.out.since.trans (since_mono hI.since hsz2)
            have HII := Lib.hid hI
            obtain ⟨y, hy⟩ : ∃ y, y = (fun i k => ((Nat.gcd (i + 1) (k + 1) : Nat) : Int)) r t := ⟨_, rfl⟩
            have HY := Lib.hid hy
            clear hI
            have E := l3Gcd_any (r + 1) (t + 1) wr (by omega) (by omega)
            rw [show ((r + 1 : Nat) : Int) = (r : Int) + 1 by omega, show ((t + 1 : Nat) : Int) = (t : Int) + 1 by omega] at E
            have hy2 : y = ((Nat.gcd (r + 1) (t + 1) : Nat) : Int) := hy
            rw [← hy2] at E
            replace E := Lib.hid E
            clear hy hy2
            go_wp2_with fail
            refine (E.out).mono ?_
            rintro e w' ⟨rfl, rfl⟩
            go_wp2_with (at_builtin; (refine wpList_append_own _ rfl _ _ 23 rfl wo.heap.size 3 i3 (.int .i64 0) 1 8 Try.underlying23 HJ.out.1 HJ.out.2.1 HJ.out.2.2.1 HJ.out.2.2.2 rfl (by decide) _ _ _ rfl (HII.out.own.alloc _) ⟨wr.heap.size, 0, none⟩ 1 1 [.int .i64 y] rfl rfl (cell_one_at _ _ _ rfl) (fun x hx => by simp at hx; subst hx; rfl) (by unfold maxLen; omega) (by omega) (by simp; omega) ?_); intro v' w1 hown' hgrow _)
            have hP := HII.out.push hown' hgrow
            rw [HY.out, ← rowTo_succ] at hP
            have HP := Lib.hid hP
            clear hP hown' hgrow hle
            go_roundg (m - (t + 1))
            case measure => omega
            case rel => exact ⟨t + 1, by omega, rfl, by go_num, HP.out⟩
          · have hjj : t = m := by omega
            subst hjj
            obtain ⟨ra, rcp, hv, hrow⟩ := hI.slice
            rw [rowTo_length] at hv
            subst hv
            have HII := Lib.hid hI
            have hle := rowTo_length (fun i k => ((Nat.gcd (i + 1) (k + 1) : Nat) : Int)) r t
            have hzi := hI.since.size
            have HROW := Lib.hid hrow
            clear hI hrow
            have hBT := HR.out.later HII.out.since
            have HBT := Lib.hid hBT
            clear hBT
            go_wp2_with (at_builtin; (refine wpList_append_own _ rfl _ _ 25 rfl w.heap.size 23 i42 (.slice none 0 0) 1 24 Try.underlying25 HI.out.1 HI.out.2.1 HI.out.2.2.1 HI.out.2.2.2 rfl (by decide) _ _ _ rfl (HBT.out.own.alloc _) ⟨wr.heap.size, 0, none⟩ 1 1 [.slice ra t rcp] rfl rfl (cell_one_at _ _ _ rfl) (fun x hx => by simp at hx; subst hx; rfl) (by unfold maxLen; omega) (by omega) (by simp; omega) ?_); intro v' w1 hown' hgrow _)
            have hP := HBT.out.push (rv := .slice ra t rcp) (x := rowTo (fun i k => ((Nat.gcd (i + 1) (k + 1) : Nat) : Int)) r t) (a := ra) (cp := rcp) (by rw [rowTo_length]) (fun h => by obtain ⟨G, e, h2, h3⟩ := HROW.out h; exact ⟨G, e, by omega, h3⟩) (fun h => by obtain ⟨G, e, h2, _⟩ := HROW.out h; exact HR.out.fresh e h2) hown' hgrow
            rw [← tabF_succ] at hP
            have HP := Lib.hid hP
            clear hP hown' hgrow hle hlen
            go_roundg (t - (r + 1))
            case measure => omega
            case rel => exact ⟨r + 1, _, _, by omega, rfl, by go_num, HP.out⟩
      · have hrm : r = m := by omega
        subst hrm
        obtain ⟨ra, rcp, hv, hin⟩ := hR.slice
        rw [tabF_length] at hv
        subst hv
        have HS := Lib.hid hR.since
        have hsw := hR.since.size
        have HIN := Lib.hid hin
        have HTT := Lib.hid (show resT true (tabF r r (fun i k => ((Nat.gcd (i + 1) (k + 1) : Nat) : Int))) = tabF r r (fun i k => ((Nat.gcd (i + 1) (k + 1) : Nat) : Int)) from rfl)
        clear hR hin
        go_wp2
        go_ret2
        exact ⟨ra, rcp, by rw [HTT.out]; show _ = Ending.returned (.tuple #[.slice ra (tabF r r (fun i k => ((Nat.gcd (i + 1) (k + 1) : Nat) : Int))).length rcp, .bool true]); rw [tabF_length]; rfl, HS.out, HIN.out⟩

set_option maxRecDepth 100000 in
set_option maxHeartbeats 4000000 in
theorem specKnownLeast_any (n : Int) (w : World) :
    Calls Try.prog 39 #[.int .i64 n] w (SpecT w (inB n 1 6) (mnL n.toNat)) := by
  have E := l6In_any n 1 6 w
  cases hin : inB n 1 6 with
  | false =>
    rw [hin] at E
    replace E := Lib.hid E
    clear hin
    go_enter Try.func39, Try.ntmps39
    go_wp2_with fail
    refine (E.out).mono ?_
    rintro e w' ⟨rfl, rfl⟩
    go_wp2_with fail
    refine (l1None_any w).mono ?_
    rintro e w2 ⟨rfl, hs2⟩
    go_wp2
    go_ret2
    exact ⟨_, _, rfl, hs2, InT.nil _ _ _ _⟩
  | true =>
    rw [hin] at E
    replace E := Lib.hid E
    have h6 := of_decide_eq_true hin
    obtain ⟨m, rfl⟩ := Int.eq_ofNat_of_zero_le (show 0 ≤ n by omega)
    clear hin
    rw [Int.toNat_natCast]
    unfold mnL
    have hm6 : 1 ≤ m ∧ m ≤ 6 := by omega
    obtain ⟨i42, hi42⟩ := info42_parts
    obtain ⟨i3, hi3⟩ := info3_parts
    have HI := Lib.hid hi42
    have HJ := Lib.hid hi3
    have HST := Lib.hid (bt_start w (fun _ => none) (fun _ => 0) #[] rfl)
    clear hi42 hi3
    go_enter Try.func39, Try.ntmps39
    go_wp2_with fail
    refine (E.out).mono ?_
    rintro e w' ⟨rfl, rfl⟩
    go_wp2
    go_loopg [4, 5, 6, 7] m (fun g v k _ _ wr => ∃ r : Nat, ∃ A C, r ≤ m ∧ g = m - r ∧ k = .int .i64 r ∧ BT w wr v (tabF r m (fun i k => ((min i k : Nat) : Int) + 1)) A C)
    case atStart => exact ⟨0, _, _, Nat.zero_le _, rfl, by go_num, HST.out⟩
    case round =>
      obtain ⟨r, A, C, hr, rfl, rfl, hR⟩ := hrel
      clear HST
      by_cases hlt : r < m
      · have HR := Lib.hid hR
        have hrb := rb_start wr #[] rfl
        have HRB := Lib.hid hrb
        have hsz2 := hR.since.size
        have hlen := tabF_length r m (fun i k => ((min i k : Nat) : Int) + 1)
        obtain ⟨wo, rfl⟩ : ∃ wo : World, wo = wr := ⟨_, rfl⟩
        clear hR hrb
        go_wp2
        go_loopg [6, 7] m (fun g v i wi => ∃ t : Nat, t ≤ m ∧ g = m - t ∧ i = .int .i64 t ∧ RB wo wi v (rowTo (fun i k => ((min i k : Nat) : Int) + 1) r t))
        case atStart => exact ⟨0, Nat.zero_le _, rfl, by go_num, HRB.out⟩
        case round =>
          obtain ⟨t, ht, rfl, rfl, hI⟩ := hrel
          clear HRB
          by_cases htm : t < m
          · have hle := rowTo_length (fun i k => ((min i k : Nat) : Int) + 1) r t
            have hzi := hI.since.size
            have hS := HR.out.since.trans (since_mono hI.since hsz2)
            have HII := Lib.hid hI
            obtain ⟨y, hy⟩ : ∃ y, y = (fun i k => ((min i k : Nat) : Int) + 1) r t := ⟨_, rfl⟩
            have HY := Lib.hid hy
            clear hI
            have hy2 : y = ((min r t : Nat) : Int) + 1 := hy
            by_cases hrt : t < r
            · have hyt : (t : Int) + 1 = y := by omega
              clear hy hy2
              go_wp2_with (at_builtin; (refine wpList_append_own _ rfl _ _ 23 rfl wo.heap.size 3 i3 (.int .i64 0) 1 8 Try.underlying23 HJ.out.1 HJ.out.2.1 HJ.out.2.2.1 HJ.out.2.2.2 rfl (by decide) _ _ _ rfl (HII.out.own.alloc _) ⟨wr.heap.size, 0, none⟩ 1 1 [.int .i64 y] rfl rfl (cell_one_at _ _ _ rfl) (fun x hx => by simp at hx; subst hx; rfl) (by unfold maxLen; omega) (by omega) (by simp; omega) ?_); intro v' w1 hown' hgrow _)
              have hP := HII.out.push hown' hgrow
              rw [HY.out, ← rowTo_succ] at hP
              have HP := Lib.hid hP
              clear hP hown' hgrow hle
              go_roundg (m - (t + 1))
              case measure => omega
              case rel => exact ⟨t + 1, by omega, rfl, by go_num, HP.out⟩
            · have hyt : (r : Int) + 1 = y := by omega
              clear hy hy2
              go_wp2_with (at_builtin; (refine wpList_append_own _ rfl _ _ 23 rfl wo.heap.size 3 i3 (.int .i64 0) 1 8 Try.underlying23 HJ.out.1 HJ.out.2.1 HJ.out.2.2.1 HJ.out.2.2.2 rfl (by decide) _ _ _ rfl (HII.out.own.alloc _) ⟨wr.heap.size, 0, none⟩ 1 1 [.int .i64 y] rfl rfl (cell_one_at _ _ _ rfl) (fun x hx => by simp at hx; subst hx; rfl) (by unfold maxLen; omega) (by omega) (by simp; omega) ?_); intro v' w1 hown' hgrow _)
              have hP := HII.out.push hown' hgrow
              rw [HY.out, ← rowTo_succ] at hP
              have HP := Lib.hid hP
              clear hP hown' hgrow hle
              go_roundg (m - (t + 1))
              case measure => omega
              case rel => exact ⟨t + 1, by omega, rfl, by go_num, HP.out⟩
          · have hjj : t = m := by omega
            subst hjj
            obtain ⟨ra, rcp, hv, hrow⟩ := hI.slice
            rw [rowTo_length] at hv
            subst hv
            have HII := Lib.hid hI
            have hle := rowTo_length (fun i k => ((min i k : Nat) : Int) + 1) r t
            have hzi := hI.since.size
            have HROW := Lib.hid hrow
            clear hI hrow
            have hBT := HR.out.later HII.out.since
            have HBT := Lib.hid hBT
            clear hBT
            go_wp2_with (at_builtin; (refine wpList_append_own _ rfl _ _ 25 rfl w.heap.size 23 i42 (.slice none 0 0) 1 24 Try.underlying25 HI.out.1 HI.out.2.1 HI.out.2.2.1 HI.out.2.2.2 rfl (by decide) _ _ _ rfl (HBT.out.own.alloc _) ⟨wr.heap.size, 0, none⟩ 1 1 [.slice ra t rcp] rfl rfl (cell_one_at _ _ _ rfl) (fun x hx => by simp at hx; subst hx; rfl) (by unfold maxLen; omega) (by omega) (by simp; omega) ?_); intro v' w1 hown' hgrow _)
            have hP := HBT.out.push (rv := .slice ra t rcp) (x := rowTo (fun i k => ((min i k : Nat) : Int) + 1) r t) (a := ra) (cp := rcp) (by rw [rowTo_length]) (fun h => by obtain ⟨G, e, h2, h3⟩ := HROW.out h; exact ⟨G, e, by omega, h3⟩) (fun h => by obtain ⟨G, e, h2, _⟩ := HROW.out h; exact HR.out.fresh e h2) hown' hgrow
            rw [← tabF_succ] at hP
            have HP := Lib.hid hP
            clear hP hown' hgrow hle hlen
            go_roundg (t - (r + 1))
            case measure => omega
            case rel => exact ⟨r + 1, _, _, by omega, rfl, by go_num, HP.out⟩
      · have hrm : r = m := by omega
        subst hrm
        obtain ⟨ra, rcp, hv, hin⟩ := hR.slice
        rw [tabF_length] at hv
        subst hv
        have HS := Lib.hid hR.since
        have hsw := hR.since.size
        have HIN := Lib.hid hin
        have HTT := Lib.hid (show resT true (tabF r r (fun i k => ((min i k : Nat) : Int) + 1)) = tabF r r (fun i k => ((min i k : Nat) : Int) + 1) from rfl)
        clear hR hin
        go_wp2
        go_ret2
        exact ⟨ra, rcp, by rw [HTT.out]; show _ = Ending.returned (.tuple #[.slice ra (tabF r r (fun i k => ((min i k : Nat) : Int) + 1)).length rcp, .bool true]); rw [tabF_length]; rfl, HS.out, HIN.out⟩

set_option maxRecDepth 100000 in
set_option maxHeartbeats 4000000 in
theorem specKnownOnes_any (n a b : Int) (w : World) :
    Calls Try.prog 26 #[.int .i64 n, .int .i64 a, .int .i64 b] w (SpecT w (onB n a b) (onL n.toNat a b)) := by
  have hsp : onB n a b = (inB n 1 6 && (inB a (-30) 30 && inB b (-30) 30)) := rfl
  have E0 := l6In_any n 1 6 w
  cases h0 : inB n 1 6 with
  | false =>
    rw [h0] at hsp
    replace hsp : onB n a b = false := hsp.trans rfl
    rw [hsp]
    rw [h0] at E0
    replace E0 := Lib.hid E0
    clear hsp h0
    go_enter Try.func26, Try.ntmps26
    go_wp2_with fail
    refine (E0.out).mono ?_
    rintro e w' ⟨rfl, rfl⟩
    go_wp2_with fail
    refine (l1None_any w).mono ?_
    rintro e w2 ⟨rfl, hs2⟩
    go_wp2
    go_ret2
    exact ⟨_, _, rfl, hs2, InT.nil _ _ _ _⟩
  | true =>
    rw [h0] at E0
    replace E0 := Lib.hid E0
    have E1 := l6In_any a (-30) 30 w
    cases h1 : inB a (-30) 30 with
    | false =>
      rw [h0, h1] at hsp
      replace hsp : onB n a b = false := hsp.trans rfl
      rw [hsp]
      rw [h1] at E1
      replace E1 := Lib.hid E1
      clear hsp h0 h1
      go_enter Try.func26, Try.ntmps26
      go_wp2_with fail
      refine (E0.out).mono ?_
      rintro e w' ⟨rfl, rfl⟩
      go_wp2_with fail
      refine (E1.out).mono ?_
      rintro e w' ⟨rfl, rfl⟩
      go_wp2_with fail
      refine (l1None_any w).mono ?_
      rintro e w2 ⟨rfl, hs2⟩
      go_wp2
      go_ret2
      exact ⟨_, _, rfl, hs2, InT.nil _ _ _ _⟩
    | true =>
      rw [h1] at E1
      replace E1 := Lib.hid E1
      have E2 := l6In_any b (-30) 30 w
      cases h2 : inB b (-30) 30 with
      | false =>
        rw [h0, h1, h2] at hsp
        replace hsp : onB n a b = false := hsp.trans rfl
        rw [hsp]
        rw [h2] at E2
        replace E2 := Lib.hid E2
        clear hsp h0 h1 h2
        go_enter Try.func26, Try.ntmps26
        go_wp2_with fail
        refine (E0.out).mono ?_
        rintro e w' ⟨rfl, rfl⟩
        go_wp2_with fail
        refine (E1.out).mono ?_
        rintro e w' ⟨rfl, rfl⟩
        go_wp2_with fail
        refine (E2.out).mono ?_
        rintro e w' ⟨rfl, rfl⟩
        go_wp2_with fail
        refine (l1None_any w).mono ?_
        rintro e w2 ⟨rfl, hs2⟩
        go_wp2
        go_ret2
        exact ⟨_, _, rfl, hs2, InT.nil _ _ _ _⟩
      | true =>
        rw [h2] at E2
        replace E2 := Lib.hid E2
        rw [h0, h1, h2] at hsp
        obtain ⟨hn, ha, hb⟩ := onB_of (show onB n a b = true from hsp)
        rw [show onB n a b = true from hsp]
        clear h0 h1 h2 hsp
        obtain ⟨m, rfl⟩ := Int.eq_ofNat_of_zero_le (show 0 ≤ n by omega)
        rw [Int.toNat_natCast]
        unfold onL
        have hm6 : 1 ≤ m ∧ m ≤ 6 := by omega
        obtain ⟨i42, hi42⟩ := info42_parts
        obtain ⟨i3, hi3⟩ := info3_parts
        have HI := Lib.hid hi42
        have HJ := Lib.hid hi3
        have HST := Lib.hid (bt_start w (fun _ => none) (fun _ => 0) #[] rfl)
        clear hi42 hi3
        go_enter Try.func26, Try.ntmps26
        go_wp2_with fail
        refine (E0.out).mono ?_
        rintro e w' ⟨rfl, rfl⟩
        go_wp2_with fail
        refine (E1.out).mono ?_
        rintro e w' ⟨rfl, rfl⟩
        go_wp2_with fail
        refine (E2.out).mono ?_
        rintro e w' ⟨rfl, rfl⟩
        go_wp2
        go_loopg [8, 9, 10, 11] m (fun g v k _ _ wr => ∃ r : Nat, ∃ A C, r ≤ m ∧ g = m - r ∧ k = .int .i64 r ∧ BT w wr v (tabF r m (onF a b)) A C)
        case atStart => exact ⟨0, _, _, Nat.zero_le _, rfl, by go_num, HST.out⟩
        case round =>
          obtain ⟨r, A, C, hr, rfl, rfl, hR⟩ := hrel
          clear HST
          by_cases hlt : r < m
          · have HR := Lib.hid hR
            have hrb := rb_start wr #[] rfl
            have HRB := Lib.hid hrb
            have hsz2 := hR.since.size
            have hlen := tabF_length r m (onF a b)
            obtain ⟨wo, rfl⟩ : ∃ wo : World, wo = wr := ⟨_, rfl⟩
            clear hR hrb
            go_wp2
            go_loopg [10, 11] m (fun g v i wi => ∃ t : Nat, t ≤ m ∧ g = m - t ∧ i = .int .i64 t ∧ RB wo wi v (rowTo (onF a b) r t))
            case atStart => exact ⟨0, Nat.zero_le _, rfl, by go_num, HRB.out⟩
            case round =>
              obtain ⟨t, ht, rfl, rfl, hI⟩ := hrel
              clear HRB
              by_cases htm : t < m
              · have hle := rowTo_length (onF a b) r t
                have hzi := hI.since.size
                have hS := HR.out.since.trans (since_mono hI.since hsz2)
                have HII := Lib.hid hI
                obtain ⟨y, hy⟩ : ∃ y, y = (onF a b) r t := ⟨_, rfl⟩
                have HY := Lib.hid hy
                clear hI
                clear hy HY
                by_cases hrt : r = t
                · subst hrt
                  have HA := Lib.hid (show onF a b r r = a from if_pos rfl)
                  go_wp2_with (at_builtin; (refine wpList_append_own _ rfl _ _ 23 rfl wo.heap.size 3 i3 (.int .i64 0) 1 8 Try.underlying23 HJ.out.1 HJ.out.2.1 HJ.out.2.2.1 HJ.out.2.2.2 rfl (by decide) _ _ _ rfl (HII.out.own.alloc _) ⟨wr.heap.size, 0, none⟩ 1 1 [.int .i64 a] rfl rfl (cell_one_at _ _ _ rfl) (fun x hx => by simp at hx; subst hx; rfl) (by unfold maxLen; omega) (by omega) (by simp; omega) ?_); intro v' w1 hown' hgrow _)
                  have hP0 := HII.out.push hown' hgrow
                  have hP : RB wo w1 v' (rowTo (onF a b) r r ++ [onF a b r r]) := by rw [HA.out]; exact hP0
                  rw [← rowTo_succ] at hP
                  have HP := Lib.hid hP
                  clear hP hP0 hown' hgrow hle
                  go_roundg (m - (r + 1))
                  case measure => omega
                  case rel => exact ⟨r + 1, by omega, rfl, by go_num, HP.out⟩
                · have HA := Lib.hid (show onF a b r t = b from if_neg hrt)
                  have hne : ((r : Int) == (t : Int)) = false := by simp; omega
                  go_wp2_with (at_builtin; (refine wpList_append_own _ rfl _ _ 23 rfl wo.heap.size 3 i3 (.int .i64 0) 1 8 Try.underlying23 HJ.out.1 HJ.out.2.1 HJ.out.2.2.1 HJ.out.2.2.2 rfl (by decide) _ _ _ rfl (HII.out.own.alloc _) ⟨wr.heap.size, 0, none⟩ 1 1 [.int .i64 b] rfl rfl (cell_one_at _ _ _ rfl) (fun x hx => by simp at hx; subst hx; rfl) (by unfold maxLen; omega) (by omega) (by simp; omega) ?_); intro v' w1 hown' hgrow _)
                  have hP0 := HII.out.push hown' hgrow
                  have hP : RB wo w1 v' (rowTo (onF a b) r t ++ [onF a b r t]) := by rw [HA.out]; exact hP0
                  rw [← rowTo_succ] at hP
                  have HP := Lib.hid hP
                  clear hP hP0 hown' hgrow hle
                  go_roundg (m - (t + 1))
                  case measure => omega
                  case rel => exact ⟨t + 1, by omega, rfl, by go_num, HP.out⟩
              · have hjj : t = m := by omega
                subst hjj
                obtain ⟨ra, rcp, hv, hrow⟩ := hI.slice
                rw [rowTo_length] at hv
                subst hv
                have HII := Lib.hid hI
                have hle := rowTo_length (onF a b) r t
                have hzi := hI.since.size
                have HROW := Lib.hid hrow
                clear hI hrow
                have hBT := HR.out.later HII.out.since
                have HBT := Lib.hid hBT
                clear hBT
                go_wp2_with (at_builtin; (refine wpList_append_own _ rfl _ _ 25 rfl w.heap.size 23 i42 (.slice none 0 0) 1 24 Try.underlying25 HI.out.1 HI.out.2.1 HI.out.2.2.1 HI.out.2.2.2 rfl (by decide) _ _ _ rfl (HBT.out.own.alloc _) ⟨wr.heap.size, 0, none⟩ 1 1 [.slice ra t rcp] rfl rfl (cell_one_at _ _ _ rfl) (fun x hx => by simp at hx; subst hx; rfl) (by unfold maxLen; omega) (by omega) (by simp; omega) ?_); intro v' w1 hown' hgrow _)
                have hP := HBT.out.push (rv := .slice ra t rcp) (x := rowTo (onF a b) r t) (a := ra) (cp := rcp) (by rw [rowTo_length]) (fun h => by obtain ⟨G, e, h2, h3⟩ := HROW.out h; exact ⟨G, e, by omega, h3⟩) (fun h => by obtain ⟨G, e, h2, _⟩ := HROW.out h; exact HR.out.fresh e h2) hown' hgrow
                rw [← tabF_succ] at hP
                have HP := Lib.hid hP
                clear hP hown' hgrow hle hlen
                go_roundg (t - (r + 1))
                case measure => omega
                case rel => exact ⟨r + 1, _, _, by omega, rfl, by go_num, HP.out⟩
          · have hrm : r = m := by omega
            subst hrm
            obtain ⟨ra, rcp, hv, hin⟩ := hR.slice
            rw [tabF_length] at hv
            subst hv
            have HS := Lib.hid hR.since
            have hsw := hR.since.size
            have HD := Lib.hid (l1Done_any ra rcp r _ _ (tabF r r (onF a b)) wr (tabF_length r r (onF a b)) (szL_tabF _ _ _ (by omega) (by omega)) hin)
            have HTI := Lib.hid (show tabIn (tabF r r (onF a b)) = true from onL_in (m := r) (by omega) (by omega) ha hb)
            clear hR hin
            go_wp2_with fail
            refine (HD.out).mono ?_
            rintro e w2 ⟨a', c', rfl, hs2, hin2⟩
            rw [HTI.out] at hin2 ⊢
            go_wp2
            go_ret2
            exact ⟨a', c', rfl, HS.out.trans (since_mono hs2 hsw), hin2.mono (Nat.le_refl _) hs2.size⟩

end Go.Proofs.Ytkahgpgnfodpgaa
end

section
namespace Go.Proofs.Ytkahgpgnfodpgaa

theorem sq_tabF {m : Nat} {f : Nat → Nat → Int} (hT : tabIn (tabF m m f) = true) : sqB (tabF m m f) = true := by
  have h := (tabIn_of hT).1
  rw [tabF_length] at h
  unfold sqB
  rw [hT, tabF_length, tabF_len _ _ _ _ (by omega)]
  simp
theorem rows_le8 {l : List (List Int)} (h : szL l ≤ 1048576) : ∀ r, r < l.length → (l.getD r []).length ≤ 9223372036854775807 := fun r hr => by
  have := row_le l hr
  unfold szL at h
  omega
theorem ord_tabF {m : Nat} (f : Nat → Nat → Int) (hm : m ≤ 6) : ordF (tabF m m f) m m 0 = dt m f := by
  rw [ordF_all _ hm]
  exact dt_congr m fun i j hi hj => tabF_at _ _ _ _ _ hi hj

end Go.Proofs.Ytkahgpgnfodpgaa
end

section
namespace Go.Proofs.Ytkahgpgnfodpgaa
open Go.RowKit Go.Deep

set_option maxHeartbeats 1000000 in
theorem sameInts_same (a b : Option Addr) (ca cb n : Nat) (l : List Int) (w : World) (hn : l.length = n) (h63 : n ≤ 9223372036854775807) (ha : RowR w a l) (hb : RowR w b l) :
    Calls Try.prog 70 #[.slice a n ca, .slice b n cb] w fun e w' => e = .returned (.bool true) ∧ Drawn w w' := by
  have H := Lib.hid hn; clear hn
  go_enter Try.func70, Try.ntmps70
  go_wp2
  go_loopg [5] n (fun g i wr => ∃ k : Nat, k ≤ n ∧ g = n - k ∧ i = .int .i64 k ∧ Drawn w wr)
  case atStart => exact ⟨0, Nat.zero_le _, rfl, rfl, Drawn.refl w⟩
  case round =>
    obtain ⟨k, hk, rfl, rfl, hD⟩ := hrel
    by_cases hlt : k < n
    · obtain ⟨b1, o1, rfl, hc1⟩ := ha (by rw [H.out]; omega)
      obtain ⟨b2, o2, rfl, hc2⟩ := hb (by rw [H.out]; omega)
      have c1 := hc1 k (by rw [H.out]; exact hlt)
      have c2 := hc2 k (by rw [H.out]; exact hlt)
      obtain ⟨x, hx⟩ : ∃ x, x = l.getD k 0 := ⟨_, rfl⟩
      rw [← hx] at c1 c2
      rw [← hD.cell] at c1 c2
      clear hx hc1 hc2 ha hb
      go_wp2
      go_quiet (fail)
      go_wp2
      go_roundg (n - (k + 1))
      case measure => omega
      case rel => exact ⟨k + 1, by omega, rfl, by go_num, hD.trans (Drawn.mk _ _)⟩
    · go_wp2
      go_ret
      exact ⟨rfl, hD⟩

set_option maxHeartbeats 1000000 in
theorem sameRows_same (a b : Option Addr) (ca cb n : Nat) (l : List (List Int)) (w : World) (hn : l.length = n) (h63 : n ≤ 9223372036854775807) (hl : ∀ r, r < l.length → (l.getD r []).length ≤ 9223372036854775807)
    (ha : MatR w a l) (hb : MatR w b l) :
    Calls Try.prog 18 #[.slice a n ca, .slice b n cb] w fun e w' => e = .returned (.bool true) ∧ Drawn w w' := by
  have H := Lib.hid hn; clear hn
  go_enter Try.func18, Try.ntmps18
  go_wp2
  go_loopg [5] n (fun g i wr => ∃ k : Nat, k ≤ n ∧ g = n - k ∧ i = .int .i64 k ∧ Drawn w wr)
  case atStart => exact ⟨0, Nat.zero_le _, rfl, rfl, Drawn.refl w⟩
  case round =>
    obtain ⟨k, hk, rfl, rfl, hD⟩ := hrel
    by_cases hlt : k < n
    · obtain ⟨b1, o1, A1, C1, rfl, hc1⟩ := ha (by rw [H.out]; omega)
      obtain ⟨b2, o2, A2, C2, rfl, hc2⟩ := hb (by rw [H.out]; omega)
      obtain ⟨c1, r1⟩ := hc1 k (by rw [H.out]; exact hlt)
      obtain ⟨c2, r2⟩ := hc2 k (by rw [H.out]; exact hlt)
      have hlk := hl k (by rw [H.out]; exact hlt)
      obtain ⟨x, hx⟩ : ∃ x, x = l.getD k [] := ⟨_, rfl⟩
      rw [← hx] at c1 c2 r1 r2 hlk
      obtain ⟨m, hm⟩ : ∃ m, x.length = m := ⟨_, rfl⟩
      rw [hm] at c1 c2 hlk
      have HM := Lib.hid hm
      clear hx hc1 hc2 ha hb hl hm
      have r1 := r1.drawn hD
      have r2 := r2.drawn hD
      rw [← hD.cell] at c1 c2
      have e1 := fun (p : Nat) => sameInts_same (A1 k) (A2 k) (C1 k) (C2 k) m x (wr.drewN p) HM.out hlk r1 r2
      have E1 := Lib.hid e1; clear e1 r1 r2
      go_wp2
      go_quiet ((go_at_call 70; exact Calls.quiet_of (E1.out _)))
      go_wp2
      go_roundg (n - (k + 1))
      case measure => omega
      case rel => exact ⟨k + 1, by omega, rfl, by go_num, hD.trans (Drawn.mk _ _)⟩
    · go_wp2
      go_ret
      exact ⟨rfl, hD⟩

end Go.Proofs.Ytkahgpgnfodpgaa
end

section
namespace Go.Proofs.Ytkahgpgnfodpgaa
open Go.RowKit Go.Deep Go.Shelf

def SeqE {α : Type} (F : Fence) (n : Nat) (P : Program) (g : Nat) (lb : Array Value) (encs : α → Array Value) (Px : α → World → Prop) (need : Nat → Prop) (S Sp : List α → Prop) (N : Nat) (w : World) : Prop :=
  ∀ (l : Nat) (J Jx : List α → World → Prop) (own : Nat → Prop) (W : World), Below w.heap.size w W → (∀ k, own k → k < W.heap.size ∧ ¬ need k) → FromB W.heap.size J → FromB W.heap.size Jx →
    (∀ pre x W1, J pre W1 → Px x W1 → pre.length < N → YieldAt F (n - 1) P l (encs x) W1 fun e W' => (e = .returned (.bool true) ∧ J (pre ++ [x]) W' ∧ Keeps own W1 W') ∨ (e = .returned (.bool false) ∧ Jx (pre ++ [x]) W' ∧ Keeps own W1 W')) →
    J [] W →
    CallsIn F n P g (#[.func (.yield l) #[] #[]] ++ lb) W fun e W' => (∃ v, e = .returned v) ∧ ((∃ xs, S xs ∧ J xs W') ∨ (∃ pre, Sp pre ∧ Jx pre W'))

def roundE {α : Type} (own : Nat → Prop) (I : List α → World → Prop) (Ix : Code → List α → World → Prop) (xs : List α) (W : World) : Exit → Act → World → Prop
  | .normal, _, W' => Keeps own W W' ∧ I xs W'
  | .ret, _, W' => Keeps own W W' ∧ Ix .ret xs W'
  | _, _, _ => False

set_option maxHeartbeats 1000000 in
theorem rangeE {F : Fence} {n : Nat} {P : Program} {w : World} {α : Type} {g : Operand} {ps : Array Tmp} {assign body : Code} {Q : Exit → Act → World → Prop} {a : Act}
    (hro : F.round = none) (h1 : 1 ≤ n) {gf : Nat} {lb : Array Value} (hg : a.eval g = .func (.func gf) #[] lb) (hFg : F.fn gf) (eg : ∀ args w, (callFunc gf args).run P w = .ok (.enter gf args) w)
    {encs : α → Array Value} {Px : α → World → Prop} {need : Nat → Prop} {S Sp : List α → Prop} {N : Nat} (hseq : SeqE F (n - 1) P gf lb encs Px need S Sp N w) (hps : ∀ x, (encs x).size = ps.size)
    (hPx : ∀ x W l o o', Px x W → W.heap[l]? = some o → o.isCells = false → Px x (W.putObj l o'))
    (own : Nat → Prop) (hown : ∀ k, own k → k < w.heap.size ∧ ¬ need k) (hneed : ∀ k, need k → k < w.heap.size)
    (I : List α → World → Prop) (Ix : Code → List α → World → Prop) (hI : FromB w.heap.size I) (hIx : ∀ c, FromB w.heap.size (Ix c)) (h0 : I [] w) (a₁ : α → Act)
    (hassign : ∀ (l : Nat) (x : α) (W : World) (K : Act → World → Prop), K (a₁ x) W →
      assign.wpIn (F.inRound l) (n - 1 - 1) P (Exit.then K (fun _ _ _ => False)) { tmps := (ps.zip (encs x)).foldl (fun t (p, v) => t.setIfInBounds p v) a.tmps, defers := [] } W)
    (hbody : ∀ (l : Nat) (pre : List α) (x : α) (W : World), w.heap.size ≤ l → I pre W → Px x W → pre.length < N → body.wpIn (F.inRound l) (n - 1 - 1) P (roundE own I Ix (pre ++ [x]) W) (a₁ x) W)
    (hdone : ∀ (D : Nat) (xs : List α) (W : World), w.heap.size ≤ D → S xs → I xs W → W.heap[D]? = some (.deferred (some [])) → Q .normal { a with defers := { target := .collected D, args := #[] } :: a.defers } W)
    (hstop : ∀ (D : Nat) (c : Code) (pre : List α) (W : World), w.heap.size ≤ D → Sp pre → Ix c pre W → W.heap[D]? = some (.deferred (some [])) → c.wpIn F n P Q { a with defers := { target := .collected D, args := #[] } :: a.defers } W) :
    (Code.rangeFunc g ps assign body).wpIn F n P Q a w := by
  refine wpIn_rangeFunc fun fn hfn => ?_
  rw [hro]
  -- the two blocks of the loop: w.heap.size for deferred calls, L for its record
  obtain ⟨L, hL⟩ : ∃ L, L = w.heap.size + 1 := ⟨_, rfl⟩
  let R : LoopState → Option Code → Obj := fun st pe => .loop { state := st, pending := pe, fn := fn, tmps := a.tmps, params := ps, assign := assign, body := body, defers := w.heap.size }
  obtain ⟨V, hV⟩ : ∃ V, V = (w.alloc (.deferred (some []))).alloc (R .ready none) := ⟨_, rfl⟩
  have sV : V.heap.size = L + 1 := by rw [hV, hL]; simp
  have lV : V.heap[L]? = some (R .ready none) := by
    have := World.alloc_heap_new (w.alloc (.deferred (some []))) (R .ready none)
    rw [World.size_alloc] at this
    rw [hV, hL]; exact this
  have dV : V.heap[w.heap.size]? = some (.deferred (some [])) := by
    rw [hV]; exact (Below.heap_alloc _ _ _ (by simp)).trans (World.alloc_heap_new w _)
  have bV : Below w.heap.size w V := by rw [hV]; exact ((Below.refl _ w).alloc (Nat.le_refl _) _).alloc (by simp) _
  have iV : I [] V := by rw [hV]; exact hI.alloc _ (hI.alloc _ h0)
  have hen : (Instr.enterLoop fn a.tmps ps assign body none).run P w = .ok (L, [{ target := .collected w.heap.size, args := #[] }]) V := by
    rw [hV, hL]; exact run_enterLoop_outer _ _ _ _ _
  clear hV
  have hrec : FromB V.heap.size (fun (_ : Unit) W => W.heap[L]? = some (R .ready none) ∧ W.heap[w.heap.size]? = some (.deferred (some []))) := fun _ A B row hs hgr hr =>
    ⟨(hgr.block L (Array.getElem?_eq_some_iff.1 hs.1).1 (fun e => by have := hr L e.symm; omega)).trans hs.1, (hgr.block _ (Array.getElem?_eq_some_iff.1 hs.2).1 (fun e => by have := hr _ e.symm; omega)).trans hs.2⟩
  refine ⟨L, _, V, { target := .fn (.func gf) lb, args := #[.func (.yield L) #[] #[]] }, V, gf, #[.func (.yield L) #[] #[]] ++ lb, V, hen, ?_, ?_, ?_, fun _ => h1, ?_⟩
  · simp only [resolve, hg]
    simp [go_sem]
  · intro f' hf'
    simp [Target.leads] at hf'
    subst hf'
    exact hFg
  · simp [invoke, go_sem, eg]
  refine (hseq L (fun pre W => I pre W ∧ W.heap[L]? = some (R .ready none) ∧ W.heap[w.heap.size]? = some (.deferred (some [])))
    (fun pre W => Ix .ret pre W ∧ W.heap[L]? = some (R .done (some .ret)) ∧ W.heap[w.heap.size]? = some (.deferred (some [])))
    (fun k => own k ∨ k = L) V bV ?_ ?_ ?_ ?_ ⟨iV, lV, dV⟩).mono ?_
  · rintro k (hk | rfl)
    · exact ⟨by have := (hown k hk).1; omega, (hown k hk).2⟩
    · exact ⟨by omega, fun h => by have := hneed _ h; omega⟩
  · intro s A B row hs hgr hr
    exact ⟨hI s A B row hs.1 hgr (fun r e => by have := hr r e; omega), hrec () A B row hs.2 hgr hr⟩
  · intro s A B row hs hgr hr
    exact ⟨hIx _ s A B row hs.1 hgr (fun r e => by have := hr r e; omega), (hgr.block L (Array.getElem?_eq_some_iff.1 hs.2.1).1 (fun e => by have := hr L e.symm; omega)).trans hs.2.1, (hgr.block _ (Array.getElem?_eq_some_iff.1 hs.2.2).1 (fun e => by have := hr _ e.symm; omega)).trans hs.2.2⟩
  · rintro pre x W ⟨hi, hl, hd⟩ hpx hlen
    have lt : L < W.heap.size := (Array.getElem?_eq_some_iff.1 hl).1
    refine ⟨fn, _, assign, body, run_yield hl (hps x), roundIn_of_wpIn hfn (hassign L x W _ ⟨_, run_beginRound hl rfl, ?_⟩)⟩
    obtain ⟨X, hX⟩ : ∃ X, X = W.putObj L (R .busy none) := ⟨_, rfl⟩
    have lX : X.heap[L]? = some (R .busy none) := by rw [hX]; exact World.putObj_heap_same lt
    have dX : X.heap[w.heap.size]? = some (.deferred (some [])) := by rw [hX]; exact (World.putObj_heap_other (by omega)).trans hd
    have iX : I pre X := by rw [hX]; exact hI.put _ hi (by omega)
    have pX : Px x X := by rw [hX]; exact hPx x W L _ _ hpx hl rfl
    have kX : Keeps (fun k => own k ∨ k = L) W X := by rw [hX]; exact Keeps.put _ W _ (.inr rfl)
    have hno : ¬ own L := fun h => by have := (hown _ h).1; omega
    have hno2 : ¬ own w.heap.size := fun h => by have := (hown _ h).1; omega
    refine wpIn_mono (by rw [← hX]; exact hbody L pre x X (by omega) iX pX hlen) ?_
    rintro e b Y hp
    cases e with
    | normal =>
      have lY := hp.1.same _ _ hno lX
      have dY := hp.1.same _ _ hno2 dX
      exact ⟨_, _, run_endRound none lY, .inl ⟨rfl, ⟨hI.put _ hp.2 (by omega), World.putObj_heap_same (Array.getElem?_eq_some_iff.1 lY).1, (World.putObj_heap_other (by omega)).trans dY⟩, (kX.trans (hp.1.mono fun _ h => .inl h)).trans (Keeps.put _ Y _ (.inr rfl))⟩⟩
    | ret =>
      have lY := hp.1.same _ _ hno lX
      have dY := hp.1.same _ _ hno2 dX
      exact ⟨_, _, run_endRound (some .ret) lY, .inr ⟨rfl, ⟨(hIx _).put _ hp.2 (by omega), World.putObj_heap_same (Array.getElem?_eq_some_iff.1 lY).1, (World.putObj_heap_other (by omega)).trans dY⟩, (kX.trans (hp.1.mono fun _ h => .inl h)).trans (Keeps.put _ Y _ (.inr rfl))⟩⟩
    | exit id => exact hp.elim
    | goto t => exact hp.elim
    | panic ch => exact hp.elim
    | outgrown => exact hp.elim
  · rintro e Y ⟨⟨v, rfl⟩, (⟨xs, hS, hi, hl, hd⟩ | ⟨pre, hSp, hi, hl, hd⟩)⟩
    · exact ⟨none, _, run_endLoop hl (by simp), hdone _ xs _ (Nat.le_refl _) hS (hI.put _ hi (by omega)) ((World.putObj_heap_other (by omega)).trans hd)⟩
    · exact ⟨some .ret, _, run_endLoop hl (by simp), hstop _ .ret pre _ (Nat.le_refl _) hSp ((hIx _).put _ hi (by omega)) ((World.putObj_heap_other (by omega)).trans hd)⟩

theorem SeqE.toC {α : Type} {F : Fence} {n : Nat} {P : Program} {g : Nat} {lb : Array Value} {encs : α → Array Value} {Px : α → World → Prop} {need : Nat → Prop} {S Sp : List α → Prop} {N : Nat} {w : World} (h : SeqE F n P g lb encs Px need S Sp N w) :
    SeqC F n P g lb encs Px need S N w := fun l J own W hW hown hJ hY hj =>
  (h l J (fun _ _ => False) own W hW hown hJ (fun _ _ _ _ hs _ _ => hs) (fun pre x W1 h1 h2 h3 => (hY pre x W1 h1 h2 h3).mono fun _ _ hh => .inl hh) hj).mono fun _ _ hh => ⟨hh.1, by
    rcases hh.2 with hh | ⟨_, _, hh⟩
    · exact hh
    · exact hh.elim⟩

end Go.Proofs.Ytkahgpgnfodpgaa
end

section
namespace Go.Proofs.Ytkahgpgnfodpgaa
open Go.RowKit Go.Deep Go.Shelf

theorem SeqE.inRound {α : Type} {F : Fence} {n : Nat} {P : Program} {g : Nat} {lb : Array Value} {encs : α → Array Value} {Px : α → World → Prop} {need : Nat → Prop} {S Sp : List α → Prop} {N : Nat} {w : World} (l : Nat) (h : SeqE F n P g lb encs Px need S Sp N w) : SeqE (F.inRound l) n P g lb encs Px need S Sp N w := h

set_option maxHeartbeats 1000000 in
theorem rangeF {F : Fence} {n : Nat} {P : Program} {w : World} {α : Type} {g : Operand} {ps : Array Tmp} {assign body : Code} {Q : Exit → Act → World → Prop} {a : Act}
    (hro : F.round = none) (h1 : 1 ≤ n) {gf : Nat} {lb : Array Value} (hg : a.eval g = .func (.func gf) #[] lb) (hFg : F.fn gf) (eg : ∀ args w, (callFunc gf args).run P w = .ok (.enter gf args) w)
    {encs : α → Array Value} {Px : α → Prop} {need : Nat → Prop} {S Sp : List α → Prop} {N : Nat} (hseq : SeqE F (n - 1) P gf lb encs (fun x _ => Px x) need S Sp N w) (hps : ∀ x, (encs x).size = ps.size)
    (own : Nat → Prop) (hown : ∀ k, own k → k < w.heap.size ∧ ¬ need k) (hneed : ∀ k, need k → k < w.heap.size)
    (I : List α → World → Prop) (Ix : Code → List α → World → Prop) (hI : FromB w.heap.size I) (hIx : ∀ c, FromB w.heap.size (Ix c)) (h0 : I [] w)
    (Ax : α → Act → World → Prop) (hAx : ∀ x a' W l o o', Ax x a' W → W.heap[l]? = some o → o.isCells = false → Ax x a' (W.putObj l o'))
    (hassign : ∀ (l : Nat) (pre : List α) (x : α) (W : World) (K : Act → World → Prop), w.heap.size ≤ W.heap.size → I pre W → Px x → (∀ a' W', Keeps own W W' → I pre W' → Ax x a' W' → K a' W') →
      assign.wpIn (F.inRound l) (n - 1 - 1) P (Exit.then K (fun _ _ _ => False)) { tmps := (ps.zip (encs x)).foldl (fun t (p, v) => t.setIfInBounds p v) a.tmps, defers := [] } W)
    (hbody : ∀ (l : Nat) (pre : List α) (x : α) (a' : Act) (W : World), w.heap.size ≤ l → w.heap.size ≤ W.heap.size → (∃ r, W.heap[l]? = some (.loop r)) → I pre W → Px x → Ax x a' W → pre.length < N → body.wpIn (F.inRound l) (n - 1 - 1) P (roundE own I Ix (pre ++ [x]) W) a' W)
    (hdone : ∀ (D : Nat) (xs : List α) (W : World), w.heap.size ≤ D → S xs → I xs W → W.heap[D]? = some (.deferred (some [])) → Q .normal { a with defers := { target := .collected D, args := #[] } :: a.defers } W)
    (hstop : ∀ (D : Nat) (c : Code) (pre : List α) (W : World), w.heap.size ≤ D → Sp pre → Ix c pre W → W.heap[D]? = some (.deferred (some [])) → c.wpIn F n P Q { a with defers := { target := .collected D, args := #[] } :: a.defers } W) :
    (Code.rangeFunc g ps assign body).wpIn F n P Q a w := by
  refine wpIn_rangeFunc fun fn hfn => ?_
  rw [hro]
  obtain ⟨L, hL⟩ : ∃ L, L = w.heap.size + 1 := ⟨_, rfl⟩
  let R : LoopState → Option Code → Obj := fun st pe => .loop { state := st, pending := pe, fn := fn, tmps := a.tmps, params := ps, assign := assign, body := body, defers := w.heap.size }
  obtain ⟨V, hV⟩ : ∃ V, V = (w.alloc (.deferred (some []))).alloc (R .ready none) := ⟨_, rfl⟩
  have sV : V.heap.size = L + 1 := by rw [hV, hL]; simp
  have lV : V.heap[L]? = some (R .ready none) := by
    have := World.alloc_heap_new (w.alloc (.deferred (some []))) (R .ready none)
    rw [World.size_alloc] at this
    rw [hV, hL]; exact this
  have dV : V.heap[w.heap.size]? = some (.deferred (some [])) := by
    rw [hV]; exact (Below.heap_alloc _ _ _ (by simp)).trans (World.alloc_heap_new w _)
  have bV : Below w.heap.size w V := by rw [hV]; exact ((Below.refl _ w).alloc (Nat.le_refl _) _).alloc (by simp) _
  have iV : I [] V := by rw [hV]; exact hI.alloc _ (hI.alloc _ h0)
  have hen : (Instr.enterLoop fn a.tmps ps assign body none).run P w = .ok (L, [{ target := .collected w.heap.size, args := #[] }]) V := by
    rw [hV, hL]; exact run_enterLoop_outer _ _ _ _ _
  clear hV
  have hrec : FromB V.heap.size (fun (_ : Unit) W => W.heap[L]? = some (R .ready none) ∧ W.heap[w.heap.size]? = some (.deferred (some []))) := fun _ A B row hs hgr hr =>
    ⟨(hgr.block L (Array.getElem?_eq_some_iff.1 hs.1).1 (fun e => by have := hr L e.symm; omega)).trans hs.1, (hgr.block _ (Array.getElem?_eq_some_iff.1 hs.2).1 (fun e => by have := hr _ e.symm; omega)).trans hs.2⟩
  refine ⟨L, _, V, { target := .fn (.func gf) lb, args := #[.func (.yield L) #[] #[]] }, V, gf, #[.func (.yield L) #[] #[]] ++ lb, V, hen, ?_, ?_, ?_, fun _ => h1, ?_⟩
  · simp only [resolve, hg]
    simp [go_sem]
  · intro f' hf'
    simp [Target.leads] at hf'
    subst hf'
    exact hFg
  · simp [invoke, go_sem, eg]
  refine (hseq L (fun pre W => I pre W ∧ W.heap[L]? = some (R .ready none) ∧ W.heap[w.heap.size]? = some (.deferred (some [])))
    (fun pre W => Ix .ret pre W ∧ W.heap[L]? = some (R .done (some .ret)) ∧ W.heap[w.heap.size]? = some (.deferred (some [])))
    (fun k => own k ∨ k = L) V bV ?_ ?_ ?_ ?_ ⟨iV, lV, dV⟩).mono ?_
  · rintro k (hk | rfl)
    · exact ⟨by have := (hown k hk).1; omega, (hown k hk).2⟩
    · exact ⟨by omega, fun h => by have := hneed _ h; omega⟩
  · intro s A B row hs hgr hr
    exact ⟨hI s A B row hs.1 hgr (fun r e => by have := hr r e; omega), hrec () A B row hs.2 hgr hr⟩
  · intro s A B row hs hgr hr
    exact ⟨hIx _ s A B row hs.1 hgr (fun r e => by have := hr r e; omega), (hgr.block L (Array.getElem?_eq_some_iff.1 hs.2.1).1 (fun e => by have := hr L e.symm; omega)).trans hs.2.1, (hgr.block _ (Array.getElem?_eq_some_iff.1 hs.2.2).1 (fun e => by have := hr _ e.symm; omega)).trans hs.2.2⟩
  · rintro pre x Wb ⟨hi, hl, hd⟩ hpx hlen
    have hno : ¬ own L := fun h => by have := (hown _ h).1; omega
    have hno2 : ¬ own w.heap.size := fun h => by have := (hown _ h).1; omega
    have ltb : L < Wb.heap.size := (Array.getElem?_eq_some_iff.1 hl).1
    refine ⟨fn, _, assign, body, run_yield hl (hps x), roundIn_of_wpIn hfn (hassign L pre x Wb _ (by omega) hi hpx ?_)⟩
    intro a' W hka hia hax
    replace hl := hka.same _ _ hno hl
    replace hd := hka.same _ _ hno2 hd
    have lt : L < W.heap.size := (Array.getElem?_eq_some_iff.1 hl).1
    refine ⟨_, run_beginRound hl rfl, ?_⟩
    obtain ⟨X, hX⟩ : ∃ X, X = W.putObj L (R .busy none) := ⟨_, rfl⟩
    have lX : X.heap[L]? = some (R .busy none) := by rw [hX]; exact World.putObj_heap_same lt
    have dX : X.heap[w.heap.size]? = some (.deferred (some [])) := by rw [hX]; exact (World.putObj_heap_other (by omega)).trans hd
    have iX : I pre X := by rw [hX]; exact hI.put _ hia (by omega)
    have aX : Ax x a' X := by rw [hX]; exact hAx x a' W L _ _ hax hl rfl
    have kX : Keeps (fun k => own k ∨ k = L) Wb X := by rw [hX]; exact (hka.mono fun _ h => .inl h).trans (Keeps.put _ W _ (.inr rfl))
    have zX : w.heap.size ≤ X.heap.size := by have := (Array.getElem?_eq_some_iff.1 lX).1; omega
    refine wpIn_mono (by rw [← hX]; exact hbody L pre x a' X (by omega) zX ⟨_, lX⟩ iX hpx aX hlen) ?_
    rintro e b Y hp
    cases e with
    | normal =>
      have lY := hp.1.same _ _ hno lX
      have dY := hp.1.same _ _ hno2 dX
      exact ⟨_, _, run_endRound none lY, .inl ⟨rfl, ⟨hI.put _ hp.2 (by omega), World.putObj_heap_same (Array.getElem?_eq_some_iff.1 lY).1, (World.putObj_heap_other (by omega)).trans dY⟩, (kX.trans (hp.1.mono fun _ h => .inl h)).trans (Keeps.put _ Y _ (.inr rfl))⟩⟩
    | ret =>
      have lY := hp.1.same _ _ hno lX
      have dY := hp.1.same _ _ hno2 dX
      exact ⟨_, _, run_endRound (some .ret) lY, .inr ⟨rfl, ⟨(hIx _).put _ hp.2 (by omega), World.putObj_heap_same (Array.getElem?_eq_some_iff.1 lY).1, (World.putObj_heap_other (by omega)).trans dY⟩, (kX.trans (hp.1.mono fun _ h => .inl h)).trans (Keeps.put _ Y _ (.inr rfl))⟩⟩
    | exit id => exact hp.elim
    | goto t => exact hp.elim
    | panic ch => exact hp.elim
    | outgrown => exact hp.elim
  · rintro e Y ⟨⟨v, rfl⟩, (⟨xs, hS, hi, hl, hd⟩ | ⟨pre, hSp, hi, hl, hd⟩)⟩
    · exact ⟨none, _, run_endLoop hl (by simp), hdone _ xs _ (Nat.le_refl _) hS (hI.put _ hi (by omega)) ((World.putObj_heap_other (by omega)).trans hd)⟩
    · exact ⟨some .ret, _, run_endLoop hl (by simp), hstop _ .ret pre _ (Nat.le_refl _) hSp ((hIx _).put _ hi (by omega)) ((World.putObj_heap_other (by omega)).trans hd)⟩

set_option maxHeartbeats 1000000 in
theorem rangeN {F : Fence} {n : Nat} {P : Program} {w : World} {α : Type} {g : Operand} {ps : Array Tmp} {assign body : Code} {Q : Exit → Act → World → Prop} {a : Act}
    {l₀ : Nat} {r₀ : Loop} (hro : F.round = some l₀) (hl₀ : w.heap[l₀]? = some (.loop r₀)) (h1 : 1 ≤ n) {gf : Nat} {lb : Array Value} (hg : a.eval g = .func (.func gf) #[] lb) (hFg : F.fn gf) (eg : ∀ args w, (callFunc gf args).run P w = .ok (.enter gf args) w)
    {encs : α → Array Value} {Px : α → Prop} {need : Nat → Prop} {S Sp : List α → Prop} {N : Nat} (hseq : SeqE F (n - 1) P gf lb encs (fun x _ => Px x) need S Sp N w) (hps : ∀ x, (encs x).size = ps.size)
    (own : Nat → Prop) (hown : ∀ k, own k → k < w.heap.size ∧ ¬ need k) (hneed : ∀ k, need k → k < w.heap.size)
    (I : List α → World → Prop) (Ix : Code → List α → World → Prop) (hI : FromB w.heap.size I) (hIx : ∀ c, FromB w.heap.size (Ix c)) (h0 : I [] w)
    (Ax : α → Act → World → Prop) (hAx : ∀ x a' W l o o', Ax x a' W → W.heap[l]? = some o → o.isCells = false → Ax x a' (W.putObj l o'))
    (hassign : ∀ (l : Nat) (pre : List α) (x : α) (W : World) (K : Act → World → Prop), w.heap.size ≤ W.heap.size → I pre W → Px x → (∀ a' W', Keeps own W W' → I pre W' → Ax x a' W' → K a' W') →
      assign.wpIn (F.inRound l) (n - 1 - 1) P (Exit.then K (fun _ _ _ => False)) { tmps := (ps.zip (encs x)).foldl (fun t (p, v) => t.setIfInBounds p v) a.tmps, defers := [] } W)
    (hbody : ∀ (l : Nat) (pre : List α) (x : α) (a' : Act) (W : World), w.heap.size ≤ l → w.heap.size ≤ W.heap.size → (∃ r, W.heap[l]? = some (.loop r)) → I pre W → Px x → Ax x a' W → pre.length < N → body.wpIn (F.inRound l) (n - 1 - 1) P (roundE own I Ix (pre ++ [x]) W) a' W)
    (hdone : ∀ (xs : List α) (W : World), S xs → I xs W → Q .normal a W)
    (hstop : ∀ (c : Code) (pre : List α) (W : World), Sp pre → Ix c pre W → c.wpIn F n P Q a W) :
    (Code.rangeFunc g ps assign body).wpIn F n P Q a w := by
  refine wpIn_rangeFunc fun fn hfn => ?_
  rw [hro]
  obtain ⟨L, hL⟩ : ∃ L, L = w.heap.size := ⟨_, rfl⟩
  let R : LoopState → Option Code → Obj := fun st pe => .loop { state := st, pending := pe, fn := fn, tmps := a.tmps, params := ps, assign := assign, body := body, defers := r₀.defers }
  obtain ⟨V, hV⟩ : ∃ V, V = w.alloc (R .ready none) := ⟨_, rfl⟩
  have sV : V.heap.size = L + 1 := by rw [hV, hL]; simp
  have lV : V.heap[L]? = some (R .ready none) := by rw [hV, hL]; exact World.alloc_heap_new w _
  have bV : Below w.heap.size w V := by rw [hV]; exact (Below.refl _ w).alloc (Nat.le_refl _) _
  have iV : I [] V := by rw [hV]; exact hI.alloc _ h0
  have hen : (Instr.enterLoop fn a.tmps ps assign body (some l₀)).run P w = .ok (L, []) V := by
    rw [hV, hL]; exact run_enterLoop_inner hl₀ _ _ _ _ _
  clear hV
  refine ⟨L, _, V, { target := .fn (.func gf) lb, args := #[.func (.yield L) #[] #[]] }, V, gf, #[.func (.yield L) #[] #[]] ++ lb, V, hen, ?_, ?_, ?_, fun _ => h1, ?_⟩
  · simp only [resolve, hg]
    simp [go_sem]
  · intro f' hf'
    simp [Target.leads] at hf'
    subst hf'
    exact hFg
  · simp [invoke, go_sem, eg]
  refine (hseq L (fun pre W => I pre W ∧ W.heap[L]? = some (R .ready none))
    (fun pre W => Ix .ret pre W ∧ W.heap[L]? = some (R .done (some .ret)))
    (fun k => own k ∨ k = L) V bV ?_ ?_ ?_ ?_ ⟨iV, lV⟩).mono ?_
  · rintro k (hk | rfl)
    · exact ⟨by have := (hown k hk).1; omega, (hown k hk).2⟩
    · exact ⟨by omega, fun h => by have := hneed _ h; omega⟩
  · intro s A B row hs hgr hr
    exact ⟨hI s A B row hs.1 hgr (fun r e => by have := hr r e; omega), (hgr.block L (Array.getElem?_eq_some_iff.1 hs.2).1 (fun e => by have := hr L e.symm; omega)).trans hs.2⟩
  · intro s A B row hs hgr hr
    exact ⟨hIx _ s A B row hs.1 hgr (fun r e => by have := hr r e; omega), (hgr.block L (Array.getElem?_eq_some_iff.1 hs.2).1 (fun e => by have := hr L e.symm; omega)).trans hs.2⟩
  · rintro pre x Wb ⟨hi, hl⟩ hpx hlen
    have hno : ¬ own L := fun h => by have := (hown _ h).1; omega
    have ltb : L < Wb.heap.size := (Array.getElem?_eq_some_iff.1 hl).1
    refine ⟨fn, _, assign, body, run_yield hl (hps x), roundIn_of_wpIn hfn (hassign L pre x Wb _ (by omega) hi hpx ?_)⟩
    intro a' W hka hia hax
    replace hl := hka.same _ _ hno hl
    have lt : L < W.heap.size := (Array.getElem?_eq_some_iff.1 hl).1
    refine ⟨_, run_beginRound hl rfl, ?_⟩
    obtain ⟨X, hX⟩ : ∃ X, X = W.putObj L (R .busy none) := ⟨_, rfl⟩
    have lX : X.heap[L]? = some (R .busy none) := by rw [hX]; exact World.putObj_heap_same lt
    have iX : I pre X := by rw [hX]; exact hI.put _ hia (by omega)
    have aX : Ax x a' X := by rw [hX]; exact hAx x a' W L _ _ hax hl rfl
    have kX : Keeps (fun k => own k ∨ k = L) Wb X := by rw [hX]; exact (hka.mono fun _ h => .inl h).trans (Keeps.put _ W _ (.inr rfl))
    have zX : w.heap.size ≤ X.heap.size := by have := (Array.getElem?_eq_some_iff.1 lX).1; omega
    refine wpIn_mono (by rw [← hX]; exact hbody L pre x a' X (by omega) zX ⟨_, lX⟩ iX hpx aX hlen) ?_
    rintro e b Y hp
    cases e with
    | normal =>
      have lY := hp.1.same _ _ hno lX
      exact ⟨_, _, run_endRound none lY, .inl ⟨rfl, ⟨hI.put _ hp.2 (by omega), World.putObj_heap_same (Array.getElem?_eq_some_iff.1 lY).1⟩, (kX.trans (hp.1.mono fun _ h => .inl h)).trans (Keeps.put _ Y _ (.inr rfl))⟩⟩
    | ret =>
      have lY := hp.1.same _ _ hno lX
      exact ⟨_, _, run_endRound (some .ret) lY, .inr ⟨rfl, ⟨(hIx _).put _ hp.2 (by omega), World.putObj_heap_same (Array.getElem?_eq_some_iff.1 lY).1⟩, (kX.trans (hp.1.mono fun _ h => .inl h)).trans (Keeps.put _ Y _ (.inr rfl))⟩⟩
    | exit id => exact hp.elim
    | goto t => exact hp.elim
    | panic ch => exact hp.elim
    | outgrown => exact hp.elim
  · rintro e Y ⟨⟨v, rfl⟩, (⟨xs, hS, hi, hl⟩ | ⟨pre, hSp, hi, hl⟩)⟩
    · exact ⟨none, _, run_endLoop hl (by simp), hdone xs _ hS (hI.put _ hi (by omega))⟩
    · exact ⟨some .ret, _, run_endLoop hl (by simp), hstop .ret pre _ hSp ((hIx _).put _ hi (by omega))⟩

end Go.Proofs.Ytkahgpgnfodpgaa
end

section
namespace Go.Proofs.Ytkahgpgnfodpgaa
open Go.RowKit Go.Deep Go.Shelf

theorem sets_seqE (n : Nat) (hn : 2 ≤ n) (Bn Bk N k M : Nat) (hN : N ≤ 6) (hM : 2 ^ N = M) (w : World) (h1 : Bn < w.heap.size) (h2 : Bk < w.heap.size)
    (hBn : w.cell? ⟨Bn, 0, none⟩ = some (.int .i64 N)) (hBk : w.cell? ⟨Bk, 0, none⟩ = some (.int .i64 k)) :
    SeqE Fence.wide n Try.prog 158 #[.pointer (some ⟨Bn, 0, none⟩), .pointer (some ⟨Bk, 0, none⟩)] (fun x : Nat => #[Value.int .i64 (x : Int)]) (fun x _ => x < M ∧ popcS x = k) (fun q => q = Bn ∨ q = Bk) (fun ys => ys = setsTo k M) (fun _ => True) M w := by
  intro l J Jx own W hW hown hJ hJx hY hj
  refine CallsIn.mono (sets1_in n hn l Bn Bk N k M hN hM (Kp2 Bn Bk) (fun _ _ h => h)
    (fun pre W => J pre W ∧ W.cell? ⟨Bn, 0, none⟩ = some (.int .i64 N) ∧ W.cell? ⟨Bk, 0, none⟩ = some (.int .i64 k)) (fun pre W => Jx pre W) (fun s V hV => ?_) (fun pre x V hV hp hx hk => ?_) W
    ((hW.cell (p := ⟨Bn, 0, none⟩) h1).trans hBn) ((hW.cell (p := ⟨Bk, 0, none⟩) h2).trans hBk) ⟨hj, (hW.cell (p := ⟨Bn, 0, none⟩) h1).trans hBn, (hW.cell (p := ⟨Bk, 0, none⟩) h2).trans hBk⟩) ?_
  · exact ⟨hJ s V V.drew none hV.1 ⟨rfl, rfl, rfl, Nat.le_refl _, fun _ _ _ => rfl⟩ (fun r e => by cases e), hV.2.1, hV.2.2⟩
  · have hl : pre.length < M := by
      rw [hp]
      have := setsTo_len k x
      omega
    obtain ⟨hjv, c1, c2⟩ := hV
    obtain ⟨fn, tmps, assign, body, hy, hR⟩ := hY pre x V hjv ⟨hx, hk⟩ hl
    refine ⟨fn, tmps, assign, body, hy, hR.mono ?_⟩
    rintro e W' (⟨r1, r2, r3⟩ | ⟨r1, r2, _⟩)
    · have d1 := r3.cell (a := ⟨Bn, 0, none⟩) (fun h => (hown _ h).2 (.inl rfl)) c1
      have d2 := r3.cell (a := ⟨Bk, 0, none⟩) (fun h => (hown _ h).2 (.inr rfl)) c2
      exact .inl ⟨r1, ⟨r2, d1, d2⟩, d1.trans c1.symm, d2.trans c2.symm⟩
    · exact .inr ⟨r1, r2⟩
  · rintro e W' ⟨r1, (⟨zs, rfl, hj2⟩ | ⟨pre, _, hj2⟩)⟩
    · exact ⟨r1, .inl ⟨_, rfl, hj2.1⟩⟩
    · exact ⟨r1, .inr ⟨_, trivial, hj2⟩⟩

end Go.Proofs.Ytkahgpgnfodpgaa
end

section
namespace Go.Proofs.Ytkahgpgnfodpgaa
open Go.RowKit Go.Deep

theorem since_of_map {W w' : World} {o : Obj} (hg : (W.alloc o).grownBy w' (some W.heap.size)) : W.Since W.heap.size w' := by
  have h0 := (World.Since.refl W.heap.size W).alloc (Nat.le_refl _) o
  have h1 := hg.size
  simp only [World.size_alloc] at h1
  exact ⟨hg.os.trans h0.os, hg.tape.trans h0.tape, hg.output.trans h0.output, by omega, fun k hk => (hg.block k (by simp; omega) (by intro e; injection e with e; omega)).trans (h0.block k hk)⟩

set_option maxHeartbeats 400000 in
theorem anyValue_of (rb : Nat) (a : Option Addr) (n cap : Nat) (x : Int) (W : World) (hr : RoadsAt W rb) (ht : ∀ W', W.grownBy W' (some rb) → Calls Try.prog 128 #[.slice a n cap] W' (fun e w' => e = .returned (.int .i64 x) ∧ W'.Since W'.heap.size w')) :
    Calls Try.prog 133 #[.map (some rb), .slice a n cap] W (fun e w' => e = .returned (.int .i64 x) ∧ W.grownBy w' (some rb) ∧ RoadsAt w' rb) := by
  have E := Lib.hid (roads_2 rb a n cap x W hr ht)
  clear hr ht
  go_enter Try.func133, Try.ntmps133
  go_wp2_with fail
  refine (E.out).mono ?_
  rintro e w' ⟨rfl, hg, hr⟩
  go_wp2
  go_ret
  exact ⟨rfl, hg, hr⟩

set_option maxHeartbeats 800000 in
theorem square_0 (a : Option Addr) (cap n : Nat) (l : List (List Int)) (x : Int) (w : World) (hn : l.length = n) (hsz : szL l ≤ 1048576) (hm : MatR w a l) (ht : sqB l = true → ∀ W', MatR W' a l → Calls Try.prog 126 #[.slice a n cap] W' (fun e w' => e = .returned (.int .i64 x) ∧ W'.Since W'.heap.size w')) :
    Calls Try.prog 73 #[.slice a n cap, .int .i64 0] w (SpecW w (sqB l) x) := by
  have E := isSquare_any a cap n l w hn hsz hm
  cases hs : sqB l with
  | false =>
    rw [hs] at E
    replace E := Lib.hid E
    clear hs hm hn hsz ht
    go_enter Try.func73, Try.ntmps73
    go_wp2_with fail
    refine (E.out).mono ?_
    rintro e w1 ⟨rfl, hd⟩
    have HD := Lib.hid hd
    clear hd
    go_wp2
    go_ret2
    exact ⟨rfl, HD.out⟩
  | true =>
    rw [hs] at E
    replace E := Lib.hid E
    have E2 := Lib.hid (fun (W : World) (hd : w.Since w.heap.size W) => roads_0 W.heap.size a n cap x (W.alloc (.map #[] 0)) (roads_made W) (fun W' hg => ht hs W' (hm.since (hd.trans (since_mono (since_of_map hg) hd.size)))))
    clear hs hm hn hsz ht
    have hmm := @run_makeMap Try.prog
    go_enter Try.func73, Try.ntmps73
    go_wp2_with fail
    refine (E.out).mono ?_
    rintro e w1 ⟨rfl, hd⟩
    have HD := Lib.hid hd
    clear hd
    go_wp2_with fail
    refine (E2.out w1 HD.out).mono ?_
    rintro e w2 ⟨rfl, hg, hr⟩
    have HS2 := Lib.hid (HD.out.trans (since_mono (since_of_map hg) HD.out.size))
    clear hg hr
    go_wp2
    go_ret2
    exact ⟨rfl, HS2.out⟩

set_option maxHeartbeats 400000 in
theorem implValueOrders_of (a : Option Addr) (cap n : Nat) (l : List (List Int)) (x : Int) (w : World) (hn : l.length = n) (hsz : szL l ≤ 1048576) (hm : MatR w a l) (ht : sqB l = true → ∀ W', MatR W' a l → Calls Try.prog 126 #[.slice a n cap] W' (fun e w' => e = .returned (.int .i64 x) ∧ W'.Since W'.heap.size w')) :
    Calls Try.prog 20 #[.slice a n cap] w (SpecW w (sqB l) x) := by
  have E := square_0 a cap n l x w hn hsz hm ht
  unfold SpecW at E ⊢
  generalize (if (sqB l) = true then x else 0) = y at E ⊢
  generalize (sqB l) = b at E ⊢
  replace E := Lib.hid E
  clear hn hsz hm ht
  go_enter Try.func20, Try.ntmps20
  go_wp2_with fail
  refine (E.out).mono ?_
  rintro e w1 ⟨rfl, hd⟩
  go_wp2
  go_ret2
  exact ⟨rfl, hd⟩

set_option maxHeartbeats 800000 in
theorem square_1 (a : Option Addr) (cap n : Nat) (l : List (List Int)) (x : Int) (w : World) (hn : l.length = n) (hsz : szL l ≤ 1048576) (hm : MatR w a l) (ht : sqB l = true → ∀ W', MatR W' a l → Calls Try.prog 127 #[.slice a n cap] W' (fun e w' => e = .returned (.int .i64 x) ∧ W'.Since W'.heap.size w')) :
    Calls Try.prog 73 #[.slice a n cap, .int .i64 1] w (SpecW w (sqB l) x) := by
  have E := isSquare_any a cap n l w hn hsz hm
  cases hs : sqB l with
  | false =>
    rw [hs] at E
    replace E := Lib.hid E
    clear hs hm hn hsz ht
    go_enter Try.func73, Try.ntmps73
    go_wp2_with fail
    refine (E.out).mono ?_
    rintro e w1 ⟨rfl, hd⟩
    have HD := Lib.hid hd
    clear hd
    go_wp2
    go_ret2
    exact ⟨rfl, HD.out⟩
  | true =>
    rw [hs] at E
    replace E := Lib.hid E
    have E2 := Lib.hid (fun (W : World) (hd : w.Since w.heap.size W) => roads_1 W.heap.size a n cap x (W.alloc (.map #[] 0)) (roads_made W) (fun W' hg => ht hs W' (hm.since (hd.trans (since_mono (since_of_map hg) hd.size)))))
    clear hs hm hn hsz ht
    have hmm := @run_makeMap Try.prog
    go_enter Try.func73, Try.ntmps73
    go_wp2_with fail
    refine (E.out).mono ?_
    rintro e w1 ⟨rfl, hd⟩
    have HD := Lib.hid hd
    clear hd
    go_wp2_with fail
    refine (E2.out w1 HD.out).mono ?_
    rintro e w2 ⟨rfl, hg, hr⟩
    have HS2 := Lib.hid (HD.out.trans (since_mono (since_of_map hg) HD.out.size))
    clear hg hr
    go_wp2
    go_ret2
    exact ⟨rfl, HS2.out⟩

set_option maxHeartbeats 800000 in
theorem square_2 (a : Option Addr) (cap n : Nat) (l : List (List Int)) (x : Int) (w : World) (hn : l.length = n) (hsz : szL l ≤ 1048576) (hm : MatR w a l) (ht : sqB l = true → ∀ W', MatR W' a l → Calls Try.prog 128 #[.slice a n cap] W' (fun e w' => e = .returned (.int .i64 x) ∧ W'.Since W'.heap.size w')) :
    Calls Try.prog 73 #[.slice a n cap, .int .i64 2] w (SpecW w (sqB l) x) := by
  have E := isSquare_any a cap n l w hn hsz hm
  cases hs : sqB l with
  | false =>
    rw [hs] at E
    replace E := Lib.hid E
    clear hs hm hn hsz ht
    go_enter Try.func73, Try.ntmps73
    go_wp2_with fail
    refine (E.out).mono ?_
    rintro e w1 ⟨rfl, hd⟩
    have HD := Lib.hid hd
    clear hd
    go_wp2
    go_ret2
    exact ⟨rfl, HD.out⟩
  | true =>
    rw [hs] at E
    replace E := Lib.hid E
    have E2 := Lib.hid (fun (W : World) (hd : w.Since w.heap.size W) => roads_2 W.heap.size a n cap x (W.alloc (.map #[] 0)) (roads_made W) (fun W' hg => ht hs W' (hm.since (hd.trans (since_mono (since_of_map hg) hd.size)))))
    clear hs hm hn hsz ht
    have hmm := @run_makeMap Try.prog
    go_enter Try.func73, Try.ntmps73
    go_wp2_with fail
    refine (E.out).mono ?_
    rintro e w1 ⟨rfl, hd⟩
    have HD := Lib.hid hd
    clear hd
    go_wp2_with fail
    refine (E2.out w1 HD.out).mono ?_
    rintro e w2 ⟨rfl, hg, hr⟩
    have HS2 := Lib.hid (HD.out.trans (since_mono (since_of_map hg) HD.out.size))
    clear hg hr
    go_wp2
    go_ret2
    exact ⟨rfl, HS2.out⟩

set_option maxHeartbeats 800000 in
theorem square_3 (a : Option Addr) (cap n : Nat) (l : List (List Int)) (x : Int) (ok : Bool) (w : World) (hn : l.length = n) (hsz : szL l ≤ 1048576) (hm : MatR w a l) (ht : sqB l = true → ∀ W', MatR W' a l → Calls Try.prog 129 #[.slice a n cap] W' (fun e w' => e = .returned (.tuple #[.int .i64 (if ok then x else 0), .bool ok]) ∧ W'.Since W'.heap.size w')) :
    Calls Try.prog 73 #[.slice a n cap, .int .i64 3] w (SpecW w (sqB l && ok) x) := by
  have E := isSquare_any a cap n l w hn hsz hm
  cases hs : sqB l with
  | false =>
    rw [hs] at E
    replace E := Lib.hid E
    clear hs hm hn hsz ht
    go_enter Try.func73, Try.ntmps73
    go_wp2_with fail
    refine (E.out).mono ?_
    rintro e w1 ⟨rfl, hd⟩
    have HD := Lib.hid hd
    clear hd
    go_wp2
    go_ret2
    exact ⟨rfl, HD.out⟩
  | true =>
    rw [hs] at E
    replace E := Lib.hid E
    have E2 := Lib.hid (fun (W : World) (hd : w.Since w.heap.size W) => roads_3 W.heap.size a n cap (if ok then x else 0) ok (W.alloc (.map #[] 0)) (roads_made W) (fun W' hg => ht hs W' (hm.since (hd.trans (since_mono (since_of_map hg) hd.size)))))
    clear hs hm hn hsz ht
    generalize hy : (if ok = true then x else 0) = y at E2
    have hmm := @run_makeMap Try.prog
    go_enter Try.func73, Try.ntmps73
    go_wp2_with fail
    refine (E.out).mono ?_
    rintro e w1 ⟨rfl, hd⟩
    have HD := Lib.hid hd
    clear hd
    go_wp2_with fail
    refine (E2.out w1 HD.out).mono ?_
    rintro e w2 ⟨rfl, hg, hr⟩
    have HS2 := Lib.hid (HD.out.trans (since_mono (since_of_map hg) HD.out.size))
    clear hg hr
    go_wp2
    go_ret2
    exact ⟨by rw [← hy]; cases ok <;> rfl, HS2.out⟩

end Go.Proofs.Ytkahgpgnfodpgaa
end

section
namespace Go.Proofs.Ytkahgpgnfodpgaa
open Go.RowKit Go.Deep

theorem OwnT.but {lo hi rb : Nat} {w w' : World} {a : Option Addr} {l : List (List Int)} (h : OwnT lo hi w a l) (hb : rb < lo) (hg : w.grownBy w' (some rb)) : MatR w' a l := by
  intro h0
  obtain ⟨b, A, G, C, e, hbl, hr, _⟩ := h h0
  have hc : ∀ (x k : Nat) (v : Value), lo ≤ x → w.cell? ⟨x, k, none⟩ = some v → w'.cell? ⟨x, k, none⟩ = some v := fun x k v hx hv =>
    (World.cell?_of_block (a := ⟨x, k, none⟩) (hg.block x (World.block_lt_of_cell? _ _ hv) (by intro e; injection e with e; omega))).trans hv
  refine ⟨b, 0, A, C, e, fun r hrl => ?_⟩
  obtain ⟨c1, c2⟩ := hr r hrl
  rw [Nat.zero_add]
  refine ⟨hc _ _ _ hbl.1 c1, fun hp => ?_⟩
  obtain ⟨eA, hG, c3⟩ := c2 hp
  exact ⟨G r, 0, eA, fun i hi => by rw [Nat.zero_add]; exact hc _ _ _ hG.1 (c3 i hi).1⟩

theorem since_map (w : World) : w.Since w.heap.size (w.alloc (.map #[] 0)) := (World.Since.refl w.heap.size w).alloc (Nat.le_refl _) _

def mnP (l : List (List Int)) (x : Nat × Nat) : Int := dt (popcS x.1) (at2 (partL l x.1 x.2))

set_option maxRecDepth 100000 in
set_option maxHeartbeats 1000000 in
theorem minor_any (a : Option Addr) (cap n m r c : Nat) (l : List (List Int)) (w : World) (hn : l.length = n) (hmm : (l.getD 0 []).length = m) (hT : TabIn l) (hr : r < 2 ^ n) (hc : c < 2 ^ m) (hpc : popcS r = popcS c) (hm : MatR w a l) :
    Calls Try.prog 112 #[.slice a n cap, .int .i64 r, .int .i64 c] w fun e w' => e = .returned (.int .i64 (mnP l (r, c))) ∧ w.Since w.heap.size w' := by
  have h6 := hT.2.1
  have hw := hT.width
  rw [hn] at h6
  rw [hmm] at hw
  have hp6 : 2 ^ n ≤ 2 ^ 6 := Nat.pow_le_pow_right (by omega) h6
  have hp6' : 2 ^ m ≤ 2 ^ 6 := Nat.pow_le_pow_right (by omega) hw.2
  have hsq := part_sq hT (s := r) (c := c) (by rw [hn]; exact hr) (by rw [hmm]; exact hc) hpc
  have EP := part_any a cap n r c l (w.alloc (.map #[] 0)) hn hT (by omega) (by omega) (hm.since (since_map w))
  rw [hsq.1] at EP
  have EV := fun (a2 : Option Addr) (c2 : Nat) (V : World) (h : MatR V a2 (partL l r c)) => byPivots_any (popcS r) (partL l r c) a2 c2 V hsq (popcS_le r) h
  have hv : mnP l (r, c) = dt (popcS r) (at2 (partL l r c)) := rfl
  rw [hv]
  obtain ⟨L, hL⟩ : ∃ L, L = partL l r c := ⟨_, rfl⟩
  obtain ⟨k, hk⟩ : ∃ k, k = popcS r := ⟨_, rfl⟩
  simp only [← hk] at EP EV ⊢
  simp only [← hL] at EP EV ⊢
  obtain ⟨x, hx⟩ : ∃ x, x = dt k (at2 L) := ⟨_, rfl⟩
  simp only [← hx] at EV ⊢
  replace EP := Lib.hid EP
  replace EV := Lib.hid EV
  have hmk := @run_makeMap Try.prog
  clear hn hmm hT hr hc hpc hm h6 hw hp6 hp6' hsq hv hL hk hx
  go_enter Try.func112, Try.ntmps112
  go_wp2_with fail
  refine (EP.out).mono ?_
  rintro e w3 ⟨a3, c3, rfl, hs3, ho3⟩
  have HR := Lib.hid ((roads_made w).kept (grown_of_since (row := none) hs3) (by simp))
  have HS3 := Lib.hid ((since_map w).trans (since_mono hs3 (by simp)))
  have HA := Lib.hid (anyValue_of w.heap.size a3 k c3 x w3 HR.out (fun W' hg => EV.out a3 c3 W' (ho3.but (rb := w.heap.size) (by simp) hg)))
  have HSP := Lib.hid (fun (w4 : World) (hg : w3.grownBy w4 (some w.heap.size)) => (show w.Since w.heap.size w4 from ⟨hg.os.trans HS3.out.os, hg.tape.trans HS3.out.tape, hg.output.trans HS3.out.output, Nat.le_trans HS3.out.size hg.size, fun j hj => (hg.block j (Nat.lt_of_lt_of_le hj HS3.out.size) (by intro e; injection e with e; omega)).trans (HS3.out.block j hj)⟩))
  clear hs3 ho3
  go_wp2_with fail
  refine (HA.out).mono ?_
  rintro e w4 ⟨rfl, hg, hr⟩
  have HS4 := Lib.hid (HSP.out w4 hg)
  clear hg hr
  go_wp2
  go_ret
  exact ⟨rfl, HS4.out⟩

end Go.Proofs.Ytkahgpgnfodpgaa
end

section
namespace Go.Proofs.Ytkahgpgnfodpgaa
open Go.RowKit Go.Deep

def prow (k m : Nat) (r : Nat) : List (Nat × Nat) := (setsTo k (2 ^ m)).map fun c => (r, c)
def partsK (k n m : Nat) : List (Nat × Nat) := (setsTo k (2 ^ n)).flatMap (prow k m)
def partsTo (n m : Nat) : Nat → List (Nat × Nat)
  | 0 => []
  | j + 1 => partsTo n m j ++ partsK (j + 1) n m
def partsA (n m : Nat) : List (Nat × Nat) := partsTo n m (min n m)
theorem partsK_mem {k n m : Nat} {x : Nat × Nat} : x ∈ partsK k n m ↔ (x.1 < 2 ^ n ∧ popcS x.1 = k) ∧ (x.2 < 2 ^ m ∧ popcS x.2 = k) := by
  unfold partsK prow
  rw [List.mem_flatMap]
  constructor
  · rintro ⟨r, hr, hx⟩
    rw [List.mem_map] at hx
    obtain ⟨c, hc, rfl⟩ := hx
    exact ⟨(setsTo_mem k).1 hr, (setsTo_mem k).1 hc⟩
  · rintro ⟨h1, h2⟩
    exact ⟨x.1, (setsTo_mem k).2 h1, List.mem_map.2 ⟨x.2, (setsTo_mem k).2 h2, rfl⟩⟩
theorem partsTo_mem {n m : Nat} {x : Nat × Nat} : ∀ j, x ∈ partsTo n m j ↔ 1 ≤ popcS x.1 ∧ popcS x.1 ≤ j ∧ popcS x.1 = popcS x.2 ∧ x.1 < 2 ^ n ∧ x.2 < 2 ^ m
  | 0 => by
    show x ∈ [] ↔ _
    simp only [List.not_mem_nil, false_iff]
    omega
  | j + 1 => by
    show x ∈ partsTo n m j ++ partsK (j + 1) n m ↔ _
    rw [List.mem_append, partsTo_mem j, partsK_mem]
    omega
theorem popcP_fin : ∀ n : Fin 7, ∀ s : Fin 64, s.val < 2 ^ n.val → popcS s.val ≤ n.val := by decide +kernel
theorem popcP_pos_fin : ∀ s : Fin 64, s.val ≠ 0 → 1 ≤ popcS s.val := by decide +kernel
theorem popcP_le {n s : Nat} (h6 : n ≤ 6) (h : s < 2 ^ n) : popcS s ≤ n := by
  have p1 : 2 ^ n ≤ 2 ^ 6 := Nat.pow_le_pow_right (by omega) h6
  exact popcP_fin ⟨n, by omega⟩ ⟨s, by omega⟩ h
theorem popcP_pos {n s : Nat} (h6 : n ≤ 6) (h : s < 2 ^ n) (h0 : s ≠ 0) : 1 ≤ popcS s := by
  have p1 : 2 ^ n ≤ 2 ^ 6 := Nat.pow_le_pow_right (by omega) h6
  exact popcP_pos_fin ⟨s, by omega⟩ h0
theorem popcP_zero : popcS 0 = 0 := by decide
theorem partsA_mem {n m : Nat} (hn : n ≤ 6) (hm : m ≤ 6) {x : Nat × Nat} : x ∈ partsA n m ↔ x.1 ≠ 0 ∧ popcS x.1 = popcS x.2 ∧ x.1 < 2 ^ n ∧ x.2 < 2 ^ m := by
  unfold partsA
  rw [partsTo_mem]
  constructor
  · rintro ⟨h1, _, h2, h3, h4⟩
    exact ⟨fun e => by rw [e, popcP_zero] at h1; omega, h2, h3, h4⟩
  · rintro ⟨h1, h2, h3, h4⟩
    have := popcP_pos hn h3 h1
    have := popcP_le hn h3
    have := popcP_le hm h4
    exact ⟨by omega, by omega, h2, h3, h4⟩
def leastB (l : List (List Int)) (q : Int) (ps : List (Nat × Nat)) : Bool := ps.all fun x => decide (q ≤ mnP l x)
theorem leastB_snoc (l : List (List Int)) (q : Int) (ps : List (Nat × Nat)) (x : Nat × Nat) : leastB l q (ps ++ [x]) = (leastB l q ps && decide (q ≤ mnP l x)) := by
  unfold leastB; rw [List.all_append]; simp
theorem leastB_iff {l : List (List Int)} {q : Int} {ps : List (Nat × Nat)} : leastB l q ps = true ↔ ∀ x ∈ ps, q ≤ mnP l x := by
  unfold leastB; rw [List.all_eq_true]; simp
theorem leastB_no {l : List (List Int)} {q : Int} {ps : List (Nat × Nat)} {x : Nat × Nat} (hx : x ∈ ps) (h : mnP l x < q) : leastB l q ps = false := by
  cases e : leastB l q ps with
  | false => rfl
  | true => have := leastB_iff.1 e x hx; omega
def runS (f k : Nat) : Nat := (2 ^ k - 1) * 2 ^ f
theorem runS_fin : ∀ k f : Fin 7, k.val + f.val ≤ 6 → popcS (runS f.val k.val) = k.val ∧ runS f.val k.val < 2 ^ (k.val + f.val) ∧ (k.val ≠ 0 → runS f.val k.val ≠ 0) := by decide +kernel
def firstRow (m i : Nat) : List (Nat × Nat) := (List.range m).map fun k => (runS (i + 1 - (min i k + 1)) (min i k + 1), runS (k + 1 - (min i k + 1)) (min i k + 1))
def partsF (n m : Nat) : List (Nat × Nat) := (List.range n).flatMap (firstRow m)
theorem partsF_mem {n m : Nat} {x : Nat × Nat} : x ∈ partsF n m ↔ ∃ i k, i < n ∧ k < m ∧ x = (runS (i + 1 - (min i k + 1)) (min i k + 1), runS (k + 1 - (min i k + 1)) (min i k + 1)) := by
  unfold partsF firstRow
  rw [List.mem_flatMap]
  constructor
  · rintro ⟨i, hi, hx⟩
    rw [List.mem_map] at hx
    obtain ⟨k, hk, rfl⟩ := hx
    exact ⟨i, k, List.mem_range.1 hi, List.mem_range.1 hk, rfl⟩
  · rintro ⟨i, k, hi, hk, rfl⟩
    exact ⟨i, List.mem_range.2 hi, List.mem_map.2 ⟨k, List.mem_range.2 hk, rfl⟩⟩
theorem first_part {n m i k : Nat} (hn : n ≤ 6) (hm : m ≤ 6) (hi : i < n) (hk : k < m) : popcS (runS (i + 1 - (min i k + 1)) (min i k + 1)) = min i k + 1 ∧ popcS (runS (k + 1 - (min i k + 1)) (min i k + 1)) = min i k + 1 ∧ runS (i + 1 - (min i k + 1)) (min i k + 1) < 2 ^ n ∧ runS (k + 1 - (min i k + 1)) (min i k + 1) < 2 ^ m ∧ runS (i + 1 - (min i k + 1)) (min i k + 1) ≠ 0 := by
  have h1 := runS_fin ⟨min i k + 1, by omega⟩ ⟨i + 1 - (min i k + 1), by omega⟩ (by simp only; omega)
  have h2 := runS_fin ⟨min i k + 1, by omega⟩ ⟨k + 1 - (min i k + 1), by omega⟩ (by simp only; omega)
  simp only at h1 h2
  have e1 : min i k + 1 + (i + 1 - (min i k + 1)) = i + 1 := by omega
  have e2 : min i k + 1 + (k + 1 - (min i k + 1)) = k + 1 := by omega
  rw [e1] at h1
  rw [e2] at h2
  have p1 : 2 ^ (i + 1) ≤ 2 ^ n := Nat.pow_le_pow_right (by omega) (by omega)
  have p2 : 2 ^ (k + 1) ≤ 2 ^ m := Nat.pow_le_pow_right (by omega) (by omega)
  exact ⟨h1.1, h2.1, by omega, by omega, h1.2.2 (by omega)⟩
theorem partsF_ok {n m : Nat} (hn : n ≤ 6) (hm : m ≤ 6) {x : Nat × Nat} (hx : x ∈ partsF n m) : popcS x.1 = popcS x.2 ∧ x.1 < 2 ^ n ∧ x.2 < 2 ^ m ∧ x.1 ≠ 0 := by
  obtain ⟨i, k, hi, hk, rfl⟩ := partsF_mem.1 hx
  obtain ⟨h1, h2, h3, h4, h5⟩ := first_part hn hm hi hk
  exact ⟨h1.trans h2.symm, h3, h4, h5⟩
theorem partsF_len (n m : Nat) : (partsF n m).length = n * m := by
  unfold partsF firstRow
  rw [List.length_flatMap]
  simp only [List.length_map, List.length_range]
  induction n with
  | zero => simp
  | succ n ih => rw [List.range_succ, List.map_append, List.sum_append, ih, Nat.succ_mul]; simp
theorem prow_len (k m r : Nat) : (prow k m r).length ≤ 2 ^ m := by unfold prow; rw [List.length_map]; exact setsTo_len k _

end Go.Proofs.Ytkahgpgnfodpgaa
end

section
namespace Go.Proofs.Ytkahgpgnfodpgaa
open Go.RowKit Go.Deep Go.Shelf
attribute [local go_sem] Oper.semAt_some

def OldT (n₀ : Nat) (w0 W : World) : Prop := ∀ k, k < n₀ → W.heap[k]? = w0.heap[k]?
theorem OldT.cell {n₀ : Nat} {w0 W : World} (h : OldT n₀ w0 W) {a : Addr} (ha : a.block < n₀) : W.cell? a = w0.cell? a := World.cell?_of_block (h _ ha)
theorem OldT.grown {n₀ : Nat} {w0 X Y : World} {row : Option Nat} (h : OldT n₀ w0 X) (hz : n₀ ≤ X.heap.size) (hg : X.grownBy Y row) (hr : ∀ r, row = some r → n₀ ≤ r) : OldT n₀ w0 Y :=
  fun k hk => (hg.block k (by omega) (fun e => by have := hr k e.symm; omega)).trans (h k hk)
theorem OldT.keeps {n₀ : Nat} {w0 X Y : World} {own : Nat → Prop} (h : OldT n₀ w0 X) (hz : n₀ ≤ X.heap.size) (hk : Keeps own X Y) (ho : ∀ k, own k → n₀ ≤ k) : OldT n₀ w0 Y := fun k hlt => by
  have hx : k < X.heap.size := by omega
  have e := hk.same k X.heap[k] (fun o => by have := ho k o; omega) (Array.getElem?_eq_getElem hx)
  rw [e, ← h k hlt]
  exact (Array.getElem?_eq_getElem hx).symm
theorem MatR.oldT {w0 W : World} {a : Option Addr} {l : List (List Int)} (h : MatR w0 a l) (ho : OldT w0.heap.size w0 W) : MatR W a l := by
  intro h0
  obtain ⟨b, o, A, C, e, hc⟩ := h h0
  refine ⟨b, o, A, C, e, fun r hr => ?_⟩
  obtain ⟨c1, c2⟩ := hc r hr
  refine ⟨(ho.cell (World.block_lt_of_cell? _ _ c1)).trans c1, fun hp => ?_⟩
  obtain ⟨b', o', e', c3⟩ := c2 hp
  exact ⟨b', o', e', fun i hi => (ho.cell (World.block_lt_of_cell? _ _ (c3 i hi))).trans (c3 i hi)⟩
theorem Keeps.fromB {own : Nat → Prop} {A X Y : World} {row : Option Nat} (h : Keeps own A X) (hg : X.grownBy Y row) (hr : ∀ r, row = some r → A.heap.size ≤ r) : Keeps own A Y :=
  ⟨Nat.le_trans h.size hg.size, fun k o hk ho => (hg.block k (Array.getElem?_eq_some_iff.1 (h.same k o hk ho)).1 (fun e => by have := hr k e.symm; have := (Array.getElem?_eq_some_iff.1 ho).1; omega)).trans (h.same k o hk ho)⟩
theorem boxed_put {W : World} {B l : Nat} {t : TypeId} {v : Value} {o o' : Obj} (h : Boxed W B t v) (hl : W.heap[l]? = some o) (ho : o.isCells = false) : Boxed (W.putObj l o') B t v :=
  h.kept (grownBy_putObj' W l o') (fun e => by
    have e' : B = l := by injection e
    subst e'
    have h' : W.heap[B]? = _ := h
    rw [h'] at hl
    cases hl
    cases ho)

structure KB (n₀ : Nat) (w0 : World) (Bt Bk By lp : Nat) (a : Option Addr) (n cap : Nat) (k : Nat) (X : World) : Prop where
  bt : X.cell? ⟨Bt, 0, none⟩ = some (.slice a n cap)
  bk : X.cell? ⟨Bk, 0, none⟩ = some (.int .i64 (k : Int))
  yb : X.cell? ⟨By, 0, none⟩ = some (.func (.yield lp) #[] #[])
  old : OldT n₀ w0 X
theorem cell_own {X Y : World} {row : Option Nat} {b B : Nat} {v : Value} (h : X.cell? ⟨b, 0, none⟩ = some v) (hb : b < B) (hg : X.grownBy Y row) (hr : ∀ r, row = some r → B ≤ r) : Y.cell? ⟨b, 0, none⟩ = some v :=
  (World.cell?_of_block (a := ⟨b, 0, none⟩) (hg.block b (World.block_lt_of_cell? _ _ h) (fun e => by have := hr b e.symm; omega))).trans h
theorem KB.grown {n₀ : Nat} {w0 : World} {Bt Bk By lp : Nat} {a : Option Addr} {n cap k : Nat} {X Y : World} {row : Option Nat} {B : Nat} (h : KB n₀ w0 Bt Bk By lp a n cap k X) (hz : n₀ ≤ X.heap.size) (h1 : n₀ ≤ B ∧ Bt < B ∧ Bk < B ∧ By < B) (hg : X.grownBy Y row) (hr : ∀ r, row = some r → B ≤ r) : KB n₀ w0 Bt Bk By lp a n cap k Y :=
  ⟨cell_own h.bt h1.2.1 hg hr, cell_own h.bk h1.2.2.1 hg hr, cell_own h.yb h1.2.2.2 hg hr, h.old.grown hz hg (fun r e => by have := hr r e; omega)⟩
theorem KB.keeps {n₀ : Nat} {w0 : World} {Bt Bk By lp : Nat} {a : Option Addr} {n cap k : Nat} {X Y : World} {own : Nat → Prop} (h : KB n₀ w0 Bt Bk By lp a n cap k X) (hz : n₀ ≤ X.heap.size) (hk : Keeps own X Y) (ho : ∀ q, own q → n₀ ≤ q ∧ q ≠ Bt ∧ q ≠ Bk ∧ q ≠ By) : KB n₀ w0 Bt Bk By lp a n cap k Y :=
  ⟨hk.cell (a := ⟨Bt, 0, none⟩) (fun e => (ho _ e).2.1 rfl) h.bt, hk.cell (a := ⟨Bk, 0, none⟩) (fun e => (ho _ e).2.2.1 rfl) h.bk, hk.cell (a := ⟨By, 0, none⟩) (fun e => (ho _ e).2.2.2 rfl) h.yb, h.old.keeps hz hk (fun q e => (ho q e).1)⟩

theorem grown_drewP {a b : World} {row : Option Nat} (h : a.grownBy b row) : a.grownBy b.drew row := ⟨h.os, h.tape, h.output, h.size, h.block⟩
def encP (x : Nat × Nat) : Array Value := #[.int .i64 (x.1 : Int), .int .i64 (x.2 : Int)]

theorem kthParts_in (f : Nat) (a : Option Addr) (n cap : Nat) (k : Int) (w : World) :
    CallsIn Fence.wide f Try.prog 132 #[.slice a n cap, .int .i64 k] w fun e w' => e = .returned (.func (.func 148) #[] #[.pointer (some ⟨w.heap.size, 0, none⟩), .pointer (some ⟨w.heap.size + 1, 0, none⟩)]) ∧ w' = (w.alloc (.cells #[.slice a n cap] 65)).alloc (.cells #[.int .i64 k] 3) := by
  refine callsIn_of_wp Try.func132 rfl trivial ?_ rfl
  simp only [Try.ntmps132, List.size_toArray, List.length_cons, List.length_nil, Nat.reduceAdd, Nat.reduceSub, Array.replicate_succ, Array.replicate_zero, List.push_toArray, List.append_toArray, List.nil_append, List.cons_append]
  gi_wp2
  go_ret
  exact ⟨rfl, by simp⟩

theorem flat_len (k m : Nat) (hm : m ≤ 6) : ∀ rs : List Nat, (rs.flatMap (prow k m)).length ≤ rs.length * 64
  | [] => by simp
  | r :: rs => by
    have h1 := flat_len k m hm rs
    have h2 := prow_len k m r
    have p : 2 ^ m ≤ 2 ^ 6 := Nat.pow_le_pow_right (by omega) hm
    rw [List.flatMap_cons, List.length_append, List.length_cons, Nat.succ_mul]
    omega
theorem flat_snoc (k m : Nat) (rs : List Nat) (r : Nat) : (rs ++ [r]).flatMap (prow k m) = rs.flatMap (prow k m) ++ prow k m r := by simp

set_option maxRecDepth 100000 in
set_option maxHeartbeats 2000000 in
theorem kth_seqE (f : Nat) (hf : 12 ≤ f) (Bt Bk n m cap k : Nat) (a : Option Addr) (l : List (List Int)) (w0 w : World) (hn : l.length = n) (hT : TabIn l) (hmm : (l.getD 0 []).length = m) (hm : MatR w0 a l) (hold : OldT w0.heap.size w0 w) (_hz0 : w0.heap.size ≤ w.heap.size) (hBt : w0.heap.size ≤ Bt) (hBk : w0.heap.size ≤ Bk) (ct : w.cell? ⟨Bt, 0, none⟩ = some (.slice a n cap)) (ck : w.cell? ⟨Bk, 0, none⟩ = some (.int .i64 (k : Int))) :
    SeqE Fence.wide f Try.prog 148 #[.pointer (some ⟨Bt, 0, none⟩), .pointer (some ⟨Bk, 0, none⟩)] encP (fun x _ => x ∈ partsK k n m) (fun q => q < w0.heap.size ∨ q = Bt ∨ q = Bk) (fun ys => ys = partsK k n m) (fun _ => True) 4096 w := by
  intro lp J Jx own W hW hown hJ hJx hY hj
  have h6 := hT.2.1
  have h1 := hT.1
  have hw := hT.width
  rw [hn] at h6 h1
  rw [hmm] at hw
  have lt := World.block_lt_of_cell? _ _ ct
  have lk := World.block_lt_of_cell? _ _ ck
  simp only at lt lk
  have c1 := (hW.cell (p := ⟨Bt, 0, none⟩) lt).trans ct
  have c2 := (hW.cell (p := ⟨Bk, 0, none⟩) lk).trans ck
  have hWz := hW.size
  have hOW : OldT w0.heap.size w0 W := fun q hq => (hW.block q (by omega)).trans (hold q hq)
  have hso : ∀ q, own q → w0.heap.size ≤ q ∧ q ≠ Bt ∧ q ≠ Bk ∧ q < W.heap.size := fun q hq => by
    obtain ⟨g1, g2⟩ := hown q hq
    exact ⟨by
      by_cases e : q < w0.heap.size
      · exact absurd (.inl e) g2
      · omega, fun e => g2 (.inr (.inl e)), fun e => g2 (.inr (.inr e)), g1⟩
  have EW := fun (V : World) (h : OldT w0.heap.size w0 V) => width_any a cap n l V hn (by omega) (by omega) (hm.oldT h)
  rw [hmm] at EW
  replace EW := Lib.hid EW
  have p6 : 2 ^ n ≤ 2 ^ 6 := Nat.pow_le_pow_right (by omega) h6
  have p6' : 2 ^ m ≤ 2 ^ 6 := Nat.pow_le_pow_right (by omega) hw.2
  clear hold ct ck hm hmm hT
  refine callsIn_of_wp_marks Try.func148 rfl trivial ?_ rfl
  simp only [Try.ntmps148, List.size_toArray, List.length_cons, List.length_nil, Nat.reduceAdd, Nat.reduceSub, Array.replicate_succ, Array.replicate_zero, List.push_toArray, List.append_toArray, List.nil_append, List.cons_append]
  have c1 : (W.alloc (.cells #[.func (.yield lp) #[] #[]] 81)).cell? ⟨Bt, 0, none⟩ = _ := cell_alloc_l _ c1
  have c2 : (W.alloc (.cells #[.func (.yield lp) #[] #[]] 81)).cell? ⟨Bk, 0, none⟩ = _ := cell_alloc_l _ c2
  have y0 : (W.alloc (.cells #[.func (.yield lp) #[] #[]] 81)).cell? ⟨W.heap.size, 0, none⟩ = _ := (cell_new_l W _ _).1
  gi_wp2_with (refine ⟨trivial, fun _ => by omega, ?_⟩; gi_at_call 149; refine (sets_in _ _ _ _).mono ?_; rintro e w' ⟨rfl, rfl⟩)
  have hbn := (cell_new_l (W.alloc (.cells #[.func (.yield lp) #[] #[]] 81)) (.int .i64 n) 3).1
  have c3 := cell_alloc_l (.cells #[.int .i64 (k : Int)] 3) (cell_alloc_l (.cells #[.int .i64 (n : Int)] 3) c1)
  have c4 := cell_alloc_l (.cells #[.int .i64 (k : Int)] 3) (cell_alloc_l (.cells #[.int .i64 (n : Int)] 3) c2)
  have y3 := cell_alloc_l (.cells #[.int .i64 (k : Int)] 3) (cell_alloc_l (.cells #[.int .i64 (n : Int)] 3) y0)
  have hbn := cell_alloc_l (.cells #[.int .i64 (k : Int)] 3) hbn
  have hbk := (cell_new_l ((W.alloc (.cells #[.func (.yield lp) #[] #[]] 81)).alloc (.cells #[.int .i64 (n : Int)] 3)) (.int .i64 (k : Int)) 3).1
  have hg2 := ((World.grownBy_alloc W (.cells #[.func (.yield lp) #[] #[]] 81) none).trans (World.grownBy_alloc _ (.cells #[.int .i64 (n : Int)] 3) none)).trans (World.grownBy_alloc _ (.cells #[.int .i64 (k : Int)] 3) none)
  have hjV := hJ.alloc (.cells #[.int .i64 (k : Int)] 3) (hJ.alloc (.cells #[.int .i64 (n : Int)] 3) (hJ.alloc (.cells #[.func (.yield lp) #[] #[]] 81) hj))
  have zV : (((W.alloc (.cells #[.func (.yield lp) #[] #[]] 81)).alloc (.cells #[.int .i64 (n : Int)] 3)).alloc (.cells #[.int .i64 (k : Int)] 3)).heap.size = W.heap.size + 3 := by simp
  simp only [World.size_alloc] at hbn hbk
  obtain ⟨V, hV⟩ : ∃ V, ((W.alloc (.cells #[.func (.yield lp) #[] #[]] 81)).alloc (.cells #[.int .i64 (n : Int)] 3)).alloc (.cells #[.int .i64 (k : Int)] 3) = V := ⟨_, rfl⟩
  rw [hV] at hbn hbk c3 c4 y3 hg2 hjV zV ⊢
  clear hV c1 c2 y0
  have hKV : KB w0.heap.size w0 Bt Bk W.heap.size lp a n cap k V := ⟨c3, c4, y3, hOW.grown (by omega) hg2 (fun r e => by cases e)⟩
  have hB : ∀ X : World, V.heap.size ≤ X.heap.size → w0.heap.size ≤ X.heap.size := fun X h => by omega
  have hBB : w0.heap.size ≤ V.heap.size ∧ Bt < V.heap.size ∧ Bk < V.heap.size ∧ W.heap.size < V.heap.size := by omega
  have hso4 : ∀ q, own q → w0.heap.size ≤ q ∧ q ≠ Bt ∧ q ≠ Bk ∧ q ≠ W.heap.size := fun q hq => by have := hso q hq; omega
  refine rangeF (F := Fence.wide) (n := f) rfl (by omega) (gf := 158) (lb := #[.pointer (some ⟨W.heap.size + 1, 0, none⟩), .pointer (some ⟨W.heap.size + 1 + 1, 0, none⟩)]) rfl trivial (enters_of Try.func158 (by kernel_rfl) rfl)
    (sets_seqE (f - 1) (by omega) (W.heap.size + 1) (W.heap.size + 1 + 1) n k (2 ^ n) h6 rfl V (by omega) (by omega) hbn hbk) (fun _ => rfl) own (fun q hq => ⟨by have := hso q hq; omega, by have := hso q hq; omega⟩) (by rintro q (rfl | rfl) <;> omega)
    (fun (rs : List Nat) X => J (rs.flatMap (prow k m)) X ∧ KB w0.heap.size w0 Bt Bk W.heap.size lp a n cap k X ∧ V.heap.size ≤ X.heap.size)
    (fun c _ X => c = .ret ∧ ∃ q, Jx q X)
    (fun rs X Y row hs hg hr => ⟨hJ _ X Y row hs.1 hg (fun r e => by have := hr r e; omega), hs.2.1.grown (hB _ hs.2.2) hBB hg hr, Nat.le_trans hs.2.2 hg.size⟩)
    (fun c rs X Y row hs hg hr => ⟨hs.1, by
      obtain ⟨q, hq⟩ := hs.2
      exact ⟨q, hJx _ X Y row hq hg (fun r e => by have := hr r e; omega)⟩⟩)
    ⟨hjV, hKV, Nat.le_refl _⟩
    (fun x a' X => ∃ Bx, V.heap.size ≤ Bx ∧ Boxed X Bx 3 (.int .i64 (x : Int)) ∧ a' = { tmps := #[.func (.yield lp) #[] #[], .pointer (some ⟨Bt, 0, none⟩), .pointer (some ⟨Bk, 0, none⟩), .pointer (some ⟨W.heap.size, 0, none⟩), .pointer (some ⟨Bx, 0, none⟩), undef, .slice a n cap, .int .i64 n, .int .i64 k, .func (.func 158) #[] #[.pointer (some ⟨W.heap.size + 1, 0, none⟩), .pointer (some ⟨W.heap.size + 1 + 1, 0, none⟩)], .int .i64 (x : Int), undef, undef, undef, undef, undef, undef, undef, undef, undef, undef], defers := [] })
    (fun x a' X lq o o' hA hl ho => by obtain ⟨Bx, e1, e2, e3⟩ := hA; exact ⟨Bx, e1, boxed_put e2 hl ho, e3⟩)
    ?assign ?body ?done ?stop
  case assign =>
    rintro lq rs x X K hzX hi _ hK
    gi_wp2
    exact hK _ _ (Keeps.grown (World.grownBy_alloc _ _ none) (fun r e => by cases e)) ⟨hJ.alloc _ hi.1, hi.2.1.grown (hB _ hi.2.2) hBB (World.grownBy_alloc _ _ none) (fun r e => by cases e), by rw [World.size_alloc]; have := hi.2.2; omega⟩ ⟨X.heap.size, hi.2.2, Boxed.new X 3 _, rfl⟩
  case body =>
    rintro lq rs x a' X hlq hzX ⟨r, hr⟩ ⟨hjx, hKX, _⟩ ⟨hxl, hxk⟩ ⟨Bx, hBx, bX, rfl⟩ hlen
    have hmix : Try.prog.follows .mixedOrders = true := by kernel_rfl
    have cT : X.drew.cell? ⟨Bt, 0, none⟩ = _ := hKX.bt
    have cK : X.drew.cell? ⟨Bk, 0, none⟩ = _ := hKX.bk
    have hbx := bX.lt
    have HKX := Lib.hid hKX
    gi_wp2
    gi_region_with_o (first
      | (refine ⟨trivial, fun _ => by omega, ?_⟩; gi_at_call 96; refine (CallsIn.inRound lq (callsIn_wide.2 (EW.out X.drew HKX.out.old))).mono ?_; rintro e w' ⟨rfl, rfl⟩)
      | (refine ⟨trivial, fun _ => by omega, ?_⟩; gi_at_call 149; refine (CallsIn.inRound lq (sets_in _ _ _ _)).mono ?_; rintro e w' ⟨rfl, rfl⟩))
    all_goals
      gi_wp2
      have hgV : X.grownBy ((X.alloc (.cells #[.int .i64 (m : Int)] 3)).alloc (.cells #[.int .i64 (k : Int)] 3)).drew none := grown_drewP ((World.grownBy_alloc X (.cells #[.int .i64 (m : Int)] 3) none).trans (World.grownBy_alloc _ (.cells #[.int .i64 (k : Int)] 3) none))
      have bN2 : ((X.alloc (.cells #[.int .i64 (m : Int)] 3)).alloc (.cells #[.int .i64 (k : Int)] 3)).drew.cell? ⟨X.heap.size, 0, none⟩ = some (.int .i64 (m : Int)) := cell_alloc_l (.cells #[.int .i64 (k : Int)] 3) (cell_new_l X (.int .i64 (m : Int)) 3).1
      have bK2 : ((X.alloc (.cells #[.int .i64 (m : Int)] 3)).alloc (.cells #[.int .i64 (k : Int)] 3)).drew.cell? ⟨X.heap.size + 1, 0, none⟩ = some (.int .i64 (k : Int)) := by
        have := (cell_new_l (X.alloc (.cells #[.int .i64 (m : Int)] 3)) (.int .i64 (k : Int)) 3).1
        rw [World.size_alloc] at this
        exact this
      have zX : ((X.alloc (.cells #[.int .i64 (m : Int)] 3)).alloc (.cells #[.int .i64 (k : Int)] 3)).drew.heap.size = X.heap.size + 2 := by
        show ((X.alloc (.cells #[.int .i64 (m : Int)] 3)).alloc (.cells #[.int .i64 (k : Int)] 3)).heap.size = _
        simp
      obtain ⟨U, hU⟩ : ∃ U, ((X.alloc (.cells #[.int .i64 (m : Int)] 3)).alloc (.cells #[.int .i64 (k : Int)] 3)).drew = U := ⟨_, rfl⟩
      rw [hU] at bN2 bK2 hgV zX ⊢
      clear hU cT cK
      have hrU : U.heap[lq]? = some (.loop r) := (hgV.block lq (Array.getElem?_eq_some_iff.1 hr).1 (by simp)).trans hr
      have hKU := hKX.grown (hB _ hzX) hBB hgV (fun r e => by cases e)
      have hBU : w0.heap.size ≤ U.heap.size ∧ Bt < U.heap.size ∧ Bk < U.heap.size ∧ W.heap.size < U.heap.size := by omega
      have hfl := flat_len k m hw.2 rs
      refine rangeN (F := Fence.wide.inRound lq) (n := f - 1 - 1) (l₀ := lq) (r₀ := r) rfl hrU (by omega) (gf := 158) (lb := #[.pointer (some ⟨X.heap.size, 0, none⟩), .pointer (some ⟨X.heap.size + 1, 0, none⟩)]) rfl trivial (enters_of Try.func158 (by kernel_rfl) rfl)
        (SeqE.inRound lq (sets_seqE (f - 1 - 1 - 1) (by omega) X.heap.size (X.heap.size + 1) m k (2 ^ m) hw.2 rfl U (by omega) (by omega) bN2 bK2)) (fun _ => rfl) own (fun q hq => ⟨by have := hso q hq; omega, by have := hso q hq; omega⟩) (by rintro q (rfl | rfl) <;> omega)
        (fun (cs : List Nat) Y => (J (rs.flatMap (prow k m) ++ cs.map (fun c => (x, c))) Y ∧ KB w0.heap.size w0 Bt Bk W.heap.size lp a n cap k Y ∧ Boxed Y Bx 3 (.int .i64 (x : Int))) ∧ Keeps own X Y ∧ U.heap.size ≤ Y.heap.size)
        (fun c _ Y => c = .ret ∧ (∃ q, Jx q Y) ∧ Keeps own X Y)
        (fun cs Y Z row hs hg hr => ⟨⟨hJ _ Y Z row hs.1.1 hg (fun r e => by have := hr r e; omega), hs.1.2.1.grown (by have := hs.2.2; omega) hBU hg hr, hs.1.2.2.kept hg (fun e => by have := hr _ e.symm; omega)⟩, hs.2.1.fromB hg (fun r e => by have := hr r e; omega), Nat.le_trans hs.2.2 hg.size⟩)
        (fun c cs Y Z row hs hg hr => ⟨hs.1, by
          obtain ⟨q, hq⟩ := hs.2.1
          exact ⟨q, hJx _ Y Z row hq hg (fun r e => by have := hr r e; omega)⟩, hs.2.2.fromB hg (fun r e => by have := hr r e; omega)⟩)
        ⟨⟨by rw [List.map_nil, List.append_nil]; exact hJ _ X U none hjx hgV (fun r e => by cases e), hKU, bX.kept hgV (by simp)⟩, Keeps.grown hgV (fun r e => by cases e), Nat.le_refl _⟩
        (fun y a'' _ => a'' = { tmps := #[.func (.yield lp) #[] #[], .pointer (some ⟨Bt, 0, none⟩), .pointer (some ⟨Bk, 0, none⟩), .pointer (some ⟨W.heap.size, 0, none⟩), .pointer (some ⟨Bx, 0, none⟩), .int .i64 (y : Int), .slice a n cap, .int .i64 n, .int .i64 k, .func (.func 158) #[] #[.pointer (some ⟨W.heap.size + 1, 0, none⟩), .pointer (some ⟨W.heap.size + 1 + 1, 0, none⟩)], .int .i64 (x : Int), .slice a n cap, .int .i64 m, .int .i64 k, .func (.func 158) #[] #[.pointer (some ⟨X.heap.size, 0, none⟩), .pointer (some ⟨X.heap.size + 1, 0, none⟩)], .int .i64 (y : Int), undef, undef, undef, undef, undef], defers := [] })
        (fun _ _ _ _ _ _ hA _ _ => hA)
        ?assign2 ?body2 ?done2 ?stop2
      case assign2 =>
        rintro l3 cs y Y K _ hi _ hK
        gi_wp2
        exact hK _ _ (Keeps.refl _ _) hi rfl
      case body2 =>
        rintro l3 cs y a'' Y hl3 hzY _ ⟨⟨hjy, hKY, bY⟩, hkY, _⟩ ⟨hyl, hyk⟩ rfl hlen2
        have cX := bY.cell
        have cY := hKY.yb
        have hl4 : (rs.flatMap (prow k m) ++ cs.map (fun c => (x, c))).length < 4096 := by
          rw [List.length_append, List.length_map]
          have : rs.length * 64 ≤ 63 * 64 := Nat.mul_le_mul_right 64 (by omega)
          omega
        obtain ⟨fn, tmps, assign, body, hy, hR⟩ := yieldAt_any (m' := f - 1 - 1 - 1 - 1 - 1) (hY _ (x, y) Y hjy (partsK_mem.2 ⟨⟨hxl, hxk⟩, hyl, hyk⟩) hl4)
        dsimp only [encP] at hy
        have HKEEP := Lib.hid (show ∀ Z, Keeps own Y Z → Keeps own X Z ∧ KB w0.heap.size w0 Bt Bk W.heap.size lp a n cap k Z ∧ Boxed Z Bx 3 (.int .i64 (x : Int)) ∧ U.heap.size ≤ Z.heap.size from fun Z hk =>
          ⟨hkY.trans hk, hKY.keeps (by omega) hk hso4, hk.same _ _ (fun h => by have := hso _ h; omega) bY, by have := hk.size; omega⟩)
        clear hjy hKY bY hkY
        gi_wp2
        refine ⟨fun h => by omega, ?_⟩
        refine RoundIn.mono (F := (Fence.wide.inRound lq).inRound l3) hR ?_
        rintro e W3 (⟨rfl, hJ3, hk3⟩ | ⟨rfl, hx3, hk3⟩)
        · obtain ⟨q1, q2, q3, q4⟩ := HKEEP.out _ hk3
          gi_wp2
          exact ⟨hk3, ⟨⟨by rw [List.map_append, ← List.append_assoc]; exact hJ3, q2, q3⟩, q1, q4⟩⟩
        · obtain ⟨q1, q2, q3, q4⟩ := HKEEP.out _ hk3
          gi_wp2
          exact ⟨hk3, rfl, ⟨_, hx3⟩, q1⟩
      case done2 =>
        rintro cs Y rfl ⟨⟨hjy, hKY, bY⟩, hkY, hzY⟩
        gi_wp2
        exact ⟨hkY, by rw [flat_snoc]; exact hjy, hKY, by omega⟩
      case stop2 =>
        rintro c cs Y _ ⟨rfl, hq, hkY⟩
        gi_wp2
        exact ⟨hkY, rfl, hq⟩
  case done =>
    rintro D rs X hD hS ⟨hjx, _, _⟩ hK
    subst hS
    have hjz := hJ.put (.deferred none) hjx (show W.heap.size ≤ D by omega)
    gi_wp2
    show LeavesInM _ _ _ _ _ _ _ _ _
    refine ⟨by simp, .inl ⟨_, _, rfl, run_takeDeferred hK, ?_⟩⟩
    refine ⟨.tuple #[], ?_, ⟨_, rfl⟩, .inl ⟨_, rfl, hjz⟩⟩
    simp [results, Try.f148, go_sem]
  case stop =>
    rintro D c rs X hD _ ⟨rfl, q, hq⟩ hK
    have hjz := hJx.put (.deferred none) hq (show W.heap.size ≤ D by omega)
    gi_wp2
    show LeavesInM _ _ _ _ _ _ _ _ _
    refine ⟨by simp, .inl ⟨_, _, rfl, run_takeDeferred hK, ?_⟩⟩
    refine ⟨.tuple #[], ?_, ⟨_, rfl⟩, .inr ⟨q, trivial, hjz⟩⟩
    simp [results, Try.f148, go_sem]

end Go.Proofs.Ytkahgpgnfodpgaa
end

section
namespace Go.Proofs.Ytkahgpgnfodpgaa
open Go.RowKit Go.Deep Go.Shelf
attribute [local go_sem] Oper.semAt_some

set_option maxHeartbeats 400000 in
theorem hasKth_any (a : Option Addr) (cap n m k : Nat) (l : List (List Int)) (w : World) (hn : l.length = n) (hT : TabIn l) (hmm : (l.getD 0 []).length = m) (hm : MatR w a l) :
    Calls Try.prog 131 #[.slice a n cap, .int .i64 k] w fun e w' => e = .returned (.bool (inB k 0 (min n m : Nat))) ∧ w = w' := by
  have h6 := hT.2.1
  have h1 := hT.1
  rw [hn] at h6 h1
  have EW := width_any a cap n l w hn (by omega) (by omega) hm
  rw [hmm] at EW
  have EI := Lib.hid (fun x => inRange_any k 0 x w)
  replace EW := Lib.hid EW
  clear hn hT hmm hm
  have hmi : ((min n m : Nat) : Int) = min (n : Int) (m : Int) := by omega
  rw [hmi]
  go_enter Try.func131, Try.ntmps131
  go_wp2_with fail
  refine (EW.out).mono ?_
  rintro e w2 ⟨rfl, rfl⟩
  go_wp2_with fail
  all_goals
    refine (EI.out _).mono ?_
    rintro e w3 ⟨rfl, rfl⟩
    go_wp2
    go_ret
    first
      | (have e : min (n : Int) (m : Int) = m := by omega
         rw [e]; exact ⟨rfl, rfl⟩)
      | (have e : min (n : Int) (m : Int) = n := by omega
         rw [e]; exact ⟨rfl, rfl⟩)

def mkD (Ds : List Nat) : List Deferred := Ds.map fun D => { target := .collected D, args := #[] }
def MK (B C : Nat) (Ds : List Nat) (W : World) : Prop := Ds.Nodup ∧ ∀ D ∈ Ds, B ≤ D ∧ D < C ∧ W.heap[D]? = some (.deferred (some []))
theorem MK.grown {B C : Nat} {Ds : List Nat} {X Y : World} {row : Option Nat} (h : MK B C Ds X) (hg : X.grownBy Y row) (hr : ∀ r, row = some r → C ≤ r) : MK B C Ds Y :=
  ⟨h.1, fun D hD => by
    obtain ⟨h1, h2, h3⟩ := h.2 D hD
    exact ⟨h1, h2, (hg.block D (Array.getElem?_eq_some_iff.1 h3).1 (fun e => by have := hr D e.symm; omega)).trans h3⟩⟩
theorem MK.keeps {B C : Nat} {Ds : List Nat} {X Y : World} {own : Nat → Prop} (h : MK B C Ds X) (hk : Keeps own X Y) (ho : ∀ q, own q → q < B) : MK B C Ds Y :=
  ⟨h.1, fun D hD => by
    obtain ⟨h1, h2, h3⟩ := h.2 D hD
    exact ⟨h1, h2, hk.same D _ (fun e => by have := ho D e; omega) h3⟩⟩
theorem MK.mono {B C C' : Nat} {Ds : List Nat} {X : World} (h : MK B C Ds X) (hc : C ≤ C') : MK B C' Ds X := ⟨h.1, fun D hD => by
  obtain ⟨h1, h2, h3⟩ := h.2 D hD
  exact ⟨h1, by omega, h3⟩⟩
theorem MK.cons {B C C' D : Nat} {Ds : List Nat} {X : World} (h : MK B C Ds X) (hB : B ≤ C) (hD : C ≤ D) (hD2 : D < C') (hK : X.heap[D]? = some (.deferred (some []))) : MK B C' (D :: Ds) X :=
  ⟨List.nodup_cons.2 ⟨fun e => by have := (h.2 D e).2.1; omega, h.1⟩, fun E hE => by
    rcases List.mem_cons.1 hE with e | e
    · subst e; exact ⟨by omega, hD2, hK⟩
    · obtain ⟨h1, h2, h3⟩ := h.2 E e
      exact ⟨h1, by omega, h3⟩⟩
theorem leaves_marks {F : Fence} {n : Nat} {P : Program} {fn : Func} {tmps : Array Value} {R : Ending → World → Prop} {B C : Nat} (T : World → Prop) (hT : ∀ X D, T X → B ≤ D → T (X.putObj D (.deferred none))) (hfin : ∀ X, T X → LeavesIn F n P fn tmps R [] .returning X) :
    ∀ (Ds : List Nat) (W : World), MK B C Ds W → T W → LeavesInM F n P fn tmps R (mkD Ds) .returning W
  | [], W, _, h => hfin W h
  | D :: Ds, W, hm, h => by
    obtain ⟨h1, h2⟩ := hm
    rw [List.nodup_cons] at h1
    obtain ⟨g1, _, g2⟩ := h2 D (by simp)
    refine ⟨by simp, .inl ⟨_, _, rfl, run_takeDeferred g2, ?_⟩⟩
    refine leaves_marks (C := C) T hT hfin Ds _ (⟨h1.2, fun E hE => ?_⟩ : MK B C Ds _) (hT _ _ h g1)
    obtain ⟨q1, q3, q2⟩ := h2 E (by simp [hE])
    exact ⟨q1, q3, (World.putObj_heap_other (fun e => h1.1 (by first | exact e ▸ hE | (subst e; exact hE)))).trans q2⟩
structure AB (n₀ : Nat) (w0 : World) (Bt By lp : Nat) (a : Option Addr) (n cap : Nat) (X : World) : Prop where
  bt : X.cell? ⟨Bt, 0, none⟩ = some (.slice a n cap)
  yb : X.cell? ⟨By, 0, none⟩ = some (.func (.yield lp) #[] #[])
  old : OldT n₀ w0 X
theorem AB.grown {n₀ : Nat} {w0 : World} {Bt By lp : Nat} {a : Option Addr} {n cap : Nat} {X Y : World} {row : Option Nat} {B : Nat} (h : AB n₀ w0 Bt By lp a n cap X) (hz : n₀ ≤ X.heap.size) (h1 : n₀ ≤ B ∧ Bt < B ∧ By < B) (hg : X.grownBy Y row) (hr : ∀ r, row = some r → B ≤ r) : AB n₀ w0 Bt By lp a n cap Y :=
  ⟨cell_own h.bt h1.2.1 hg hr, cell_own h.yb h1.2.2 hg hr, h.old.grown hz hg (fun r e => by have := hr r e; omega)⟩
theorem AB.keeps {n₀ : Nat} {w0 : World} {Bt By lp : Nat} {a : Option Addr} {n cap : Nat} {X Y : World} {own : Nat → Prop} (h : AB n₀ w0 Bt By lp a n cap X) (hz : n₀ ≤ X.heap.size) (hk : Keeps own X Y) (ho : ∀ q, own q → n₀ ≤ q ∧ q ≠ Bt ∧ q ≠ By) : AB n₀ w0 Bt By lp a n cap Y :=
  ⟨hk.cell (a := ⟨Bt, 0, none⟩) (fun e => (ho _ e).2.1 rfl) h.bt, hk.cell (a := ⟨By, 0, none⟩) (fun e => (ho _ e).2.2 rfl) h.yb, h.old.keeps hz hk (fun q e => (ho q e).1)⟩

theorem partsTo_len {n m : Nat} (h6 : n ≤ 6) (hm : m ≤ 6) : ∀ j, (partsTo n m j).length ≤ j * 4096
  | 0 => by simp [partsTo]
  | j + 1 => by
    have h1 := partsTo_len h6 hm j
    have h2 := flat_len (j + 1) m hm (setsTo (j + 1) (2 ^ n))
    have h3 := setsTo_len (j + 1) (2 ^ n)
    have p : 2 ^ n ≤ 2 ^ 6 := Nat.pow_le_pow_right (by omega) h6
    have h4 : (setsTo (j + 1) (2 ^ n)).length * 64 ≤ 64 * 64 := Nat.mul_le_mul_right 64 (by omega)
    show (partsTo n m j ++ partsK (j + 1) n m).length ≤ _
    rw [List.length_append]
    have e : (partsK (j + 1) n m).length = ((setsTo (j + 1) (2 ^ n)).flatMap (prow (j + 1) m)).length := rfl
    omega

set_option maxRecDepth 100000 in
set_option maxHeartbeats 2000000 in
theorem all_seqE (f : Nat) (hf : 16 ≤ f) (Bt n m cap : Nat) (a : Option Addr) (l : List (List Int)) (w0 w : World) (hn : l.length = n) (hT : TabIn l) (hmm : (l.getD 0 []).length = m) (hm : MatR w0 a l) (hold : OldT w0.heap.size w0 w) (_hz0 : w0.heap.size ≤ w.heap.size) (hBt : w0.heap.size ≤ Bt) (ct : w.cell? ⟨Bt, 0, none⟩ = some (.slice a n cap)) :
    SeqE Fence.wide f Try.prog 130 #[.pointer (some ⟨Bt, 0, none⟩)] encP (fun x _ => x ∈ partsA n m) (fun q => q < w0.heap.size ∨ q = Bt) (fun ys => ys = partsA n m) (fun _ => True) 32768 w := by
  intro lp J Jx own W hW hown hJ hJx hY hj
  have h6 := hT.2.1
  have h1 := hT.1
  have hw := hT.width
  rw [hn] at h6 h1
  rw [hmm] at hw
  have lt := World.block_lt_of_cell? _ _ ct
  simp only at lt
  have c1 := (hW.cell (p := ⟨Bt, 0, none⟩) lt).trans ct
  have hWz := hW.size
  have hOW : OldT w0.heap.size w0 W := fun q hq => (hW.block q (by omega)).trans (hold q hq)
  have hso : ∀ q, own q → w0.heap.size ≤ q ∧ q ≠ Bt ∧ q < W.heap.size := fun q hq => by
    obtain ⟨g1, g2⟩ := hown q hq
    exact ⟨by
      by_cases e : q < w0.heap.size
      · exact absurd (.inl e) g2
      · omega, fun e => g2 (.inr e), g1⟩
  have EK := Lib.hid (fun (k : Nat) (V : World) (h : OldT w0.heap.size w0 V) => hasKth_any a cap n m k l V hn hT hmm (hm.oldT h))
  have HSEQ := Lib.hid (fun (g : Nat) (hg : 12 ≤ g) (Bt' Bk' k : Nat) (V : World) => kth_seqE g hg Bt' Bk' n m cap k a l w0 V hn hT hmm hm)
  clear hold ct hm hmm hT hn
  refine callsIn_of_wp_marks Try.func130 rfl trivial ?_ rfl
  simp only [Try.ntmps130, List.size_toArray, List.length_cons, List.length_nil, Nat.reduceAdd, Nat.reduceSub, Array.replicate_succ, Array.replicate_zero, List.push_toArray, List.append_toArray, List.nil_append, List.cons_append]
  have c2 : (W.alloc (.cells #[.func (.yield lp) #[] #[]] 81)).cell? ⟨Bt, 0, none⟩ = _ := cell_alloc_l _ c1
  have y0 : (W.alloc (.cells #[.func (.yield lp) #[] #[]] 81)).cell? ⟨W.heap.size, 0, none⟩ = _ := (cell_new_l W _ _).1
  have hg1 := World.grownBy_alloc W (.cells #[.func (.yield lp) #[] #[]] 81) none
  have hA1 : AB w0.heap.size w0 Bt W.heap.size lp a n cap (W.alloc (.cells #[.func (.yield lp) #[] #[]] 81)) := ⟨c2, y0, hOW.grown (by omega) hg1 (fun r e => by cases e)⟩
  have hj1 := hJ.alloc (.cells #[.func (.yield lp) #[] #[]] 81) hj
  have hso3 : ∀ q, own q → w0.heap.size ≤ q ∧ q ≠ Bt ∧ q ≠ W.heap.size := fun q hq => by have := hso q hq; omega
  gi_wp2
  refine wpIn_loop (fun a' X => ∃ (j : Nat) (Ds : List Nat) (u6 u7 u8 u9 u10 u11 u12 u13 : Value), 1 ≤ j ∧ j ≤ min n m + 1 ∧ a' = { tmps := #[.func (.yield lp) #[] #[], .pointer (some ⟨Bt, 0, none⟩), .pointer (some ⟨W.heap.size, 0, none⟩), .int .i64 (j : Int), undef, undef, u6, u7, u8, u9, u10, u11, u12, u13, undef, undef, undef, undef, undef, undef, undef], defers := mkD Ds } ∧ J (partsTo n m (j - 1)) X ∧ AB w0.heap.size w0 Bt W.heap.size lp a n cap X ∧ MK W.heap.size X.heap.size Ds X ∧ W.heap.size + 1 ≤ X.heap.size)
    (fun a' _ => 8 - (intOf (a'.tmps.getD 3 undef)).toNat) ⟨1, [], _, _, _, _, _, _, _, _, Nat.le_refl _, by omega, rfl, hj1, hA1, ⟨List.nodup_nil, fun D hD => by cases hD⟩, by simp⟩ ?_
  rintro a' X ⟨j, Ds, u6, u7, u8, u9, u10, u11, u12, u13, hj1', hj2, rfl, hjx, hAX, hMK, hzX⟩
  have EKj := Lib.hid (EK.out j X hAX.old)
  have cT := hAX.bt
  by_cases hjm : j ≤ min n m
  · have hin : inB (j : Int) 0 (min n m : Nat) = true := by simp [inB]; omega
    rw [hin] at EKj
    gi_wp2_with (first
      | (refine ⟨trivial, fun _ => by omega, ?_⟩; gi_at_call 131; refine (callsIn_wide.2 EKj.out).mono ?_; rintro e w' ⟨rfl, rfl⟩)
      | (refine ⟨trivial, fun _ => by omega, ?_⟩; gi_at_call 132; refine (kthParts_in _ _ _ _ _ _).mono ?_; rintro e w' ⟨rfl, rfl⟩))
    have hg2 := (World.grownBy_alloc X (.cells #[.slice a n cap] 65) none).trans (World.grownBy_alloc _ (.cells #[.int .i64 (j : Int)] 3) none)
    have bt2 : ((X.alloc (.cells #[.slice a n cap] 65)).alloc (.cells #[.int .i64 (j : Int)] 3)).cell? ⟨X.heap.size, 0, none⟩ = some (.slice a n cap) := cell_alloc_l _ (cell_new_l X _ _).1
    have bk2 : ((X.alloc (.cells #[.slice a n cap] 65)).alloc (.cells #[.int .i64 (j : Int)] 3)).cell? ⟨X.heap.size + 1, 0, none⟩ = some (.int .i64 (j : Int)) := by
      have := (cell_new_l (X.alloc (.cells #[.slice a n cap] 65)) (.int .i64 (j : Int)) 3).1
      rw [World.size_alloc] at this
      exact this
    have zV : ((X.alloc (.cells #[.slice a n cap] 65)).alloc (.cells #[.int .i64 (j : Int)] 3)).heap.size = X.heap.size + 2 := by simp
    obtain ⟨V, hV⟩ : ∃ V, (X.alloc (.cells #[.slice a n cap] 65)).alloc (.cells #[.int .i64 (j : Int)] 3) = V := ⟨_, rfl⟩
    rw [hV] at hg2 bt2 bk2 zV ⊢
    clear hV
    have hBX : w0.heap.size ≤ X.heap.size ∧ Bt < X.heap.size ∧ W.heap.size < X.heap.size := by omega
    have hAV := hAX.grown (by omega) hBX hg2 (fun r e => by cases e)
    have hMV := hMK.grown hg2 (fun r e => by cases e)
    have hpl := partsTo_len h6 hw.2 (j - 1)
    refine rangeF (F := Fence.wide) (n := f) rfl (by omega) (gf := 148) (lb := #[.pointer (some ⟨X.heap.size, 0, none⟩), .pointer (some ⟨X.heap.size + 1, 0, none⟩)]) rfl trivial (enters_of Try.func148 (by kernel_rfl) rfl)
      (HSEQ.out (f - 1) (by omega) X.heap.size (X.heap.size + 1) j V hAV.old (by omega) (by omega) (by omega) bt2 bk2) (fun _ => rfl) own (fun q hq => ⟨by have := hso q hq; omega, by have := hso q hq; omega⟩) (fun q hq => by omega)
      (fun (ps : List (Nat × Nat)) Y => (J (partsTo n m (j - 1) ++ ps) Y ∧ AB w0.heap.size w0 Bt W.heap.size lp a n cap Y ∧ MK W.heap.size X.heap.size Ds Y) ∧ V.heap.size ≤ Y.heap.size)
      (fun c _ Y => c = .ret ∧ (∃ q, Jx q Y) ∧ MK W.heap.size X.heap.size Ds Y)
      (fun ps Y Z row hs hg hr => ⟨⟨hJ _ Y Z row hs.1.1 hg (fun r e => by have := hr r e; omega), hs.1.2.1.grown (by have := hs.2; omega) hBX hg (fun r e => by have := hr r e; omega), hs.1.2.2.grown hg (fun r e => by have := hr r e; omega)⟩, Nat.le_trans hs.2 hg.size⟩)
      (fun c ps Y Z row hs hg hr => ⟨hs.1, by
        obtain ⟨q, hq⟩ := hs.2.1
        exact ⟨q, hJx _ Y Z row hq hg (fun r e => by have := hr r e; omega)⟩, hs.2.2.grown hg (fun r e => by have := hr r e; omega)⟩)
      ⟨⟨by rw [List.append_nil]; exact hJ _ X V none hjx hg2 (fun r e => by cases e), hAV, hMV⟩, Nat.le_refl _⟩
      (fun x a'' _ => a'' = { tmps := #[.func (.yield lp) #[] #[], .pointer (some ⟨Bt, 0, none⟩), .pointer (some ⟨W.heap.size, 0, none⟩), .int .i64 (j : Int), .int .i64 (x.1 : Int), .int .i64 (x.2 : Int), .slice a n cap, .int .i64 (j : Int), .bool true, u9, u10, .slice a n cap, .int .i64 (j : Int), .func (.func 148) #[] #[.pointer (some ⟨X.heap.size, 0, none⟩), .pointer (some ⟨X.heap.size + 1, 0, none⟩)], .int .i64 (x.1 : Int), .int .i64 (x.2 : Int), undef, undef, undef, undef, undef], defers := [] })
      (fun _ _ _ _ _ _ hA _ _ => hA)
      ?assign ?body ?done ?stop
    case assign =>
      rintro lq ps x Y K _ hi _ hK
      simp only [encP]
      gi_wp2
      exact hK _ _ (Keeps.refl _ _) hi rfl
    case body =>
      rintro lq ps x a'' Y hlq hzY _ ⟨⟨hjy, hAY, hMY⟩, _⟩ hpx rfl hlen
      have cY := hAY.yb
      have hxA : x ∈ partsA n m := by
        obtain ⟨⟨g1, g2⟩, g3, g4⟩ := partsK_mem.1 hpx
        exact (partsTo_mem _).2 ⟨by omega, by omega, by omega, g1, g3⟩
      have hl4 : (partsTo n m (j - 1) ++ ps).length < 32768 := by
        rw [List.length_append]
        omega
      obtain ⟨fn, tmps, assign, body, hy, hR⟩ := yieldAt_any (m' := f - 1 - 1 - 1) (hY _ x Y hjy hxA hl4)
      dsimp only [encP] at hy
      have HKEEP := Lib.hid (show ∀ Z, Keeps own Y Z → AB w0.heap.size w0 Bt W.heap.size lp a n cap Z ∧ MK W.heap.size X.heap.size Ds Z ∧ V.heap.size ≤ Z.heap.size from fun Z hk =>
        ⟨hAY.keeps (by omega) hk hso3, hMY.keeps hk (fun q hq => (hso q hq).2.2), by have := hk.size; omega⟩)
      clear hjy hAY hMY hxA
      obtain ⟨x1, x2⟩ := x
      simp only at hy hR ⊢
      gi_wp2
      refine ⟨fun h => by omega, ?_⟩
      refine RoundIn.mono (F := Fence.wide.inRound lq) hR ?_
      rintro e W3 (⟨rfl, hJ3, hk3⟩ | ⟨rfl, hx3, hk3⟩)
      · obtain ⟨q1, q2, q3⟩ := HKEEP.out _ hk3
        gi_wp2
        exact ⟨hk3, ⟨by rw [← List.append_assoc]; exact hJ3, q1, q2⟩, q3⟩
      · obtain ⟨q1, q2, q3⟩ := HKEEP.out _ hk3
        gi_wp2
        exact ⟨hk3, rfl, ⟨_, hx3⟩, q2⟩
    case done =>
      rintro D ps Y hD rfl ⟨⟨hjy, hAY, hMY⟩, hzY⟩ hK
      have hDY := (Array.getElem?_eq_some_iff.1 hK).1
      have hMC := hMY.cons (C' := Y.heap.size) (by omega) (by omega) hDY hK
      have hwj : IntKind.i64.wrap ((j : Int) + 1) = ((j + 1 : Nat) : Int) := by rw [IntWalk.i64_in _ ⟨by omega, by omega⟩]; omega
      have hnext : partsTo n m j = partsTo n m (j - 1) ++ partsK j n m := by
        obtain ⟨i, rfl⟩ : ∃ i, j = i + 1 := ⟨j - 1, by omega⟩
        rfl
      gi_wp2
      exact ⟨⟨j + 1, D :: Ds, _, _, _, _, _, _, _, _, by omega, by omega, rfl, by rw [Nat.add_sub_cancel, hnext]; exact hjy, hAY, hMC, by omega⟩, by simp [intOf]; omega⟩
    case stop =>
      rintro D c ps Y hD _ ⟨rfl, ⟨q, hq⟩, hMY⟩ hK
      have hDY := (Array.getElem?_eq_some_iff.1 hK).1
      have hMC := hMY.cons (C' := Y.heap.size) (by omega) (by omega) hDY hK
      gi_wp2
      refine leaves_marks (B := W.heap.size) (fun Z => Jx q Z) (fun Z E h hE => hJx.put _ h hE) (fun Z h => ?_) (D :: Ds) Y hMC hq
      refine ⟨.tuple #[], ?_, ⟨_, rfl⟩, .inr ⟨q, trivial, h⟩⟩
      simp [results, Try.f130, go_sem]
  · have hin : inB (j : Int) 0 (min n m : Nat) = false := by simp [inB]; omega
    rw [hin] at EKj
    obtain rfl : j = min n m + 1 := by omega
    gi_wp2_with (refine ⟨trivial, fun _ => by omega, ?_⟩; gi_at_call 131; refine (callsIn_wide.2 EKj.out).mono ?_; rintro e w' ⟨rfl, rfl⟩)
    refine leaves_marks (B := W.heap.size) (fun Z => J (partsA n m) Z) (fun Z E h hE => hJ.put _ h hE) (fun Z h => ?_) Ds _ hMK hjx
    refine ⟨.tuple #[], ?_, ⟨_, rfl⟩, .inl ⟨_, rfl, h⟩⟩
    simp [results, Try.f130, go_sem]

end Go.Proofs.Ytkahgpgnfodpgaa
end

section
namespace Go.Proofs.Ytkahgpgnfodpgaa
open Go.RowKit Go.Deep Go.Shelf

attribute [local go_sem] Oper.semAt_some

def hasR (l : List (List Int)) (k M2 : Nat) (r : Nat) : Bool := (setsTo k M2).any fun c => decide (dt k (at2 (partL l r c)) ≠ 0)
def hasB (l : List (List Int)) (k M1 M2 : Nat) : Bool := (setsTo k M1).any (hasR l k M2)
theorem hasB_yes {l : List (List Int)} {k n m : Nat} {x : Nat × Nat} (hx : x ∈ partsK k n m) (h : mnP l x ≠ 0) : hasB l k (2 ^ n) (2 ^ m) = true := by
  obtain ⟨⟨g1, g2⟩, g3⟩ := partsK_mem.1 hx
  refine List.any_eq_true.2 ⟨x.1, (setsTo_mem k).2 ⟨g1, g2⟩, List.any_eq_true.2 ⟨x.2, (setsTo_mem k).2 g3, ?_⟩⟩
  unfold mnP at h
  rw [g2] at h
  simpa using h
theorem hasB_no {l : List (List Int)} {k n m : Nat} (h : ∀ x ∈ partsK k n m, mnP l x = 0) : hasB l k (2 ^ n) (2 ^ m) = false := by
  cases e : hasB l k (2 ^ n) (2 ^ m) with
  | false => rfl
  | true =>
    obtain ⟨r, hr, e2⟩ := List.any_eq_true.1 e
    obtain ⟨c, hc, e3⟩ := List.any_eq_true.1 e2
    have g1 := (setsTo_mem k).1 hr
    have g2 := (setsTo_mem k).1 hc
    have := h (r, c) (partsK_mem.2 ⟨g1, g2⟩)
    unfold mnP at this
    rw [show popcS (r, c).1 = k from g1.2] at this
    exact absurd this (of_decide_eq_true e3)

theorem oldT_since {w W : World} (h : w.Since w.heap.size W) : OldT w.heap.size w W := fun k hk => h.block k hk
theorem grownSH {w w' : World} (h : w.Since w.heap.size w') : w.grownBy w' none := ⟨h.os, h.tape, h.output, h.size, fun k hk _ => h.block k hk⟩
structure HS (w : World) (tv : Value) (W : World) : Prop where
  bt : Boxed W w.heap.size 65 tv
  br : Boxed W (w.heap.size + 1) 4 (.bool false)
  sn : w.Since w.heap.size W
theorem since_row {lo : Nat} {w W W' : World} {row : Option Nat} (h : w.Since lo W) (hlo : lo ≤ w.heap.size) (hg : W.grownBy W' row) (hr : ∀ r, row = some r → lo ≤ r) : w.Since lo W' :=
  ⟨hg.os.trans h.os, hg.tape.trans h.tape, hg.output.trans h.output, Nat.le_trans h.size hg.size, fun k hk => (hg.block k (by have := h.size; omega) (fun e => by have := hr k e.symm; omega)).trans (h.block k hk)⟩
theorem HS.kept {w W W' : World} {tv : Value} {row : Option Nat} (h : HS w tv W) (hg : W.grownBy W' row) (hr : ∀ r, row = some r → w.heap.size + 2 ≤ r) : HS w tv W' :=
  ⟨h.bt.kept hg (fun e => by have := hr _ e.symm; omega), h.br.kept hg (fun e => by have := hr _ e.symm; omega), since_row h.sn (Nat.le_refl _) hg (fun r e => by have := hr r e; omega)⟩

end Go.Proofs.Ytkahgpgnfodpgaa
end

section
namespace Go.Proofs.Ytkahgpgnfodpgaa
open Go.RowKit Go.Deep Go.Shelf
attribute [local go_sem] Oper.semAt_some

def posV (a : Option Addr) (n cap g : Nat) (lb : Array Value) : Value := .agg #[.slice a n cap, .func (.func g) #[] lb]
structure QS (w : World) (tv gv qv : Value) (b : Bool) (W : World) : Prop where
  b0 : W.heap[w.heap.size]? = some (.cells #[tv, gv] 69)
  bq : Boxed W (w.heap.size + 1) 3 qv
  br : Boxed W (w.heap.size + 2) 4 (.bool b)
  sn : w.Since w.heap.size W
theorem QS.kept {w W W' : World} {tv gv qv : Value} {b : Bool} {row : Option Nat} (h : QS w tv gv qv b W) (hg : W.grownBy W' row) (hr : ∀ r, row = some r → w.heap.size + 3 ≤ r) : QS w tv gv qv b W' :=
  ⟨(hg.block _ (Array.getElem?_eq_some_iff.1 h.b0).1 (fun e => by have := hr _ e.symm; omega)).trans h.b0, h.bq.kept hg (fun e => by have := hr _ e.symm; omega), h.br.kept hg (fun e => by have := hr _ e.symm; omega), since_row h.sn (Nat.le_refl _) hg (fun r e => by have := hr r e; omega)⟩
theorem cells2 {W : World} {b : Nat} {s g : Value} {t : TypeId} (h : W.heap[b]? = some (.cells #[s, g] t)) : W.cell? ⟨b, 0, none⟩ = some s ∧ W.cell? ⟨b, 1, none⟩ = some g := by
  simp [World.cell?, h]

theorem round_region_heldP {lp n id : Nat} {P : Program} {ops : Array Oper} {Q : Exit → Act → World → Prop} {a : Act} {w : World} {S : World → Prop} (hm : P.follows .mixedOrders = true) (hd : noDefer ops = true) (hno : ¬ LetsOut Q) (hS : S w.drew)
    (h : S w.drew → wpAnyH P .any ops Q S ops.size (Array.replicate ops.size false) a w.drew) : (Code.region id ops true).wpIn (Fence.wide.inRound lp) n P Q a w :=
  wpIn_region_any hm (wpAnyIn_of_wpAny hno (noDefer_of hd) _ _ _ _ (wpAny_of_held _ _ _ _ (h hS)))

set_option maxRecDepth 100000 in
set_option maxHeartbeats 2000000 in
theorem minorsFrom_any (a : Option Addr) (cap n m : Nat) (q : Int) (g : Nat) (lb : Array Value) (ps : List (Nat × Nat)) (N : Nat) (need : Nat → Prop) (l : List (List Int)) (w : World) (hn : l.length = n) (hmm : (l.getD 0 []).length = m) (hT : TabIn l) (hm : MatR w a l)
    (hps : ∀ x ∈ ps, popcS x.1 = popcS x.2 ∧ x.1 < 2 ^ n ∧ x.2 < 2 ^ m) (hneed : ∀ k, need k → k < w.heap.size)
    (hseq : ∀ V : World, OldT w.heap.size w V → w.heap.size ≤ V.heap.size → SeqE Fence.wide 29 Try.prog g lb encP (fun x _ => x ∈ ps) need (fun ys => ys = ps) (fun _ => True) N V)
    (eg : ∀ args w, (callFunc g args).run Try.prog w = .ok (.enter g args) w) :
    Calls Try.prog 76 #[posV a n cap g lb, .int .i64 q] w fun e w' => e = .returned (.bool (leastB l q ps)) ∧ w.Since w.heap.size w' := by
  have EM := Lib.hid (fun (x : Nat × Nat) (hx : x ∈ ps) (V : World) (h : w.Since w.heap.size V) => minor_any a cap n m x.1 x.2 l V hn hmm hT (hps x hx).2.1 (hps x hx).2.2 (hps x hx).1 (hm.since h))
  have HSEQ := Lib.hid hseq
  have EG := Lib.hid eg
  clear hn hmm hT hm hps hseq eg
  unfold posV
  refine (callsIn_wide (n := 30)).1 ?_
  refine callsIn_of_wp_marks Try.func76 rfl trivial ?_ rfl
  simp only [Try.ntmps76, List.size_toArray, List.length_cons, List.length_nil, Nat.reduceAdd, Nat.reduceSub, Array.replicate_succ, Array.replicate_zero, List.push_toArray, List.append_toArray, List.nil_append, List.cons_append]
  have hS0 : QS w (.slice a n cap) (.func (.func g) #[] lb) (.int .i64 q) false (((w.alloc (.cells #[.slice a n cap, .func (.func g) #[] lb] 69)).alloc (.cells #[.int .i64 q] 3)).alloc (.cells #[.bool false] 4)) := by
    have b1 := Boxed.new (w.alloc (.cells #[.slice a n cap, .func (.func g) #[] lb] 69)) 3 (.int .i64 q)
    have b2 := Boxed.new ((w.alloc (.cells #[.slice a n cap, .func (.func g) #[] lb] 69)).alloc (.cells #[.int .i64 q] 3)) 4 (.bool false)
    simp only [World.size_alloc] at b1 b2
    exact ⟨(Below.heap_alloc _ _ _ (by simp; omega)).trans ((Below.heap_alloc _ _ _ (by simp)).trans (World.alloc_heap_new w _)), b1.alloc _, b2, (((World.Since.refl _ w).alloc (Nat.le_refl _) _).alloc (by simp) _).alloc (by simp; omega) _⟩
  gi_wp2
  obtain ⟨V, hV⟩ : ∃ V, (((w.alloc (.cells #[.slice a n cap, .func (.func g) #[] lb] 69)).alloc (.cells #[.int .i64 q] 3)).alloc (.cells #[.bool false] 4)) = V := ⟨_, rfl⟩
  have zV : V.heap.size = w.heap.size + 3 := by rw [← hV]; simp
  rw [hV] at hS0 ⊢
  clear hV
  refine rangeF (F := Fence.wide) (n := 30) rfl (by omega) (gf := g) (lb := lb) rfl trivial EG.out
    (HSEQ.out V (oldT_since hS0.sn) (by omega)) (fun _ => rfl) (fun k => k = w.heap.size + 2) (fun k hk => ⟨by omega, fun h => by have := hneed _ h; omega⟩) (fun k hk => by have := hneed _ hk; omega)
    (fun (qs : List (Nat × Nat)) X => (QS w (.slice a n cap) (.func (.func g) #[] lb) (.int .i64 q) false X ∧ V.heap.size ≤ X.heap.size) ∧ leastB l q qs = true)
    (fun c _ X => c = .ret ∧ (Boxed X (w.heap.size + 2) 4 (.bool false) ∧ w.Since w.heap.size X) ∧ leastB l q ps = false)
    (fun qs X Y row hs hg hr => ⟨⟨hs.1.1.kept hg (fun r e => by have := hr r e; omega), Nat.le_trans hs.1.2 hg.size⟩, hs.2⟩)
    (fun c qs X Y row hs hg hr => ⟨hs.1, ⟨hs.2.1.1.kept hg (fun e => by have := hr _ e.symm; omega), since_row hs.2.1.2 (Nat.le_refl _) hg (fun r e => by have := hr r e; omega)⟩, hs.2.2⟩)
    ⟨⟨hS0, Nat.le_refl _⟩, rfl⟩
    (fun x a'' _ => a'' = { tmps := #[.agg #[.slice a n cap, .func (.func g) #[] lb], .int .i64 q, .pointer (some ⟨w.heap.size, 0, none⟩), .pointer (some ⟨w.heap.size + 1, 0, none⟩), .pointer (some ⟨w.heap.size + 1 + 1, 0, none⟩), .int .i64 (x.1 : Int), .int .i64 (x.2 : Int), .pointer (some ⟨w.heap.size, 1, none⟩), .func (.func g) #[] lb, .int .i64 (x.1 : Int), .int .i64 (x.2 : Int), undef, undef, undef, undef, undef, undef, undef], defers := [] })
    (fun _ _ _ _ _ _ hA _ _ => hA)
    ?assign ?body ?done ?stop
  case assign =>
    rintro lq qs x Y K _ hi _ hK
    simp only [encP]
    gi_wp2
    exact hK _ _ (Keeps.refl _ _) hi rfl
  case body =>
    rintro lq qs x a'' Y hlq hzY _ ⟨⟨hS, hz⟩, hp⟩ hpx rfl hlen
    have hmix : Try.prog.follows .mixedOrders = true := by kernel_rfl
    have cT : Y.drew.cell? ⟨w.heap.size, 0, none⟩ = _ := (cells2 hS.b0).1
    have cQ : Y.drew.cell? ⟨w.heap.size + 1, 0, none⟩ = _ := hS.bq.cell
    have E := Lib.hid (EM.out x hpx Y.drew (show w.Since w.heap.size Y.drew from hS.sn.drew))
    have HSS := Lib.hid hS
    have HY := Lib.hid (show mnP l x < q → leastB l q ps = false from fun h => leastB_no hpx h)
    have HP := Lib.hid (leastB_snoc l q qs x)
    have HPP := Lib.hid hp
    clear hS hp hpx
    obtain ⟨x1, x2⟩ := x
    simp only at E HY HP ⊢
    obtain ⟨v, hv⟩ : ∃ v, mnP l (x1, x2) = v := ⟨_, rfl⟩
    rw [hv] at E HY HP
    clear hv
    have HK2 := Lib.hid (show ∀ Z, Y.drew.Since Y.drew.heap.size Z → Y.grownBy Z none from fun Z h => (grown_drewP (World.grownBy.refl Y none)).trans (grownSH h))
    gi_wp2
    refine round_region_heldP (S := fun W' : World => W'.cell? ⟨w.heap.size, 0, none⟩ = some (.slice a n cap) ∧ W'.cell? ⟨w.heap.size + 1, 0, none⟩ = some (.int .i64 q)) hmix (by kernel_rfl) (by rintro ⟨a, w, h⟩; exact h) ⟨cT, cQ⟩ (fun hS => ?_)
    refine wpAnyH_take (i := 0) (v := .pointer (some ⟨w.heap.size, 0, none⟩)) rfl (by kernel_rfl) (by kernel_rfl) (by kernel_rfl) (fun _ _ _ h => h) (Or.inl ⟨by rfl, fun W' h => by go_simp⟩) hS ?_
    simp only [Act.put, List.setIfInBounds_toArray]
    refine wpAnyH_take (i := 1) (v := .slice a n cap) rfl (by kernel_rfl) (by kernel_rfl) (by kernel_rfl) (fun _ _ _ h => h) (Or.inl ⟨by rfl, fun W' h => by have hc := h.1; go_simp⟩) hS ?_
    simp only [Act.put]
    refine wpAnyH_take (i := 2) (v := .int .i64 x1) rfl (by kernel_rfl) (by kernel_rfl) (by kernel_rfl) (fun _ _ _ h => h) (Or.inl ⟨by rfl, fun W' h => by go_simp⟩) hS ?_
    simp only [Act.put]
    refine wpAnyH_take (i := 3) (v := .int .i64 x2) rfl (by kernel_rfl) (by kernel_rfl) (by kernel_rfl) (fun _ _ _ h => h) (Or.inl ⟨by rfl, fun W' h => by go_simp⟩) hS ?_
    simp only [Act.put]
    refine wpAnyH_take (i := 5) (v := .int .i64 q) rfl (by kernel_rfl) (by kernel_rfl) (by kernel_rfl) (fun _ _ _ h => h) (Or.inl ⟨by rfl, fun W' h => by have hc := h.2; go_simp⟩) hS ?_
    simp only [Act.put]
    refine wpAnyH_ready (rs := [4]) (by kernel_rfl) (by simp) (AllReadyH.cons rfl (fun K hK => ?_) AllReadyH.nil)
    go_simp
    refine E.out.mono ?_
    rintro e Z ⟨rfl, hs2⟩
    have HG := Lib.hid (HK2.out Z hs2)
    have hQZ := HSS.out.kept HG.out (fun r e => by cases e)
    refine hK.out _ _ ⟨(cells2 hQZ.b0).1, hQZ.bq.cell⟩ (fun hS1 => ?_)
    clear hK K hs2
    refine wpAnyH_take (i := 6) (v := .bool (decide (v < q))) rfl (by kernel_rfl) (by kernel_rfl) (by kernel_rfl) (fun _ _ _ h => h) (Or.inl ⟨by rfl, fun W' h => by go_simp⟩) hS1 ?_
    simp only [Act.put]
    refine wpAnyH_done (by kernel_rfl) ?_ _
    by_cases hv0 : v < q
    · have hvb : decide (v < q) = true := by simpa using hv0
      have cR := hQZ.br.cell
      have fR := hQZ.br.frozen
      gi_wp2
      exact ⟨(Keeps.grown HG.out (fun r e => by cases e)).trans (Keeps.grown (grownBy_setCell' Z (w.heap.size + 2) _) (fun r e => by cases e; rfl)), rfl, ⟨hQZ.br.set _, hQZ.sn.setCell (by simp; omega) _⟩, HY.out hv0⟩
    · have hvb : decide (v < q) = false := by simpa using hv0
      gi_wp2
      exact ⟨Keeps.grown HG.out (fun r e => by cases e), ⟨hQZ, by have := HG.out.size; omega⟩, by rw [HP.out, HPP.out]; simp; omega⟩
  case done =>
    rintro D qs X hD rfl ⟨⟨hS, hz⟩, hp⟩ hK
    have cS := hS.br.cell
    have fS := hS.br.frozen
    have hlt := (Array.getElem?_eq_some_iff.1 hK).1
    have hK2 : (X.setCell ⟨w.heap.size + 2, 0, none⟩ (.bool true)).heap[D]? = some (.deferred (some [])) := ((grownBy_setCell' X (w.heap.size + 2) (.bool true)).block D hlt (fun e => by injection e; omega)).trans hK
    have hB3 := (hS.br.set (.bool true)).kept (grownBy_putObj' (X.setCell ⟨w.heap.size + 2, 0, none⟩ (.bool true)) D (.deferred none)) (fun e => by injection e; omega)
    have cB := hB3.cell
    have hsn := since_row (hS.sn.setCell (a := ⟨w.heap.size + 2, 0, none⟩) (by simp) (.bool true)) (Nat.le_refl _) (grownBy_putObj' (X.setCell ⟨w.heap.size + 2, 0, none⟩ (.bool true)) D (.deferred none)) (fun r e => by cases e; omega)
    gi_wp2
    refine ⟨by simp, .inl ⟨_, _, rfl, run_takeDeferred hK2, ?_⟩⟩
    refine ⟨.bool true, ?_, by rw [hp], hsn⟩
    have cB' := cB
    simp [results, Try.f76, go_sem, cB']
  case stop =>
    rintro D c qs X hD _ ⟨rfl, ⟨bR, hs⟩, hb⟩ hK
    have hB3 := bR.kept (grownBy_putObj' X D (.deferred none)) (fun e => by injection e; omega)
    have cB := hB3.cell
    have hsn := since_row hs (Nat.le_refl _) (grownBy_putObj' X D (.deferred none)) (fun r e => by cases e; omega)
    gi_wp2
    refine ⟨by simp, .inl ⟨_, _, rfl, run_takeDeferred hK, ?_⟩⟩
    refine ⟨.bool false, ?_, by rw [hb], hsn⟩
    have cB' := cB
    simp [results, Try.f76, go_sem, cB']

structure QC (w : World) (tv gv : Value) (c : Int) (W : World) : Prop where
  b0 : W.heap[w.heap.size]? = some (.cells #[tv, gv] 69)
  bn : Boxed W (w.heap.size + 1) 3 (.int .i64 c)
  sn : w.Since w.heap.size W
theorem QC.kept {w W W' : World} {tv gv : Value} {c : Int} {row : Option Nat} (h : QC w tv gv c W) (hg : W.grownBy W' row) (hr : ∀ r, row = some r → w.heap.size + 2 ≤ r) : QC w tv gv c W' :=
  ⟨(hg.block _ (Array.getElem?_eq_some_iff.1 h.b0).1 (fun e => by have := hr _ e.symm; omega)).trans h.b0, h.bn.kept hg (fun e => by have := hr _ e.symm; omega), since_row h.sn (Nat.le_refl _) hg (fun r e => by have := hr r e; omega)⟩

end Go.Proofs.Ytkahgpgnfodpgaa
end

section
namespace Go.Proofs.Ytkahgpgnfodpgaa
open Go.RowKit Go.Deep Go.Shelf
attribute [local go_sem] Oper.semAt_some

def wstep (l : List (List Int)) (s : Int × Nat × Nat) (x : Nat × Nat) : Int × Nat × Nat := if s.2.1 = 0 ∨ mnP l x < s.1 then (mnP l x, x.1, x.2) else s
def worstS (l : List (List Int)) (qs : List (Nat × Nat)) : Int × Nat × Nat := qs.foldl (wstep l) (0, 0, 0)
theorem worstS_snoc (l : List (List Int)) (qs : List (Nat × Nat)) (x : Nat × Nat) : worstS l (qs ++ [x]) = wstep l (worstS l qs) x := by
  unfold worstS; rw [List.foldl_append]; rfl
structure QW (w : World) (tv gv : Value) (s : Int × Nat × Nat) (W : World) : Prop where
  b0 : W.heap[w.heap.size]? = some (.cells #[tv, gv] 69)
  b1 : Boxed W (w.heap.size + 1) 3 (.int .i64 s.1)
  b2 : Boxed W (w.heap.size + 2) 3 (.int .i64 (s.2.1 : Int))
  b3 : Boxed W (w.heap.size + 3) 3 (.int .i64 (s.2.2 : Int))
  sn : w.Since w.heap.size W
theorem QW.kept {w W W' : World} {tv gv : Value} {s : Int × Nat × Nat} {row : Option Nat} (h : QW w tv gv s W) (hg : W.grownBy W' row) (hr : ∀ r, row = some r → w.heap.size + 4 ≤ r) : QW w tv gv s W' :=
  ⟨(hg.block _ (Array.getElem?_eq_some_iff.1 h.b0).1 (fun e => by have := hr _ e.symm; omega)).trans h.b0, h.b1.kept hg (fun e => by have := hr _ e.symm; omega), h.b2.kept hg (fun e => by have := hr _ e.symm; omega), h.b3.kept hg (fun e => by have := hr _ e.symm; omega), since_row h.sn (Nat.le_refl _) hg (fun r e => by have := hr r e; omega)⟩
theorem QW.set {w W : World} {tv gv : Value} {s : Int × Nat × Nat} (h : QW w tv gv s W) (x : Int) (r c : Nat) :
    QW w tv gv (x, r, c) (((W.setCell ⟨w.heap.size + 1, 0, none⟩ (.int .i64 x)).setCell ⟨w.heap.size + 2, 0, none⟩ (.int .i64 (r : Int))).setCell ⟨w.heap.size + 3, 0, none⟩ (.int .i64 (c : Int))) :=
  ⟨(Below.heap_setCell _ _ _ _ (by show w.heap.size ≠ w.heap.size + 3; omega)).trans ((Below.heap_setCell _ _ _ _ (by show w.heap.size ≠ w.heap.size + 2; omega)).trans ((Below.heap_setCell _ _ _ _ (by show w.heap.size ≠ w.heap.size + 1; omega)).trans h.b0)),
    ((h.b1.set _).other (by omega) _).other (by omega) _, ((h.b2.other (by omega) _).set _).other (by omega) _, ((h.b3.other (by omega) _).other (by omega) _).set _,
    ((h.sn.setCell (by simp) _).setCell (by simp) _).setCell (by simp) _⟩
theorem keeps_set3 {own : Nat → Prop} (W : World) {b1 b2 b3 : Nat} (x y z : Value) (h1 : own b1) (h2 : own b2) (h3 : own b3) : Keeps own W (((W.setCell ⟨b1, 0, none⟩ x).setCell ⟨b2, 0, none⟩ y).setCell ⟨b3, 0, none⟩ z) :=
  ((Keeps.grown (grownBy_setCell' W b1 _) (fun r e => by cases e; exact h1)).trans (Keeps.grown (grownBy_setCell' _ b2 _) (fun r e => by cases e; exact h2))).trans (Keeps.grown (grownBy_setCell' _ b3 _) (fun r e => by cases e; exact h3))

end Go.Proofs.Ytkahgpgnfodpgaa
end

section
namespace Go.Proofs.Ytkahgpgnfodpgaa
open Go.RowKit Go.Deep Go.Shelf
attribute [local go_sem] Oper.semAt_some

theorem rows_seqE (f : Nat) (hf : 2 ≤ f) (Bt Bs b o m cap s : Nat) (hm : m ≤ 7) (hs : s ≤ 63) (A : Nat → Option Addr) (L C : Nat → Nat) (w : World) (h1 : Bt < w.heap.size) (h2 : Bs < w.heap.size) (h3 : b < w.heap.size)
    (hBt : w.cell? ⟨Bt, 0, none⟩ = some (.slice (some ⟨b, o, none⟩) m cap)) (hBs : w.cell? ⟨Bs, 0, none⟩ = some (.int .i64 s))
    (hc : ∀ k, k < m → w.cell? ⟨b, o + k, none⟩ = some (.slice (A k) (L k) (C k))) :
    SeqE Fence.wide f Try.prog 134 #[.pointer (some ⟨Bt, 0, none⟩), .pointer (some ⟨Bs, 0, none⟩)] (fun x : {i : Nat // i < m} => #[.int .i64 (x.1 : Int), .slice (A x.1) (L x.1) (C x.1)]) (fun _ _ => True) (fun q => q = Bt ∨ q = Bs ∨ q = b) (fun ys => ys = sel s m m) (fun _ => True) m w := by
  intro l J Jx own W hW hown hJ hJx hY hj
  have cs := (hW.cell (p := ⟨Bs, 0, none⟩) h2).trans hBs
  have cr := fun k (hk : k < m) => (hW.cell (p := ⟨b, o + k, none⟩) h3).trans (hc k hk)
  refine CallsIn.mono (rows1_in f hf l Bt Bs b o m cap s hm hs A L C (fun X Y => Y.cell? ⟨Bs, 0, none⟩ = X.cell? ⟨Bs, 0, none⟩ ∧ ∀ k, k < m → Y.cell? ⟨b, o + k, none⟩ = X.cell? ⟨b, o + k, none⟩) (fun _ _ h => h)
    (fun pre W => J pre W ∧ W.cell? ⟨Bs, 0, none⟩ = some (.int .i64 s) ∧ ∀ k, k < m → W.cell? ⟨b, o + k, none⟩ = some (.slice (A k) (L k) (C k))) (fun pre W => Jx pre W) (fun pre x V hV hl => ?_) W
    ((hW.cell (p := ⟨Bt, 0, none⟩) h1).trans hBt) cs cr ⟨hj, cs, cr⟩) ?_
  · obtain ⟨hjv, c1, c2⟩ := hV
    obtain ⟨fn, tmps, assign, body, hy, hR⟩ := hY pre x V hjv trivial hl
    refine ⟨fn, tmps, assign, body, hy, hR.mono ?_⟩
    rintro e W' (⟨r1, r2, r3⟩ | ⟨r1, r2, _⟩)
    · have d1 := r3.cell (a := ⟨Bs, 0, none⟩) (fun h => (hown _ h).2 (.inr (.inl rfl))) c1
      have d2 := fun k (hk : k < m) => r3.cell (a := ⟨b, o + k, none⟩) (fun h => (hown _ h).2 (.inr (.inr rfl))) (c2 k hk)
      exact .inl ⟨r1, ⟨r2, d1, d2⟩, d1.trans c1.symm, fun k hk => (d2 k hk).trans (c2 k hk).symm⟩
    · exact .inr ⟨r1, r2⟩
  · rintro e W' ⟨r1, (⟨zs, rfl, hj2⟩ | ⟨pre, _, hj2⟩)⟩
    · exact ⟨r1, .inl ⟨_, rfl, hj2.1⟩⟩
    · exact ⟨r1, .inr ⟨_, trivial, hj2⟩⟩
theorem opIn_round {lp n : Nat} {P : Program} {Q : Exit → Act → World → Prop} {o : Oper} {a : Act} {w : World} {K : Act → World → Prop} (hd : ∀ c, o.op ≠ .defer c) (h : o.wpIn Fence.wide n P a w K Q) : o.wpIn (Fence.wide.inRound lp) n P a w K Q :=
  ⟨h.1, by
    have h2 := h.2
    rw [Oper.semAt_eq _ _ _ hd] at h2 ⊢
    exact h2⟩
theorem wpAnyIn_round {lp n : Nat} {P : Program} {md : Region.Mode} {ops : Array Oper} {Q : Exit → Act → World → Prop} (hd : ∀ (i : Nat) (o : Oper), ops[i]? = some o → ∀ c, o.op ≠ .defer c) :
    ∀ (fuel : Nat) (listed : Array Bool) (a : Act) (w : World), wpAnyIn Fence.wide n P md ops Q fuel listed a w → wpAnyIn (Fence.wide.inRound lp) n P md ops Q fuel listed a w
  | 0, _, _, _, h => h
  | fuel + 1, listed, a, w, h => ⟨h.1, fun i hi => by
      have h2 := h.2 i hi
      unfold wpOpIn at h2 ⊢
      split
      · rename_i e
        simp only [e] at h2
        exact wpAnyIn_round hd fuel _ _ _ h2
      · rename_i o e
        simp only [e] at h2
        split
        · rename_i hw
          simp only [hw, if_true] at h2
          exact Oper.wpIn_mono (fun a w h => wpAnyIn_round hd fuel _ a w h) (opIn_round (hd i o e) h2)
        · rename_i hw
          simp only [hw] at h2
          exact ⟨h2.1, wpAnyIn_round hd fuel _ _ _ h2.2⟩⟩
theorem sel_fullF (n : Nat) : ∀ k, k ≤ n → (sel (2 ^ n - 1) n k).map (·.1) = List.range k
  | 0, _ => rfl
  | k + 1, h => by
    rw [sel_yes _ n k (by omega) (by rw [Nat.testBit_two_pow_sub_one]; simp; omega), List.map_append, sel_fullF n k (by omega), List.range_succ]
    rfl

theorem first_len (m : Nat) : ∀ k, ((List.range k).flatMap (firstRow m)).length = k * m
  | 0 => by simp
  | k + 1 => by
    rw [List.range_succ, List.flatMap_append, List.length_append, first_len m k, Nat.succ_mul]
    simp [firstRow]
theorem first_len' (is : List Nat) (m : Nat) : (is.flatMap (firstRow m)).length = is.length * m := by
  induction is with
  | nil => simp
  | cons i is ih => rw [List.flatMap_cons, List.length_append, ih, List.length_cons, Nat.succ_mul]; simp [firstRow]; omega
theorem firstRow_snoc (m i k : Nat) (h : k < m) : (firstRow m i).take (k + 1) = (firstRow m i).take k ++ [(runS (i + 1 - (min i k + 1)) (min i k + 1), runS (k + 1 - (min i k + 1)) (min i k + 1))] := by
  unfold firstRow
  rw [List.take_add_one, List.getElem?_map, List.getElem?_range h]
  rfl

end Go.Proofs.Ytkahgpgnfodpgaa
end

section
namespace Go.Proofs.Ytkahgpgnfodpgaa
open Go.RowKit Go.Deep Go.Shelf
attribute [local go_sem] Oper.semAt_some

theorem allParts_any (a : Option Addr) (n cap : Nat) (w : World) :
    Calls Try.prog 111 #[.slice a n cap] w fun e w' => e = .returned (.func (.func 130) #[] #[.pointer (some ⟨w.heap.size, 0, none⟩)]) ∧ w' = w.alloc (.cells #[.slice a n cap] 65) := by
  go_enter Try.func111, Try.ntmps111
  go_wp2
  go_ret
  exact ⟨rfl, rfl⟩

theorem withAll_any (a : Option Addr) (n cap : Nat) (w : World) :
    Calls Try.prog 75 #[.slice a n cap] w fun e w' => e = .returned (posV a n cap 130 #[.pointer (some ⟨w.heap.size + 1, 0, none⟩)]) ∧ w.Since w.heap.size w' ∧ w'.cell? ⟨w.heap.size + 1, 0, none⟩ = some (.slice a n cap) := by
  have EA := Lib.hid (fun (W : World) => allParts_any a n cap W)
  go_enter Try.func75, Try.ntmps75
  go_wp2_with fail
  refine (EA.out _).mono ?_
  rintro e w2 ⟨rfl, rfl⟩
  have hB : ((w.alloc (.cells #[.slice none 0 0, Value.nilFunc] 69)).alloc (.cells #[.slice a n cap] 65)).heap[w.heap.size]? = some (.cells #[.slice none 0 0, Value.nilFunc] 69) := (Below.heap_alloc _ _ _ (by simp)).trans (World.alloc_heap_new w _)
  have hc := (cells2 hB)
  obtain ⟨hc0, hc1⟩ := hc
  go_wp2_with fail
  refine bodyPost_ret (v := posV a n cap 130 #[.pointer (some ⟨w.heap.size + 1, 0, none⟩)]) ?_ rfl ?_
  · have hB2 : ((w.alloc (.cells #[.slice a n cap, .func (.func 130) #[] #[.pointer (some ⟨w.heap.size + 1, 0, none⟩)]] 69)).alloc (.cells #[.slice a n cap] 65)).heap[w.heap.size]? = some (.cells #[.slice a n cap, .func (.func 130) #[] #[.pointer (some ⟨w.heap.size + 1, 0, none⟩)]] 69) := (Below.heap_alloc _ _ _ (by simp)).trans (World.alloc_heap_new w _)
    obtain ⟨d0, d1⟩ := cells2 hB2
    simp [results, Try.f75, go_sem, d0, d1, posV]
  · have h := (cell_new_l (w.alloc (.cells #[.slice a n cap, .func (.func 130) #[] #[.pointer (some ⟨w.heap.size + 1, 0, none⟩)]] 69)) (.slice a n cap) 65).1
    rw [World.size_alloc] at h
    exact ⟨rfl, ((World.Since.refl _ w).alloc (Nat.le_refl _) _).alloc (by simp) _, h⟩

theorem oldT_two {w w3 V : World} (hs : w.Since w.heap.size w3) (ho : OldT w3.heap.size w3 V) : OldT w.heap.size w V := fun k hk => (ho k (by have := hs.size; omega)).trans (hs.block k hk)
theorem partsA_ok {n m : Nat} (hn : n ≤ 6) (hm : m ≤ 6) {x : Nat × Nat} (hx : x ∈ partsA n m) : popcS x.1 = popcS x.2 ∧ x.1 < 2 ^ n ∧ x.2 < 2 ^ m := ((partsA_mem hn hm).1 hx).2

theorem allMinors_any (a : Option Addr) (cap n m : Nat) (q : Int) (l : List (List Int)) (w w3 : World) (hn : l.length = n) (hmm : (l.getD 0 []).length = m) (hT : TabIn l) (hm : MatR w a l) (hs : w.Since w.heap.size w3) (hc : w3.cell? ⟨w.heap.size + 1, 0, none⟩ = some (.slice a n cap)) :
    Calls Try.prog 76 #[posV a n cap 130 #[.pointer (some ⟨w.heap.size + 1, 0, none⟩)], .int .i64 q] w3 fun e w' => e = .returned (.bool (leastB l q (partsA n m))) ∧ w3.Since w3.heap.size w' := by
  have h6 := hT.2.1
  have hw := hT.width
  rw [hn] at h6
  rw [hmm] at hw
  have hlt := World.block_lt_of_cell? _ _ hc
  simp only at hlt
  have hz := hs.size
  exact minorsFrom_any a cap n m q _ _ (partsA n m) 32768 (fun k => k < w.heap.size ∨ k = w.heap.size + 1) l w3 hn hmm hT (hm.since hs) (fun x hx => partsA_ok h6 hw.2 hx) (fun k hk => by omega)
    (fun V ho hzV => all_seqE 29 (by omega) (w.heap.size + 1) n m cap a l w V hn hT hmm hm (oldT_two hs ho) (by omega) (by omega) ((ho.cell (by exact hlt)).trans hc)) (enters_of Try.func130 (by kernel_rfl) rfl)

set_option maxHeartbeats 1000000 in
theorem implPosLasting_any (a : Option Addr) (cap n : Nat) (l : List (List Int)) (w : World) (hn : l.length = n) (hsz : szL l ≤ 1048576) (hm : MatR w a l) :
    Calls Try.prog 40 #[.slice a n cap] w fun e w' => e = .returned (.bool (tabIn l && leastB l 0 (partsA n (l.getD 0 []).length))) ∧ w.Since w.heap.size w' := by
  have E := Lib.hid (implTableIn_any a cap n l w hn hsz hm)
  cases hT : tabIn l with
  | false =>
    rw [hT] at E
    clear hT hsz hm hn
    go_enter Try.func40, Try.ntmps40
    go_wp2_with fail
    refine (E.out).mono ?_
    rintro e w1 ⟨rfl, hd⟩
    have HS := Lib.hid hd
    clear hd
    go_wp2
    go_ret
    exact ⟨rfl, HS.out⟩
  | true =>
    rw [hT] at E
    have EC := Lib.hid (fun (W w3 : World) (h : w.Since w.heap.size W) (hs : W.Since W.heap.size w3) (hc : w3.cell? ⟨W.heap.size + 1, 0, none⟩ = some (.slice a n cap)) => allMinors_any a cap n (l.getD 0 []).length 0 l W w3 hn rfl (tabIn_of hT) (hm.since h) hs hc)
    have EW := Lib.hid (fun (W : World) => withAll_any a n cap W)
    obtain ⟨B, hB⟩ : ∃ B, leastB l 0 (partsA n (l.getD 0 []).length) = B := ⟨_, rfl⟩
    rw [hB] at EC ⊢
    clear hT hsz hm hn hB
    go_enter Try.func40, Try.ntmps40
    go_wp2_with fail
    refine (E.out).mono ?_
    rintro e w1 ⟨rfl, hd⟩
    have HS := Lib.hid hd
    clear hd
    go_wp2_with fail
    refine (EW.out w1).mono ?_
    rintro e w2 ⟨rfl, hs2, hc2⟩
    have HS2 := Lib.hid (HS.out.trans (since_mono hs2 HS.out.size))
    have EC2 := Lib.hid (EC.out w1 w2 HS.out hs2 hc2)
    clear hs2 hc2
    go_wp2_with fail
    refine (EC2.out).mono ?_
    rintro e w3 ⟨rfl, hs3⟩
    have HS3 := Lib.hid (HS2.out.trans (since_mono hs3 HS2.out.size))
    clear hs3
    cases B
    · go_wp2
      go_ret
      exact ⟨rfl, HS3.out⟩
    · go_wp2
      go_ret
      exact ⟨rfl, HS3.out⟩

set_option maxHeartbeats 1000000 in
theorem implPosStrict_any (a : Option Addr) (cap n : Nat) (l : List (List Int)) (w : World) (hn : l.length = n) (hsz : szL l ≤ 1048576) (hm : MatR w a l) :
    Calls Try.prog 23 #[.slice a n cap] w fun e w' => e = .returned (.bool (tabIn l && leastB l 1 (partsA n (l.getD 0 []).length))) ∧ w.Since w.heap.size w' := by
  have E := Lib.hid (implTableIn_any a cap n l w hn hsz hm)
  cases hT : tabIn l with
  | false =>
    rw [hT] at E
    clear hT hsz hm hn
    go_enter Try.func23, Try.ntmps23
    go_wp2_with fail
    refine (E.out).mono ?_
    rintro e w1 ⟨rfl, hd⟩
    have HS := Lib.hid hd
    clear hd
    go_wp2
    go_ret
    exact ⟨rfl, HS.out⟩
  | true =>
    rw [hT] at E
    have EC := Lib.hid (fun (W w3 : World) (h : w.Since w.heap.size W) (hs : W.Since W.heap.size w3) (hc : w3.cell? ⟨W.heap.size + 1, 0, none⟩ = some (.slice a n cap)) => allMinors_any a cap n (l.getD 0 []).length 1 l W w3 hn rfl (tabIn_of hT) (hm.since h) hs hc)
    have EW := Lib.hid (fun (W : World) => withAll_any a n cap W)
    obtain ⟨B, hB⟩ : ∃ B, leastB l 1 (partsA n (l.getD 0 []).length) = B := ⟨_, rfl⟩
    rw [hB] at EC ⊢
    clear hT hsz hm hn hB
    go_enter Try.func23, Try.ntmps23
    go_wp2_with fail
    refine (E.out).mono ?_
    rintro e w1 ⟨rfl, hd⟩
    have HS := Lib.hid hd
    clear hd
    go_wp2_with fail
    refine (EW.out w1).mono ?_
    rintro e w2 ⟨rfl, hs2, hc2⟩
    have HS2 := Lib.hid (HS.out.trans (since_mono hs2 HS.out.size))
    have EC2 := Lib.hid (EC.out w1 w2 HS.out hs2 hc2)
    clear hs2 hc2
    go_wp2_with fail
    refine (EC2.out).mono ?_
    rintro e w3 ⟨rfl, hs3⟩
    have HS3 := Lib.hid (HS2.out.trans (since_mono hs3 HS2.out.size))
    clear hs3
    cases B
    · go_wp2
      go_ret
      exact ⟨rfl, HS3.out⟩
    · go_wp2
      go_ret
      exact ⟨rfl, HS3.out⟩

end Go.Proofs.Ytkahgpgnfodpgaa
end

section
namespace Go.Proofs.Ytkahgpgnfodpgaa
open Go.RowKit Go.Deep

theorem tabF_congr {n m : Nat} {f g : Nat → Nat → Int} (h : ∀ i k, i < n → k < m → f i k = g i k) : tabF n m f = tabF n m g := by
  unfold tabF
  refine List.map_congr_left fun i hi => List.map_congr_left fun k hk => ?_
  exact h i k (List.mem_range.1 hi) (List.mem_range.1 hk)
def Asc (x : List Int) (k : Nat) : Prop := ∀ j, j < k → 1 ≤ x.getD j 0 ∧ (0 < j → x.getD (j - 1) 0 < x.getD j 0)
theorem Asc.succ {x : List Int} {k : Nat} (h : Asc x k) (h1 : 1 ≤ x.getD k 0) (h2 : 0 < k → x.getD (k - 1) 0 < x.getD k 0) : Asc x (k + 1) := fun j hj => by
  rcases Nat.lt_succ_iff_lt_or_eq.1 hj with h3 | h3
  · exact h j h3
  · subst h3; exact ⟨h1, h2⟩
theorem strict1 : ∀ a : Fin 6, 1 ≤ a.val → leastB (tabF 1 1 fun i k => ((([a.val].getD i 0 : Nat) : Int)) ^ k) 1 (partsA 1 1) = true := by decide +kernel
theorem strict2 : ∀ a b : Fin 6, 1 ≤ a.val → a.val < b.val → leastB (tabF 2 2 fun i k => ((([a.val, b.val].getD i 0 : Nat) : Int)) ^ k) 1 (partsA 2 2) = true := by decide +kernel
theorem strict3 : ∀ a b c : Fin 6, 1 ≤ a.val → a.val < b.val → b.val < c.val → leastB (tabF 3 3 fun i k => ((([a.val, b.val, c.val].getD i 0 : Nat) : Int)) ^ k) 1 (partsA 3 3) = true := by decide +kernel
theorem asc_strict {x : List Int} {m : Nat} (hm : x.length = m) (hx : ListE x 3 5 ∨ ListE x 5 2) (hk : l8B x 30 = true) (ha : Asc x m) : leastB (pwTo x m m) 1 (partsA m m) = true := by
  obtain ⟨hr, h1, h6⟩ := l8B_of hk
  rw [hm] at hr h1 h6
  have h31 : ¬ ∃ j, j < x.length ∧ x.getD j 0 = 31 := by
    rintro ⟨j, hj, e⟩
    have := hr j (by omega)
    rw [e] at this
    exact absurd this (by decide)
  have hb : m ≤ 3 ∧ ∀ j, j < m → x.getD j 0 ≤ 5 := by
    rcases hx with ⟨_, _, h | h⟩ | ⟨_, _, h | h⟩
    · exact ⟨by omega, fun j _ => by have := h.2 j; omega⟩
    · exact absurd h h31
    · refine ⟨?_, fun j _ => by have := h.2 j; omega⟩
      rcases Nat.lt_or_ge 2 m with h3 | h3
      · have a0 := ha 0 (by omega)
        have a1 := (ha 1 (by omega)).2 (by omega)
        have a2 := (ha 2 (by omega)).2 (by omega)
        have b2 := h.2 2
        simp only [Nat.add_one_sub_one, Nat.sub_self] at a1 a2
        omega
      · omega
    · exact absurd h h31
  obtain ⟨h3, h5⟩ := hb
  have hc : m = 1 ∨ m = 2 ∨ m = 3 := by omega
  rcases hc with hc | hc | hc
  · subst hc
    have a0 := ha 0 (by omega)
    have c0 := h5 0 (by omega)
    obtain ⟨a, e0⟩ := Int.eq_ofNat_of_zero_le (show 0 ≤ x.getD 0 0 by omega)
    have h := strict1 ⟨a, by omega⟩ (by simp only; omega)
    have e : pwTo x 1 1 = tabF 1 1 (fun i k => ((([a].getD i 0 : Nat) : Int)) ^ k) := tabF_congr fun i k hi _ => by
      have : i = 0 := by omega
      subst this; rw [e0]; rfl
    rw [e]; exact h
  · subst hc
    have a0 := ha 0 (by omega)
    have a1 := (ha 1 (by omega)).2 (by omega)
    have c1 := h5 1 (by omega)
    rw [show 1 - 1 = 0 from rfl] at a1
    obtain ⟨a, e0⟩ := Int.eq_ofNat_of_zero_le (show 0 ≤ x.getD 0 0 by omega)
    obtain ⟨b, e1⟩ := Int.eq_ofNat_of_zero_le (show 0 ≤ x.getD 1 0 by omega)
    have h := strict2 ⟨a, by omega⟩ ⟨b, by omega⟩ (by simp only; omega) (by simp only; omega)
    have e : pwTo x 2 2 = tabF 2 2 (fun i k => ((([a, b].getD i 0 : Nat) : Int)) ^ k) := tabF_congr fun i k hi _ => by
      have : i = 0 ∨ i = 1 := by omega
      rcases this with h | h
      · subst h; rw [e0]; rfl
      · subst h; rw [e1]; rfl
    rw [e]; exact h
  · subst hc
    have a0 := ha 0 (by omega)
    have a1 := (ha 1 (by omega)).2 (by omega)
    have a2 := (ha 2 (by omega)).2 (by omega)
    have c2 := h5 2 (by omega)
    rw [show 1 - 1 = 0 from rfl] at a1
    rw [show 2 - 1 = 1 from rfl] at a2
    obtain ⟨a, e0⟩ := Int.eq_ofNat_of_zero_le (show 0 ≤ x.getD 0 0 by omega)
    obtain ⟨b, e1⟩ := Int.eq_ofNat_of_zero_le (show 0 ≤ x.getD 1 0 by omega)
    obtain ⟨c, e2⟩ := Int.eq_ofNat_of_zero_le (show 0 ≤ x.getD 2 0 by omega)
    have h := strict3 ⟨a, by omega⟩ ⟨b, by omega⟩ ⟨c, by omega⟩ (by simp only; omega) (by simp only; omega) (by simp only; omega)
    have e : pwTo x 3 3 = tabF 3 3 (fun i k => ((([a, b, c].getD i 0 : Nat) : Int)) ^ k) := tabF_congr fun i k hi _ => by
      have : i = 0 ∨ i = 1 ∨ i = 2 := by omega
      rcases this with h | h | h
      · subst h; rw [e0]; rfl
      · subst h; rw [e1]; rfl
      · subst h; rw [e2]; rfl
    rw [e]; exact h

set_option maxRecDepth 100000 in
set_option maxHeartbeats 4000000 in
theorem fnPowersStrict (a : Option Addr) (cap n : Nat) (w : World) (hc : n ≤ cap) (h63 : cap ≤ 9223372036854775807) (hb : BytR w a n) :
    Calls Try.prog 5 #[.slice a n cap] w fun e w' => e = .returned (.bool true) ∧ w.Since w.heap.size w' := by
  by_cases hlen : 1048576 < n
  · have hl' : decide ((1048576 : Int) < (n : Int)) = true := by simp; omega
    clear hb
    go_enter Try.func5, Try.ntmps5
    go_wp2
    go_ret
    exact ⟨rfl, World.Since.refl _ _⟩
  · have hl' : decide ((1048576 : Int) < (n : Int)) = false := by simp; omega
    have ED := Lib.hid (drawKnownPowers_any a n cap w hc h63 hb)
    clear hb
    go_enter Try.func5, Try.ntmps5
    go_wp2_with fail
    refine (ED.out).mono ?_
    rintro e w1 ⟨ax, cx, x, rfl, hs1, hx, hr, hcap⟩
    have HS1 := Lib.hid hs1
    obtain ⟨m, hm⟩ : ∃ m, x.length = m := ⟨_, rfl⟩
    have hx6 : m ≤ 7 := by rcases hx with h | h <;> (have := h.2.1; omega)
    rw [hm] at hcap ⊢
    have E1 := implKnownPowers_any ax cx m x w1 hm (by omega) hr
    have E2 := fun (W : World) (h : w1.Since w1.heap.size W) => specKnownPowers_any ax cx m x W hm (by omega) (hr.since h)
    obtain ⟨ok, hok⟩ : ∃ ok, (l8B x 30 && tabIn (pwTo x m m)) = ok := ⟨_, rfl⟩
    obtain ⟨M, hM⟩ : ∃ M, resT ok (pwTo x m m) = M := ⟨_, rfl⟩
    have hMsz : szL M ≤ 1048576 := by
      rw [← hM, ← hok]
      exact szL_res fun h => by rw [Bool.and_eq_true] at h; have := l8B_of h.1; omega
    unfold ImplT at E1
    unfold SpecT at E2
    rw [hok, hM] at E1
    simp only [hok, hM] at E2
    obtain ⟨q, hq⟩ : ∃ q, M.length = q := ⟨_, rfl⟩
    rw [hq] at E1
    simp only [hq] at E2
    have hq63 : q ≤ 9223372036854775807 := by unfold szL at hMsz; omega
    replace E1 := Lib.hid E1
    replace E2 := Lib.hid E2
    have HQ := Lib.hid hq
    have HMS := Lib.hid hMsz
    have HOK := Lib.hid hok
    have HMM := Lib.hid hM
    clear hs1 hq hMsz hok hM
    go_wp2_with fail
    refine (E1.out).mono ?_
    rintro e w2 ⟨a2, c2, rfl, hs2, ho2⟩
    have HO := Lib.hid (fun (W : World) (h : w2.Since w2.heap.size W) => ho2.matR.since h)
    have HS2 := Lib.hid hs2
    clear ho2 hs2
    go_wp2_with fail
    refine (E2.out w2 HS2.out).mono ?_
    rintro e w3 ⟨a3, c3, rfl, hs3, hi3⟩
    have ES := Lib.hid (fun (W : World) (h : w3.Since w3.heap.size W) => sameRows_same a2 a3 c2 c3 q M W HQ.out hq63 (rows_le8 HMS.out) (HO.out W (hs3.trans (since_mono h hs3.size))) (hi3.matR.since h))
    have HS3 := Lib.hid hs3
    clear hi3 hs3
    go_wp2_with fail
    refine (ES.out w3 (World.Since.refl _ _)).mono ?_
    rintro e w4 ⟨rfl, hd4⟩
    have hs4 := hd4.since w3.heap.size
    have HS4 := Lib.hid ((HS2.out.trans (since_mono HS3.out HS2.out.size)).trans (since_mono hs4 (by have := HS2.out.size; have := HS3.out.size; omega)))
    have HS24 := Lib.hid (HS3.out.trans (since_mono hs4 HS3.out.size))
    cases ok with
    | false =>
      clear hd4
      go_wp2_with fail
      refine (ES.out w4 hs4).mono ?_
      rintro e w5 ⟨rfl, hd5⟩
      have HS5 := Lib.hid (hd5.since w4.heap.size)
      clear hd5
      go_wp2
      go_ret
      exact ⟨rfl, HS1.out.trans (since_mono (HS4.out.trans (since_mono HS5.out HS4.out.size)) HS1.out.size)⟩
    | true =>
      have hML : (pwTo x m m) = M := HMM.out
      have hMO := HO.out
      clear hs4 hd4
      have hok2 := HOK.out
      rw [Bool.and_eq_true] at hok2
      obtain ⟨_, h1, h6⟩ := l8B_of hok2.1
      rw [hm] at h1 h6
      have hq : M.length = m := by rw [← hML]; exact tabF_length _ _ _
      have hqm : q = m := by rw [← HQ.out]; exact hq
      subst hqm
      have hT : tabIn M = true := by rw [← hML]; exact hok2.2
      have hwd : (M.getD 0 []).length = q := by rw [← hML]; exact tabF_len _ _ _ _ (by omega)
      have HST := Lib.hid (fun (h : Asc x q) => asc_strict hm hx hok2.1 h)
      have E5 := fun (W : World) (h : w2.Since w2.heap.size W) => implPosStrict_any a2 c2 q M W hq HMS.out (hMO W h)
      rw [hML] at HST
      simp only [hwd, hT, Bool.true_and] at E5
      have EE5 := Lib.hid E5
      obtain ⟨b, o, rfl, hc⟩ := hr (by omega)
      have HC := Lib.hid (fun (W : World) (hd : w1.Since w1.heap.size W) (k : Nat) (hk : k < q) => by
        have c := hc k (by omega)
        exact (hd.cell (a := ⟨b, o + k, none⟩) (World.block_lt_of_cell? _ _ c)).trans c)
      clear hML hMO hT hwd hq E5 hok2 hx hc hr
      go_wp2
      go_loopg [8] q (fun g i wr => ∃ k : Nat, k ≤ q ∧ g = q - k ∧ i = .int .i64 k ∧ Asc x k ∧ Drawn w4 wr)
      case atStart => exact ⟨0, Nat.zero_le _, rfl, rfl, fun j hj => absurd hj (Nat.not_lt_zero _), Drawn.refl w4⟩
      case round =>
        obtain ⟨k, hk, rfl, rfl, hA, hD⟩ := hrel
        by_cases hlt : k < q
        · have hS4 := HS4.out.trans (since_mono (hD.since w4.heap.size) HS4.out.size)
          have ck := HC.out wr hS4 k hlt
          have hkm : (k : Int) < (q : Int) := by omega
          have HD := Lib.hid hD
          have HA := Lib.hid hA
          obtain ⟨y, hy⟩ : ∃ y, x.getD k 0 = y := ⟨_, rfl⟩
          rw [hy] at ck
          have HY := Lib.hid hy
          clear hy hA hD
          by_cases hy1 : y < 1
          · have d1 : decide (y < 1) = true := by simpa using hy1
            clear hS4
            go_wp2
            go_quiet (fail)
            go_wp2
            go_ret
            exact ⟨rfl, HS1.out.trans (since_mono (HS4.out.trans (since_mono ((HD.out.trans (Drawn.mk _ _)).since _) HS4.out.size)) HS1.out.size)⟩
          · have d1 : decide (y < 1) = false := by simpa using hy1
            by_cases hk0 : k = 0
            · have hgt : decide ((0 : Int) < (k : Int)) = false := by simp; omega
              have hgt2 : decide (0 < k) = false := by simp; omega
              have HK0 := Lib.hid hk0
              clear hS4 hk0
              go_wp2
              go_quiet (fail)
              go_wp2
              go_roundg (q - (k + 1))
              case measure => omega
              case rel => exact ⟨k + 1, by omega, rfl, by go_num, HA.out.succ (by rw [HY.out]; omega) (fun h => by have := HK0.out; omega), HD.out.trans (Drawn.mk _ _)⟩
            · have cp := HC.out wr hS4 (k - 1) (by omega)
              obtain ⟨j, hj⟩ : ∃ j, k - 1 = j := ⟨_, rfl⟩
              obtain ⟨z, hz⟩ : ∃ z, x.getD j 0 = z := ⟨_, rfl⟩
              rw [hj, hz] at cp
              have HZ := Lib.hid hz
              have hjm : (j : Int) < (q : Int) := by omega
              have hgt : (0 : Int) < (k : Int) := by omega
              have hgt2 : decide (0 < k) = true := by simp; omega
              have hgt3 : decide ((0 : Int) < (k : Int)) = true := by simp; omega
              have HJ2 := Lib.hid hj
              have hsub : IntKind.i64.wrap ((k : Int) - 1) = (j : Int) := by rw [show (k : Int) - 1 = (j : Int) by omega]; exact IntWalk.i64_in _ ⟨by omega, by omega⟩
              have hjn : j < q := by omega
              clear hz hj hS4
              by_cases hyz : y ≤ z
              · have d2 : decide (y ≤ z) = true := by simpa using hyz
                go_wp2
                go_quiet (fail)
                go_wp2
                go_ret
                exact ⟨rfl, HS1.out.trans (since_mono (HS4.out.trans (since_mono ((HD.out.trans (Drawn.mk _ _)).since _) HS4.out.size)) HS1.out.size)⟩
              · have d2 : decide (y ≤ z) = false := by simpa using hyz
                go_wp2
                go_quiet (fail)
                go_wp2
                go_roundg (q - (k + 1))
                case measure => omega
                case rel => exact ⟨k + 1, by omega, rfl, by go_num, HA.out.succ (by rw [HY.out]; omega) (fun _ => by rw [HJ2.out, HY.out, HZ.out]; omega), HD.out.trans (Drawn.mk _ _)⟩
        · have hkq : k = q := by omega
          subst hkq
          have hle := HST.out hA
          have E6 := EE5.out wr (HS24.out.trans (since_mono (hD.since w4.heap.size) HS24.out.size))
          rw [hle] at E6
          replace E6 := Lib.hid E6
          have HD := Lib.hid hD
          clear hA hle hD
          go_wp2_with fail
          refine (E6.out).mono ?_
          rintro e w5 ⟨rfl, hs5⟩
          go_wp2
          go_ret
          exact ⟨rfl, HS1.out.trans (since_mono (HS4.out.trans (since_mono ((HD.out.since w4.heap.size).trans (since_mono hs5 (HD.out.since w4.heap.size).size)) HS4.out.size)) HS1.out.size)⟩

end Go.Proofs.Ytkahgpgnfodpgaa
end

section
namespace Go.Proofs.Ytkahgpgnfodpgaa
open Go.ChangeShapes Go.WideShapes Go.ChangeAt Go.RowKit Go.Deep

theorem below_since' {B : Nat} {w w' : World} (h : Below B w w') : w.Since B w' := ⟨h.os, h.tape, h.output, h.size, h.block⟩
theorem since_below' {B : Nat} {w w' : World} (h : w.Since B w') : Below B w w' := ⟨h.os, h.tape, h.output, h.size, h.block⟩

section
variable {H : Type} {enc : TypeId × Value → H} {P : Program}
theorem post_of_below {f : Func} {s : ChangeSpec} {apart fresh handsOn again : Bool} {W W' : World} {args : Array Value} {v : Value} {ds gs : List (DataW H)} {before pa pv : List MemPlace}
    (hW : DataW.Whole enc P f.params.toList s.vars apart W args.toList ds gs before)
    (hres : ∀ (b : Nat) (sp : Nat → Bool) (hd : Bool), DataW.TrodAll enc P W' b sp hd f.resultTypes.toList (v.resultList f.resultTypes.size) (s.fn H (ds ++ gs)).results [])
    (hargs : ∀ sp : Nat → Bool, (∀ p ∈ before, sp p.block = true) → DataW.TrodAll enc P W' 0 sp true f.params.toList args.toList (s.fn H (ds ++ gs)).args pa)
    (hvars : ∀ sp : Nat → Bool, (∀ p ∈ before, sp p.block = true) → DataW.TrodVars enc P W' sp s.vars (s.fn H (ds ++ gs)).vars pv)
    (hps : before = pa ++ pv) (hb : Below W.heap.size W W') (hag : again = false) :
    s.post enc P f apart fresh handsOn again W args v W' := by
  have hlt : ∀ p ∈ before, p.block < W.heap.size := fun p hp => hW.lt p hp
  have hold : ∀ p ∈ before, (fun b => decide (b < W.heap.size)) p.block = true := fun p hp => by simpa using hlt p hp
  refine ⟨ds, gs, before, [], pa, pv, hW, hres _ _ _, hargs _ hold, hvars _ hold, World.keptBut_mono (fun p hp => ⟨hp, ?_⟩) (hb.frame (· ∈ before)), fun h => ?_⟩
  · rw [hps, List.mem_append] at hp
    exact Or.inr hp
  · rw [hag] at h; cases h

theorem open_mat {W : World} {t e q : TypeId} {a : Option Addr} {n cap : Nat} {d : DataW H} {p : List MemPlace} (ht : P.underlying t = some (.slice e)) (he : P.underlying e = some (.slice q)) (hq : P.underlying q = some (.int .i64))
    (ce : P.cellsOf e = 1) (cq : P.cellsOf q = 1) (h : DataW.Trod enc P W 0 (fun _ => true) true t (.slice a n cap) d p) :
    ∃ l : List (List Int), l.length = n ∧ MatR W a l ∧ n ≤ 9223372036854775807 ∧ ∀ r, r < l.length → (l.getD r []).length ≤ 9223372036854775807 := by
  obtain ⟨fuel, hf⟩ := h
  rcases open_int_rows ht he hq ce cq hf with ⟨hcs, _⟩ | ⟨a', len', cap', A, L, C, Z, hcs, _, hl, hm, _, hrows⟩
  · simp [Value.cells] at hcs
    obtain ⟨rfl, rfl, rfl⟩ := hcs
    exact ⟨[], rfl, (fun h => by simp at h), by omega, fun r hr => by simp at hr⟩
  · simp [Value.cells] at hcs
    obtain ⟨rfl, rfl, rfl⟩ := hcs
    have hmx : maxLen = 9223372036854775807 := rfl
    have hlen : ∀ r, r < n → ((Z r).take (L r)).length = L r := fun r hr => by
      obtain ⟨_, h1, _, h2, _⟩ := hrows r (by omega)
      rw [List.length_take]; omega
    have hget : ∀ r, r < n → ((List.range n).map fun r => (Z r).take (L r)).getD r [] = (Z r).take (L r) := fun r hr => by simp [List.getD, hr]
    refine ⟨(List.range n).map fun r => (Z r).take (L r), by simp, fun h => ?_, by omega, fun r hr => ?_⟩
    · obtain ⟨b, o, spot⟩ := a'
      simp at h
      have hspot : spot = none := by simpa [Addr.add] using World.cell?_spot (hrows 0 (by omega)).1
      subst hspot
      refine ⟨b, o, A, C, rfl, fun r hr => ?_⟩
      simp at hr
      rw [hget r hr, hlen r hr]
      obtain ⟨g1, g2, g3, g4, g5, g6, g7⟩ := hrows r (by omega)
      refine ⟨by rw [← add_plain]; exact g1, fun h0 => ?_⟩
      rw [hlen r hr] at h0
      cases hA : A r with
      | none => have := g6 hA; omega
      | some a'' =>
        obtain ⟨_, hcell⟩ := g7 a'' hA
        obtain ⟨b', o', sp⟩ := a''
        have hs : sp = none := by simpa [Addr.add] using World.cell?_spot (hcell 0 (by omega))
        subst hs
        refine ⟨b', o', rfl, fun i hi => ?_⟩
        rw [hlen r hr] at hi
        rw [← add_plain, hcell i (by omega)]
        congr 2
        simp [List.getD, hi]
    · simp at hr
      rw [hget r hr, hlen r hr]
      obtain ⟨_, h1, h2, _⟩ := hrows r (by omega)
      omega
end

theorem Try.own : ownKnob Try.prog.godebug = none := by kernel_rfl
theorem Try.laidOut : laidOutB Try.prog = true := by kernel_rfl
theorem Try.cellsR : Try.prog.cellsOf 23 = 1 := by kernel_rfl
theorem Try.cellsI : Try.prog.cellsOf 3 = 1 := by kernel_rfl

end Go.Proofs.Ytkahgpgnfodpgaa
end

section
namespace Go.Proofs.Ytkahgpgnfodpgaa
open Go.ChangeShapes Go.WideShapes Go.ChangeAt Go.RowKit Go.Deep

theorem wf_u8_of {n : Int} (h : (Lit.int .u8 n).wf = true) : 0 ≤ n ∧ n ≤ 255 := by
  have h2 : (0 : Int) ≤ n ∧ n ≤ 255 := by simpa [Lit.wf, IntKind.min, IntKind.max, IntKind.signed, IntKind.bits] using h
  exact h2

theorem open_bytes {H : Type} {enc : TypeId × Value → H} {P : Program} {W : World} {t e : TypeId} {a : Option Addr} {n cap : Nat} {d : DataW H} {p : List MemPlace} (ht : P.underlying t = some (.slice e)) (he : P.underlying e = some (.int .u8)) (ce : P.cellsOf e = 1)
    (h : DataW.Trod enc P W 0 (fun _ => true) true t (.slice a n cap) d p) : BytR W a n ∧ n ≤ cap ∧ cap ≤ 9223372036854775807 := by
  obtain ⟨fuel, hf⟩ := h
  rcases open_ints ht he ce hf with ⟨hcs, _⟩ | ⟨a', len, cap', zs, hcs, _, hl, hm, hlen, _, hcell, hwf⟩
  · simp [Value.cells] at hcs
    obtain ⟨rfl, rfl, rfl⟩ := hcs
    exact ⟨fun h => absurd h (by omega), by omega, by omega⟩
  · simp [Value.cells] at hcs
    obtain ⟨rfl, rfl, rfl⟩ := hcs
    have hmx : maxLen = 9223372036854775807 := rfl
    have hzl : zs.length = cap := by simpa using hlen
    refine ⟨fun h0 => ?_, by omega, by omega⟩
    obtain ⟨b, o, spot⟩ := a'
    have hspot : spot = none := by simpa [Addr.add] using World.cell?_spot (hcell 0 (by omega))
    subst hspot
    refine ⟨b, o, rfl, fun i hi => ?_⟩
    have hi' : i < zs.length := by omega
    have hw := wf_u8_of (hwf (zs.getD i 0) (by simp [List.getD, hi']))
    obtain ⟨z, hz⟩ := Int.eq_ofNat_of_zero_le hw.1
    refine ⟨z, by omega, ?_⟩
    rw [← add_plain, hcell i hi', hz]

theorem Try.cellsB : Try.prog.cellsOf 5 = 1 := by kernel_rfl

end Go.Proofs.Ytkahgpgnfodpgaa
end
