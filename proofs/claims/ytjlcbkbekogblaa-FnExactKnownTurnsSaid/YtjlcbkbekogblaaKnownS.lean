/- Chapter 8: the contracts of spec.KnownOnes, spec.KnownDivisors and spec.KnownLeast. -/
import Derived.Test.YtjlcbkbekogblaaKnownK
namespace Go.Proofs.Ytjlcbkbekogblaa
open Go.RowKit Go.Deep

def rowTo (f : Nat → Nat → Int) (r k : Nat) : List Int := (List.range k).map fun j => f r j
theorem rowTo_succ (f : Nat → Nat → Int) (r k : Nat) : rowTo f r (k + 1) = rowTo f r k ++ [f r k] := by simp [rowTo, List.range_succ]
theorem rowTo_length (f : Nat → Nat → Int) (r k : Nat) : (rowTo f r k).length = k := by simp [rowTo]
theorem szL_res {ok : Bool} {n : Nat} {f : Nat → Nat → Int} (h : ok = true → n ≤ 6) : szL (resT ok (tabF n n f)) ≤ 1048576 := by
  cases ok with
  | false => simp [resT, szL, sumTo]
  | true => exact szL_tabF _ _ _ (by have := h rfl; omega) (by have := h rfl; omega)
theorem tabF_succ (r m : Nat) (f : Nat → Nat → Int) : tabF (r + 1) m f = tabF r m f ++ [rowTo f r m] := by simp [tabF, rowTo, List.range_succ]

set_option maxRecDepth 100000 in
set_option maxHeartbeats 4000000 in
theorem specKnownDivisors_any (n : Int) (w : World) :
    Calls Try.prog 35 #[.int .i64 n] w (SpecT w (inB n 1 6) (gcL n.toNat)) := by
  have E := l6In_any n 1 6 w
  cases hin : inB n 1 6 with
  | false =>
    rw [hin] at E
    replace E := Lib.hid E
    clear hin
    go_enter Try.func35, Try.ntmps35
    go_wp2_with fail
    refine (E.out).mono ?_
    rintro e w' ⟨rfl, rfl⟩
    go_wp2_with fail
    refine (l1None_any w).mono ?_
    rintro e w2 ⟨rfl, hs2⟩
    go_wp2
    go_ret2
    exact ⟨_, _, rfl, hs2, InT.nil _ _ _ _⟩
  | true =>
    rw [hin] at E
    replace E := Lib.hid E
    have h6 := of_decide_eq_true hin
    obtain ⟨m, rfl⟩ := Int.eq_ofNat_of_zero_le (show 0 ≤ n by omega)
    clear hin
    rw [Int.toNat_natCast]
    unfold gcL
    have hm6 : 1 ≤ m ∧ m ≤ 6 := by omega
    obtain ⟨i42, hi42⟩ := info42_parts
    obtain ⟨i3, hi3⟩ := info3_parts
    have HI := Lib.hid hi42
    have HJ := Lib.hid hi3
    have HST := Lib.hid (bt_start w (fun _ => none) (fun _ => 0) #[] rfl)
    clear hi42 hi3
    go_enter Try.func35, Try.ntmps35
    go_wp2_with fail
    refine (E.out).mono ?_
    rintro e w' ⟨rfl, rfl⟩
    go_wp2
    go_loopg [4, 5, 6, 7] m (fun g v k _ _ wr => ∃ r : Nat, ∃ A C, r ≤ m ∧ g = m - r ∧ k = .int .i64 ((r : Int) + 1) ∧ BT w wr v (tabF r m (fun i k => ((Nat.gcd (i + 1) (k + 1) : Nat) : Int))) A C)
    case atStart => exact ⟨0, _, _, Nat.zero_le _, rfl, by go_num, HST.out⟩
    case round =>
      obtain ⟨r, A, C, hr, rfl, rfl, hR⟩ := hrel
      clear HST
      by_cases hlt : r < m
      · have HR := Lib.hid hR
        have hrb := rb_start wr #[] rfl
        have HRB := Lib.hid hrb
        have hsz2 := hR.since.size
        have hlen := tabF_length r m (fun i k => ((Nat.gcd (i + 1) (k + 1) : Nat) : Int))
        have hkd : decide ((r : Int) + 1 ≤ (m : Int)) = true := by simp; omega
        obtain ⟨wo, rfl⟩ : ∃ wo : World, wo = wr := ⟨_, rfl⟩
        clear hR hrb
        go_wp2
        go_loopg [6, 7] m (fun g v i wi => ∃ t : Nat, t ≤ m ∧ g = m - t ∧ i = .int .i64 ((t : Int) + 1) ∧ RB wo wi v (rowTo (fun i k => ((Nat.gcd (i + 1) (k + 1) : Nat) : Int)) r t))
        case atStart => exact ⟨0, Nat.zero_le _, rfl, by go_num, HRB.out⟩
        case round =>
          obtain ⟨t, ht, rfl, rfl, hI⟩ := hrel
          clear HRB
          by_cases htm : t < m
          · have hle := rowTo_length (fun i k => ((Nat.gcd (i + 1) (k + 1) : Nat) : Int)) r t
            have hzi := hI.since.size
            have hS := HR.out.since.trans (since_mono hI.since hsz2)
            have HII := Lib.hid hI
            obtain ⟨y, hy⟩ : ∃ y, y = (fun i k => ((Nat.gcd (i + 1) (k + 1) : Nat) : Int)) r t := ⟨_, rfl⟩
            have HY := Lib.hid hy
            clear hI
            have E := l3Gcd_any (r + 1) (t + 1) wr (by omega) (by omega)
            rw [show ((r + 1 : Nat) : Int) = (r : Int) + 1 by omega, show ((t + 1 : Nat) : Int) = (t : Int) + 1 by omega] at E
            have hy2 : y = ((Nat.gcd (r + 1) (t + 1) : Nat) : Int) := hy
            rw [← hy2] at E
            replace E := Lib.hid E
            clear hy hy2
            go_wp2_with fail
            refine (E.out).mono ?_
            rintro e w' ⟨rfl, rfl⟩
            go_wp2_with (at_builtin; (refine wpList_append_own _ rfl _ _ 31 rfl wo.heap.size 3 i3 (.int .i64 0) 1 8 Try.underlying31 HJ.out.1 HJ.out.2.1 HJ.out.2.2.1 HJ.out.2.2.2 rfl (by decide) _ _ _ rfl (HII.out.own.alloc _) ⟨wr.heap.size, 0, none⟩ 1 1 [.int .i64 y] rfl rfl (cell_one_at _ _ _ rfl) (fun x hx => by simp at hx; subst hx; rfl) (by unfold maxLen; omega) (by omega) (by simp; omega) ?_); intro v' w1 hown' hgrow _)
            have hP := HII.out.push hown' hgrow
            rw [HY.out, ← rowTo_succ] at hP
            have HP := Lib.hid hP
            clear hP hown' hgrow hle
            go_roundg (m - (t + 1))
            case measure => omega
            case rel => exact ⟨t + 1, by omega, rfl, by go_num, HP.out⟩
          · have hjj : t = m := by omega
            subst hjj
            obtain ⟨ra, rcp, hv, hrow⟩ := hI.slice
            rw [rowTo_length] at hv
            subst hv
            have HII := Lib.hid hI
            have hle := rowTo_length (fun i k => ((Nat.gcd (i + 1) (k + 1) : Nat) : Int)) r t
            have hzi := hI.since.size
            have HROW := Lib.hid hrow
            clear hI hrow
            have hBT := HR.out.later HII.out.since
            have HBT := Lib.hid hBT
            clear hBT
            go_wp2_with (at_builtin; (refine wpList_append_own _ rfl _ _ 22 rfl w.heap.size 31 i42 (.slice none 0 0) 1 24 Try.underlying22 HI.out.1 HI.out.2.1 HI.out.2.2.1 HI.out.2.2.2 rfl (by decide) _ _ _ rfl (HBT.out.own.alloc _) ⟨wr.heap.size, 0, none⟩ 1 1 [.slice ra t rcp] rfl rfl (cell_one_at _ _ _ rfl) (fun x hx => by simp at hx; subst hx; rfl) (by unfold maxLen; omega) (by omega) (by simp; omega) ?_); intro v' w1 hown' hgrow _)
            have hP := HBT.out.push (rv := .slice ra t rcp) (x := rowTo (fun i k => ((Nat.gcd (i + 1) (k + 1) : Nat) : Int)) r t) (a := ra) (cp := rcp) (by rw [rowTo_length]) (fun h => by obtain ⟨G, e, h2, h3⟩ := HROW.out h; exact ⟨G, e, by omega, h3⟩) (fun h => by obtain ⟨G, e, h2, _⟩ := HROW.out h; exact HR.out.fresh e h2) hown' hgrow
            rw [← tabF_succ] at hP
            have HP := Lib.hid hP
            clear hP hown' hgrow hle hlen
            go_roundg (t - (r + 1))
            case measure => omega
            case rel => exact ⟨r + 1, _, _, by omega, rfl, by go_num, HP.out⟩
      · have hrm : r = m := by omega
        subst hrm
        obtain ⟨ra, rcp, hv, hin⟩ := hR.slice
        rw [tabF_length] at hv
        subst hv
        have HS := Lib.hid hR.since
        have hsw := hR.since.size
        have HIN := Lib.hid hin
        have HTT := Lib.hid (show resT true (tabF r r (fun i k => ((Nat.gcd (i + 1) (k + 1) : Nat) : Int))) = tabF r r (fun i k => ((Nat.gcd (i + 1) (k + 1) : Nat) : Int)) from rfl)
        clear hR hin
        go_wp2
        go_ret2
        exact ⟨ra, rcp, by rw [HTT.out]; show _ = Ending.returned (.tuple #[.slice ra (tabF r r (fun i k => ((Nat.gcd (i + 1) (k + 1) : Nat) : Int))).length rcp, .bool true]); rw [tabF_length]; rfl, HS.out, HIN.out⟩

set_option maxRecDepth 100000 in
set_option maxHeartbeats 4000000 in
theorem specKnownLeast_any (n : Int) (w : World) :
    Calls Try.prog 39 #[.int .i64 n] w (SpecT w (inB n 1 6) (mnL n.toNat)) := by
  have E := l6In_any n 1 6 w
  cases hin : inB n 1 6 with
  | false =>
    rw [hin] at E
    replace E := Lib.hid E
    clear hin
    go_enter Try.func39, Try.ntmps39
    go_wp2_with fail
    refine (E.out).mono ?_
    rintro e w' ⟨rfl, rfl⟩
    go_wp2_with fail
    refine (l1None_any w).mono ?_
    rintro e w2 ⟨rfl, hs2⟩
    go_wp2
    go_ret2
    exact ⟨_, _, rfl, hs2, InT.nil _ _ _ _⟩
  | true =>
    rw [hin] at E
    replace E := Lib.hid E
    have h6 := of_decide_eq_true hin
    obtain ⟨m, rfl⟩ := Int.eq_ofNat_of_zero_le (show 0 ≤ n by omega)
    clear hin
    rw [Int.toNat_natCast]
    unfold mnL
    have hm6 : 1 ≤ m ∧ m ≤ 6 := by omega
    obtain ⟨i42, hi42⟩ := info42_parts
    obtain ⟨i3, hi3⟩ := info3_parts
    have HI := Lib.hid hi42
    have HJ := Lib.hid hi3
    have HST := Lib.hid (bt_start w (fun _ => none) (fun _ => 0) #[] rfl)
    clear hi42 hi3
    go_enter Try.func39, Try.ntmps39
    go_wp2_with fail
    refine (E.out).mono ?_
    rintro e w' ⟨rfl, rfl⟩
    go_wp2
    go_loopg [4, 5, 6, 7] m (fun g v k _ _ wr => ∃ r : Nat, ∃ A C, r ≤ m ∧ g = m - r ∧ k = .int .i64 r ∧ BT w wr v (tabF r m (fun i k => ((min i k : Nat) : Int) + 1)) A C)
    case atStart => exact ⟨0, _, _, Nat.zero_le _, rfl, by go_num, HST.out⟩
    case round =>
      obtain ⟨r, A, C, hr, rfl, rfl, hR⟩ := hrel
      clear HST
      by_cases hlt : r < m
      · have HR := Lib.hid hR
        have hrb := rb_start wr #[] rfl
        have HRB := Lib.hid hrb
        have hsz2 := hR.since.size
        have hlen := tabF_length r m (fun i k => ((min i k : Nat) : Int) + 1)
        obtain ⟨wo, rfl⟩ : ∃ wo : World, wo = wr := ⟨_, rfl⟩
        clear hR hrb
        go_wp2
        go_loopg [6, 7] m (fun g v i wi => ∃ t : Nat, t ≤ m ∧ g = m - t ∧ i = .int .i64 t ∧ RB wo wi v (rowTo (fun i k => ((min i k : Nat) : Int) + 1) r t))
        case atStart => exact ⟨0, Nat.zero_le _, rfl, by go_num, HRB.out⟩
        case round =>
          obtain ⟨t, ht, rfl, rfl, hI⟩ := hrel
          clear HRB
          by_cases htm : t < m
          · have hle := rowTo_length (fun i k => ((min i k : Nat) : Int) + 1) r t
            have hzi := hI.since.size
            have hS := HR.out.since.trans (since_mono hI.since hsz2)
            have HII := Lib.hid hI
            obtain ⟨y, hy⟩ : ∃ y, y = (fun i k => ((min i k : Nat) : Int) + 1) r t := ⟨_, rfl⟩
            have HY := Lib.hid hy
            clear hI
            have hy2 : y = ((min r t : Nat) : Int) + 1 := hy
            by_cases hrt : t < r
            · have hyt : (t : Int) + 1 = y := by omega
              clear hy hy2
              go_wp2_with (at_builtin; (refine wpList_append_own _ rfl _ _ 31 rfl wo.heap.size 3 i3 (.int .i64 0) 1 8 Try.underlying31 HJ.out.1 HJ.out.2.1 HJ.out.2.2.1 HJ.out.2.2.2 rfl (by decide) _ _ _ rfl (HII.out.own.alloc _) ⟨wr.heap.size, 0, none⟩ 1 1 [.int .i64 y] rfl rfl (cell_one_at _ _ _ rfl) (fun x hx => by simp at hx; subst hx; rfl) (by unfold maxLen; omega) (by omega) (by simp; omega) ?_); intro v' w1 hown' hgrow _)
              have hP := HII.out.push hown' hgrow
              rw [HY.out, ← rowTo_succ] at hP
              have HP := Lib.hid hP
              clear hP hown' hgrow hle
              go_roundg (m - (t + 1))
              case measure => omega
              case rel => exact ⟨t + 1, by omega, rfl, by go_num, HP.out⟩
            · have hyt : (r : Int) + 1 = y := by omega
              clear hy hy2
              go_wp2_with (at_builtin; (refine wpList_append_own _ rfl _ _ 31 rfl wo.heap.size 3 i3 (.int .i64 0) 1 8 Try.underlying31 HJ.out.1 HJ.out.2.1 HJ.out.2.2.1 HJ.out.2.2.2 rfl (by decide) _ _ _ rfl (HII.out.own.alloc _) ⟨wr.heap.size, 0, none⟩ 1 1 [.int .i64 y] rfl rfl (cell_one_at _ _ _ rfl) (fun x hx => by simp at hx; subst hx; rfl) (by unfold maxLen; omega) (by omega) (by simp; omega) ?_); intro v' w1 hown' hgrow _)
              have hP := HII.out.push hown' hgrow
              rw [HY.out, ← rowTo_succ] at hP
              have HP := Lib.hid hP
              clear hP hown' hgrow hle
              go_roundg (m - (t + 1))
              case measure => omega
              case rel => exact ⟨t + 1, by omega, rfl, by go_num, HP.out⟩
          · have hjj : t = m := by omega
            subst hjj
            obtain ⟨ra, rcp, hv, hrow⟩ := hI.slice
            rw [rowTo_length] at hv
            subst hv
            have HII := Lib.hid hI
            have hle := rowTo_length (fun i k => ((min i k : Nat) : Int) + 1) r t
            have hzi := hI.since.size
            have HROW := Lib.hid hrow
            clear hI hrow
            have hBT := HR.out.later HII.out.since
            have HBT := Lib.hid hBT
            clear hBT
            go_wp2_with (at_builtin; (refine wpList_append_own _ rfl _ _ 22 rfl w.heap.size 31 i42 (.slice none 0 0) 1 24 Try.underlying22 HI.out.1 HI.out.2.1 HI.out.2.2.1 HI.out.2.2.2 rfl (by decide) _ _ _ rfl (HBT.out.own.alloc _) ⟨wr.heap.size, 0, none⟩ 1 1 [.slice ra t rcp] rfl rfl (cell_one_at _ _ _ rfl) (fun x hx => by simp at hx; subst hx; rfl) (by unfold maxLen; omega) (by omega) (by simp; omega) ?_); intro v' w1 hown' hgrow _)
            have hP := HBT.out.push (rv := .slice ra t rcp) (x := rowTo (fun i k => ((min i k : Nat) : Int) + 1) r t) (a := ra) (cp := rcp) (by rw [rowTo_length]) (fun h => by obtain ⟨G, e, h2, h3⟩ := HROW.out h; exact ⟨G, e, by omega, h3⟩) (fun h => by obtain ⟨G, e, h2, _⟩ := HROW.out h; exact HR.out.fresh e h2) hown' hgrow
            rw [← tabF_succ] at hP
            have HP := Lib.hid hP
            clear hP hown' hgrow hle hlen
            go_roundg (t - (r + 1))
            case measure => omega
            case rel => exact ⟨r + 1, _, _, by omega, rfl, by go_num, HP.out⟩
      · have hrm : r = m := by omega
        subst hrm
        obtain ⟨ra, rcp, hv, hin⟩ := hR.slice
        rw [tabF_length] at hv
        subst hv
        have HS := Lib.hid hR.since
        have hsw := hR.since.size
        have HIN := Lib.hid hin
        have HTT := Lib.hid (show resT true (tabF r r (fun i k => ((min i k : Nat) : Int) + 1)) = tabF r r (fun i k => ((min i k : Nat) : Int) + 1) from rfl)
        clear hR hin
        go_wp2
        go_ret2
        exact ⟨ra, rcp, by rw [HTT.out]; show _ = Ending.returned (.tuple #[.slice ra (tabF r r (fun i k => ((min i k : Nat) : Int) + 1)).length rcp, .bool true]); rw [tabF_length]; rfl, HS.out, HIN.out⟩

set_option maxRecDepth 100000 in
set_option maxHeartbeats 4000000 in
theorem specKnownOnes_any (n a b : Int) (w : World) :
    Calls Try.prog 31 #[.int .i64 n, .int .i64 a, .int .i64 b] w (SpecT w (onB n a b) (onL n.toNat a b)) := by
  have hsp : onB n a b = (inB n 1 6 && (inB a (-30) 30 && inB b (-30) 30)) := rfl
  have E0 := l6In_any n 1 6 w
  cases h0 : inB n 1 6 with
  | false =>
    rw [h0] at hsp
    replace hsp : onB n a b = false := hsp.trans rfl
    rw [hsp]
    rw [h0] at E0
    replace E0 := Lib.hid E0
    clear hsp h0
    go_enter Try.func31, Try.ntmps31
    go_wp2_with fail
    refine (E0.out).mono ?_
    rintro e w' ⟨rfl, rfl⟩
    go_wp2_with fail
    refine (l1None_any w).mono ?_
    rintro e w2 ⟨rfl, hs2⟩
    go_wp2
    go_ret2
    exact ⟨_, _, rfl, hs2, InT.nil _ _ _ _⟩
  | true =>
    rw [h0] at E0
    replace E0 := Lib.hid E0
    have E1 := l6In_any a (-30) 30 w
    cases h1 : inB a (-30) 30 with
    | false =>
      rw [h0, h1] at hsp
      replace hsp : onB n a b = false := hsp.trans rfl
      rw [hsp]
      rw [h1] at E1
      replace E1 := Lib.hid E1
      clear hsp h0 h1
      go_enter Try.func31, Try.ntmps31
      go_wp2_with fail
      refine (E0.out).mono ?_
      rintro e w' ⟨rfl, rfl⟩
      go_wp2_with fail
      refine (E1.out).mono ?_
      rintro e w' ⟨rfl, rfl⟩
      go_wp2_with fail
      refine (l1None_any w).mono ?_
      rintro e w2 ⟨rfl, hs2⟩
      go_wp2
      go_ret2
      exact ⟨_, _, rfl, hs2, InT.nil _ _ _ _⟩
    | true =>
      rw [h1] at E1
      replace E1 := Lib.hid E1
      have E2 := l6In_any b (-30) 30 w
      cases h2 : inB b (-30) 30 with
      | false =>
        rw [h0, h1, h2] at hsp
        replace hsp : onB n a b = false := hsp.trans rfl
        rw [hsp]
        rw [h2] at E2
        replace E2 := Lib.hid E2
        clear hsp h0 h1 h2
        go_enter Try.func31, Try.ntmps31
        go_wp2_with fail
        refine (E0.out).mono ?_
        rintro e w' ⟨rfl, rfl⟩
        go_wp2_with fail
        refine (E1.out).mono ?_
        rintro e w' ⟨rfl, rfl⟩
        go_wp2_with fail
        refine (E2.out).mono ?_
        rintro e w' ⟨rfl, rfl⟩
        go_wp2_with fail
        refine (l1None_any w).mono ?_
        rintro e w2 ⟨rfl, hs2⟩
        go_wp2
        go_ret2
        exact ⟨_, _, rfl, hs2, InT.nil _ _ _ _⟩
      | true =>
        rw [h2] at E2
        replace E2 := Lib.hid E2
        rw [h0, h1, h2] at hsp
        obtain ⟨hn, ha, hb⟩ := onB_of (show onB n a b = true from hsp)
        rw [show onB n a b = true from hsp]
        clear h0 h1 h2 hsp
        obtain ⟨m, rfl⟩ := Int.eq_ofNat_of_zero_le (show 0 ≤ n by omega)
        rw [Int.toNat_natCast]
        unfold onL
        have hm6 : 1 ≤ m ∧ m ≤ 6 := by omega
        obtain ⟨i42, hi42⟩ := info42_parts
        obtain ⟨i3, hi3⟩ := info3_parts
        have HI := Lib.hid hi42
        have HJ := Lib.hid hi3
        have HST := Lib.hid (bt_start w (fun _ => none) (fun _ => 0) #[] rfl)
        clear hi42 hi3
        go_enter Try.func31, Try.ntmps31
        go_wp2_with fail
        refine (E0.out).mono ?_
        rintro e w' ⟨rfl, rfl⟩
        go_wp2_with fail
        refine (E1.out).mono ?_
        rintro e w' ⟨rfl, rfl⟩
        go_wp2_with fail
        refine (E2.out).mono ?_
        rintro e w' ⟨rfl, rfl⟩
        go_wp2
        go_loopg [8, 9, 10, 11] m (fun g v k _ _ wr => ∃ r : Nat, ∃ A C, r ≤ m ∧ g = m - r ∧ k = .int .i64 r ∧ BT w wr v (tabF r m (onF a b)) A C)
        case atStart => exact ⟨0, _, _, Nat.zero_le _, rfl, by go_num, HST.out⟩
        case round =>
          obtain ⟨r, A, C, hr, rfl, rfl, hR⟩ := hrel
          clear HST
          by_cases hlt : r < m
          · have HR := Lib.hid hR
            have hrb := rb_start wr #[] rfl
            have HRB := Lib.hid hrb
            have hsz2 := hR.since.size
            have hlen := tabF_length r m (onF a b)
            obtain ⟨wo, rfl⟩ : ∃ wo : World, wo = wr := ⟨_, rfl⟩
            clear hR hrb
            go_wp2
            go_loopg [10, 11] m (fun g v i wi => ∃ t : Nat, t ≤ m ∧ g = m - t ∧ i = .int .i64 t ∧ RB wo wi v (rowTo (onF a b) r t))
            case atStart => exact ⟨0, Nat.zero_le _, rfl, by go_num, HRB.out⟩
            case round =>
              obtain ⟨t, ht, rfl, rfl, hI⟩ := hrel
              clear HRB
              by_cases htm : t < m
              · have hle := rowTo_length (onF a b) r t
                have hzi := hI.since.size
                have hS := HR.out.since.trans (since_mono hI.since hsz2)
                have HII := Lib.hid hI
                obtain ⟨y, hy⟩ : ∃ y, y = (onF a b) r t := ⟨_, rfl⟩
                have HY := Lib.hid hy
                clear hI
                clear hy HY
                by_cases hrt : r = t
                · subst hrt
                  have HA := Lib.hid (show onF a b r r = a from if_pos rfl)
                  go_wp2_with (at_builtin; (refine wpList_append_own _ rfl _ _ 31 rfl wo.heap.size 3 i3 (.int .i64 0) 1 8 Try.underlying31 HJ.out.1 HJ.out.2.1 HJ.out.2.2.1 HJ.out.2.2.2 rfl (by decide) _ _ _ rfl (HII.out.own.alloc _) ⟨wr.heap.size, 0, none⟩ 1 1 [.int .i64 a] rfl rfl (cell_one_at _ _ _ rfl) (fun x hx => by simp at hx; subst hx; rfl) (by unfold maxLen; omega) (by omega) (by simp; omega) ?_); intro v' w1 hown' hgrow _)
                  have hP0 := HII.out.push hown' hgrow
                  have hP : RB wo w1 v' (rowTo (onF a b) r r ++ [onF a b r r]) := by rw [HA.out]; exact hP0
                  rw [← rowTo_succ] at hP
                  have HP := Lib.hid hP
                  clear hP hP0 hown' hgrow hle
                  go_roundg (m - (r + 1))
                  case measure => omega
                  case rel => exact ⟨r + 1, by omega, rfl, by go_num, HP.out⟩
                · have HA := Lib.hid (show onF a b r t = b from if_neg hrt)
                  have hne : ((r : Int) == (t : Int)) = false := by simp; omega
                  go_wp2_with (at_builtin; (refine wpList_append_own _ rfl _ _ 31 rfl wo.heap.size 3 i3 (.int .i64 0) 1 8 Try.underlying31 HJ.out.1 HJ.out.2.1 HJ.out.2.2.1 HJ.out.2.2.2 rfl (by decide) _ _ _ rfl (HII.out.own.alloc _) ⟨wr.heap.size, 0, none⟩ 1 1 [.int .i64 b] rfl rfl (cell_one_at _ _ _ rfl) (fun x hx => by simp at hx; subst hx; rfl) (by unfold maxLen; omega) (by omega) (by simp; omega) ?_); intro v' w1 hown' hgrow _)
                  have hP0 := HII.out.push hown' hgrow
                  have hP : RB wo w1 v' (rowTo (onF a b) r t ++ [onF a b r t]) := by rw [HA.out]; exact hP0
                  rw [← rowTo_succ] at hP
                  have HP := Lib.hid hP
                  clear hP hP0 hown' hgrow hle
                  go_roundg (m - (t + 1))
                  case measure => omega
                  case rel => exact ⟨t + 1, by omega, rfl, by go_num, HP.out⟩
              · have hjj : t = m := by omega
                subst hjj
                obtain ⟨ra, rcp, hv, hrow⟩ := hI.slice
                rw [rowTo_length] at hv
                subst hv
                have HII := Lib.hid hI
                have hle := rowTo_length (onF a b) r t
                have hzi := hI.since.size
                have HROW := Lib.hid hrow
                clear hI hrow
                have hBT := HR.out.later HII.out.since
                have HBT := Lib.hid hBT
                clear hBT
                go_wp2_with (at_builtin; (refine wpList_append_own _ rfl _ _ 22 rfl w.heap.size 31 i42 (.slice none 0 0) 1 24 Try.underlying22 HI.out.1 HI.out.2.1 HI.out.2.2.1 HI.out.2.2.2 rfl (by decide) _ _ _ rfl (HBT.out.own.alloc _) ⟨wr.heap.size, 0, none⟩ 1 1 [.slice ra t rcp] rfl rfl (cell_one_at _ _ _ rfl) (fun x hx => by simp at hx; subst hx; rfl) (by unfold maxLen; omega) (by omega) (by simp; omega) ?_); intro v' w1 hown' hgrow _)
                have hP := HBT.out.push (rv := .slice ra t rcp) (x := rowTo (onF a b) r t) (a := ra) (cp := rcp) (by rw [rowTo_length]) (fun h => by obtain ⟨G, e, h2, h3⟩ := HROW.out h; exact ⟨G, e, by omega, h3⟩) (fun h => by obtain ⟨G, e, h2, _⟩ := HROW.out h; exact HR.out.fresh e h2) hown' hgrow
                rw [← tabF_succ] at hP
                have HP := Lib.hid hP
                clear hP hown' hgrow hle hlen
                go_roundg (t - (r + 1))
                case measure => omega
                case rel => exact ⟨r + 1, _, _, by omega, rfl, by go_num, HP.out⟩
          · have hrm : r = m := by omega
            subst hrm
            obtain ⟨ra, rcp, hv, hin⟩ := hR.slice
            rw [tabF_length] at hv
            subst hv
            have HS := Lib.hid hR.since
            have hsw := hR.since.size
            have HD := Lib.hid (l1Done_any ra rcp r _ _ (tabF r r (onF a b)) wr (tabF_length r r (onF a b)) (szL_tabF _ _ _ (by omega) (by omega)) hin)
            have HTI := Lib.hid (show tabIn (tabF r r (onF a b)) = true from onL_in (m := r) (by omega) (by omega) ha hb)
            clear hR hin
            go_wp2_with fail
            refine (HD.out).mono ?_
            rintro e w2 ⟨a', c', rfl, hs2, hin2⟩
            rw [HTI.out] at hin2 ⊢
            go_wp2
            go_ret2
            exact ⟨a', c', rfl, HS.out.trans (since_mono hs2 hsw), hin2.mono (Nat.le_refl _) hs2.size⟩

end Go.Proofs.Ytjlcbkbekogblaa
