/- The contract of spec.KnownPowers. -/
import Derived.Test.YtkahgpgnfodpgaaCopy
import Derived.Test.YtkahgpgnfodpgaaTurnSpec
import Derived.Test.YtkahgpgnfodpgaaAppK
import Derived.Deep.RegionHeld3
namespace Go.Proofs.Ytkahgpgnfodpgaa
open Go.RowKit Go.Deep

/-- The first numbers lie in a range. -/
def ListK (x : List Int) (most : Int) (k : Nat) : Prop := ∀ j, j < k → inB (x.getD j 0) (-most) most = true
open Classical in
noncomputable def l8B (x : List Int) (most : Int) : Bool := decide (ListK x most x.length) && inB x.length 1 6
theorem ListK.succ {x : List Int} {most : Int} {k : Nat} (h : ListK x most k) (hk : inB (x.getD k 0) (-most) most = true) : ListK x most (k + 1) := fun j hj => by
  rcases Nat.lt_succ_iff_lt_or_eq.1 hj with hlt | heq
  · exact h j hlt
  · rw [heq]; exact hk
theorem l8B_no {x : List Int} {most : Int} (h : ¬ ListK x most x.length) : l8B x most = false := by simp [l8B, h]
theorem l8B_all {x : List Int} {most : Int} (h : ListK x most x.length) : l8B x most = inB x.length 1 6 := by simp [l8B, h]
theorem l8B_of {x : List Int} {most : Int} (h : l8B x most = true) : ListK x most x.length ∧ 1 ≤ x.length ∧ x.length ≤ 6 := by
  simp only [l8B, Bool.and_eq_true, decide_eq_true_eq] at h
  refine ⟨h.1, ?_⟩
  have := h.2
  simp [inB] at this
  omega

set_option maxHeartbeats 1000000 in
theorem l8List_any (a : Option Addr) (cap m : Nat) (x : List Int) (most : Int) (w : World) (hmo : 0 ≤ most ∧ most ≤ 1000) (hn : x.length = m) (h63 : m ≤ 9223372036854775807) (hm : RowR w a x) :
    Calls Try.prog 67 #[.slice a m cap, .int .i64 most] w fun e w' => e = .returned (.bool (l8B x most)) ∧ w = w' := by
  have H := Lib.hid hn; clear hn
  go_enter Try.func67, Try.ntmps67
  go_wp2
  go_loopg [5] m (fun g i wr => ∃ k : Nat, k ≤ m ∧ g = m - k ∧ i = .int .i64 k ∧ w = wr ∧ ListK x most k)
  case atStart => exact ⟨0, Nat.zero_le _, rfl, rfl, rfl, fun r hr => absurd hr (Nat.not_lt_zero _)⟩
  case round =>
    obtain ⟨k, hk, rfl, rfl, rfl, hN⟩ := hrel
    by_cases hlt : k < m
    · obtain ⟨b, o, rfl, hc⟩ := hm (by rw [H.out]; omega)
      have cj := hc k (by rw [H.out]; exact hlt)
      obtain ⟨y, hy⟩ : ∃ y, y = x.getD k 0 := ⟨_, rfl⟩
      rw [← hy] at cj
      have HY := Lib.hid hy
      clear hc hy hm
      have E1 := l6In_any y (-most) most w
      cases hiy : inB y (-most) most with
      | true =>
        rw [hiy] at E1
        replace E1 := Lib.hid E1
        have HI := Lib.hid hiy
        clear hiy
        go_wp2_with fail
        refine (E1.out).mono ?_
        rintro e w' ⟨rfl, rfl⟩
        go_wp2
        go_roundg (m - (k + 1))
        case measure => omega
        case rel => exact ⟨k + 1, by omega, rfl, by go_num, rfl, hN.succ (by rw [← HY.out]; exact HI.out)⟩
      | false =>
        rw [hiy] at E1
        replace E1 := Lib.hid E1
        have HI := Lib.hid hiy
        clear hiy
        have hno := Lib.hid (l8B_no (x := x) (most := most) fun hT => by
          have := hT k (by rw [H.out]; exact hlt)
          rw [← HY.out, HI.out] at this
          exact Bool.noConfusion this)
        go_wp2_with fail
        refine (E1.out).mono ?_
        rintro e w' ⟨rfl, rfl⟩
        go_wp2
        go_ret
        exact ⟨by rw [hno.out]; rfl, rfl⟩
    · have hkm : k = m := by omega
      subst hkm
      have hal := Lib.hid (l8B_all (x := x) (most := most) (by rw [H.out]; exact hN))
      have E2 := Lib.hid (l6In_any (k : Int) 1 6 w)
      go_wp2_with fail
      refine (E2.out).mono ?_
      rintro e w' ⟨rfl, rfl⟩
      go_wp2
      go_ret
      exact ⟨by rw [hal.out, H.out]; rfl, rfl⟩

/-- Row i of the powers, as far as its first k numbers, and the first rows of them. -/
def pwRow (x : List Int) (i k : Nat) : List Int := (List.range k).map fun j => (x.getD i 0) ^ j
theorem pwRow_succ (x : List Int) (i k : Nat) : pwRow x i (k + 1) = pwRow x i k ++ [(x.getD i 0) ^ k] := by simp [pwRow, List.range_succ]
theorem pwRow_length (x : List Int) (i k : Nat) : (pwRow x i k).length = k := by simp [pwRow]
theorem pwRow_at (x : List Int) (i : Nat) {k j : Nat} (h : j < k) : (pwRow x i k).getD j 0 = (x.getD i 0) ^ j := by simp [pwRow, List.getD, h]
def pwTo (x : List Int) (m r : Nat) : List (List Int) := tabF r m fun i k => (x.getD i 0) ^ k
theorem pwTo_succ (x : List Int) (m r : Nat) : pwTo x m (r + 1) = pwTo x m r ++ [pwRow x r m] := by simp [pwTo, tabF, pwRow, List.range_succ]
theorem pwTo_length (x : List Int) (m r : Nat) : (pwTo x m r).length = r := tabF_length _ _ _
theorem pow_bd {y : Int} (h : -30 ≤ y ∧ y ≤ 30) : ∀ t : Nat, -((30 : Int) ^ t) ≤ y ^ t ∧ y ^ t ≤ (30 : Int) ^ t
  | 0 => by simp
  | t + 1 => by
    obtain ⟨i1, i2⟩ := pow_bd h t
    rw [Int.pow_succ, Int.pow_succ]
    generalize (30 : Int) ^ t = A at *
    generalize y ^ t = b at *
    have h1 : (A + b) * (30 - y) ≥ 0 := Int.mul_nonneg (by omega) (by omega)
    have h2 : (A + b) * (30 + y) ≥ 0 := Int.mul_nonneg (by omega) (by omega)
    have h3 : (A - b) * (30 + y) ≥ 0 := Int.mul_nonneg (by omega) (by omega)
    have h4 : (A - b) * (30 - y) ≥ 0 := Int.mul_nonneg (by omega) (by omega)
    simp only [Int.add_mul, Int.sub_mul, Int.mul_add, Int.mul_sub] at h1 h2 h3 h4
    omega
theorem pow30 : ∀ t : Fin 6, (30 : Int) ^ t.val ≤ 24300000 := by decide +kernel
theorem pow_bd5 {y : Int} (h : -30 ≤ y ∧ y ≤ 30) {t : Nat} (ht : t ≤ 5) : -24300000 ≤ y ^ t ∧ y ^ t ≤ 24300000 := by
  have h1 := pow_bd h t
  have h2 := pow30 ⟨t, by omega⟩
  simp only at h2
  omega
theorem rb_one (w : World) (v : Int) : RB w (w.alloc (.cells #[.int .i64 v] 3)) (.slice (some ⟨w.heap.size, 0, none⟩) 1 1) [v] :=
  ⟨(World.Since.refl _ _).alloc (Nat.le_refl _) _, by simp, .inr ⟨w.heap.size, 1, #[.int .i64 v], rfl, Nat.le_refl _, heap_alloc_new w _, Nat.le_refl _, by unfold maxLen; omega, by simp, by simp⟩⟩

set_option maxRecDepth 100000 in
set_option maxHeartbeats 4000000 in
theorem specKnownPowers_any (a : Option Addr) (cap m : Nat) (x : List Int) (w : World) (hn : x.length = m) (h63 : m ≤ 9223372036854775807) (hm : RowR w a x) :
    Calls Try.prog 17 #[.slice a m cap] w fun e w' => ∃ a' cap', e = .returned (.tuple #[.slice a' (resT (l8B x 30 && tabIn (pwTo x m m)) (pwTo x m m)).length cap', .bool (l8B x 30 && tabIn (pwTo x m m))]) ∧ w.Since w.heap.size w' ∧ InT w.heap.size w'.heap.size w' a' (resT (l8B x 30 && tabIn (pwTo x m m)) (pwTo x m m)) := by
  have E := l8List_any a cap m x 30 w ⟨by omega, by omega⟩ hn h63 hm
  cases hok : l8B x 30 with
  | false =>
    rw [hok] at E
    replace E := Lib.hid E
    simp only [Bool.false_and]
    clear hok hm hn
    go_enter Try.func17, Try.ntmps17
    go_wp2_with fail
    refine (E.out).mono ?_
    rintro e w' ⟨rfl, rfl⟩
    go_wp2_with fail
    refine (l1None_any w).mono ?_
    rintro e w2 ⟨rfl, hs2⟩
    go_wp2
    go_ret2
    exact ⟨_, _, rfl, hs2, InT.nil _ _ _ _⟩
  | true =>
    rw [hok] at E
    replace E := Lib.hid E
    simp only [Bool.true_and]
    obtain ⟨hk, h1, h6⟩ := l8B_of hok
    rw [hn] at hk h1 h6
    obtain ⟨i42, hi42⟩ := info42_parts
    obtain ⟨i3, hi3⟩ := info3_parts
    have HI := Lib.hid hi42
    have HJ := Lib.hid hi3
    obtain ⟨bx, ox, rfl, hcx⟩ := hm (by omega)
    have HX := Lib.hid (fun (W : World) (hd : w.Since w.heap.size W) (k : Nat) (hk : k < m) => by
      have c := hcx k (by omega)
      exact (hd.cell (a := ⟨bx, ox + k, none⟩) (World.block_lt_of_cell? _ _ c)).trans c)
    have hst := bt_start w (fun _ => none) (fun _ => 0) #[] rfl
    have HST := Lib.hid hst
    have HK := Lib.hid hk
    have hsz : szL (pwTo x m m) ≤ 1048576 := szL_tabF _ _ _ (by omega) (by omega)
    clear hi42 hi3 hm hcx hn hok hst hk
    go_enter Try.func17, Try.ntmps17
    go_wp2_with fail
    refine (E.out).mono ?_
    rintro e w' ⟨rfl, rfl⟩
    go_wp2
    go_loopg [4, 5, 6, 7] m (fun g v k _ _ wr => ∃ r : Nat, ∃ A C, r ≤ m ∧ g = m - r ∧ k = .int .i64 r ∧ BT w wr v (pwTo x m r) A C)
    case atStart => exact ⟨0, _, _, Nat.zero_le _, rfl, rfl, HST.out⟩
    case round =>
      obtain ⟨r, A, C, hr, rfl, rfl, hR⟩ := hrel
      clear HST
      by_cases hlt : r < m
      · have HR := Lib.hid hR
        have hrb := rb_one wr 1
        have HRB := Lib.hid (show RB wr (wr.alloc (.cells #[.int .i64 1] 3)) (.slice (some ⟨wr.heap.size, 0, none⟩) 1 1) (pwRow x r 1) by rw [show pwRow x r 1 = [1] by simp [pwRow]]; exact hrb)
        have hsz2 := hR.since.size
        have hlen := pwTo_length x m r
        obtain ⟨wo, rfl⟩ : ∃ wo : World, wo = wr := ⟨_, rfl⟩
        have hy30 := HK.out r hlt
        simp only [inB, decide_eq_true_eq] at hy30
        clear hR hrb
        go_wp2
        go_loopg [6, 7] m (fun g v i wi => ∃ t : Nat, t + 1 ≤ m ∧ g = m - t ∧ i = .int .i64 ((t : Int) + 1) ∧ RB wo wi v (pwRow x r (t + 1)))
        case atStart => exact ⟨0, by omega, rfl, rfl, HRB.out⟩
        case round =>
          obtain ⟨t, ht, rfl, rfl, hI⟩ := hrel
          clear HRB
          have hzi := hI.since.size
          have hle := pwRow_length x r (t + 1)
          by_cases htm : t + 1 < m
          · have hS := HR.out.since.trans (since_mono hI.since hsz2)
            have cx := HX.out wr hS r hlt
            obtain ⟨ra, rcp, hv, hrow⟩ := hI.slice
            rw [hle] at hv
            subst hv
            obtain ⟨G, rfl, hG, hB⟩ := hrow (by omega)
            have c1 := hB.cell (i := t) (by omega)
            rw [pwRow_at x r (by omega)] at c1
            have hp := pow_bd5 hy30 (t := t) (by omega)
            have hq := pow_bd5 hy30 (t := t + 1) (by omega)
            have HS1 := Lib.hid (pwRow_succ x r (t + 1))
            have hpq := Int.pow_succ (x.getD r 0) t
            obtain ⟨y, hy⟩ : ∃ y, x.getD r 0 = y := ⟨_, rfl⟩
            obtain ⟨p, hpp⟩ : ∃ p, (x.getD r 0) ^ t = p := ⟨_, rfl⟩
            obtain ⟨q, hqq⟩ : ∃ q, (x.getD r 0) ^ (t + 1) = q := ⟨_, rfl⟩
            rw [hqq] at hq hpq
            rw [hpp] at hp hpq c1
            rw [hy] at hpq cx
            replace HS1 := Lib.hid (hqq ▸ HS1.out)
            have hsub : IntKind.i64.wrap ((t : Int) + 1 - 1) = (t : Int) := (IntWalk.i64_in _ ⟨by omega, by omega⟩).trans (by omega)
            have hsub2 : IntKind.i64.wrap (t : Int) = (t : Int) := IntWalk.i64_in _ ⟨by omega, by omega⟩
            have htt : t < t + 1 := by omega
            have hti : (t : Int) < (t : Int) + 1 := by omega
            have htc : (t : Int) < ((t + 1 : Nat) : Int) := by omega
            have hmul : IntKind.i64.wrap (p * y) = q := by rw [← hpq]; exact IntWalk.i64_in _ ⟨by omega, by omega⟩
            have hxg : bx < wo.heap.size := by
              have h1 : bx < w.heap.size := World.block_lt_of_cell? _ _ (HX.out w (World.Since.refl _ _) r hlt)
              have := HR.out.since.size
              omega
            have HII := Lib.hid (show RB wo wr.drew (.slice (some ⟨G, 0, none⟩) (t + 1) rcp) (pwRow x r (t + 1)) from hI.drewN 1)
            have HOW := Lib.hid (show wr.drew.ownsRow wo.heap.size 3 1 (.slice (some ⟨G, 0, none⟩) (t + 1) rcp) (t + 1) ((pwRow x r (t + 1)).map (Value.int .i64)) by have := HII.out.own; rw [hle] at this; exact this)
            have HAT := Lib.hid (show ((pwRow x r (t + 1)).map (Value.int .i64))[t]? = some (.int .i64 p) by
              have h := pwRow_at x r (show t < t + 1 by omega)
              have hl : t < (pwRow x r (t + 1)).length := by omega
              rw [hpp] at h
              rw [List.getElem?_map, List.getElem?_eq_getElem hl]
              simp only [List.getD, List.getElem?_eq_getElem hl, Option.getD_some] at h
              rw [h]; rfl)
            have HLE := Lib.hid hle
            clear hI hB hrow hS hpq hy hpp hqq hle
            go_wp2
            go_region_held3 (fun w' => w'.cell? ⟨G, t, none⟩ = some (.int .i64 p) ∧ w'.cell? ⟨bx, ox + r, none⟩ = some (.int .i64 y))
              (first | exact ⟨c1, cx⟩ | exact ⟨cell_alloc_l _ c1, cell_alloc_l _ cx⟩ | exact ⟨q1, q2⟩)
              (first
                | (refine step_append_keeps _ rfl (.tmp 28) (.tmp 39) 23 rfl wo.heap.size 3 i3 (.int .i64 0) 1 8 Try.underlying23 HJ.out.1 HJ.out.2.1 HJ.out.2.2.1 HJ.out.2.2.2 rfl (by decide) G (t + 1) rcp ((pwRow x r (t + 1)).map (Value.int .i64)) rfl (HOW.out.alloc _) ⟨wr.heap.size, 0, none⟩ 1 1 [.int .i64 q] rfl rfl (cell_one_at _ _ _ rfl) (fun x hx => by simp at hx; subst hx; rfl) (by unfold maxLen; omega) (by omega) (by simp; omega) ?_; intro v' w1 hown' hgrow hcel;
                    have q1 := (show w1.cell? ⟨G, t, none⟩ = some (.int .i64 p) by have h := hcel t _ HAT.out; rw [Go.WideShapes.add_plain] at h; simpa using h); have q2 := hgrow.cell (cell_alloc_l _ cx) (fun e => by injection e with e; simp at e; omega);
                    have hP := HII.out.push (v' := v') (w1 := w1) (y := q) (by have := hown'; rw [HLE.out]; exact this) hgrow; rw [← HS1.out] at hP; have HP := Lib.hid hP; clear hP hown' hgrow hcel))
            go_wp2
            go_roundg (m - (t + 1))
            case measure => omega
            case rel => exact ⟨t + 1, by omega, rfl, by go_num, HP.out⟩
          · have htm' : t + 1 = m := by omega
            rw [htm'] at hI hle
            obtain ⟨ra, rcp, hv, hrow⟩ := hI.slice
            rw [hle] at hv
            subst hv
            have HII := Lib.hid hI
            have HROW := Lib.hid hrow
            clear hI hrow
            have hBT := HR.out.later HII.out.since
            have HBT := Lib.hid hBT
            clear hBT
            go_wp2_with (at_builtin; (refine wpList_append_own _ rfl _ _ 25 rfl w.heap.size 23 i42 (.slice none 0 0) 1 24 Try.underlying25 HI.out.1 HI.out.2.1 HI.out.2.2.1 HI.out.2.2.2 rfl (by decide) _ _ _ rfl (HBT.out.own.alloc _) ⟨wr.heap.size, 0, none⟩ 1 1 [.slice ra m rcp] rfl rfl (cell_one_at _ _ _ rfl) (fun x hx => by simp at hx; subst hx; rfl) (by unfold maxLen; omega) (by omega) (by simp; omega) ?_); intro v' w1 hown' hgrow _)
            have hP := HBT.out.push (rv := .slice ra m rcp) (x := pwRow x r m) (a := ra) (cp := rcp) (by rw [pwRow_length]) (fun h => by obtain ⟨G, e, h2, h3⟩ := HROW.out h; exact ⟨G, e, by omega, h3⟩) (fun h => by obtain ⟨G, e, h2, _⟩ := HROW.out h; exact HR.out.fresh e h2) hown' hgrow
            rw [← pwTo_succ] at hP
            have HP := Lib.hid hP
            clear hP hown' hgrow hle hlen
            go_roundg (m - (r + 1))
            case measure => omega
            case rel => exact ⟨r + 1, _, _, by omega, rfl, by go_num, HP.out⟩
      · have hrm : r = m := by omega
        subst hrm
        obtain ⟨ra, rcp, hv, hin⟩ := hR.slice
        rw [pwTo_length] at hv
        subst hv
        have HS := Lib.hid hR.since
        have hsw := hR.since.size
        have HD := Lib.hid (l1Done_any ra rcp r _ _ (pwTo x r r) wr (pwTo_length x r r) hsz hin)
        clear hR hin
        go_wp2_with fail
        refine (HD.out).mono ?_
        rintro e w2 ⟨a', c', rfl, hs2, hin2⟩
        go_wp2
        go_ret2
        exact ⟨a', c', rfl, HS.out.trans (since_mono hs2 hsw), hin2.mono (Nat.le_refl _) hs2.size⟩

end Go.Proofs.Ytkahgpgnfodpgaa
