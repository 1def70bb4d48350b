/- Chapter 8: lists, numbers and sizes as drawn. -/
import Derived.Test.YtkahgpgnfodpgaaDrawChg
namespace Go.Proofs.Ytkahgpgnfodpgaa
open Go.RowKit Go.Deep

/-- What l92List draws: numbers from -wide to wide, at most so many; or such, and 31 behind them. -/
def ListE (x : List Int) (most wide : Nat) : Prop := 1 ≤ x.length ∧ x.length ≤ most + 1 ∧ ((x.length ≤ most ∧ ∀ j, -(wide : Int) ≤ x.getD j 0 ∧ x.getD j 0 ≤ wide) ∨ ∃ j, j < x.length ∧ x.getD j 0 = 31)
theorem getD_snoc (x : List Int) (u : Int) (j : Nat) : (x ++ [u]).getD j 0 = if j < x.length then x.getD j 0 else if j = x.length then u else 0 := by
  by_cases h : j < x.length
  · rw [if_pos h]; simp [List.getD, List.getElem?_append_left h]
  · rw [if_neg h]
    by_cases e : j = x.length
    · subst e; simp [List.getD]
    · rw [if_neg e]; simp [List.getD, List.getElem?_eq_none (show (x ++ [u]).length ≤ j by simp; omega)]

theorem RW.rowC {B : Nat} {w : World} {v : Value} {x : List Int} {j : Nat} (h : RW B w v x) (hx : x.length = j) : ∃ ax cx, v = .slice ax j cx ∧ RowR w ax x ∧ j ≤ cx ∧ cx ≤ 9223372036854775807 := by
  obtain ⟨ax, cx, e, hr⟩ := h.rowR hx
  refine ⟨ax, cx, e, hr, ?_⟩
  rcases h.2 with ⟨hv, hn⟩ | ⟨g, cap, cur, hv, _, _, hle, hmax, _, _⟩
  · rw [hv] at e
    injection e with _ _ e3
    omega
  · rw [hv] at e
    injection e with _ e2 e3
    unfold maxLen at hmax
    omega

set_option maxRecDepth 100000 in
set_option maxHeartbeats 2000000 in
theorem l92NumbersC_any (w0 w : World) (G nb c p N : Nat) (a : Option Addr) (h : RD w0 w G a nb c 86 p) (hG : G < w.heap.size) (hN : N ≤ 13) (hp : p ≤ 90000) :
    Calls Try.prog 90 #[.pointer (some ⟨G, 0, none⟩), .int .i64 N] w fun e w' => ∃ ax cx x, e = .returned (.slice ax (List.length x) cx) ∧ x.length = N ∧ RowR w' ax x ∧ (N ≤ cx ∧ cx ≤ 9223372036854775807) ∧ w.grownBy w' (some G) := by
  obtain ⟨i3, hi3⟩ := info3_parts
  have HJ := Lib.hid hi3
  have HD := Lib.hid h
  clear hi3 h
  go_enter Try.func90, Try.ntmps90
  go_wp2
  have HD3 := Lib.hid (HD.out.grown (World.grownBy_alloc w (.cells #[] 3) none) (fun k e => by cases e))
  have HG3 := Lib.hid (show w.grownBy (w.alloc (.cells #[] 3)) (some G) from grown_alloc (World.grownBy_refl w (some G)) (.cells #[] 3))
  have HW3 := Lib.hid (show RW w.heap.size (w.alloc (.cells #[] 3)) (.slice (some ⟨w.heap.size, 0, none⟩) 0 0) [] from World.ownsRow_made w #[] 0 (Nat.le_refl _) (Nat.zero_le _) rfl)
  go_loopg [5, 6] N (fun g v i wr => ∃ j p x, j ≤ N ∧ g = N - j ∧ i = .int .i64 (j : Nat) ∧ List.length x = j ∧ w.grownBy wr (some G) ∧ RD w0 wr G a nb c 86 p ∧ p ≤ 90000 + 2 * j ∧ RW w.heap.size wr v x)
  case atStart => exact ⟨0, p, [], Nat.zero_le _, rfl, rfl, rfl, HG3.out, HD3.out, by omega, HW3.out⟩
  case round =>
    obtain ⟨j, p, x, hj, rfl, rfl, hxl, hgi, hdi, hpp, hW⟩ := hrel
    clear HG3 HW3 HD HD3
    have HD := Lib.hid hdi
    have HG := Lib.hid hgi
    have HW := Lib.hid hW
    have hz4 := hgi.size
    clear hdi hgi hW
    by_cases hjN : j < N
    · go_wp2_with fail
      refine (pick_any w0 _ G nb c _ a _ HD.out (by omega)).mono ?_
      rintro e w4 ⟨z, rfl, hzz, hg4, hd4⟩
      have HW4 := Lib.hid (HW.out.kept hg4 (by omega))
      have HG4 := Lib.hid (grown_trans HG.out hg4)
      have HD4 := Lib.hid hd4
      have hz5 := HG4.out.size
      obtain ⟨u, hu⟩ : ∃ u : Int, IntKind.i64.wrap ((z : Int) - 3) = u := ⟨_, rfl⟩
      clear hg4 hd4
      go_wp2_with (at_builtin; (refine wpList_append_own _ rfl _ _ 23 rfl w.heap.size 3 i3 (.int .i64 0) 1 8 Try.underlying23 HJ.out.1 HJ.out.2.1 HJ.out.2.2.1 HJ.out.2.2.2 rfl (by decide) _ _ (x.map (Value.int .i64)) rfl (World.ownsRow.alloc HW4.out _) ⟨w4.heap.size, 0, none⟩ 1 1 [.int .i64 u] rfl rfl (cell_one_at _ _ _ rfl) (fun x hx => by simp at hx; subst hx; rfl) (by unfold maxLen; omega) (by omega) (by simp; omega) ?_); intro v' w5 hown' hgrow _)
      have HW5 := Lib.hid (show RW w.heap.size w5 v' (x ++ [u]) by
        have := hown'
        unfold RW
        rw [List.length_append, List.map_append]
        exact this)
      have hge := fun i e => (World.ownsRow.lt HW4.out i e).1
      have HD5 := Lib.hid ((HD4.out.grown (World.grownBy_alloc w4 (.cells #[.int .i64 u] 3) none) (fun k e => by cases e)).grown hgrow (fun i e => by have := hge i e; omega))
      have HG5 := Lib.hid (grown_new (grown_alloc HG4.out _) hgrow hge)
      clear hown' hgrow hge
      go_roundg (N - (j + 1))
      case measure => omega
      case rel => exact ⟨j + 1, _, x ++ [u], by omega, rfl, by go_num, by rw [List.length_append, hxl]; rfl, HG5.out, HD5.out, by omega, HW5.out⟩
    · have hjj : j = N := by omega
      subst hjj
      obtain ⟨ax, cx, hv, hrr, hcap⟩ := HW.out.rowC hxl
      subst hv
      have HR := Lib.hid hrr
      clear hrr
      go_wp2
      go_ret
      exact ⟨ax, cx, x, by rw [hxl]; rfl, hxl, HR.out, hcap, HG.out⟩

set_option maxRecDepth 100000 in
set_option maxHeartbeats 4000000 in
theorem l92List_any (w0 w : World) (G nb c p most wide : Nat) (a : Option Addr) (h : RD w0 w G a nb c 86 p) (hG : G < w.heap.size) (hmost : 1 ≤ most ∧ most ≤ 6) (hwide : wide ≤ 6) (hp : p ≤ 90000) :
    Calls Try.prog 62 #[.pointer (some ⟨G, 0, none⟩), .int .i64 most, .int .i64 wide] w fun e w' => ∃ ax cx x, e = .returned (.slice ax (List.length x) cx) ∧ ListE x most wide ∧ RowR w' ax x ∧ (x.length ≤ cx ∧ cx ≤ 9223372036854775807) ∧ w.grownBy w' (some G) := by
  obtain ⟨i3, hi3⟩ := info3_parts
  have HJ := Lib.hid hi3
  have HD := Lib.hid h
  clear hi3 h
  go_enter Try.func62, Try.ntmps62
  have HD3 := Lib.hid (HD.out.grown (World.grownBy_alloc w (.cells #[] 3) none) (fun k e => by cases e))
  have HG3 := Lib.hid (show w.grownBy (w.alloc (.cells #[] 3)) (some G) from grown_alloc (World.grownBy_refl w (some G)) (.cells #[] 3))
  have HW3 := Lib.hid (show RW w.heap.size (w.alloc (.cells #[] 3)) (.slice (some ⟨w.heap.size, 0, none⟩) 0 0) [] from World.ownsRow_made w #[] 0 (Nat.le_refl _) (Nat.zero_le _) rfl)
  have hz3 : (w.alloc (.cells #[] 3)).heap.size = w.heap.size + 1 := by simp
  go_wp2_with fail
  refine (pick_any w0 _ G nb c _ a _ HD3.out (by omega)).mono ?_
  rintro e w4 ⟨y, rfl, hy, hg4, hd4⟩
  have HW4 := Lib.hid (HW3.out.kept hg4 (by omega))
  have HG4 := Lib.hid (grown_trans HG3.out hg4)
  have HD4 := Lib.hid hd4
  have hz4 := HG4.out.size
  have hy6 : y ≤ most - 1 := by omega
  obtain ⟨N, hN⟩ : ∃ N : Nat, 1 + (y : Int) = (N : Int) := ⟨1 + y, by omega⟩
  have hN1 : 1 ≤ N ∧ N ≤ most := by omega
  clear hg4 hd4 HD3 HG3 HW3 HD
  go_wp2
  go_loopg [7, 9] N (fun g v i wr => ∃ j p x, j ≤ N ∧ g = N - j ∧ i = .int .i64 (j : Nat) ∧ List.length x = j ∧ (∀ t, -(wide : Int) ≤ x.getD t 0 ∧ x.getD t 0 ≤ wide) ∧ w.grownBy wr (some G) ∧ RD w0 wr G a nb c 86 p ∧ p ≤ 90001 + 2 * j ∧ RW w.heap.size wr v x)
  case atStart => exact ⟨0, p + 1, [], Nat.zero_le _, rfl, rfl, rfl, fun t => by simp, HG4.out, HD4.out, by omega, HW4.out⟩
  case round =>
    obtain ⟨j, p, x, hj, rfl, rfl, hxl, hxw, hgi, hdi, hpp, hW⟩ := hrel
    clear HG4 HW4 HD4
    have HD := Lib.hid hdi
    have HG := Lib.hid hgi
    have HW := Lib.hid hW
    have HXW := Lib.hid hxw
    have hz4 := hgi.size
    clear hdi hgi hW hxw
    by_cases hjN : j < N
    · go_wp2_with fail
      refine (pick_any w0 _ G nb c _ a _ HD.out (by omega)).mono ?_
      rintro e w4 ⟨z, rfl, hzz, hg4, hd4⟩
      have HW4 := Lib.hid (HW.out.kept hg4 (by omega))
      have HG4 := Lib.hid (grown_trans HG.out hg4)
      have HD4 := Lib.hid hd4
      have hz5 := HG4.out.size
      obtain ⟨u, hu⟩ : ∃ u : Int, (z : Int) - (wide : Int) = u := ⟨_, rfl⟩
      have hu1 : -(wide : Int) ≤ u ∧ u ≤ wide := by omega
      clear hg4 hd4
      go_wp2_with (at_builtin; (refine wpList_append_own _ rfl _ _ 23 rfl w.heap.size 3 i3 (.int .i64 0) 1 8 Try.underlying23 HJ.out.1 HJ.out.2.1 HJ.out.2.2.1 HJ.out.2.2.2 rfl (by decide) _ _ (x.map (Value.int .i64)) rfl (World.ownsRow.alloc HW4.out _) ⟨w4.heap.size, 0, none⟩ 1 1 [.int .i64 u] rfl rfl (cell_one_at _ _ _ rfl) (fun x hx => by simp at hx; subst hx; rfl) (by unfold maxLen; omega) (by omega) (by simp; omega) ?_); intro v' w5 hown' hgrow _)
      have HW5 := Lib.hid (show RW w.heap.size w5 v' (x ++ [u]) by
        have := hown'
        unfold RW
        rw [List.length_append, List.map_append]
        exact this)
      have hge := fun i e => (World.ownsRow.lt HW4.out i e).1
      have HD5 := Lib.hid ((HD4.out.grown (World.grownBy_alloc w4 (.cells #[.int .i64 u] 3) none) (fun k e => by cases e)).grown hgrow (fun i e => by have := hge i e; omega))
      have HG5 := Lib.hid (grown_new (grown_alloc HG4.out _) hgrow hge)
      clear hown' hgrow hge
      go_roundg (N - (j + 1))
      case measure => omega
      case rel => exact ⟨j + 1, _, x ++ [u], by omega, rfl, by go_num, by rw [List.length_append, hxl]; rfl, fun t => by
        rw [getD_snoc]
        have := HXW.out t
        split
        · exact this
        · split <;> omega, HG5.out, HD5.out, by omega, HW5.out⟩
    · have hjj : j = N := by omega
      subst hjj
      go_wp2_with fail
      refine (pick_any w0 _ G nb c _ a _ HD.out (by omega)).mono ?_
      rintro e w4 ⟨z, rfl, hzz, hg4, hd4⟩
      have HW4 := Lib.hid (HW.out.kept hg4 (by omega))
      have HG4 := Lib.hid (grown_trans HG.out hg4)
      have hz5 := HG4.out.size
      clear hg4 hd4
      by_cases hz0 : z = 0
      · subst hz0
        go_wp2_with (at_builtin; (refine wpList_append_own _ rfl _ _ 23 rfl w.heap.size 3 i3 (.int .i64 0) 1 8 Try.underlying23 HJ.out.1 HJ.out.2.1 HJ.out.2.2.1 HJ.out.2.2.2 rfl (by decide) _ _ (x.map (Value.int .i64)) rfl (World.ownsRow.alloc HW4.out _) ⟨w4.heap.size, 0, none⟩ 1 1 [.int .i64 31] rfl rfl (cell_one_at _ _ _ rfl) (fun x hx => by simp at hx; subst hx; rfl) (by unfold maxLen; omega) (by omega) (by simp; omega) ?_); intro v' w5 hown' hgrow _)
        have hW5 : RW w.heap.size w5 v' (x ++ [31]) := by
          have := hown'
          unfold RW
          rw [List.length_append, List.map_append]
          exact this
        have hge := fun i e => (World.ownsRow.lt HW4.out i e).1
        have HG5 := Lib.hid (grown_new (grown_alloc HG4.out _) hgrow hge)
        have hl : (x ++ [31]).length = j + 1 := by rw [List.length_append, hxl]; rfl
        obtain ⟨ax, cx, hv, hrr, hcap⟩ := hW5.rowC hl
        subst hv
        have HR := Lib.hid hrr
        clear hrr hW5 hown' hgrow hge
        go_ret
        exact ⟨ax, cx, x ++ [31], by rw [hl]; rfl, ⟨by omega, by omega, .inr ⟨j, by omega, by rw [getD_snoc, if_neg (by omega), if_pos hxl.symm]⟩⟩, HR.out, by rw [hl]; exact hcap, HG5.out⟩
      · have hne : ((z : Int) == 0) = false := by simp; omega
        obtain ⟨ax, cx, hv, hrr, hcap⟩ := HW4.out.rowC hxl
        subst hv
        have HR := Lib.hid hrr
        clear hrr
        go_wp2
        go_ret
        exact ⟨ax, cx, x, by rw [hxl]; rfl, ⟨by omega, by omega, .inl ⟨by omega, HXW.out⟩⟩, HR.out, by rw [hxl]; exact hcap, HG4.out⟩

set_option maxHeartbeats 1000000 in
theorem drawKnownPowersValue_any (a : Option Addr) (nb cb : Nat) (w : World) (hc : nb ≤ cb) (h63 : cb ≤ 9223372036854775807) (hb : BytR w a nb) :
    Calls Try.prog 21 #[.slice a nb cb] w fun e w' => ∃ ax cx x, e = .returned (.slice ax (List.length x) cx) ∧ w.Since w.heap.size w' ∧ ListE x 6 5 ∧ RowR w' ax x ∧ x.length ≤ cx ∧ cx ≤ 9223372036854775807 := by
  have E := Lib.hid (l6Open_any a nb cb w hc h63 hb)
  clear hb
  go_enter Try.func21, Try.ntmps21
  go_wp2_with fail
  refine (E.out).mono ?_
  rintro e w1 ⟨n', c', rfl, hs, hz, hd⟩
  have HD1 := Lib.hid hd
  have HS1 := Lib.hid hs
  have hz1 : w.heap.size < w1.heap.size := by omega
  clear hd hz hs
  go_wp2_with fail
  refine (l92List_any w w1 w.heap.size n' c' _ 6 5 a HD1.out (by omega) (by omega) (by omega) (by omega)).mono ?_
  rintro e w4 ⟨ax, cx, x, rfl, hx, hr, hcap, hg4⟩
  have HR := Lib.hid hr
  have HG4 := Lib.hid hg4
  have HX := Lib.hid hx
  clear hr hg4 hx
  go_wp2
  go_ret
  exact ⟨ax, cx, x, rfl, HS1.out.trans (since_grown HG4.out (Nat.le_refl _) HS1.out.size), HX.out, HR.out, hcap⟩

set_option maxHeartbeats 1000000 in
theorem drawKnownTurns_any (a : Option Addr) (nb cb : Nat) (w : World) (hc : nb ≤ cb) (h63 : cb ≤ 9223372036854775807) (hb : BytR w a nb) :
    Calls Try.prog 46 #[.slice a nb cb] w fun e w' => ∃ ax cx x, e = .returned (.slice ax (List.length x) cx) ∧ w.Since w.heap.size w' ∧ ListE x 5 3 ∧ RowR w' ax x ∧ x.length ≤ cx ∧ cx ≤ 9223372036854775807 := by
  have E := Lib.hid (l6Open_any a nb cb w hc h63 hb)
  clear hb
  go_enter Try.func46, Try.ntmps46
  go_wp2_with fail
  refine (E.out).mono ?_
  rintro e w1 ⟨n', c', rfl, hs, hz, hd⟩
  have HD1 := Lib.hid hd
  have HS1 := Lib.hid hs
  have hz1 : w.heap.size < w1.heap.size := by omega
  clear hd hz hs
  go_wp2_with fail
  refine (l92List_any w w1 w.heap.size n' c' _ 5 3 a HD1.out (by omega) (by omega) (by omega) (by omega)).mono ?_
  rintro e w4 ⟨ax, cx, x, rfl, hx, hr, hcap, hg4⟩
  have HR := Lib.hid hr
  have HG4 := Lib.hid hg4
  have HX := Lib.hid hx
  clear hr hg4 hx
  go_wp2
  go_ret
  exact ⟨ax, cx, x, rfl, HS1.out.trans (since_grown HG4.out (Nat.le_refl _) HS1.out.size), HX.out, HR.out, hcap⟩

set_option maxHeartbeats 1000000 in
theorem drawKnownTurnsSum_any (a : Option Addr) (nb cb : Nat) (w : World) (hc : nb ≤ cb) (h63 : cb ≤ 9223372036854775807) (hb : BytR w a nb) :
    Calls Try.prog 50 #[.slice a nb cb] w fun e w' => ∃ ax cx x, e = .returned (.slice ax (List.length x) cx) ∧ w.Since w.heap.size w' ∧ ListE x 5 3 ∧ RowR w' ax x ∧ x.length ≤ cx ∧ cx ≤ 9223372036854775807 := by
  have E := Lib.hid (l6Open_any a nb cb w hc h63 hb)
  clear hb
  go_enter Try.func50, Try.ntmps50
  go_wp2_with fail
  refine (E.out).mono ?_
  rintro e w1 ⟨n', c', rfl, hs, hz, hd⟩
  have HD1 := Lib.hid hd
  have HS1 := Lib.hid hs
  have hz1 : w.heap.size < w1.heap.size := by omega
  clear hd hz hs
  go_wp2_with fail
  refine (l92List_any w w1 w.heap.size n' c' _ 5 3 a HD1.out (by omega) (by omega) (by omega) (by omega)).mono ?_
  rintro e w4 ⟨ax, cx, x, rfl, hx, hr, hcap, hg4⟩
  have HR := Lib.hid hr
  have HG4 := Lib.hid hg4
  have HX := Lib.hid hx
  clear hr hg4 hx
  go_wp2
  go_ret
  exact ⟨ax, cx, x, rfl, HS1.out.trans (since_grown HG4.out (Nat.le_refl _) HS1.out.size), HX.out, HR.out, hcap⟩

set_option maxHeartbeats 1000000 in
theorem drawKnownPowers_any (a : Option Addr) (nb cb : Nat) (w : World) (hc : nb ≤ cb) (h63 : cb ≤ 9223372036854775807) (hb : BytR w a nb) :
    Calls Try.prog 15 #[.slice a nb cb] w fun e w' => ∃ ax cx x, e = .returned (.slice ax (List.length x) cx) ∧ w.Since w.heap.size w' ∧ (ListE x 3 5 ∨ ListE x 5 2) ∧ RowR w' ax x ∧ x.length ≤ cx ∧ cx ≤ 9223372036854775807 := by
  have E := Lib.hid (l6Open_any a nb cb w hc h63 hb)
  clear hb
  go_enter Try.func15, Try.ntmps15
  go_wp2_with fail
  refine (E.out).mono ?_
  rintro e w1 ⟨n', c', rfl, hs, hz, hd⟩
  have HD1 := Lib.hid hd
  have HS1 := Lib.hid hs
  have hz1 : w.heap.size < w1.heap.size := by omega
  clear hd hz hs
  go_wp2_with fail
  refine (pick_any w _ w.heap.size n' c' _ a _ HD1.out (by omega)).mono ?_
  rintro e w2 ⟨y, rfl, hy, hg2, hd2⟩
  have HD2 := Lib.hid hd2
  have HG2 := Lib.hid hg2
  have hz2 := hg2.size
  clear hd2 hg2
  by_cases h0 : y = 0
  · subst h0
    go_wp2_with fail
    refine (l92List_any w w2 w.heap.size n' c' _ 3 5 a HD2.out (by omega) (by omega) (by omega) (by omega)).mono ?_
    rintro e w4 ⟨ax, cx, x, rfl, hx, hr, hcap, hg4⟩
    have HR := Lib.hid hr
    have HG4 := Lib.hid (grown_trans HG2.out hg4)
    have HX := Lib.hid hx
    clear hr hg4 hx
    go_wp2
    go_ret
    exact ⟨ax, cx, x, rfl, HS1.out.trans (since_grown HG4.out (Nat.le_refl _) HS1.out.size), .inl HX.out, HR.out, hcap⟩
  · have hne : ((y : Int) == 0) = false := by simp; omega
    go_wp2_with fail
    refine (l92List_any w w2 w.heap.size n' c' _ 5 2 a HD2.out (by omega) (by omega) (by omega) (by omega)).mono ?_
    rintro e w4 ⟨ax, cx, x, rfl, hx, hr, hcap, hg4⟩
    have HR := Lib.hid hr
    have HG4 := Lib.hid (grown_trans HG2.out hg4)
    have HX := Lib.hid hx
    clear hr hg4 hx
    go_wp2
    go_ret
    exact ⟨ax, cx, x, rfl, HS1.out.trans (since_grown HG4.out (Nat.le_refl _) HS1.out.size), .inr HX.out, HR.out, hcap⟩

set_option maxHeartbeats 1000000 in
theorem l92Size_any (a : Option Addr) (nb cb : Nat) (w : World) (hc : nb ≤ cb) (h63 : cb ≤ 9223372036854775807) (hb : BytR w a nb) :
    Calls Try.prog 84 #[.slice a nb cb] w fun e w' => ∃ z : Int, e = .returned (.int .i64 z) ∧ w.Since w.heap.size w' := by
  have E := Lib.hid (l6Open_any a nb cb w hc h63 hb)
  clear hb
  go_enter Try.func84, Try.ntmps84
  go_wp2_with fail
  refine (E.out).mono ?_
  rintro e w1 ⟨n', c', rfl, hs, hz, hd⟩
  have HD1 := Lib.hid hd
  have HS1 := Lib.hid hs
  have hz1 : w.heap.size < w1.heap.size := by omega
  clear hd hz hs
  go_wp2_with fail
  refine (pick_any w _ w.heap.size n' c' _ a _ HD1.out (by omega)).mono ?_
  rintro e w2 ⟨y, rfl, hy, hg2, hd2⟩
  have HD2 := Lib.hid hd2
  have HG2 := Lib.hid hg2
  clear hd2 hg2
  go_wp2_with fail
  refine (pick_any w _ w.heap.size n' c' _ a _ HD2.out (by omega)).mono ?_
  rintro e w3 ⟨y2, rfl, hy2, hg3, hd3⟩
  have HD3 := Lib.hid hd3
  have HG3 := Lib.hid (grown_trans HG2.out hg3)
  clear hd3 hg3
  go_wp2_with fail
  refine (pick_any w _ w.heap.size n' c' _ a _ HD3.out (by omega)).mono ?_
  rintro e w4 ⟨y3, rfl, hy3, hg4, hd4⟩
  have HG4 := Lib.hid (grown_trans HG3.out hg4)
  clear hd4 hg4
  go_wp2
  go_ret
  exact ⟨_, rfl, HS1.out.trans (since_grown HG4.out (Nat.le_refl _) HS1.out.size)⟩

theorem drawKnownDivisors_any (a : Option Addr) (nb cb : Nat) (w : World) (hc : nb ≤ cb) (h63 : cb ≤ 9223372036854775807) (hb : BytR w a nb) :
    Calls Try.prog 31 #[.slice a nb cb] w fun e w' => ∃ z : Int, e = .returned (.int .i64 z) ∧ w.Since w.heap.size w' := by
  have E := Lib.hid (l92Size_any a nb cb w hc h63 hb)
  clear hb
  go_enter Try.func31, Try.ntmps31
  go_wp2_with fail
  refine (E.out).mono ?_
  rintro e w1 ⟨z, rfl, hs⟩
  go_wp2
  go_ret
  exact ⟨z, rfl, hs⟩

theorem drawKnownDivisorsValue_any (a : Option Addr) (nb cb : Nat) (w : World) (hc : nb ≤ cb) (h63 : cb ≤ 9223372036854775807) (hb : BytR w a nb) :
    Calls Try.prog 35 #[.slice a nb cb] w fun e w' => ∃ z : Int, e = .returned (.int .i64 z) ∧ w.Since w.heap.size w' := by
  have E := Lib.hid (l92Size_any a nb cb w hc h63 hb)
  clear hb
  go_enter Try.func35, Try.ntmps35
  go_wp2_with fail
  refine (E.out).mono ?_
  rintro e w1 ⟨z, rfl, hs⟩
  go_wp2
  go_ret
  exact ⟨z, rfl, hs⟩

theorem drawKnownLeast_any (a : Option Addr) (nb cb : Nat) (w : World) (hc : nb ≤ cb) (h63 : cb ≤ 9223372036854775807) (hb : BytR w a nb) :
    Calls Try.prog 37 #[.slice a nb cb] w fun e w' => ∃ z : Int, e = .returned (.int .i64 z) ∧ w.Since w.heap.size w' := by
  have E := Lib.hid (l92Size_any a nb cb w hc h63 hb)
  clear hb
  go_enter Try.func37, Try.ntmps37
  go_wp2_with fail
  refine (E.out).mono ?_
  rintro e w1 ⟨z, rfl, hs⟩
  go_wp2
  go_ret
  exact ⟨z, rfl, hs⟩

set_option maxHeartbeats 1000000 in
theorem l92Ones_any (a : Option Addr) (nb cb : Nat) (w : World) (hc : nb ≤ cb) (h63 : cb ≤ 9223372036854775807) (hb : BytR w a nb) :
    Calls Try.prog 77 #[.slice a nb cb] w fun e w' => ∃ x y z : Int, e = .returned (.tuple #[.int .i64 x, .int .i64 y, .int .i64 z]) ∧ w.Since w.heap.size w' := by
  have E := Lib.hid (l6Open_any a nb cb w hc h63 hb)
  clear hb
  go_enter Try.func77, Try.ntmps77
  go_wp2_with fail
  refine (E.out).mono ?_
  rintro e w1 ⟨n', c', rfl, hs, hz, hd⟩
  have HD1 := Lib.hid hd
  have HS1 := Lib.hid hs
  have hz1 : w.heap.size < w1.heap.size := by omega
  clear hd hz hs
  go_wp2_with fail
  refine (pick_any w _ w.heap.size n' c' _ a _ HD1.out (by omega)).mono ?_
  rintro e w2 ⟨y1, rfl, hy1, hg2, hd2⟩
  have HD2 := Lib.hid hd2
  have HG2 := Lib.hid hg2
  clear hd2 hg2
  go_wp2_with fail
  refine (pick_any w _ w.heap.size n' c' _ a _ HD2.out (by omega)).mono ?_
  rintro e w3 ⟨y2, rfl, hy2, hg3, hd3⟩
  have HD3 := Lib.hid hd3
  have HG3 := Lib.hid (grown_trans HG2.out hg3)
  clear hd3 hg3
  go_wp2_with fail
  refine (pick_any w _ w.heap.size n' c' _ a _ HD3.out (by omega)).mono ?_
  rintro e w4 ⟨y3, rfl, hy3, hg4, hd4⟩
  have HD4 := Lib.hid hd4
  have HG4 := Lib.hid (grown_trans HG3.out hg4)
  clear hd4 hg4
  go_wp2_with fail
  refine (pick_any w _ w.heap.size n' c' _ a _ HD4.out (by omega)).mono ?_
  rintro e w5 ⟨y4, rfl, hy4, hg5, hd5⟩
  have HD5 := Lib.hid hd5
  have HG5 := Lib.hid (grown_trans HG4.out hg5)
  clear hd5 hg5
  go_wp2_with fail
  refine (pick_any w _ w.heap.size n' c' _ a _ HD5.out (by omega)).mono ?_
  rintro e w6 ⟨y5, rfl, hy5, hg6, hd6⟩
  have HD6 := Lib.hid hd6
  have HG6 := Lib.hid (grown_trans HG5.out hg6)
  clear hd6 hg6
  go_wp2_with fail
  refine (pick_any w _ w.heap.size n' c' _ a _ HD6.out (by omega)).mono ?_
  rintro e w7 ⟨y6, rfl, hy6, hg7, hd7⟩
  have HD7 := Lib.hid hd7
  have HG7 := Lib.hid (grown_trans HG6.out hg7)
  clear hd7 hg7
  go_wp2
  go_ret3
  exact ⟨_, _, _, rfl, HS1.out.trans (since_grown HG7.out (Nat.le_refl _) HS1.out.size)⟩

theorem drawKnownOnes_any (a : Option Addr) (nb cb : Nat) (w : World) (hc : nb ≤ cb) (h63 : cb ≤ 9223372036854775807) (hb : BytR w a nb) :
    Calls Try.prog 24 #[.slice a nb cb] w fun e w' => ∃ x y z : Int, e = .returned (.tuple #[.int .i64 x, .int .i64 y, .int .i64 z]) ∧ w.Since w.heap.size w' := by
  have E := Lib.hid (l92Ones_any a nb cb w hc h63 hb)
  clear hb
  go_enter Try.func24, Try.ntmps24
  go_wp2_with fail
  refine (E.out).mono ?_
  rintro e w1 ⟨x, y, z, rfl, hs⟩
  go_wp2
  go_ret3
  exact ⟨x, y, z, rfl, hs⟩

theorem drawKnownOnesValue_any (a : Option Addr) (nb cb : Nat) (w : World) (hc : nb ≤ cb) (h63 : cb ≤ 9223372036854775807) (hb : BytR w a nb) :
    Calls Try.prog 29 #[.slice a nb cb] w fun e w' => ∃ x y z : Int, e = .returned (.tuple #[.int .i64 x, .int .i64 y, .int .i64 z]) ∧ w.Since w.heap.size w' := by
  have E := Lib.hid (l92Ones_any a nb cb w hc h63 hb)
  clear hb
  go_enter Try.func29, Try.ntmps29
  go_wp2_with fail
  refine (E.out).mono ?_
  rintro e w1 ⟨x, y, z, rfl, hs⟩
  go_wp2
  go_ret3
  exact ⟨x, y, z, rfl, hs⟩

set_option maxHeartbeats 1000000 in
theorem drawKnownSums_any (a : Option Addr) (nb cb : Nat) (w : World) (hc : nb ≤ cb) (h63 : cb ≤ 9223372036854775807) (hb : BytR w a nb) :
    Calls Try.prog 41 #[.slice a nb cb] w fun e w' => ∃ (n : Nat) (ax : Option Addr) (cx : Nat) (x : List Int), e = .returned (.tuple #[.int .i64 n, .slice ax (List.length x) cx]) ∧ w.Since w.heap.size w' ∧ 1 ≤ n ∧ n ≤ 5 ∧ x.length ≤ 10 ∧ RowR w' ax x ∧ x.length ≤ cx ∧ cx ≤ 9223372036854775807 := by
  have E := Lib.hid (l6Open_any a nb cb w hc h63 hb)
  clear hb
  go_enter Try.func41, Try.ntmps41
  go_wp2_with fail
  refine (E.out).mono ?_
  rintro e w1 ⟨n', c', rfl, hs, hz, hd⟩
  have HD1 := Lib.hid hd
  have HS1 := Lib.hid hs
  have hz1 : w.heap.size < w1.heap.size := by omega
  clear hd hz hs
  go_wp2_with fail
  refine (pick_any w _ w.heap.size n' c' _ a _ HD1.out (by omega)).mono ?_
  rintro e w2 ⟨y, rfl, hy, hg2, hd2⟩
  have HD2 := Lib.hid hd2
  have HG2 := Lib.hid hg2
  clear hd2 hg2
  have hy5 : y ≤ 4 := by omega
  go_wp2_with fail
  refine (pick_any w _ w.heap.size n' c' _ a _ HD2.out (by omega)).mono ?_
  rintro e w3 ⟨y2, rfl, hy2, hg3, hd3⟩
  have HD3 := Lib.hid hd3
  have HG3 := Lib.hid (grown_trans HG2.out hg3)
  have hz3 := HG3.out.size
  have hy25 : y2 ≤ 23 := by omega
  clear hd3 hg3
  obtain ⟨N, hN⟩ : ∃ N : Nat, 2 * (1 + (y : Int)) - 1 + (y2 : Int) / 23 = (N : Int) := ⟨2 * (1 + y) - 1 + y2 / 23, by omega⟩
  have hN10 : N ≤ 10 := by omega
  have HNN := Lib.hid (l92NumbersC_any w w3 w.heap.size n' c' _ N a HD3.out (by omega) (by omega) (by omega))
  go_wp2_with fail
  refine (HNN.out).mono ?_
  rintro e w4 ⟨ax, cx, x, rfl, hx, hr, hcap, hg4⟩
  have HR := Lib.hid hr
  have HG4 := Lib.hid (grown_trans HG3.out hg4)
  clear hr hg4
  go_wp2
  go_ret2
  exact ⟨1 + y, ax, cx, x, by rw [hx]; simp, HS1.out.trans (since_grown HG4.out (Nat.le_refl _) HS1.out.size), by omega, by omega, by omega, HR.out, by rw [hx]; exact hcap⟩

end Go.Proofs.Ytkahgpgnfodpgaa
