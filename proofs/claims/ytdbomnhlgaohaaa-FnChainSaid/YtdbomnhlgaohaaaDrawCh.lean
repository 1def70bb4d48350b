/- Chapter 9: chains as drawn. -/
import Derived.Test.YtdbomnhlgaohaaaDrawChg
namespace Go.Proofs.Ytdbomnhlgaohaaa
open Go.RowKit Go.Deep

theorem getD_snocC (x : List Int) (u : Int) (j : Nat) : (x ++ [u]).getD j 0 = if j < x.length then x.getD j 0 else if j = x.length then u else 0 := by
  by_cases h : j < x.length
  · rw [if_pos h]; simp [List.getD, List.getElem?_append_left h]
  · rw [if_neg h]
    by_cases e : j = x.length
    · subst e; simp [List.getD]
    · rw [if_neg e]; simp [List.getD, List.getElem?_eq_none (show (x ++ [u]).length ≤ j by simp; omega)]

theorem RW.rowD {B : Nat} {w : World} {v : Value} {x : List Int} {j : Nat} (h : RW B w v x) (hx : x.length = j) : ∃ ax cx, v = .slice ax j cx ∧ RowR w ax x ∧ j ≤ cx ∧ cx ≤ 9223372036854775807 := by
  obtain ⟨ax, cx, e, hr⟩ := h.rowR hx
  refine ⟨ax, cx, e, hr, ?_⟩
  rcases h.2 with ⟨hv, hn⟩ | ⟨g, cap, cur, hv, _, _, hle, hmax, _, _⟩
  · rw [hv] at e
    injection e with _ _ e3
    omega
  · rw [hv] at e
    injection e with _ e2 e3
    unfold maxLen at hmax
    omega

set_option maxRecDepth 100000 in
set_option maxHeartbeats 2000000 in
theorem l92NumbersD_any (w0 w : World) (G nb c p N : Nat) (a : Option Addr) (h : RD w0 w G a nb c 72 p) (hG : G < w.heap.size) (hN : N ≤ 13) (hp : p ≤ 90000) :
    Calls Try.prog 59 #[.pointer (some ⟨G, 0, none⟩), .int .i64 N] w fun e w' => ∃ ax cx x, e = .returned (.slice ax (List.length x) cx) ∧ x.length = N ∧ RowR w' ax x ∧ (N ≤ cx ∧ cx ≤ 9223372036854775807) ∧ w.grownBy w' (some G) := by
  obtain ⟨i3, hi3⟩ := info3_parts
  have HJ := Lib.hid hi3
  have HD := Lib.hid h
  clear hi3 h
  go_enter Try.func59, Try.ntmps59
  go_wp2
  have HD3 := Lib.hid (HD.out.grown (World.grownBy_alloc w (.cells #[] 3) none) (fun k e => by cases e))
  have HG3 := Lib.hid (show w.grownBy (w.alloc (.cells #[] 3)) (some G) from grown_alloc (World.grownBy_refl w (some G)) (.cells #[] 3))
  have HW3 := Lib.hid (show RW w.heap.size (w.alloc (.cells #[] 3)) (.slice (some ⟨w.heap.size, 0, none⟩) 0 0) [] from World.ownsRow_made w #[] 0 (Nat.le_refl _) (Nat.zero_le _) rfl)
  go_loopg [5, 6] N (fun g v i wr => ∃ j p x, j ≤ N ∧ g = N - j ∧ i = .int .i64 (j : Nat) ∧ List.length x = j ∧ w.grownBy wr (some G) ∧ RD w0 wr G a nb c 72 p ∧ p ≤ 90000 + 2 * j ∧ RW w.heap.size wr v x)
  case atStart => exact ⟨0, p, [], Nat.zero_le _, rfl, rfl, rfl, HG3.out, HD3.out, by omega, HW3.out⟩
  case round =>
    obtain ⟨j, p, x, hj, rfl, rfl, hxl, hgi, hdi, hpp, hW⟩ := hrel
    clear HG3 HW3 HD HD3
    have HD := Lib.hid hdi
    have HG := Lib.hid hgi
    have HW := Lib.hid hW
    have hz4 := hgi.size
    clear hdi hgi hW
    by_cases hjN : j < N
    · go_wp2_with fail
      refine (pick_any w0 _ G nb c _ a _ HD.out (by omega)).mono ?_
      rintro e w4 ⟨z, rfl, hzz, hg4, hd4⟩
      have HW4 := Lib.hid (HW.out.kept hg4 (by omega))
      have HG4 := Lib.hid (grown_trans HG.out hg4)
      have HD4 := Lib.hid hd4
      have hz5 := HG4.out.size
      obtain ⟨u, hu⟩ : ∃ u : Int, IntKind.i64.wrap ((z : Int) - 3) = u := ⟨_, rfl⟩
      clear hg4 hd4
      go_wp2_with (at_builtin; (refine wpList_append_own _ rfl _ _ 23 rfl w.heap.size 3 i3 (.int .i64 0) 1 8 Try.underlying23 HJ.out.1 HJ.out.2.1 HJ.out.2.2.1 HJ.out.2.2.2 rfl (by decide) _ _ (x.map (Value.int .i64)) rfl (World.ownsRow.alloc HW4.out _) ⟨w4.heap.size, 0, none⟩ 1 1 [.int .i64 u] rfl rfl (cell_one_at _ _ _ rfl) (fun x hx => by simp at hx; subst hx; rfl) (by unfold maxLen; omega) (by omega) (by simp; omega) ?_); intro v' w5 hown' hgrow _)
      have HW5 := Lib.hid (show RW w.heap.size w5 v' (x ++ [u]) by
        have := hown'
        unfold RW
        rw [List.length_append, List.map_append]
        exact this)
      have hge := fun i e => (World.ownsRow.lt HW4.out i e).1
      have HD5 := Lib.hid ((HD4.out.grown (World.grownBy_alloc w4 (.cells #[.int .i64 u] 3) none) (fun k e => by cases e)).grown hgrow (fun i e => by have := hge i e; omega))
      have HG5 := Lib.hid (grown_new (grown_alloc HG4.out _) hgrow hge)
      clear hown' hgrow hge
      go_roundg (N - (j + 1))
      case measure => omega
      case rel => exact ⟨j + 1, _, x ++ [u], by omega, rfl, by go_num, by rw [List.length_append, hxl]; rfl, HG5.out, HD5.out, by omega, HW5.out⟩
    · have hjj : j = N := by omega
      subst hjj
      obtain ⟨ax, cx, hv, hrr, hcap⟩ := HW.out.rowD hxl
      subst hv
      have HR := Lib.hid hrr
      clear hrr
      go_wp2
      go_ret
      exact ⟨ax, cx, x, by rw [hxl]; rfl, hxl, HR.out, hcap, HG.out⟩

set_option maxRecDepth 100000 in
set_option maxHeartbeats 4000000 in
theorem l92Chain_any (a : Option Addr) (nb cb : Nat) (w0 : World) (hc : nb ≤ cb) (h63 : cb ≤ 9223372036854775807) (hb : BytR w0 a nb) :
    Calls Try.prog 46 #[.slice a nb cb] w0 fun e w' => ∃ ax cx x, e = .returned (.slice ax (List.length x) cx) ∧ w0.Since w0.heap.size w' ∧ x.length ≤ 7 ∧ RowR w' ax x ∧ x.length ≤ cx ∧ cx ≤ 9223372036854775807 := by
  obtain ⟨i3, hi3⟩ := info3_parts
  have HJ := Lib.hid hi3
  have E := Lib.hid (l6Open_any a nb cb w0 hc h63 hb)
  clear hb hi3
  go_enter Try.func46, Try.ntmps46
  go_wp2_with fail
  refine (E.out).mono ?_
  rintro e w ⟨nb, c, rfl, hs, hz, hd⟩
  have HS1 := Lib.hid hs
  have hz1 : w0.heap.size < w.heap.size := by omega
  have HD3 := Lib.hid (hd.grown (World.grownBy_alloc w (.cells #[] 3) none) (fun k e => by cases e))
  have HG3 := Lib.hid (show w.grownBy (w.alloc (.cells #[] 3)) (some w0.heap.size) from grown_alloc (World.grownBy_refl w (some w0.heap.size)) (.cells #[] 3))
  have HW3 := Lib.hid (show RW w.heap.size (w.alloc (.cells #[] 3)) (.slice (some ⟨w.heap.size, 0, none⟩) 0 0) [] from World.ownsRow_made w #[] 0 (Nat.le_refl _) (Nat.zero_le _) rfl)
  have hz3 : (w.alloc (.cells #[] 3)).heap.size = w.heap.size + 1 := by simp
  clear hd hz hs
  go_wp2_with fail
  refine (pick_any w0 _ w0.heap.size nb c _ a _ HD3.out (by omega)).mono ?_
  rintro e w4 ⟨y, rfl, hy, hg4, hd4⟩
  have HW4 := Lib.hid (HW3.out.kept hg4 (by omega))
  have HG4 := Lib.hid (grown_trans HG3.out hg4)
  have HD4 := Lib.hid hd4
  have hz4 := HG4.out.size
  clear hg4 hd4 HD3 HG3 HW3
  go_wp2_with fail
  refine (pick_any w0 _ w0.heap.size nb c _ a _ HD4.out (by omega)).mono ?_
  rintro e w5 ⟨y2, rfl, hy2, hg5, hd5⟩
  have HW5 := Lib.hid (HW4.out.kept hg5 (by omega))
  have HG5 := Lib.hid (grown_trans HG4.out hg5)
  have HD5 := Lib.hid hd5
  have hz5 := HG5.out.size
  clear hg5 hd5 HD4 HG4 HW4
  obtain ⟨t, ht⟩ : ∃ t : Nat, y2 / 39 = t := ⟨_, rfl⟩
  obtain ⟨N, hN⟩ : ∃ N : Nat, y + t = N := ⟨_, rfl⟩
  have hN7 : N ≤ 7 := by omega
  have hti : ((y2 : Int) / 39) = (t : Int) := by omega
  have htd : Int.tdiv (y2 : Int) 39 = (t : Int) := by rw [Int.tdiv_eq_ediv_of_nonneg (by omega)]; exact hti
  have hNi : (y : Int) + (t : Int) = (N : Int) := by omega
  clear ht hN
  go_wp2
  go_loopg [4, 6] N (fun g v i wr => ∃ j p x, j ≤ N ∧ g = N - j ∧ i = .int .i64 (j : Nat) ∧ List.length x = j ∧ w.grownBy wr (some w0.heap.size) ∧ RD w0 wr w0.heap.size a nb c 72 p ∧ p ≤ 90000 + 2 * j ∧ RW w.heap.size wr v x)
  case atStart => exact ⟨0, _, [], Nat.zero_le _, rfl, rfl, rfl, HG5.out, HD5.out, by omega, HW5.out⟩
  case round =>
    obtain ⟨j, p, x, hj, rfl, rfl, hxl, hgi, hdi, hpp, hW⟩ := hrel
    clear HG5 HW5 HD5
    have HD := Lib.hid hdi
    have HG := Lib.hid hgi
    have HW := Lib.hid hW
    have hz6 := hgi.size
    clear hdi hgi hW
    by_cases hjN : j < N
    · go_wp2_with fail
      refine (pick_any w0 _ w0.heap.size nb c _ a _ HD.out (by omega)).mono ?_
      rintro e w4 ⟨z, rfl, hzz, hg4, hd4⟩
      have HW4 := Lib.hid (HW.out.kept hg4 (by omega))
      have HG4 := Lib.hid (grown_trans HG.out hg4)
      have HD4 := Lib.hid hd4
      have hz7 := HG4.out.size
      clear hg4 hd4 HD HG HW
      go_wp2_with fail
      refine (pick_any w0 _ w0.heap.size nb c _ a _ HD4.out (by omega)).mono ?_
      rintro e w5 ⟨z2, rfl, hzz2, hg5, hd5⟩
      have HW5 := Lib.hid (HW4.out.kept hg5 (by omega))
      have HG5 := Lib.hid (grown_trans HG4.out hg5)
      have HD5 := Lib.hid hd5
      have hz8 := HG5.out.size
      clear hg5 hd5 HD4 HG4 HW4
      obtain ⟨u, hu⟩ : ∃ u : Int, (z : Int) - 4 + (z2 : Int) / 39 * 9 = u := ⟨_, rfl⟩
      go_wp2_with (at_builtin; (refine wpList_append_own _ rfl _ _ 23 rfl w.heap.size 3 i3 (.int .i64 0) 1 8 Try.underlying23 HJ.out.1 HJ.out.2.1 HJ.out.2.2.1 HJ.out.2.2.2 rfl (by decide) _ _ (x.map (Value.int .i64)) rfl (World.ownsRow.alloc HW5.out _) ⟨w5.heap.size, 0, none⟩ 1 1 [.int .i64 u] rfl rfl (cell_one_at _ _ _ rfl) (fun x hx => by simp at hx; subst hx; rfl) (by unfold maxLen; omega) (by omega) (by simp; omega) ?_); intro v' w6 hown' hgrow _)
      have HW6 := Lib.hid (show RW w.heap.size w6 v' (x ++ [u]) by
        have := hown'
        unfold RW
        rw [List.length_append, List.map_append]
        exact this)
      have hge := fun i e => (World.ownsRow.lt HW5.out i e).1
      have HD6 := Lib.hid ((HD5.out.grown (World.grownBy_alloc w5 (.cells #[.int .i64 u] 3) none) (fun k e => by cases e)).grown hgrow (fun i e => by have := hge i e; omega))
      have HG6 := Lib.hid (grown_new (grown_alloc HG5.out _) hgrow hge)
      clear hown' hgrow hge
      go_roundg (N - (j + 1))
      case measure => omega
      case rel => exact ⟨j + 1, _, x ++ [u], by omega, rfl, by go_num, by rw [List.length_append, hxl]; rfl, HG6.out, HD6.out, by omega, HW6.out⟩
    · have hjj : j = N := by omega
      subst hjj
      obtain ⟨ax, cx, hv, hrr, hcap⟩ := HW.out.rowD hxl
      subst hv
      have HR := Lib.hid hrr
      clear hrr
      go_wp2
      go_ret
      exact ⟨ax, cx, x, by rw [hxl]; rfl, HS1.out.trans (since_grown HG.out (Nat.le_refl _) HS1.out.size), by omega, HR.out, by rw [hxl]; exact hcap⟩

set_option maxHeartbeats 1000000 in
theorem drawChainValue_any (a : Option Addr) (nb cb : Nat) (w : World) (hc : nb ≤ cb) (h63 : cb ≤ 9223372036854775807) (hb : BytR w a nb) :
    Calls Try.prog 15 #[.slice a nb cb] w fun e w' => ∃ ax cx x, e = .returned (.slice ax (List.length x) cx) ∧ w.Since w.heap.size w' ∧ x.length ≤ 7 ∧ RowR w' ax x ∧ x.length ≤ cx ∧ cx ≤ 9223372036854775807 := by
  have E := Lib.hid (l92Chain_any a nb cb w hc h63 hb)
  clear hb
  go_enter Try.func15, Try.ntmps15
  go_wp2_with fail
  refine (E.out).mono ?_
  rintro e w1 ⟨ax, cx, x, rfl, hs, hx, hr, hcap⟩
  go_wp2
  go_ret
  exact ⟨ax, cx, x, rfl, hs, hx, hr, hcap⟩

set_option maxHeartbeats 1000000 in
theorem drawChainTable_any (a : Option Addr) (nb cb : Nat) (w : World) (hc : nb ≤ cb) (h63 : cb ≤ 9223372036854775807) (hb : BytR w a nb) :
    Calls Try.prog 18 #[.slice a nb cb] w fun e w' => ∃ ax cx x, e = .returned (.slice ax (List.length x) cx) ∧ w.Since w.heap.size w' ∧ x.length ≤ 7 ∧ RowR w' ax x ∧ x.length ≤ cx ∧ cx ≤ 9223372036854775807 := by
  have E := Lib.hid (l92Chain_any a nb cb w hc h63 hb)
  clear hb
  go_enter Try.func18, Try.ntmps18
  go_wp2_with fail
  refine (E.out).mono ?_
  rintro e w1 ⟨ax, cx, x, rfl, hs, hx, hr, hcap⟩
  go_wp2
  go_ret
  exact ⟨ax, cx, x, rfl, hs, hx, hr, hcap⟩

set_option maxHeartbeats 1000000 in
theorem drawChainPairs_any (a : Option Addr) (nb cb : Nat) (w : World) (hc : nb ≤ cb) (h63 : cb ≤ 9223372036854775807) (hb : BytR w a nb) :
    Calls Try.prog 23 #[.slice a nb cb] w fun e w' => ∃ ax cx x, e = .returned (.slice ax (List.length x) cx) ∧ w.Since w.heap.size w' ∧ x.length ≤ 7 ∧ RowR w' ax x ∧ x.length ≤ cx ∧ cx ≤ 9223372036854775807 := by
  have E := Lib.hid (l92Chain_any a nb cb w hc h63 hb)
  clear hb
  go_enter Try.func23, Try.ntmps23
  go_wp2_with fail
  refine (E.out).mono ?_
  rintro e w1 ⟨ax, cx, x, rfl, hs, hx, hr, hcap⟩
  go_wp2
  go_ret
  exact ⟨ax, cx, x, rfl, hs, hx, hr, hcap⟩

set_option maxHeartbeats 1000000 in
theorem drawChainParts_any (a : Option Addr) (nb cb : Nat) (w : World) (hc : nb ≤ cb) (h63 : cb ≤ 9223372036854775807) (hb : BytR w a nb) :
    Calls Try.prog 26 #[.slice a nb cb] w fun e w' => ∃ ax cx x, e = .returned (.slice ax (List.length x) cx) ∧ w.Since w.heap.size w' ∧ x.length ≤ 7 ∧ RowR w' ax x ∧ x.length ≤ cx ∧ cx ≤ 9223372036854775807 := by
  have E := Lib.hid (l92Chain_any a nb cb w hc h63 hb)
  clear hb
  go_enter Try.func26, Try.ntmps26
  go_wp2_with fail
  refine (E.out).mono ?_
  rintro e w1 ⟨ax, cx, x, rfl, hs, hx, hr, hcap⟩
  go_wp2
  go_ret
  exact ⟨ax, cx, x, rfl, hs, hx, hr, hcap⟩

set_option maxHeartbeats 1000000 in
theorem drawChainTurns_any (a : Option Addr) (nb cb : Nat) (w : World) (hc : nb ≤ cb) (h63 : cb ≤ 9223372036854775807) (hb : BytR w a nb) :
    Calls Try.prog 30 #[.slice a nb cb] w fun e w' => ∃ ax cx x, e = .returned (.slice ax (List.length x) cx) ∧ w.Since w.heap.size w' ∧ x.length ≤ 4 ∧ RowR w' ax x ∧ x.length ≤ cx ∧ cx ≤ 9223372036854775807 := by
  have E := Lib.hid (l6Open_any a nb cb w hc h63 hb)
  clear hb
  go_enter Try.func30, Try.ntmps30
  go_wp2_with fail
  refine (E.out).mono ?_
  rintro e w1 ⟨n', c', rfl, hs, hz, hd⟩
  have HD1 := Lib.hid hd
  have HS1 := Lib.hid hs
  have hz1 : w.heap.size < w1.heap.size := by omega
  clear hd hz hs
  go_wp2_with fail
  refine (pick_any w _ w.heap.size n' c' _ a _ HD1.out (by omega)).mono ?_
  rintro e w2 ⟨y, rfl, hy, hg2, hd2⟩
  have HD2 := Lib.hid hd2
  have HG2 := Lib.hid hg2
  have hz2 := hg2.size
  clear hd2 hg2
  go_wp2_with fail
  refine (l92NumbersD_any w w2 w.heap.size n' c' _ y a HD2.out (by omega) (by omega) (by omega)).mono ?_
  rintro e w4 ⟨ax, cx, x, rfl, hx, hr, hcap, hg4⟩
  have HR := Lib.hid hr
  have HG4 := Lib.hid (grown_trans HG2.out hg4)
  have HX := Lib.hid hx
  have hx4 : x.length ≤ 4 := by omega
  rw [← hx] at hcap
  clear hr hg4 hx
  go_wp2
  go_ret
  exact ⟨ax, cx, x, rfl, HS1.out.trans (since_grown HG4.out (Nat.le_refl _) HS1.out.size), hx4, HR.out, hcap⟩
end Go.Proofs.Ytdbomnhlgaohaaa
