import Derived.Test.YtkahgpgnfodpgaaDrawOne
import Derived.Test.YtkahgpgnfodpgaaOwnR
import Derived.Test.YtkahgpgnfodpgaaDet
import Derived.Test.YtkahgpgnfodpgaaRowsF
import Derived.Test.YtkahgpgnfodpgaaBar
import Derived.RangeFuncNested
import Derived.RangeFuncBound
import Derived.RangeFuncCalls
import Derived.RangeFuncLeaves
import Derived.Shelf.Abstract
import Derived.Shelf.RegionOpen
import Derived.WalkKit
import Derived.OwnWalkIn
import Derived.TacticsInMore
import Derived.LoopNIn
import Derived.LoopIn
import Derived.Test.YtkahgpgnfodpgaaImpl1
import Derived.Deep.RegionHeld3
import Derived.Deep.QuietTactic
import Derived.BigQuiet
import Derived.Deep.AppendLies
import Derived.Deep.RegionLawGrows
import Derived.Test.YtkahgpgnfodpgaaCopy
import Derived.Test.YtkahgpgnfodpgaaTurnSpec
import Derived.Test.YtkahgpgnfodpgaaUnitImpl
import Derived.Laws.EntriesVeiled

section
namespace Go.Proofs.Ytkahgpgnfodpgaa
open Go.RowKit Go.Deep

end Go.Proofs.Ytkahgpgnfodpgaa
end

section
namespace Go.Proofs.Ytkahgpgnfodpgaa
open Go.RowKit Go.Deep

theorem RW.rowR {B : Nat} {w : World} {v : Value} {x : List Int} {j : Nat} (h : RW B w v x) (hx : x.length = j) : ∃ ax cx, v = .slice ax j cx ∧ RowR w ax x := by
  by_cases h0 : 0 < x.length
  · obtain ⟨g, cp, e, hge, hrb⟩ := h.form h0
    rw [hx] at e
    exact ⟨_, cp, e, fun _ => ⟨g, 0, rfl, fun i hi => by rw [Nat.zero_add]; exact hrb.cell hi⟩⟩
  · rcases h.2 with ⟨e, _⟩ | ⟨g, cp, cur, e, _⟩
    · exact ⟨none, 0, by rw [e]; congr 1; omega, fun h => absurd h h0⟩
    · rw [hx] at e
      exact ⟨_, cp, e, fun h => absurd h h0⟩

end Go.Proofs.Ytkahgpgnfodpgaa
end

section
namespace Go.Proofs.Ytkahgpgnfodpgaa
open Go.RowKit Go.Deep

set_option maxRecDepth 100000 in
set_option maxHeartbeats 2000000 in
theorem l92Numbers_any (w0 w : World) (G nb c p N : Nat) (a : Option Addr) (h : RD w0 w G a nb c 86 p) (hG : G < w.heap.size) (hN : N ≤ 13) (hp : p ≤ 90000) :
    Calls Try.prog 90 #[.pointer (some ⟨G, 0, none⟩), .int .i64 N] w fun e w' => ∃ ax cx x, e = .returned (.slice ax (List.length x) cx) ∧ x.length = N ∧ RowR w' ax x ∧ w.grownBy w' (some G) := by
  obtain ⟨i3, hi3⟩ := info3_parts
  have HJ := Lib.hid hi3
  have HD := Lib.hid h
  clear hi3 h
  go_enter Try.func90, Try.ntmps90
  go_wp2
  have HD3 := Lib.hid (HD.out.grown (World.grownBy_alloc w (.cells #[] 3) none) (fun k e => by cases e))
  have HG3 := Lib.hid (show w.grownBy (w.alloc (.cells #[] 3)) (some G) from grown_alloc (World.grownBy_refl w (some G)) (.cells #[] 3))
  have HW3 := Lib.hid (show RW w.heap.size (w.alloc (.cells #[] 3)) (.slice (some ⟨w.heap.size, 0, none⟩) 0 0) [] from World.ownsRow_made w #[] 0 (Nat.le_refl _) (Nat.zero_le _) rfl)
  go_loopg [5, 6] N (fun g v i wr => ∃ j p x, j ≤ N ∧ g = N - j ∧ i = .int .i64 (j : Nat) ∧ List.length x = j ∧ w.grownBy wr (some G) ∧ RD w0 wr G a nb c 86 p ∧ p ≤ 90000 + 2 * j ∧ RW w.heap.size wr v x)
  case atStart => exact ⟨0, p, [], Nat.zero_le _, rfl, rfl, rfl, HG3.out, HD3.out, by omega, HW3.out⟩
  case round =>
    obtain ⟨j, p, x, hj, rfl, rfl, hxl, hgi, hdi, hpp, hW⟩ := hrel
    clear HG3 HW3 HD HD3
    have HD := Lib.hid hdi
    have HG := Lib.hid hgi
    have HW := Lib.hid hW
    have hz4 := hgi.size
    clear hdi hgi hW
    by_cases hjN : j < N
    · go_wp2_with fail
      refine (pick_any w0 _ G nb c _ a _ HD.out (by omega)).mono ?_
      rintro e w4 ⟨z, rfl, hzz, hg4, hd4⟩
      have HW4 := Lib.hid (HW.out.kept hg4 (by omega))
      have HG4 := Lib.hid (grown_trans HG.out hg4)
      have HD4 := Lib.hid hd4
      have hz5 := HG4.out.size
      obtain ⟨u, hu⟩ : ∃ u : Int, IntKind.i64.wrap ((z : Int) - 3) = u := ⟨_, rfl⟩
      clear hg4 hd4
      go_wp2_with (at_builtin; (refine wpList_append_own _ rfl _ _ 23 rfl w.heap.size 3 i3 (.int .i64 0) 1 8 Try.underlying23 HJ.out.1 HJ.out.2.1 HJ.out.2.2.1 HJ.out.2.2.2 rfl (by decide) _ _ (x.map (Value.int .i64)) rfl (World.ownsRow.alloc HW4.out _) ⟨w4.heap.size, 0, none⟩ 1 1 [.int .i64 u] rfl rfl (cell_one_at _ _ _ rfl) (fun x hx => by simp at hx; subst hx; rfl) (by unfold maxLen; omega) (by omega) (by simp; omega) ?_); intro v' w5 hown' hgrow _)
      have HW5 := Lib.hid (show RW w.heap.size w5 v' (x ++ [u]) by
        have := hown'
        unfold RW
        rw [List.length_append, List.map_append]
        exact this)
      have hge := fun i e => (World.ownsRow.lt HW4.out i e).1
      have HD5 := Lib.hid ((HD4.out.grown (World.grownBy_alloc w4 (.cells #[.int .i64 u] 3) none) (fun k e => by cases e)).grown hgrow (fun i e => by have := hge i e; omega))
      have HG5 := Lib.hid (grown_new (grown_alloc HG4.out _) hgrow hge)
      clear hown' hgrow hge
      go_roundg (N - (j + 1))
      case measure => omega
      case rel => exact ⟨j + 1, _, x ++ [u], by omega, rfl, by go_num, by rw [List.length_append, hxl]; rfl, HG5.out, HD5.out, by omega, HW5.out⟩
    · have hjj : j = N := by omega
      subst hjj
      obtain ⟨ax, cx, hv, hrr⟩ := HW.out.rowR hxl
      subst hv
      have HR := Lib.hid hrr
      clear hrr
      go_wp2
      go_ret
      exact ⟨ax, cx, x, by rw [hxl]; rfl, hxl, HR.out, HG.out⟩

end Go.Proofs.Ytkahgpgnfodpgaa
end

section
namespace Go.Proofs.Ytkahgpgnfodpgaa
open Go.RowKit Go.Deep

def ListE (x : List Int) (most wide : Nat) : Prop := 1 ≤ x.length ∧ x.length ≤ most + 1 ∧ ((x.length ≤ most ∧ ∀ j, -(wide : Int) ≤ x.getD j 0 ∧ x.getD j 0 ≤ wide) ∨ ∃ j, j < x.length ∧ x.getD j 0 = 31)
theorem getD_snoc (x : List Int) (u : Int) (j : Nat) : (x ++ [u]).getD j 0 = if j < x.length then x.getD j 0 else if j = x.length then u else 0 := by
  by_cases h : j < x.length
  · rw [if_pos h]; simp [List.getD, List.getElem?_append_left h]
  · rw [if_neg h]
    by_cases e : j = x.length
    · subst e; simp [List.getD]
    · rw [if_neg e]; simp [List.getD, List.getElem?_eq_none (show (x ++ [u]).length ≤ j by simp; omega)]

theorem RW.rowC {B : Nat} {w : World} {v : Value} {x : List Int} {j : Nat} (h : RW B w v x) (hx : x.length = j) : ∃ ax cx, v = .slice ax j cx ∧ RowR w ax x ∧ j ≤ cx ∧ cx ≤ 9223372036854775807 := by
  obtain ⟨ax, cx, e, hr⟩ := h.rowR hx
  refine ⟨ax, cx, e, hr, ?_⟩
  rcases h.2 with ⟨hv, hn⟩ | ⟨g, cap, cur, hv, _, _, hle, hmax, _, _⟩
  · rw [hv] at e
    injection e with _ _ e3
    omega
  · rw [hv] at e
    injection e with _ e2 e3
    unfold maxLen at hmax
    omega

set_option maxRecDepth 100000 in
set_option maxHeartbeats 2000000 in
theorem l92NumbersC_any (w0 w : World) (G nb c p N : Nat) (a : Option Addr) (h : RD w0 w G a nb c 86 p) (hG : G < w.heap.size) (hN : N ≤ 13) (hp : p ≤ 90000) :
    Calls Try.prog 90 #[.pointer (some ⟨G, 0, none⟩), .int .i64 N] w fun e w' => ∃ ax cx x, e = .returned (.slice ax (List.length x) cx) ∧ x.length = N ∧ RowR w' ax x ∧ (N ≤ cx ∧ cx ≤ 9223372036854775807) ∧ w.grownBy w' (some G) := by
  obtain ⟨i3, hi3⟩ := info3_parts
  have HJ := Lib.hid hi3
  have HD := Lib.hid h
  clear hi3 h
  go_enter Try.func90, Try.ntmps90
  go_wp2
  have HD3 := Lib.hid (HD.out.grown (World.grownBy_alloc w (.cells #[] 3) none) (fun k e => by cases e))
  have HG3 := Lib.hid (show w.grownBy (w.alloc (.cells #[] 3)) (some G) from grown_alloc (World.grownBy_refl w (some G)) (.cells #[] 3))
  have HW3 := Lib.hid (show RW w.heap.size (w.alloc (.cells #[] 3)) (.slice (some ⟨w.heap.size, 0, none⟩) 0 0) [] from World.ownsRow_made w #[] 0 (Nat.le_refl _) (Nat.zero_le _) rfl)
  go_loopg [5, 6] N (fun g v i wr => ∃ j p x, j ≤ N ∧ g = N - j ∧ i = .int .i64 (j : Nat) ∧ List.length x = j ∧ w.grownBy wr (some G) ∧ RD w0 wr G a nb c 86 p ∧ p ≤ 90000 + 2 * j ∧ RW w.heap.size wr v x)
  case atStart => exact ⟨0, p, [], Nat.zero_le _, rfl, rfl, rfl, HG3.out, HD3.out, by omega, HW3.out⟩
  case round =>
    obtain ⟨j, p, x, hj, rfl, rfl, hxl, hgi, hdi, hpp, hW⟩ := hrel
    clear HG3 HW3 HD HD3
    have HD := Lib.hid hdi
    have HG := Lib.hid hgi
    have HW := Lib.hid hW
    have hz4 := hgi.size
    clear hdi hgi hW
    by_cases hjN : j < N
    · go_wp2_with fail
      refine (pick_any w0 _ G nb c _ a _ HD.out (by omega)).mono ?_
      rintro e w4 ⟨z, rfl, hzz, hg4, hd4⟩
      have HW4 := Lib.hid (HW.out.kept hg4 (by omega))
      have HG4 := Lib.hid (grown_trans HG.out hg4)
      have HD4 := Lib.hid hd4
      have hz5 := HG4.out.size
      obtain ⟨u, hu⟩ : ∃ u : Int, IntKind.i64.wrap ((z : Int) - 3) = u := ⟨_, rfl⟩
      clear hg4 hd4
      go_wp2_with (at_builtin; (refine wpList_append_own _ rfl _ _ 23 rfl w.heap.size 3 i3 (.int .i64 0) 1 8 Try.underlying23 HJ.out.1 HJ.out.2.1 HJ.out.2.2.1 HJ.out.2.2.2 rfl (by decide) _ _ (x.map (Value.int .i64)) rfl (World.ownsRow.alloc HW4.out _) ⟨w4.heap.size, 0, none⟩ 1 1 [.int .i64 u] rfl rfl (cell_one_at _ _ _ rfl) (fun x hx => by simp at hx; subst hx; rfl) (by unfold maxLen; omega) (by omega) (by simp; omega) ?_); intro v' w5 hown' hgrow _)
      have HW5 := Lib.hid (show RW w.heap.size w5 v' (x ++ [u]) by
        have := hown'
        unfold RW
        rw [List.length_append, List.map_append]
        exact this)
      have hge := fun i e => (World.ownsRow.lt HW4.out i e).1
      have HD5 := Lib.hid ((HD4.out.grown (World.grownBy_alloc w4 (.cells #[.int .i64 u] 3) none) (fun k e => by cases e)).grown hgrow (fun i e => by have := hge i e; omega))
      have HG5 := Lib.hid (grown_new (grown_alloc HG4.out _) hgrow hge)
      clear hown' hgrow hge
      go_roundg (N - (j + 1))
      case measure => omega
      case rel => exact ⟨j + 1, _, x ++ [u], by omega, rfl, by go_num, by rw [List.length_append, hxl]; rfl, HG5.out, HD5.out, by omega, HW5.out⟩
    · have hjj : j = N := by omega
      subst hjj
      obtain ⟨ax, cx, hv, hrr, hcap⟩ := HW.out.rowC hxl
      subst hv
      have HR := Lib.hid hrr
      clear hrr
      go_wp2
      go_ret
      exact ⟨ax, cx, x, by rw [hxl]; rfl, hxl, HR.out, hcap, HG.out⟩

set_option maxRecDepth 100000 in
set_option maxHeartbeats 4000000 in
theorem l92List_any (w0 w : World) (G nb c p most wide : Nat) (a : Option Addr) (h : RD w0 w G a nb c 86 p) (hG : G < w.heap.size) (hmost : 1 ≤ most ∧ most ≤ 6) (hwide : wide ≤ 6) (hp : p ≤ 90000) :
    Calls Try.prog 62 #[.pointer (some ⟨G, 0, none⟩), .int .i64 most, .int .i64 wide] w fun e w' => ∃ ax cx x, e = .returned (.slice ax (List.length x) cx) ∧ ListE x most wide ∧ RowR w' ax x ∧ (x.length ≤ cx ∧ cx ≤ 9223372036854775807) ∧ w.grownBy w' (some G) := by
  obtain ⟨i3, hi3⟩ := info3_parts
  have HJ := Lib.hid hi3
  have HD := Lib.hid h
  clear hi3 h
  go_enter Try.func62, Try.ntmps62
  have HD3 := Lib.hid (HD.out.grown (World.grownBy_alloc w (.cells #[] 3) none) (fun k e => by cases e))
  have HG3 := Lib.hid (show w.grownBy (w.alloc (.cells #[] 3)) (some G) from grown_alloc (World.grownBy_refl w (some G)) (.cells #[] 3))
  have HW3 := Lib.hid (show RW w.heap.size (w.alloc (.cells #[] 3)) (.slice (some ⟨w.heap.size, 0, none⟩) 0 0) [] from World.ownsRow_made w #[] 0 (Nat.le_refl _) (Nat.zero_le _) rfl)
  have hz3 : (w.alloc (.cells #[] 3)).heap.size = w.heap.size + 1 := by simp
  go_wp2_with fail
  refine (pick_any w0 _ G nb c _ a _ HD3.out (by omega)).mono ?_
  rintro e w4 ⟨y, rfl, hy, hg4, hd4⟩
  have HW4 := Lib.hid (HW3.out.kept hg4 (by omega))
  have HG4 := Lib.hid (grown_trans HG3.out hg4)
  have HD4 := Lib.hid hd4
  have hz4 := HG4.out.size
  have hy6 : y ≤ most - 1 := by omega
  obtain ⟨N, hN⟩ : ∃ N : Nat, 1 + (y : Int) = (N : Int) := ⟨1 + y, by omega⟩
  have hN1 : 1 ≤ N ∧ N ≤ most := by omega
  clear hg4 hd4 HD3 HG3 HW3 HD
  go_wp2
  go_loopg [7, 9] N (fun g v i wr => ∃ j p x, j ≤ N ∧ g = N - j ∧ i = .int .i64 (j : Nat) ∧ List.length x = j ∧ (∀ t, -(wide : Int) ≤ x.getD t 0 ∧ x.getD t 0 ≤ wide) ∧ w.grownBy wr (some G) ∧ RD w0 wr G a nb c 86 p ∧ p ≤ 90001 + 2 * j ∧ RW w.heap.size wr v x)
  case atStart => exact ⟨0, p + 1, [], Nat.zero_le _, rfl, rfl, rfl, fun t => by simp, HG4.out, HD4.out, by omega, HW4.out⟩
  case round =>
    obtain ⟨j, p, x, hj, rfl, rfl, hxl, hxw, hgi, hdi, hpp, hW⟩ := hrel
    clear HG4 HW4 HD4
    have HD := Lib.hid hdi
    have HG := Lib.hid hgi
    have HW := Lib.hid hW
    have HXW := Lib.hid hxw
    have hz4 := hgi.size
    clear hdi hgi hW hxw
    by_cases hjN : j < N
    · go_wp2_with fail
      refine (pick_any w0 _ G nb c _ a _ HD.out (by omega)).mono ?_
      rintro e w4 ⟨z, rfl, hzz, hg4, hd4⟩
      have HW4 := Lib.hid (HW.out.kept hg4 (by omega))
      have HG4 := Lib.hid (grown_trans HG.out hg4)
      have HD4 := Lib.hid hd4
      have hz5 := HG4.out.size
      obtain ⟨u, hu⟩ : ∃ u : Int, (z : Int) - (wide : Int) = u := ⟨_, rfl⟩
      have hu1 : -(wide : Int) ≤ u ∧ u ≤ wide := by omega
      clear hg4 hd4
      go_wp2_with (at_builtin; (refine wpList_append_own _ rfl _ _ 23 rfl w.heap.size 3 i3 (.int .i64 0) 1 8 Try.underlying23 HJ.out.1 HJ.out.2.1 HJ.out.2.2.1 HJ.out.2.2.2 rfl (by decide) _ _ (x.map (Value.int .i64)) rfl (World.ownsRow.alloc HW4.out _) ⟨w4.heap.size, 0, none⟩ 1 1 [.int .i64 u] rfl rfl (cell_one_at _ _ _ rfl) (fun x hx => by simp at hx; subst hx; rfl) (by unfold maxLen; omega) (by omega) (by simp; omega) ?_); intro v' w5 hown' hgrow _)
      have HW5 := Lib.hid (show RW w.heap.size w5 v' (x ++ [u]) by
        have := hown'
        unfold RW
        rw [List.length_append, List.map_append]
        exact this)
      have hge := fun i e => (World.ownsRow.lt HW4.out i e).1
      have HD5 := Lib.hid ((HD4.out.grown (World.grownBy_alloc w4 (.cells #[.int .i64 u] 3) none) (fun k e => by cases e)).grown hgrow (fun i e => by have := hge i e; omega))
      have HG5 := Lib.hid (grown_new (grown_alloc HG4.out _) hgrow hge)
      clear hown' hgrow hge
      go_roundg (N - (j + 1))
      case measure => omega
      case rel => exact ⟨j + 1, _, x ++ [u], by omega, rfl, by go_num, by rw [List.length_append, hxl]; rfl, fun t => by
        rw [getD_snoc]
        have := HXW.out t
        split
        · exact this
        · split <;> omega, HG5.out, HD5.out, by omega, HW5.out⟩
    · have hjj : j = N := by omega
      subst hjj
      go_wp2_with fail
      refine (pick_any w0 _ G nb c _ a _ HD.out (by omega)).mono ?_
      rintro e w4 ⟨z, rfl, hzz, hg4, hd4⟩
      have HW4 := Lib.hid (HW.out.kept hg4 (by omega))
      have HG4 := Lib.hid (grown_trans HG.out hg4)
      have hz5 := HG4.out.size
      clear hg4 hd4
      by_cases hz0 : z = 0
      · subst hz0
        go_wp2_with (at_builtin; (refine wpList_append_own _ rfl _ _ 23 rfl w.heap.size 3 i3 (.int .i64 0) 1 8 Try.underlying23 HJ.out.1 HJ.out.2.1 HJ.out.2.2.1 HJ.out.2.2.2 rfl (by decide) _ _ (x.map (Value.int .i64)) rfl (World.ownsRow.alloc HW4.out _) ⟨w4.heap.size, 0, none⟩ 1 1 [.int .i64 31] rfl rfl (cell_one_at _ _ _ rfl) (fun x hx => by simp at hx; subst hx; rfl) (by unfold maxLen; omega) (by omega) (by simp; omega) ?_); intro v' w5 hown' hgrow _)
        have hW5 : RW w.heap.size w5 v' (x ++ [31]) := by
          have := hown'
          unfold RW
          rw [List.length_append, List.map_append]
          exact this
        have hge := fun i e => (World.ownsRow.lt HW4.out i e).1
        have HG5 := Lib.hid (grown_new (grown_alloc HG4.out _) hgrow hge)
        have hl : (x ++ [31]).length = j + 1 := by rw [List.length_append, hxl]; rfl
        obtain ⟨ax, cx, hv, hrr, hcap⟩ := hW5.rowC hl
        subst hv
        have HR := Lib.hid hrr
        clear hrr hW5 hown' hgrow hge
        go_ret
        exact ⟨ax, cx, x ++ [31], by rw [hl]; rfl, ⟨by omega, by omega, .inr ⟨j, by omega, by rw [getD_snoc, if_neg (by omega), if_pos hxl.symm]⟩⟩, HR.out, by rw [hl]; exact hcap, HG5.out⟩
      · have hne : ((z : Int) == 0) = false := by simp; omega
        obtain ⟨ax, cx, hv, hrr, hcap⟩ := HW4.out.rowC hxl
        subst hv
        have HR := Lib.hid hrr
        clear hrr
        go_wp2
        go_ret
        exact ⟨ax, cx, x, by rw [hxl]; rfl, ⟨by omega, by omega, .inl ⟨by omega, HXW.out⟩⟩, HR.out, by rw [hxl]; exact hcap, HG4.out⟩

set_option maxHeartbeats 1000000 in
theorem drawKnownPowersValue_any (a : Option Addr) (nb cb : Nat) (w : World) (hc : nb ≤ cb) (h63 : cb ≤ 9223372036854775807) (hb : BytR w a nb) :
    Calls Try.prog 21 #[.slice a nb cb] w fun e w' => ∃ ax cx x, e = .returned (.slice ax (List.length x) cx) ∧ w.Since w.heap.size w' ∧ ListE x 6 5 ∧ RowR w' ax x ∧ x.length ≤ cx ∧ cx ≤ 9223372036854775807 := by
  have E := Lib.hid (l6Open_any a nb cb w hc h63 hb)
  clear hb
  go_enter Try.func21, Try.ntmps21
  go_wp2_with fail
  refine (E.out).mono ?_
  rintro e w1 ⟨n', c', rfl, hs, hz, hd⟩
  have HD1 := Lib.hid hd
  have HS1 := Lib.hid hs
  have hz1 : w.heap.size < w1.heap.size := by omega
  clear hd hz hs
  go_wp2_with fail
  refine (l92List_any w w1 w.heap.size n' c' _ 6 5 a HD1.out (by omega) (by omega) (by omega) (by omega)).mono ?_
  rintro e w4 ⟨ax, cx, x, rfl, hx, hr, hcap, hg4⟩
  have HR := Lib.hid hr
  have HG4 := Lib.hid hg4
  have HX := Lib.hid hx
  clear hr hg4 hx
  go_wp2
  go_ret
  exact ⟨ax, cx, x, rfl, HS1.out.trans (since_grown HG4.out (Nat.le_refl _) HS1.out.size), HX.out, HR.out, hcap⟩

set_option maxHeartbeats 1000000 in
theorem drawKnownTurns_any (a : Option Addr) (nb cb : Nat) (w : World) (hc : nb ≤ cb) (h63 : cb ≤ 9223372036854775807) (hb : BytR w a nb) :
    Calls Try.prog 46 #[.slice a nb cb] w fun e w' => ∃ ax cx x, e = .returned (.slice ax (List.length x) cx) ∧ w.Since w.heap.size w' ∧ ListE x 5 3 ∧ RowR w' ax x ∧ x.length ≤ cx ∧ cx ≤ 9223372036854775807 := by
  have E := Lib.hid (l6Open_any a nb cb w hc h63 hb)
  clear hb
  go_enter Try.func46, Try.ntmps46
  go_wp2_with fail
  refine (E.out).mono ?_
  rintro e w1 ⟨n', c', rfl, hs, hz, hd⟩
  have HD1 := Lib.hid hd
  have HS1 := Lib.hid hs
  have hz1 : w.heap.size < w1.heap.size := by omega
  clear hd hz hs
  go_wp2_with fail
  refine (l92List_any w w1 w.heap.size n' c' _ 5 3 a HD1.out (by omega) (by omega) (by omega) (by omega)).mono ?_
  rintro e w4 ⟨ax, cx, x, rfl, hx, hr, hcap, hg4⟩
  have HR := Lib.hid hr
  have HG4 := Lib.hid hg4
  have HX := Lib.hid hx
  clear hr hg4 hx
  go_wp2
  go_ret
  exact ⟨ax, cx, x, rfl, HS1.out.trans (since_grown HG4.out (Nat.le_refl _) HS1.out.size), HX.out, HR.out, hcap⟩

set_option maxHeartbeats 1000000 in
theorem drawKnownTurnsSum_any (a : Option Addr) (nb cb : Nat) (w : World) (hc : nb ≤ cb) (h63 : cb ≤ 9223372036854775807) (hb : BytR w a nb) :
    Calls Try.prog 50 #[.slice a nb cb] w fun e w' => ∃ ax cx x, e = .returned (.slice ax (List.length x) cx) ∧ w.Since w.heap.size w' ∧ ListE x 5 3 ∧ RowR w' ax x ∧ x.length ≤ cx ∧ cx ≤ 9223372036854775807 := by
  have E := Lib.hid (l6Open_any a nb cb w hc h63 hb)
  clear hb
  go_enter Try.func50, Try.ntmps50
  go_wp2_with fail
  refine (E.out).mono ?_
  rintro e w1 ⟨n', c', rfl, hs, hz, hd⟩
  have HD1 := Lib.hid hd
  have HS1 := Lib.hid hs
  have hz1 : w.heap.size < w1.heap.size := by omega
  clear hd hz hs
  go_wp2_with fail
  refine (l92List_any w w1 w.heap.size n' c' _ 5 3 a HD1.out (by omega) (by omega) (by omega) (by omega)).mono ?_
  rintro e w4 ⟨ax, cx, x, rfl, hx, hr, hcap, hg4⟩
  have HR := Lib.hid hr
  have HG4 := Lib.hid hg4
  have HX := Lib.hid hx
  clear hr hg4 hx
  go_wp2
  go_ret
  exact ⟨ax, cx, x, rfl, HS1.out.trans (since_grown HG4.out (Nat.le_refl _) HS1.out.size), HX.out, HR.out, hcap⟩

set_option maxHeartbeats 1000000 in
theorem drawKnownPowers_any (a : Option Addr) (nb cb : Nat) (w : World) (hc : nb ≤ cb) (h63 : cb ≤ 9223372036854775807) (hb : BytR w a nb) :
    Calls Try.prog 15 #[.slice a nb cb] w fun e w' => ∃ ax cx x, e = .returned (.slice ax (List.length x) cx) ∧ w.Since w.heap.size w' ∧ (ListE x 3 5 ∨ ListE x 5 2) ∧ RowR w' ax x ∧ x.length ≤ cx ∧ cx ≤ 9223372036854775807 := by
  have E := Lib.hid (l6Open_any a nb cb w hc h63 hb)
  clear hb
  go_enter Try.func15, Try.ntmps15
  go_wp2_with fail
  refine (E.out).mono ?_
  rintro e w1 ⟨n', c', rfl, hs, hz, hd⟩
  have HD1 := Lib.hid hd
  have HS1 := Lib.hid hs
  have hz1 : w.heap.size < w1.heap.size := by omega
  clear hd hz hs
  go_wp2_with fail
  refine (pick_any w _ w.heap.size n' c' _ a _ HD1.out (by omega)).mono ?_
  rintro e w2 ⟨y, rfl, hy, hg2, hd2⟩
  have HD2 := Lib.hid hd2
  have HG2 := Lib.hid hg2
  have hz2 := hg2.size
  clear hd2 hg2
  by_cases h0 : y = 0
  · subst h0
    go_wp2_with fail
    refine (l92List_any w w2 w.heap.size n' c' _ 3 5 a HD2.out (by omega) (by omega) (by omega) (by omega)).mono ?_
    rintro e w4 ⟨ax, cx, x, rfl, hx, hr, hcap, hg4⟩
    have HR := Lib.hid hr
    have HG4 := Lib.hid (grown_trans HG2.out hg4)
    have HX := Lib.hid hx
    clear hr hg4 hx
    go_wp2
    go_ret
    exact ⟨ax, cx, x, rfl, HS1.out.trans (since_grown HG4.out (Nat.le_refl _) HS1.out.size), .inl HX.out, HR.out, hcap⟩
  · have hne : ((y : Int) == 0) = false := by simp; omega
    go_wp2_with fail
    refine (l92List_any w w2 w.heap.size n' c' _ 5 2 a HD2.out (by omega) (by omega) (by omega) (by omega)).mono ?_
    rintro e w4 ⟨ax, cx, x, rfl, hx, hr, hcap, hg4⟩
    have HR := Lib.hid hr
    have HG4 := Lib.hid (grown_trans HG2.out hg4)
    have HX := Lib.hid hx
    clear hr hg4 hx
    go_wp2
    go_ret
    exact ⟨ax, cx, x, rfl, HS1.out.trans (since_grown HG4.out (Nat.le_refl _) HS1.out.size), .inr HX.out, HR.out, hcap⟩

set_option maxHeartbeats 1000000 in
theorem l92Size_any (a : Option Addr) (nb cb : Nat) (w : World) (hc : nb ≤ cb) (h63 : cb ≤ 9223372036854775807) (hb : BytR w a nb) :
    Calls Try.prog 84 #[.slice a nb cb] w fun e w' => ∃ z : Int, e = .returned (.int .i64 z) ∧ w.Since w.heap.size w' := by
  have E := Lib.hid (l6Open_any a nb cb w hc h63 hb)
  clear hb
  go_enter Try.func84, Try.ntmps84
  go_wp2_with fail
  refine (E.out).mono ?_
  rintro e w1 ⟨n', c', rfl, hs, hz, hd⟩
  have HD1 := Lib.hid hd
  have HS1 := Lib.hid hs
  have hz1 : w.heap.size < w1.heap.size := by omega
  clear hd hz hs
  go_wp2_with fail
  refine (pick_any w _ w.heap.size n' c' _ a _ HD1.out (by omega)).mono ?_
  rintro e w2 ⟨y, rfl, hy, hg2, hd2⟩
  have HD2 := Lib.hid hd2
  have HG2 := Lib.hid hg2
  clear hd2 hg2
  go_wp2_with fail
  refine (pick_any w _ w.heap.size n' c' _ a _ HD2.out (by omega)).mono ?_
  rintro e w3 ⟨y2, rfl, hy2, hg3, hd3⟩
  have HD3 := Lib.hid hd3
  have HG3 := Lib.hid (grown_trans HG2.out hg3)
  clear hd3 hg3
  go_wp2_with fail
  refine (pick_any w _ w.heap.size n' c' _ a _ HD3.out (by omega)).mono ?_
  rintro e w4 ⟨y3, rfl, hy3, hg4, hd4⟩
  have HG4 := Lib.hid (grown_trans HG3.out hg4)
  clear hd4 hg4
  go_wp2
  go_ret
  exact ⟨_, rfl, HS1.out.trans (since_grown HG4.out (Nat.le_refl _) HS1.out.size)⟩

theorem drawKnownDivisors_any (a : Option Addr) (nb cb : Nat) (w : World) (hc : nb ≤ cb) (h63 : cb ≤ 9223372036854775807) (hb : BytR w a nb) :
    Calls Try.prog 31 #[.slice a nb cb] w fun e w' => ∃ z : Int, e = .returned (.int .i64 z) ∧ w.Since w.heap.size w' := by
  have E := Lib.hid (l92Size_any a nb cb w hc h63 hb)
  clear hb
  go_enter Try.func31, Try.ntmps31
  go_wp2_with fail
  refine (E.out).mono ?_
  rintro e w1 ⟨z, rfl, hs⟩
  go_wp2
  go_ret
  exact ⟨z, rfl, hs⟩

theorem drawKnownDivisorsValue_any (a : Option Addr) (nb cb : Nat) (w : World) (hc : nb ≤ cb) (h63 : cb ≤ 9223372036854775807) (hb : BytR w a nb) :
    Calls Try.prog 35 #[.slice a nb cb] w fun e w' => ∃ z : Int, e = .returned (.int .i64 z) ∧ w.Since w.heap.size w' := by
  have E := Lib.hid (l92Size_any a nb cb w hc h63 hb)
  clear hb
  go_enter Try.func35, Try.ntmps35
  go_wp2_with fail
  refine (E.out).mono ?_
  rintro e w1 ⟨z, rfl, hs⟩
  go_wp2
  go_ret
  exact ⟨z, rfl, hs⟩

theorem drawKnownLeast_any (a : Option Addr) (nb cb : Nat) (w : World) (hc : nb ≤ cb) (h63 : cb ≤ 9223372036854775807) (hb : BytR w a nb) :
    Calls Try.prog 37 #[.slice a nb cb] w fun e w' => ∃ z : Int, e = .returned (.int .i64 z) ∧ w.Since w.heap.size w' := by
  have E := Lib.hid (l92Size_any a nb cb w hc h63 hb)
  clear hb
  go_enter Try.func37, Try.ntmps37
  go_wp2_with fail
  refine (E.out).mono ?_
  rintro e w1 ⟨z, rfl, hs⟩
  go_wp2
  go_ret
  exact ⟨z, rfl, hs⟩

set_option maxHeartbeats 1000000 in
theorem l92Ones_any (a : Option Addr) (nb cb : Nat) (w : World) (hc : nb ≤ cb) (h63 : cb ≤ 9223372036854775807) (hb : BytR w a nb) :
    Calls Try.prog 77 #[.slice a nb cb] w fun e w' => ∃ x y z : Int, e = .returned (.tuple #[.int .i64 x, .int .i64 y, .int .i64 z]) ∧ w.Since w.heap.size w' := by
  have E := Lib.hid (l6Open_any a nb cb w hc h63 hb)
  clear hb
  go_enter Try.func77, Try.ntmps77
  go_wp2_with fail
  refine (E.out).mono ?_
  rintro e w1 ⟨n', c', rfl, hs, hz, hd⟩
  have HD1 := Lib.hid hd
  have HS1 := Lib.hid hs
  have hz1 : w.heap.size < w1.heap.size := by omega
  clear hd hz hs
  go_wp2_with fail
  refine (pick_any w _ w.heap.size n' c' _ a _ HD1.out (by omega)).mono ?_
  rintro e w2 ⟨y1, rfl, hy1, hg2, hd2⟩
  have HD2 := Lib.hid hd2
  have HG2 := Lib.hid hg2
  clear hd2 hg2
  go_wp2_with fail
  refine (pick_any w _ w.heap.size n' c' _ a _ HD2.out (by omega)).mono ?_
  rintro e w3 ⟨y2, rfl, hy2, hg3, hd3⟩
  have HD3 := Lib.hid hd3
  have HG3 := Lib.hid (grown_trans HG2.out hg3)
  clear hd3 hg3
  go_wp2_with fail
  refine (pick_any w _ w.heap.size n' c' _ a _ HD3.out (by omega)).mono ?_
  rintro e w4 ⟨y3, rfl, hy3, hg4, hd4⟩
  have HD4 := Lib.hid hd4
  have HG4 := Lib.hid (grown_trans HG3.out hg4)
  clear hd4 hg4
  go_wp2_with fail
  refine (pick_any w _ w.heap.size n' c' _ a _ HD4.out (by omega)).mono ?_
  rintro e w5 ⟨y4, rfl, hy4, hg5, hd5⟩
  have HD5 := Lib.hid hd5
  have HG5 := Lib.hid (grown_trans HG4.out hg5)
  clear hd5 hg5
  go_wp2_with fail
  refine (pick_any w _ w.heap.size n' c' _ a _ HD5.out (by omega)).mono ?_
  rintro e w6 ⟨y5, rfl, hy5, hg6, hd6⟩
  have HD6 := Lib.hid hd6
  have HG6 := Lib.hid (grown_trans HG5.out hg6)
  clear hd6 hg6
  go_wp2_with fail
  refine (pick_any w _ w.heap.size n' c' _ a _ HD6.out (by omega)).mono ?_
  rintro e w7 ⟨y6, rfl, hy6, hg7, hd7⟩
  have HD7 := Lib.hid hd7
  have HG7 := Lib.hid (grown_trans HG6.out hg7)
  clear hd7 hg7
  go_wp2
  go_ret3
  exact ⟨_, _, _, rfl, HS1.out.trans (since_grown HG7.out (Nat.le_refl _) HS1.out.size)⟩

theorem drawKnownOnes_any (a : Option Addr) (nb cb : Nat) (w : World) (hc : nb ≤ cb) (h63 : cb ≤ 9223372036854775807) (hb : BytR w a nb) :
    Calls Try.prog 24 #[.slice a nb cb] w fun e w' => ∃ x y z : Int, e = .returned (.tuple #[.int .i64 x, .int .i64 y, .int .i64 z]) ∧ w.Since w.heap.size w' := by
  have E := Lib.hid (l92Ones_any a nb cb w hc h63 hb)
  clear hb
  go_enter Try.func24, Try.ntmps24
  go_wp2_with fail
  refine (E.out).mono ?_
  rintro e w1 ⟨x, y, z, rfl, hs⟩
  go_wp2
  go_ret3
  exact ⟨x, y, z, rfl, hs⟩

theorem drawKnownOnesValue_any (a : Option Addr) (nb cb : Nat) (w : World) (hc : nb ≤ cb) (h63 : cb ≤ 9223372036854775807) (hb : BytR w a nb) :
    Calls Try.prog 29 #[.slice a nb cb] w fun e w' => ∃ x y z : Int, e = .returned (.tuple #[.int .i64 x, .int .i64 y, .int .i64 z]) ∧ w.Since w.heap.size w' := by
  have E := Lib.hid (l92Ones_any a nb cb w hc h63 hb)
  clear hb
  go_enter Try.func29, Try.ntmps29
  go_wp2_with fail
  refine (E.out).mono ?_
  rintro e w1 ⟨x, y, z, rfl, hs⟩
  go_wp2
  go_ret3
  exact ⟨x, y, z, rfl, hs⟩

set_option maxHeartbeats 1000000 in
theorem drawKnownSums_any (a : Option Addr) (nb cb : Nat) (w : World) (hc : nb ≤ cb) (h63 : cb ≤ 9223372036854775807) (hb : BytR w a nb) :
    Calls Try.prog 41 #[.slice a nb cb] w fun e w' => ∃ (n : Nat) (ax : Option Addr) (cx : Nat) (x : List Int), e = .returned (.tuple #[.int .i64 n, .slice ax (List.length x) cx]) ∧ w.Since w.heap.size w' ∧ 1 ≤ n ∧ n ≤ 5 ∧ x.length ≤ 10 ∧ RowR w' ax x ∧ x.length ≤ cx ∧ cx ≤ 9223372036854775807 := by
  have E := Lib.hid (l6Open_any a nb cb w hc h63 hb)
  clear hb
  go_enter Try.func41, Try.ntmps41
  go_wp2_with fail
  refine (E.out).mono ?_
  rintro e w1 ⟨n', c', rfl, hs, hz, hd⟩
  have HD1 := Lib.hid hd
  have HS1 := Lib.hid hs
  have hz1 : w.heap.size < w1.heap.size := by omega
  clear hd hz hs
  go_wp2_with fail
  refine (pick_any w _ w.heap.size n' c' _ a _ HD1.out (by omega)).mono ?_
  rintro e w2 ⟨y, rfl, hy, hg2, hd2⟩
  have HD2 := Lib.hid hd2
  have HG2 := Lib.hid hg2
  clear hd2 hg2
  have hy5 : y ≤ 4 := by omega
  go_wp2_with fail
  refine (pick_any w _ w.heap.size n' c' _ a _ HD2.out (by omega)).mono ?_
  rintro e w3 ⟨y2, rfl, hy2, hg3, hd3⟩
  have HD3 := Lib.hid hd3
  have HG3 := Lib.hid (grown_trans HG2.out hg3)
  have hz3 := HG3.out.size
  have hy25 : y2 ≤ 23 := by omega
  clear hd3 hg3
  obtain ⟨N, hN⟩ : ∃ N : Nat, 2 * (1 + (y : Int)) - 1 + (y2 : Int) / 23 = (N : Int) := ⟨2 * (1 + y) - 1 + y2 / 23, by omega⟩
  have hN10 : N ≤ 10 := by omega
  have HNN := Lib.hid (l92NumbersC_any w w3 w.heap.size n' c' _ N a HD3.out (by omega) (by omega) (by omega))
  go_wp2_with fail
  refine (HNN.out).mono ?_
  rintro e w4 ⟨ax, cx, x, rfl, hx, hr, hcap, hg4⟩
  have HR := Lib.hid hr
  have HG4 := Lib.hid (grown_trans HG3.out hg4)
  clear hr hg4
  go_wp2
  go_ret2
  exact ⟨1 + y, ax, cx, x, by rw [hx]; simp, HS1.out.trans (since_grown HG4.out (Nat.le_refl _) HS1.out.size), by omega, by omega, by omega, HR.out, by rw [hx]; exact hcap⟩

end Go.Proofs.Ytkahgpgnfodpgaa
end

section
namespace Go.Proofs.Ytkahgpgnfodpgaa
open Go.RowKit Go.Deep

def lacks (n U : Nat) : List Nat := (List.range n).filter fun k => !U.testBit k
def gam (U j : Nat) : Nat := (lacks 6 U).getD j 0
def sgU (U : Nat) : Int := sn (((List.range 6).filter fun k => U.testBit k).foldl (· + ·) 0 + popcS U * (popcS U - 1) / 2)

theorem lacks_len : ∀ n : Fin 7, ∀ U : Fin 64, U.val < 2 ^ n.val → (lacks n.val U.val).length + popcS U.val = n.val := by decide +kernel
theorem lacks_get : ∀ n : Fin 7, ∀ U : Fin 64, ∀ j : Fin 6, U.val < 2 ^ n.val → j.val + popcS U.val < n.val → (lacks n.val U.val).getD j.val 0 = gam U.val j.val ∧ gam U.val j.val < n.val ∧ U.val.testBit (gam U.val j.val) = false := by decide +kernel
theorem gam_or : ∀ U : Fin 64, ∀ j j' : Fin 6, j.val + popcS U.val < 6 → j'.val + popcS U.val + 1 < 6 → gam (U.val ||| 2 ^ gam U.val j.val) j'.val = gam U.val (skip j.val j'.val) := by decide +kernel
theorem sgU_or : ∀ U : Fin 64, ∀ j : Fin 6, j.val + popcS U.val < 6 → sn (popcS (U.val / 2 ^ gam U.val j.val)) * sgU (U.val ||| 2 ^ gam U.val j.val) = sgU U.val * sn j.val := by decide +kernel
theorem popcS_add : ∀ U : Fin 64, ∀ k : Fin 6, U.val.testBit k.val = false → popcS (U.val ||| 2 ^ k.val) = popcS U.val + 1 := by decide +kernel

theorem sumL_get (F : Nat → Int) : ∀ l : List Nat, (l.map F).foldr (· + ·) 0 = sumN (fun j => F (l.getD j 0)) l.length
  | [] => rfl
  | x :: xs => by
    rw [List.length_cons, sumN_first, List.map_cons, List.foldr_cons, sumL_get F xs]
    rfl
theorem sumL_snoc (l : List Int) (x : Int) : (l ++ [x]).foldr (· + ·) 0 = l.foldr (· + ·) 0 + x := by
  induction l with
  | nil => simp
  | cons y ys ih => simp only [List.cons_append, List.foldr_cons, ih]; omega
theorem sumN_lacks (F : Nat → Int) (U : Nat) : ∀ n, sumN (fun k => if U.testBit k then 0 else F k) n = ((lacks n U).map F).foldr (· + ·) 0
  | 0 => rfl
  | n + 1 => by
    have e : lacks (n + 1) U = lacks n U ++ (if U.testBit n then [] else [n]) := by
      unfold lacks
      rw [List.range_succ, List.filter_append]
      cases h : U.testBit n <;> simp [h]
    unfold sumN
    rw [sumN_lacks F U n, e]
    cases h : U.testBit n
    · simp only [Bool.false_eq_true, if_false, List.map_append, List.map_cons, List.map_nil, sumL_snoc]
    · simp

theorem ordF_dt (l : List (List Int)) {n : Nat} (hn : n ≤ 6) : ∀ (d U : Nat), U < 2 ^ n → popcS U + d = n → ordF l n d U = sgU U * dt d (fun i j => at2 l (n - d + i) (gam U j))
  | 0, U, hU, hp => by
    rw [ordF_zero, dt_zero]
    have h : ∀ n : Fin 7, ∀ U : Fin 64, U.val < 2 ^ n.val → popcS U.val = n.val → sgU U.val = 1 := by decide +kernel
    have p : 2 ^ n ≤ 2 ^ 6 := Nat.pow_le_pow_right (by omega) hn
    have := h ⟨n, by omega⟩ ⟨U, by omega⟩ hU (by simpa using hp)
    simp only at this
    rw [this]; rfl
  | d + 1, U, hU, hp => by
    have p : 2 ^ n ≤ 2 ^ 6 := Nat.pow_le_pow_right (by omega) hn
    have hlen := lacks_len ⟨n, by omega⟩ ⟨U, by omega⟩ hU
    simp only at hlen
    rw [ordF_succ, dt_succ, ← sumN_mul]
    have e0 : ∀ k, ordT l (n - (d + 1)) U (ordF l n d) k = if U.testBit k then 0 else sn (popcS (U / 2 ^ k)) * (at2 l (n - (d + 1)) k * ordF l n d (U ||| 2 ^ k)) := fun k => by
      unfold ordT
      split
      · rfl
      · rw [sg_sn]
    rw [sumN_congr n (fun k _ => e0 k), sumN_lacks (fun k => sn (popcS (U / 2 ^ k)) * (at2 l (n - (d + 1)) k * ordF l n d (U ||| 2 ^ k))), sumL_get, show (lacks n U).length = d + 1 by omega]
    refine sumN_congr _ fun j hj => ?_
    obtain ⟨g1, g2, g3⟩ := lacks_get ⟨n, by omega⟩ ⟨U, by omega⟩ ⟨j, by omega⟩ hU (by simp only; omega)
    simp only at g1 g2 g3
    have hs := sgU_or ⟨U, by omega⟩ ⟨j, by omega⟩ (by simp only; omega)
    have ha := popcS_add ⟨U, by omega⟩ ⟨gam U j, by omega⟩ g3
    simp only at hs ha
    rw [g1, ordF_dt l hn d (U ||| 2 ^ gam U j) (Nat.or_lt_two_pow hU (Nat.pow_lt_pow_right (by omega) g2)) (by omega)]
    have ed : dt d (fun i j' => at2 l (n - d + i) (gam (U ||| 2 ^ gam U j) j')) = dt d (dr j (fun i j => at2 l (n - (d + 1) + i) (gam U j))) := dt_congr d fun i j' _ hj' => by
      have := gam_or ⟨U, by omega⟩ ⟨j, by omega⟩ ⟨j', by omega⟩ (by simp only; omega) (by simp only; omega)
      simp only at this
      rw [this]
      show _ = at2 l (n - (d + 1) + (i + 1)) (gam U (skip j j'))
      rw [show n - (d + 1) + (i + 1) = n - d + i by omega]
    rw [ed, Nat.add_zero]
    generalize dt d (dr j (fun i j => at2 l (n - (d + 1) + i) (gam U j))) = D
    generalize at2 l (n - (d + 1)) (gam U j) = y
    rw [show sn (popcS (U / 2 ^ gam U j)) * (y * (sgU (U ||| 2 ^ gam U j) * D)) = (sn (popcS (U / 2 ^ gam U j)) * sgU (U ||| 2 ^ gam U j)) * (y * D) by grind, hs, Int.mul_assoc]
theorem gam_zero : ∀ j : Fin 6, gam 0 j.val = j.val := by decide +kernel
theorem ordF_all (l : List (List Int)) {n : Nat} (hn : n ≤ 6) : ordF l n n 0 = dt n (at2 l) := by
  rw [ordF_dt l hn n 0 (Nat.pow_pos (by omega)) (by have : popcS 0 = 0 := by decide
                                                    omega)]
  have h1 : sgU 0 = 1 := by decide +kernel
  rw [h1, Int.one_mul]
  refine dt_congr n fun i j hi hj => ?_
  have := gam_zero ⟨j, by omega⟩
  simp only at this
  rw [this, Nat.sub_self, Nat.zero_add]

end Go.Proofs.Ytkahgpgnfodpgaa
end

section
namespace Go.Proofs.Ytkahgpgnfodpgaa
open Go.RowKit Go.Deep

theorem sumN_more (f : Nat → Int) (n : Nat) : ∀ m, (∀ j, n ≤ j → j < n + m → f j = 0) → sumN f (n + m) = sumN f n
  | 0, _ => rfl
  | m + 1, h => by
    show sumN f (n + m) + f (n + m) = _
    rw [sumN_more f n m (fun j h1 h2 => h j h1 (by omega)), h (n + m) (by omega) (by omega)]
    omega
theorem sumN_one (f : Nat → Int) (k : Nat) : ∀ n, k < n → (∀ j, j < n → j ≠ k → f j = 0) → sumN f n = f k
  | 0, h, _ => by omega
  | n + 1, h, hz => by
    unfold sumN
    by_cases e : k = n
    · subst e
      rw [sumN_none k (fun j hj => hz j (by omega) (by omega))]; omega
    · rw [sumN_one f k n (by omega) (fun j hj hk => hz j (by omega) hk), hz n (by omega) (fun h => e h.symm)]; omega
theorem sumN_mulR (c : Int) (f : Nat → Int) (n : Nat) : sumN (fun j => f j * c) n = sumN f n * c := by
  rw [sumN_congr n (g := fun j => c * f j) (fun j _ => Int.mul_comm _ _), sumN_mul, Int.mul_comm]

theorem dt_block (m : Nat) : ∀ (n : Nat) (f : Nat → Nat → Int), (∀ i j, i < n → n ≤ j → j < n + m → f i j = 0) → dt (n + m) f = dt n f * dt m (fun i j => f (n + i) (n + j))
  | 0, f, _ => by
    rw [dt_zero, Int.one_mul, Nat.zero_add]
    exact dt_congr m fun i j _ _ => by rw [Nat.zero_add, Nat.zero_add]
  | n + 1, f, h => by
    rw [show n + 1 + m = (n + m) + 1 by omega, dt_succ, show n + m + 1 = (n + 1) + m by omega, sumN_more _ (n + 1) m (fun j h1 h2 => by rw [h 0 j (by omega) h1 h2]; simp), dt_succ, ← sumN_mulR]
    refine sumN_congr _ fun k hk => ?_
    rw [dt_block m n (dr k f) (fun i j h1 h2 h3 => by
      show f (i + 1) (skip k j) = 0
      rw [skip_ge (by omega)]
      exact h _ _ (by omega) (by omega) (by omega))]
    have e : dt m (fun i j => dr k f (n + i) (n + j)) = dt m (fun i j => f (n + 1 + i) (n + 1 + j)) := dt_congr m fun i j _ _ => by
      show f (n + i + 1) (skip k (n + j)) = _
      rw [skip_ge (by omega), show n + i + 1 = n + 1 + i by omega, show n + j + 1 = n + 1 + j by omega]
    rw [e, Int.mul_assoc, Int.mul_assoc]

theorem dt_addS {n r : Nat} (f : Nat → Nat → Int) (c : Nat → Int) (s : Nat → Nat) (hr : r < n) : ∀ k, (∀ m, m < k → s m < n ∧ s m ≠ r) → dt n (setR f r (fun j => f r j + sumN (fun m => c m * f (s m) j) k)) = dt n f
  | 0, _ => by
    rw [dt_congr n (g := f) (fun i j _ _ => by
      unfold setR
      split
      · rename_i h; rw [h]; simp [sumN]
      · rfl)]
  | k + 1, h => by
    have e : ∀ i j, setR f r (fun j => f r j + sumN (fun m => c m * f (s m) j) (k + 1)) i j = setR f r (fun j => 1 * (f r j + sumN (fun m => c m * f (s m) j) k) + c k * f (s k) j) i j := fun i j => by
      unfold setR
      split
      · show f r j + (sumN (fun m => c m * f (s m) j) k + c k * f (s k) j) = 1 * (f r j + sumN (fun m => c m * f (s m) j) k) + c k * f (s k) j
        omega
      · rfl
    obtain ⟨h1, h2⟩ := h k (by omega)
    rw [dt_congr n (fun i j _ _ => e i j), dt_lin n r f 1 (c k) _ _ hr, dt_addS f c s hr k (fun m hm => h m (by omega)), dt_sameR (setR f r (fun j => f (s k) j)) (Ne.symm h2) hr h1 (fun j _ => by unfold setR; rw [if_pos rfl, if_neg h2])]
    omega

def mulF (n : Nat) (A B : Nat → Nat → Int) (i j : Nat) : Int := sumN (fun m => A i m * B m j) n
def oneF (i j : Nat) : Int := if i = j then 1 else 0
def blk (n : Nat) (A B : Nat → Nat → Int) (i j : Nat) : Int := if i < n then (if j < n then A i j else 0) else (if j < n then (if i - n = j then -1 else 0) else B (i - n) (j - n))
def blkT (n : Nat) (A B : Nat → Nat → Int) (t i j : Nat) : Int := if i < t then (if j < n then 0 else mulF n A B i (j - n)) else blk n A B i j
theorem dt_blkT (n : Nat) (A B : Nat → Nat → Int) : ∀ t, t ≤ n → dt (n + n) (blkT n A B t) = dt (n + n) (blk n A B)
  | 0, _ => dt_congr _ fun i j _ _ => by unfold blkT; rw [if_neg (by omega)]
  | t + 1, ht => by
    rw [← dt_blkT n A B t (by omega), ← dt_addS (blkT n A B t) (A t) (fun m => n + m) (show t < n + n by omega) n (fun m hm => ⟨by omega, by omega⟩)]
    refine dt_congr _ fun i j _ hj => ?_
    unfold setR
    by_cases hi : i = t
    · subst hi
      rw [if_pos rfl]
      have e1 : blkT n A B (i + 1) i j = if j < n then 0 else mulF n A B i (j - n) := if_pos (by omega)
      have e2 : blkT n A B i i j = if j < n then A i j else 0 := by unfold blkT blk; rw [if_neg (by omega), if_pos (by omega)]
      have e3 : ∀ m, blkT n A B i (n + m) j = if j < n then (if m = j then -1 else 0) else B m (j - n) := fun m => by unfold blkT blk; rw [if_neg (by omega), if_neg (by omega), Nat.add_sub_cancel_left]
      show _ = blkT n A B i i j + sumN (fun m => A i m * blkT n A B i (n + m) j) n
      rw [e1, e2]
      by_cases hjn : j < n
      · rw [if_pos hjn, if_pos hjn, sumN_one (fun m => A i m * blkT n A B i (n + m) j) j n hjn (fun m _ hmj => by rw [e3, if_pos hjn, if_neg hmj]; simp), e3, if_pos hjn, if_pos rfl]
        omega
      · rw [if_neg hjn, if_neg hjn, Int.zero_add]
        exact sumN_congr n fun m _ => by rw [e3, if_neg hjn]
    · rw [if_neg hi]
      unfold blkT
      by_cases h1 : i < t
      · rw [if_pos (by omega), if_pos h1]
      · rw [if_neg (by omega), if_neg h1]
def colT (n t j : Nat) : Nat := if j < t then n + j else if n ≤ j ∧ j < n + t then j - n else j
theorem dt_colT (n : Nat) (f : Nat → Nat → Int) : ∀ t, t ≤ n → dt (n + n) (fun i j => f i (colT n t j)) = sn t * dt (n + n) f
  | 0, _ => by
    rw [sn_zero, Int.one_mul]
    exact dt_congr _ fun i j _ _ => by
      congr 1
      unfold colT
      rw [if_neg (by omega), if_neg (by omega)]
  | t + 1, ht => by
    have h := dt_exC (fun i j => f i (colT n t j)) (show t ≠ n + t by omega) (show t < n + n by omega) (show n + t < n + n by omega)
    rw [dt_colT n f t (by omega)] at h
    rw [sn_succ]
    have e : dt (n + n) (fun i j => f i (colT n (t + 1) j)) = dt (n + n) (fun i j => f i (colT n t (ex t (n + t) j))) := dt_congr _ fun i j _ _ => by
      congr 1
      unfold colT ex
      repeat (first | split | omega)
    rw [e, h]
    grind
theorem dt_oneF : ∀ n, dt n oneF = 1
  | 0 => rfl
  | n + 1 => by
    rw [dt_corner oneF (fun i _ => if_neg (by omega)), show oneF 0 0 = 1 from rfl, Int.one_mul]
    rw [dt_congr n (g := oneF) (fun i j _ _ => by unfold oneF; by_cases h : i = j <;> simp [h])]
    exact dt_oneF n
theorem pw_neg : ∀ n, pw (-1) n = sn n
  | 0 => rfl
  | n + 1 => by rw [sn_succ, ← pw_neg n]; show -1 * pw (-1) n = _; omega
theorem dt_mul (n : Nat) (A B : Nat → Nat → Int) : dt n (mulF n A B) = dt n A * dt n B := by
  have h1 : dt (n + n) (blk n A B) = dt n A * dt n B := by
    rw [dt_block n n (blk n A B) (fun i j h1 h2 _ => by unfold blk; rw [if_pos h1, if_neg (by omega)])]
    congr 1
    · exact dt_congr n fun i j hi hj => by unfold blk; rw [if_pos hi, if_pos hj]
    · exact dt_congr n fun i j _ _ => by unfold blk; rw [if_neg (by omega), if_neg (by omega), Nat.add_sub_cancel_left, Nat.add_sub_cancel_left]
  have h2 := dt_colT n (blkT n A B n) n (Nat.le_refl _)
  rw [dt_blkT n A B n (Nat.le_refl _), h1] at h2
  have h3 : dt (n + n) (fun i j => blkT n A B n i (colT n n j)) = dt n (mulF n A B) * sn n := by
    rw [dt_block n n _ (fun i j h1 h2 h3 => by
      show blkT n A B n i (colT n n j) = 0
      have ec : colT n n j = j - n := by unfold colT; rw [if_neg (by omega), if_pos ⟨h2, h3⟩]
      rw [ec]
      unfold blkT
      rw [if_pos h1, if_pos (by omega)])]
    congr 1
    · refine dt_congr n fun i j hi hj => ?_
      show blkT n A B n i (colT n n j) = _
      have ec : colT n n j = n + j := by unfold colT; rw [if_pos hj]
      rw [ec]
      unfold blkT
      rw [if_pos hi, if_neg (by omega), Nat.add_sub_cancel_left]
    · rw [dt_congr n (g := fun i j => -1 * oneF i j) (fun i j hi hj => by
        show blkT n A B n (n + i) (colT n n (n + j)) = _
        have ec : colT n n (n + j) = j := by unfold colT; rw [if_neg (by omega), if_pos (by omega), Nat.add_sub_cancel_left]
        rw [ec]
        unfold blkT blk oneF
        rw [if_neg (show ¬ n + i < n by omega), if_neg (show ¬ n + i < n by omega), if_pos hj, Nat.add_sub_cancel_left]
        by_cases e : i = j <;> simp [e]), dt_scale (-1) n oneF, dt_oneF, pw_neg]
      omega
  rw [h3] at h2
  have h4 := sn_sq n
  have h5 : dt n (mulF n A B) * (sn n * sn n) = sn n * sn n * (dt n A * dt n B) := by grind
  rw [h4] at h5
  omega

def selN (s n i : Nat) : Nat := ((sel s n n).map (·.1)).getD i 0
theorem pickTo_at (c : Nat) (x : List Int) (m j : Nat) (hj : j < (sel c m m).length) : (pickTo c x m m).getD j 0 = x.getD (selN c m j) 0 := by
  unfold pickTo selN
  simp [List.getD, hj]
theorem partL_at (l : List (List Int)) (s c : Nat) {i j : Nat} (hi : i < (sel s l.length l.length).length) (hj : j < (sel c (l.getD 0 []).length (l.getD 0 []).length).length) :
    at2 (partL l s c) i j = at2 l (selN s l.length i) (selN c (l.getD 0 []).length j) := by
  have e1 : (partL l s c).getD i [] = pickTo c (l.getD (selN s l.length i) []) (l.getD 0 []).length (l.getD 0 []).length := by
    unfold partL partRows selN
    simp [List.getD, hi]
  unfold at2
  rw [e1, pickTo_at _ _ _ _ hj]
theorem selN_but : ∀ n : Fin 7, ∀ k : Fin 6, ∀ j : Fin 6, k.val < n.val → j.val + 1 < n.val → selN (2 ^ n.val - 1 - 2 ^ k.val) n.val j.val = skip k.val j.val := by decide +kernel
theorem sel_but_len : ∀ n : Fin 7, ∀ k : Fin 6, k.val < n.val → (sel (2 ^ n.val - 1 - 2 ^ k.val) n.val n.val).length + 1 = n.val := by decide +kernel
theorem partL_but {l : List (List Int)} {n r k i j : Nat} (hn : l.length = n) (hw : (l.getD 0 []).length = n) (h6 : n ≤ 6) (hr : r < n) (hk : k < n) (hi : i + 1 < n) (hj : j + 1 < n) :
    at2 (partL l (2 ^ n - 1 - 2 ^ r) (2 ^ n - 1 - 2 ^ k)) i j = at2 l (skip r i) (skip k j) := by
  have l1 := sel_but_len ⟨n, by omega⟩ ⟨r, by omega⟩ hr
  have l2 := sel_but_len ⟨n, by omega⟩ ⟨k, by omega⟩ hk
  simp only at l1 l2
  rw [partL_at l _ _ (by rw [hn]; omega) (by rw [hw]; omega), hn, hw]
  have e1 := selN_but ⟨n, by omega⟩ ⟨r, by omega⟩ ⟨i, by omega⟩ hr hi
  have e2 := selN_but ⟨n, by omega⟩ ⟨k, by omega⟩ ⟨j, by omega⟩ hk hj
  simp only at e1 e2
  rw [e1, e2]
theorem rowF_dt : ∀ (d : Nat) (l : List (List Int)), SqD d l → rowF d l = dt d (at2 l)
  | 0, _, _ => rfl
  | d + 1, l, h => by
    obtain ⟨hT, hw⟩ := h.2 (by omega)
    have h6 := hT.2.1
    have hn := h.1
    rw [rowF_succ, dt_succ]
    refine sumN_congr _ fun k hk => ?_
    rw [sg_sn, rowF_dt d _ (minor_sq h hk)]
    have e : dt d (at2 (minorL l (d + 1) k)) = dt d (dr k (at2 l)) := dt_congr d fun i j hi hj => by
      have := partL_but (r := 0) (k := k) (i := i) (j := j) hn hw (by omega) (by omega) hk (by omega) (by omega)
      exact this
    rw [e]

end Go.Proofs.Ytkahgpgnfodpgaa
end

section
namespace Go.Proofs.Ytkahgpgnfodpgaa

def pr (c : Nat → Int) : Nat → Int
  | 0 => 1
  | n + 1 => c 0 * pr (fun i => c (i + 1)) n
theorem dt_rows : ∀ (n : Nat) (c : Nat → Int) (h : Nat → Nat → Int), dt n (fun i j => c i * h i j) = pr c n * dt n h
  | 0, _, _ => by simp [dt, pr]
  | n + 1, c, h => by
    rw [dt_succ, dt_succ, ← sumN_mul]
    refine sumN_congr _ fun k _ => ?_
    rw [show dr k (fun i j => c i * h i j) = fun i j => (fun i => c (i + 1)) i * dr k h i j from rfl, dt_rows n]
    show sn k * (c 0 * h 0 k * (pr (fun i => c (i + 1)) n * dt n (dr k h))) = c 0 * pr (fun i => c (i + 1)) n * (sn k * (h 0 k * dt n (dr k h)))
    grind

theorem vd_op (n : Nat) (g : Nat → Nat → Int) (c : Int) : ∀ t, t ≤ n → dt (n + 1) (fun k i => if n - t < k then g k i + c * g (k - 1) i else g k i) = dt (n + 1) g
  | 0, _ => dt_congr _ fun k i hk _ => by
    rw [if_neg (by omega)]
  | t + 1, ht => by
    rw [← vd_op n g c t (by omega), dt_congr (n + 1) (g := setR (fun k i => if n - t < k then g k i + c * g (k - 1) i else g k i) (n - t) (fun j => 1 * (if n - t < n - t then g (n - t) j + c * g (n - t - 1) j else g (n - t) j) + c * (if n - t < n - t - 1 then g (n - t - 1) j + c * g (n - t - 1 - 1) j else g (n - t - 1) j))) (fun k i hk _ => by
      unfold setR
      simp only
      by_cases e : k = n - t
      · subst e
        rw [if_pos rfl, if_pos (by omega), if_neg (by omega), if_neg (by omega)]
        omega
      · rw [if_neg e]
        by_cases h : n - t < k
        · rw [if_pos h, if_pos (by omega)]
        · rw [if_neg h, if_neg (by omega)])]
    have h := dt_add (n := n + 1) (r := n - t) (s := n - t - 1) (fun k i => if n - t < k then g k i + c * g (k - 1) i else g k i) 1 c (by omega) (by omega) (by omega)
    rw [h]
    omega

def vdF : (Nat → Int) → Nat → Int
  | _, 0 => 1
  | x, n + 1 => pr (fun i => x (i + 1) - x 0) n * vdF (fun i => x (i + 1)) n
theorem dt_pow : ∀ (n : Nat) (x : Nat → Int), dt n (fun i k => (x i) ^ k) = vdF x n
  | 0, _ => rfl
  | n + 1, x => by
    rw [← dt_turn (n + 1) (fun i k => (x i) ^ k), ← vd_op n (fun k i => (x i) ^ k) (-(x 0)) n (Nat.le_refl _)]
    rw [← dt_turn, dt_congr (n + 1) (g := fun i k => if 0 < k then (x i - x 0) * (x i) ^ (k - 1) else 1) (fun i k _ _ => by
      simp only [Nat.sub_self]
      by_cases h : 0 < k
      · rw [if_pos h, if_pos h]
        obtain ⟨k, rfl⟩ : ∃ j, k = j + 1 := ⟨k - 1, by omega⟩
        simp only [Nat.add_sub_cancel, Int.pow_succ]
        grind
      · rw [if_neg h, if_neg h, show k = 0 by omega, Int.pow_zero])]
    rw [← dt_turn, dt_corner _ (fun k _ => by simp)]
    simp only [Nat.lt_irrefl, if_false, Nat.succ_pos, if_true, Nat.add_sub_cancel, Int.one_mul]
    rw [dt_turn n (fun i k => (x (i + 1) - x 0) * (x (i + 1)) ^ k)]
    rw [dt_rows n (fun i => x (i + 1) - x 0) (fun i k => (x (i + 1)) ^ k), dt_pow n (fun i => x (i + 1))]
    rfl

def vdI (x : List Int) (i : Nat) (p : Int) : Nat → Int
  | 0 => p
  | k + 1 => vdI x i p k * (x.getD i 0 - x.getD k 0)
def vdO (x : List Int) : Nat → Int
  | 0 => 1
  | i + 1 => vdI x i (vdO x i) i
theorem vdF_vdO (x : List Int) : ∀ n : Nat, n ≤ 6 → vdF (fun i => x.getD i 0) n = vdO x n := by
  intro n hn
  have h : n = 0 ∨ n = 1 ∨ n = 2 ∨ n = 3 ∨ n = 4 ∨ n = 5 ∨ n = 6 := by omega
  rcases h with rfl | rfl | rfl | rfl | rfl | rfl | rfl <;> simp only [vdF, pr, vdO, vdI, Int.one_mul, Int.mul_one, Nat.reduceAdd] <;> ac_rfl

theorem vdI_zero (x : List Int) (i : Nat) (p : Int) : ∀ k, vdI x i p k = 0 ↔ p = 0 ∨ ∃ t, t < k ∧ x.getD i 0 = x.getD t 0
  | 0 => by simp [vdI]
  | k + 1 => by
    rw [show vdI x i p (k + 1) = vdI x i p k * (x.getD i 0 - x.getD k 0) from rfl, Int.mul_eq_zero, vdI_zero x i p k]
    constructor
    · rintro ((h | ⟨t, h1, h2⟩) | h)
      · exact .inl h
      · exact .inr ⟨t, by omega, h2⟩
      · exact .inr ⟨k, by omega, by omega⟩
    · rintro (h | ⟨t, h1, h2⟩)
      · exact .inl (.inl h)
      · rcases Nat.lt_succ_iff_lt_or_eq.1 h1 with h | h
        · exact .inl (.inr ⟨t, h, h2⟩)
        · subst h; exact .inr (by omega)
theorem vdO_zero (x : List Int) : ∀ m, vdO x m = 0 ↔ ∃ i k, i < m ∧ k < i ∧ x.getD i 0 = x.getD k 0
  | 0 => by simp [vdO]
  | m + 1 => by
    rw [show vdO x (m + 1) = vdI x m (vdO x m) m from rfl, vdI_zero, vdO_zero x m]
    constructor
    · rintro (⟨i, k, h1, h2, h3⟩ | ⟨t, h1, h2⟩)
      · exact ⟨i, k, by omega, h2, h3⟩
      · exact ⟨m, t, by omega, h1, h2⟩
    · rintro ⟨i, k, h1, h2, h3⟩
      rcases Nat.lt_succ_iff_lt_or_eq.1 h1 with h | h
      · exact .inl ⟨i, k, h, h2, h3⟩
      · subst h; exact .inr ⟨k, h2, h3⟩

theorem vdI_swap {x y : List Int} (h0 : y.getD 0 0 = x.getD 1 0) (h1 : y.getD 1 0 = x.getD 0 0) (h : ∀ j, 2 ≤ j → y.getD j 0 = x.getD j 0) {i : Nat} (hi : 2 ≤ i) (p : Int) : ∀ k, vdI y i (-p) (k + 2) = -vdI x i p (k + 2)
  | 0 => by
    simp only [vdI]
    rw [h i hi, h0, h1]
    grind
  | k + 1 => by
    rw [show vdI y i (-p) (k + 1 + 2) = vdI y i (-p) (k + 2) * (y.getD i 0 - y.getD (k + 2) 0) from rfl, vdI_swap h0 h1 h hi p k, h i hi, h (k + 2) (by omega),
      show vdI x i p (k + 1 + 2) = vdI x i p (k + 2) * (x.getD i 0 - x.getD (k + 2) 0) from rfl, Int.neg_mul]
theorem vdO_swap {x y : List Int} (h0 : y.getD 0 0 = x.getD 1 0) (h1 : y.getD 1 0 = x.getD 0 0) (h : ∀ j, 2 ≤ j → y.getD j 0 = x.getD j 0) : ∀ m, vdO y (m + 2) = -vdO x (m + 2)
  | 0 => by
    simp only [vdO, vdI]
    rw [h0, h1]
    omega
  | m + 1 => by
    rw [show vdO y (m + 1 + 2) = vdI y (m + 2) (vdO y (m + 2)) (m + 2) from rfl, vdO_swap h0 h1 h m, vdI_swap h0 h1 h (by omega)]
    rfl

def p18 : Nat → Int
  | 0 => 1
  | n + 1 => 18 * p18 n
def tri : Nat → Nat
  | 0 => 0
  | n + 1 => tri n + n
theorem p18_pos : ∀ n, 1 ≤ p18 n
  | 0 => by simp [p18]
  | n + 1 => by have := p18_pos n; simp only [p18]; omega
theorem p18_mono {m : Nat} : ∀ n, m ≤ n → p18 m ≤ p18 n
  | 0, h => by rw [show m = 0 by omega]; exact Int.le_refl _
  | n + 1, h => by
    by_cases e : m = n + 1
    · rw [e]; exact Int.le_refl _
    · have h1 := p18_mono n (show m ≤ n by omega)
      have h2 := p18_pos n
      simp only [p18]; omega
theorem p18_le {n : Nat} (h : n ≤ 15) : p18 n ≤ 6746640616477458432 := by
  have h1 := p18_mono 15 h
  have h2 : p18 15 = 6746640616477458432 := by decide
  omega
theorem vdI_bd {x : List Int} (hx : ∀ j, -9 ≤ x.getD j 0 ∧ x.getD j 0 ≤ 9) (i : Nat) (p : Int) (t : Nat) (hp : -(p18 t) ≤ p ∧ p ≤ p18 t) : ∀ k, -(p18 (t + k)) ≤ vdI x i p k ∧ vdI x i p k ≤ p18 (t + k)
  | 0 => hp
  | k + 1 => by
    have h := vdI_bd hx i p t hp k
    have a := hx i
    have b := hx k
    simp only [vdI]
    rw [show p18 (t + (k + 1)) = 18 * p18 (t + k) from rfl]
    generalize vdI x i p k = q at *
    generalize p18 (t + k) = P at *
    obtain ⟨d, hd⟩ : ∃ d, x.getD i 0 - x.getD k 0 = d := ⟨_, rfl⟩
    rw [hd]
    have h1 : (P + q) * (18 - d) ≥ 0 := Int.mul_nonneg (by omega) (by omega)
    have h2 : (P + q) * (18 + d) ≥ 0 := Int.mul_nonneg (by omega) (by omega)
    have h3 : (P - q) * (18 + d) ≥ 0 := Int.mul_nonneg (by omega) (by omega)
    have h4 : (P - q) * (18 - d) ≥ 0 := Int.mul_nonneg (by omega) (by omega)
    simp only [Int.add_mul, Int.sub_mul, Int.mul_add, Int.mul_sub] at h1 h2 h3 h4
    omega
theorem vdO_bd {x : List Int} (hx : ∀ j, -9 ≤ x.getD j 0 ∧ x.getD j 0 ≤ 9) : ∀ i, -(p18 (tri i)) ≤ vdO x i ∧ vdO x i ≤ p18 (tri i)
  | 0 => by simp [vdO, tri, p18]
  | i + 1 => vdI_bd hx i (vdO x i) (tri i) (vdO_bd hx i) i
theorem tri_le : ∀ i : Fin 6, tri i.val + i.val ≤ 15 := by decide
theorem vdI_lt {x : List Int} (hx : ∀ j, -9 ≤ x.getD j 0 ∧ x.getD j 0 ≤ 9) {i k : Nat} (hi : i < 6) (hk : k ≤ i) : -6746640616477458432 ≤ vdI x i (vdO x i) k ∧ vdI x i (vdO x i) k ≤ 6746640616477458432 := by
  have h := vdI_bd hx i (vdO x i) (tri i) (vdO_bd hx i) k
  have h2 := tri_le ⟨i, hi⟩
  have h3 := p18_le (n := tri i + k) (by simp only at h2; omega)
  omega

def onF (a b : Int) (i k : Nat) : Int := if i = k then a else b
theorem on_step (n : Nat) (a b : Int) : ∀ t, t ≤ n → dt (n + 1) (fun i j => if i = 0 then b else if i ≤ t then (if i = j then a - b else 0) else onF a b i j) = dt (n + 1) (fun i j => if i = 0 then b else onF a b i j)
  | 0, _ => dt_congr _ fun i j _ _ => by
    by_cases e : i = 0
    · rw [if_pos e, if_pos e]
    · rw [if_neg e, if_neg e, if_neg (by omega)]
  | t + 1, ht => by
    rw [← on_step n a b t (by omega)]
    have h := dt_add (n := n + 1) (r := t + 1) (s := 0) (fun i j => if i = 0 then b else if i ≤ t then (if i = j then a - b else 0) else onF a b i j) 1 (-1) (by omega) (by omega) (by omega)
    rw [Int.one_mul] at h
    rw [← h]
    refine dt_congr _ fun i j _ _ => ?_
    unfold setR
    by_cases e : i = 0
    · rw [if_pos e, if_neg (by omega)]; dsimp only; rw [if_pos e]
    · by_cases e2 : i = t + 1
      · subst e2
        rw [if_neg (by omega), if_pos (Nat.le_refl _), if_pos rfl]
        simp only [Nat.succ_ne_zero, if_false, if_true, show ¬ (t + 1 ≤ t) by omega]
        unfold onF
        by_cases e3 : t + 1 = j
        · rw [if_pos e3, if_pos e3]; omega
        · rw [if_neg e3, if_neg e3]; omega
      · rw [if_neg e, if_neg e2]; dsimp only; rw [if_neg e]
        by_cases e4 : i ≤ t
        · rw [if_pos (by omega), if_pos e4]
        · rw [if_neg (by omega), if_neg e4]
theorem pr_same (c : Int) : ∀ n, pr (fun _ => c) n = pw c n
  | 0 => rfl
  | n + 1 => by rw [show pr (fun _ => c) (n + 1) = c * pr (fun _ => c) n from rfl, pr_same c n]; rfl
theorem on_low (n : Nat) (a b : Int) : dt (n + 1) (fun i j => if i = 0 then b else onF a b i j) = b * pw (a - b) n := by
  rw [← on_step n a b n (Nat.le_refl _), dt_congr (n + 1) (g := fun i j => if i = 0 then b else if i = j then a - b else 0) (fun i j hi _ => by
    by_cases e : i = 0
    · rw [if_pos e, if_pos e]
    · rw [if_neg e, if_neg e, if_pos (by omega)]),
    dt_corner _ (fun i _ => by rw [if_neg (by omega), if_neg (by omega)]), if_pos rfl]
  congr 1
  rw [dt_congr n (g := fun i j => (fun _ => a - b) i * oneF i j) (fun i j _ _ => by
    unfold oneF
    dsimp only
    rw [if_neg (by omega)]
    by_cases e : i = j
    · rw [if_pos (by omega), if_pos e]; omega
    · rw [if_neg (by omega), if_neg e]; omega), dt_rows, dt_oneF, Int.mul_one, pr_same]
theorem dt_on (a b : Int) : ∀ n : Nat, dt (n + 1) (onF a b) = pw (a - b) n * (a + n * b)
  | 0 => by rw [dt_one]; simp [onF, pw]
  | n + 1 => by
    have h := dt_add (n := n + 1 + 1) (r := 0) (s := 1) (onF a b) 1 (-1) (by omega) (by omega) (by omega)
    rw [Int.one_mul] at h
    rw [← h, dt_succ, sumN_first, sumN_first, sumN_none n (fun j _ => by
      show sn (j + 1 + 1) * (setR (onF a b) 0 _ 0 (j + 1 + 1) * _) = 0
      have e : (1 * onF a b 0 (j + 1 + 1) + -1 * onF a b 1 (j + 1 + 1)) = 0 := by unfold onF; rw [if_neg (by omega), if_neg (by omega)]; omega
      show sn (j + 1 + 1) * ((1 * onF a b 0 (j + 1 + 1) + -1 * onF a b 1 (j + 1 + 1)) * _) = 0
      rw [e]; simp)]
    have e0 : dt (n + 1) (dr 0 (setR (onF a b) 0 (fun j => 1 * onF a b 0 j + -1 * onF a b 1 j))) = dt (n + 1) (onF a b) := dt_congr _ fun i j _ _ => by
      unfold dr setR onF
      rw [if_neg (by omega), skip_zero]
      by_cases e : i = j
      · rw [if_pos (by omega), if_pos e]
      · rw [if_neg (by omega), if_neg e]
    have e1 : dt (n + 1) (dr 1 (setR (onF a b) 0 (fun j => 1 * onF a b 0 j + -1 * onF a b 1 j))) = dt (n + 1) (fun i j => if i = 0 then b else onF a b i j) := dt_congr _ fun i j _ _ => by
      unfold dr setR onF
      rw [if_neg (by omega)]
      by_cases e : i = 0
      · subst e
        rw [if_pos rfl]
        by_cases e2 : j = 0
        · subst e2; rw [skip_lt (by omega), if_neg (by omega)]
        · rw [skip_ge (by omega), if_neg (by omega)]
      · rw [if_neg e]
        by_cases e2 : j = 0
        · subst e2; rw [skip_lt (by omega), if_neg (by omega), if_neg (by omega)]
        · rw [skip_ge (by omega)]
          by_cases e3 : i = j
          · rw [if_pos (by omega), if_pos e3]
          · rw [if_neg (by omega), if_neg e3]
    show sn 0 * (_ * dt (n + 1) (dr 0 _)) + (sn 1 * (_ * dt (n + 1) (dr 1 _)) + 0) = _
    rw [e0, e1, dt_on a b n, on_low, show sn 0 = 1 from rfl, show sn 1 = -1 from rfl]
    show 1 * ((if (0 : Nat) = 0 then 1 * onF a b 0 0 + -1 * onF a b 1 0 else _) * _) + (-1 * ((if (0 : Nat) = 0 then 1 * onF a b 0 1 + -1 * onF a b 1 1 else _) * _) + 0) = (a - b) * pw (a - b) n * _
    rw [if_pos rfl, if_pos rfl, show onF a b 0 0 = a from rfl, show onF a b 1 0 = b from rfl, show onF a b 0 1 = b from rfl, show onF a b 1 1 = a from rfl]
    rw [show ((n + 1 : Nat) : Int) = (n : Int) + 1 by omega]
    generalize pw (a - b) n = P
    grind
theorem pw_zero_iff (p : Int) : ∀ n, pw p (n + 1) = 0 ↔ p = 0
  | 0 => by simp [pw]
  | n + 1 => by
    rw [show pw p (n + 1 + 1) = p * pw p (n + 1) from rfl, Int.mul_eq_zero, pw_zero_iff p n]
    simp

theorem dt_sums {n : Nat} (f : Nat → Nat → Int) (s : Int) (h : ∀ j, j < n + 1 → sumN (fun i => f i j) (n + 1) = s) : dt (n + 1) f = s * dt (n + 1) (setR f 0 (fun _ => 1)) := by
  have h1 := dt_addS (n := n + 1) (r := 0) f (fun _ => 1) (fun m => m + 1) (by omega) n (fun m hm => ⟨by omega, by omega⟩)
  rw [← h1, dt_congr (n + 1) (g := setR f 0 (fun j => s * (fun _ => 1) j + 0 * (fun _ => 1) j)) (fun i j _ hj => by
    unfold setR
    by_cases e : i = 0
    · rw [if_pos e, if_pos e]
      have h2 := h j hj
      rw [sumN_first] at h2
      show f 0 j + sumN (fun m => 1 * f (m + 1) j) n = s * 1 + 0 * 1
      rw [sumN_congr n (g := fun m => f (m + 1) j) (fun m _ => by simp), h2]
      omega
    · rw [if_neg e, if_neg e]), dt_lin (n + 1) 0 f s 0 (fun _ => 1) (fun _ => 1) (by omega)]
  omega

end Go.Proofs.Ytkahgpgnfodpgaa
end

section
namespace Go.Proofs.Ytkahgpgnfodpgaa
open Go.RowKit Go.Deep Go.Shelf

def FromB {β : Type} (B : Nat) (J : β → World → Prop) : Prop := ∀ s W W' row, J s W → W.grownBy W' row → (∀ r, row = some r → B ≤ r) → J s W'
theorem FromB.and {β : Type} {B : Nat} {I J : β → World → Prop} (h : FromB B I) (k : FromB B J) : FromB B (fun s W => I s W ∧ J s W) := fun s W W' row hs hg hr => ⟨h s W W' row hs.1 hg hr, k s W W' row hs.2 hg hr⟩
theorem FromB.alloc {β : Type} {B : Nat} {J : β → World → Prop} (h : FromB B J) {s : β} {W : World} (o : Obj) (hs : J s W) : J s (W.alloc o) := h s W _ none hs (World.grownBy_alloc W o none) (fun r e => by cases e)
theorem FromB.put {β : Type} {B : Nat} {J : β → World → Prop} (h : FromB B J) {s : β} {W : World} {l : Nat} (o : Obj) (hs : J s W) (hl : B ≤ l) : J s (W.putObj l o) := h s W _ (some l) hs (grownBy_putObj' W l o) (fun r e => by cases e; exact hl)

structure Keeps (own : Nat → Prop) (W W' : World) : Prop where
  size : W.heap.size ≤ W'.heap.size
  same : ∀ k o, ¬ own k → W.heap[k]? = some o → W'.heap[k]? = some o
theorem Keeps.refl (own : Nat → Prop) (W : World) : Keeps own W W := ⟨Nat.le_refl _, fun _ _ _ h => h⟩
theorem Keeps.trans {own : Nat → Prop} {A B C : World} (h : Keeps own A B) (k : Keeps own B C) : Keeps own A C := ⟨Nat.le_trans h.size k.size, fun i o hi ho => k.same i o hi (h.same i o hi ho)⟩
theorem Keeps.mono {own own' : Nat → Prop} {A B : World} (h : Keeps own A B) (hw : ∀ k, own k → own' k) : Keeps own' A B := ⟨h.size, fun k o hk ho => h.same k o (fun h => hk (hw k h)) ho⟩
theorem Keeps.grown {own : Nat → Prop} {A B : World} {row : Option Nat} (h : A.grownBy B row) (hr : ∀ r, row = some r → own r) : Keeps own A B :=
  ⟨h.size, fun k _ hk ho => (h.block k (Array.getElem?_eq_some_iff.1 ho).1 (fun e => hk (hr k e.symm))).trans ho⟩
theorem Keeps.cell {own : Nat → Prop} {A B : World} (h : Keeps own A B) {a : Addr} {v : Value} (ha : ¬ own a.block) (hc : A.cell? a = some v) : B.cell? a = some v := by
  obtain ⟨o, ho, _⟩ := cells_of_cell hc
  have := h.same _ _ ha ho
  unfold World.cell? at hc ⊢
  rw [ho] at hc
  rw [this]
  exact hc

def SeqC {α : Type} (F : Fence) (n : Nat) (P : Program) (g : Nat) (lb : Array Value) (encs : α → Array Value) (Px : α → World → Prop) (need : Nat → Prop) (S : List α → Prop) (N : Nat) (w : World) : Prop :=
  ∀ (l : Nat) (J : List α → World → Prop) (own : Nat → Prop) (W : World), Below w.heap.size w W → (∀ k, own k → k < W.heap.size ∧ ¬ need k) → FromB W.heap.size J →
    (∀ pre x W1, J pre W1 → Px x W1 → pre.length < N → YieldAt F (n - 1) P l (encs x) W1 fun e W' => e = .returned (.bool true) ∧ J (pre ++ [x]) W' ∧ Keeps own W1 W') →
    J [] W →
    CallsIn F n P g (#[.func (.yield l) #[] #[]] ++ lb) W fun e W' => (∃ v, e = .returned v) ∧ ∃ xs, S xs ∧ J xs W'

def roundC {α : Type} (own : Nat → Prop) (I : List α → World → Prop) (xs : List α) (W : World) : Exit → Act → World → Prop
  | .normal, _, W' => Keeps own W W' ∧ I xs W'
  | _, _, _ => False

theorem Keeps.put (own : Nat → Prop) (W : World) {l : Nat} (o : Obj) (hl : own l) : Keeps own W (W.putObj l o) := Keeps.grown (grownBy_putObj' W l o) (fun r e => by cases e; exact hl)

set_option maxHeartbeats 1000000 in
theorem rangeC {F : Fence} {n : Nat} {P : Program} {w : World} {α : Type} {g : Operand} {ps : Array Tmp} {assign body : Code} {Q : Exit → Act → World → Prop} {a : Act}
    (hro : F.round = none) (h1 : 1 ≤ n) {gf : Nat} {lb : Array Value} (hg : a.eval g = .func (.func gf) #[] lb) (hFg : F.fn gf) (eg : ∀ args w, (callFunc gf args).run P w = .ok (.enter gf args) w)
    {encs : α → Array Value} {Px : α → World → Prop} {need : Nat → Prop} {S : List α → Prop} {N : Nat} (hseq : SeqC F (n - 1) P gf lb encs Px need S N w) (hps : ∀ x, (encs x).size = ps.size)
    (hPx : ∀ x W l o o', Px x W → W.heap[l]? = some o → o.isCells = false → Px x (W.putObj l o'))
    (own : Nat → Prop) (hown : ∀ k, own k → k < w.heap.size ∧ ¬ need k) (hneed : ∀ k, need k → k < w.heap.size)
    (I : List α → World → Prop) (hI : FromB w.heap.size I) (h0 : I [] w) (a₁ : α → Act)
    (hassign : ∀ (l : Nat) (x : α) (W : World) (K : Act → World → Prop), K (a₁ x) W →
      assign.wpIn (F.inRound l) (n - 1 - 1) P (Exit.then K (fun _ _ _ => False)) { tmps := (ps.zip (encs x)).foldl (fun t (p, v) => t.setIfInBounds p v) a.tmps, defers := [] } W)
    (hbody : ∀ (l : Nat) (pre : List α) (x : α) (W : World), w.heap.size ≤ l → I pre W → Px x W → pre.length < N → body.wpIn (F.inRound l) (n - 1 - 1) P (roundC own I (pre ++ [x]) W) (a₁ x) W)
    (hdone : ∀ (D : Nat) (xs : List α) (W : World), w.heap.size ≤ D → S xs → I xs W → W.heap[D]? = some (.deferred (some [])) → Q .normal { a with defers := { target := .collected D, args := #[] } :: a.defers } W) :
    (Code.rangeFunc g ps assign body).wpIn F n P Q a w := by
  refine wpIn_rangeFunc fun fn hfn => ?_
  rw [hro]
  -- the two blocks of the loop: w.heap.size for deferred calls, L for its record
  obtain ⟨L, hL⟩ : ∃ L, L = w.heap.size + 1 := ⟨_, rfl⟩
  let R : LoopState → Option Code → Obj := fun st pe => .loop { state := st, pending := pe, fn := fn, tmps := a.tmps, params := ps, assign := assign, body := body, defers := w.heap.size }
  obtain ⟨V, hV⟩ : ∃ V, V = (w.alloc (.deferred (some []))).alloc (R .ready none) := ⟨_, rfl⟩
  have sV : V.heap.size = L + 1 := by rw [hV, hL]; simp
  have lV : V.heap[L]? = some (R .ready none) := by
    have := World.alloc_heap_new (w.alloc (.deferred (some []))) (R .ready none)
    rw [World.size_alloc] at this
    rw [hV, hL]; exact this
  have dV : V.heap[w.heap.size]? = some (.deferred (some [])) := by
    rw [hV]; exact (Below.heap_alloc _ _ _ (by simp)).trans (World.alloc_heap_new w _)
  have bV : Below w.heap.size w V := by rw [hV]; exact ((Below.refl _ w).alloc (Nat.le_refl _) _).alloc (by simp) _
  have iV : I [] V := by rw [hV]; exact hI.alloc _ (hI.alloc _ h0)
  have hen : (Instr.enterLoop fn a.tmps ps assign body none).run P w = .ok (L, [{ target := .collected w.heap.size, args := #[] }]) V := by
    rw [hV, hL]; exact run_enterLoop_outer _ _ _ _ _
  clear hV
  have hrec : FromB V.heap.size (fun (_ : Unit) W => W.heap[L]? = some (R .ready none) ∧ W.heap[w.heap.size]? = some (.deferred (some []))) := fun _ A B row hs hgr hr =>
    ⟨(hgr.block L (Array.getElem?_eq_some_iff.1 hs.1).1 (fun e => by have := hr L e.symm; omega)).trans hs.1, (hgr.block _ (Array.getElem?_eq_some_iff.1 hs.2).1 (fun e => by have := hr _ e.symm; omega)).trans hs.2⟩
  refine ⟨L, _, V, { target := .fn (.func gf) lb, args := #[.func (.yield L) #[] #[]] }, V, gf, #[.func (.yield L) #[] #[]] ++ lb, V, hen, ?_, ?_, ?_, fun _ => h1, ?_⟩
  · simp only [resolve, hg]
    simp [go_sem]
  · intro f' hf'
    simp [Target.leads] at hf'
    subst hf'
    exact hFg
  · simp [invoke, go_sem, eg]
  refine (hseq L (fun pre W => I pre W ∧ W.heap[L]? = some (R .ready none) ∧ W.heap[w.heap.size]? = some (.deferred (some [])))
    (fun k => own k ∨ k = L) V bV ?_ ?_ ?_ ⟨iV, lV, dV⟩).mono ?_
  · rintro k (hk | rfl)
    · exact ⟨by have := (hown k hk).1; omega, (hown k hk).2⟩
    · exact ⟨by omega, fun h => by have := hneed _ h; omega⟩
  · intro s A B row hs hgr hr
    exact ⟨hI s A B row hs.1 hgr (fun r e => by have := hr r e; omega), hrec () A B row hs.2 hgr hr⟩
  · rintro pre x W ⟨hi, hl, hd⟩ hpx hlen
    have lt : L < W.heap.size := (Array.getElem?_eq_some_iff.1 hl).1
    refine ⟨fn, _, assign, body, run_yield hl (hps x), roundIn_of_wpIn hfn (hassign L x W _ ⟨_, run_beginRound hl rfl, ?_⟩)⟩
    obtain ⟨X, hX⟩ : ∃ X, X = W.putObj L (R .busy none) := ⟨_, rfl⟩
    have lX : X.heap[L]? = some (R .busy none) := by rw [hX]; exact World.putObj_heap_same lt
    have dX : X.heap[w.heap.size]? = some (.deferred (some [])) := by rw [hX]; exact (World.putObj_heap_other (by omega)).trans hd
    have iX : I pre X := by rw [hX]; exact hI.put _ hi (by omega)
    have pX : Px x X := by rw [hX]; exact hPx x W L _ _ hpx hl rfl
    have kX : Keeps (fun k => own k ∨ k = L) W X := by rw [hX]; exact Keeps.put _ W _ (.inr rfl)
    have hno : ¬ own L := fun h => by have := (hown _ h).1; omega
    have hno2 : ¬ own w.heap.size := fun h => by have := (hown _ h).1; omega
    refine wpIn_mono (by rw [← hX]; exact hbody L pre x X (by omega) iX pX hlen) ?_
    rintro e b Y hp
    cases e with
    | normal =>
      have lY := hp.1.same _ _ hno lX
      have dY := hp.1.same _ _ hno2 dX
      exact ⟨_, _, run_endRound none lY, rfl, ⟨hI.put _ hp.2 (by omega), World.putObj_heap_same (Array.getElem?_eq_some_iff.1 lY).1, (World.putObj_heap_other (by omega)).trans dY⟩, (kX.trans (hp.1.mono fun _ h => .inl h)).trans (Keeps.put _ Y _ (.inr rfl))⟩
    | ret => exact hp.elim
    | exit id => exact hp.elim
    | goto t => exact hp.elim
    | panic ch => exact hp.elim
    | outgrown => exact hp.elim
  · rintro e Y ⟨⟨v, rfl⟩, xs, hS, hi, hl, hd⟩
    exact ⟨none, _, run_endLoop hl (by simp), hdone _ xs _ (Nat.le_refl _) hS (hI.put _ hi (by omega)) ((World.putObj_heap_other (by omega)).trans hd)⟩

end Go.Proofs.Ytkahgpgnfodpgaa
end

section
namespace Go.Proofs.Ytkahgpgnfodpgaa
open Go.RowKit Go.Deep Go.Shelf
attribute [local go_sem] Oper.semAt_some

theorem room_any (k : Nat) : Fence.wide.room k := fun d h => by cases h
theorem yieldAt_any {m m' : Nat} {P : Program} {l : Nat} {args : Array Value} {W : World} {R : Ending → World → Prop} (h : YieldAt Fence.wide m P l args W R) : YieldAt Fence.wide m' P l args W R := by
  obtain ⟨fn, tmps, assign, body, hy, hR⟩ := h
  exact ⟨fn, tmps, assign, body, hy, hR.1, fun c cs _ => hR.2 c cs (room_any _)⟩

theorem step_append_fitsG {P : Program} (w : World) {ops : Array Oper} {o : Oper} {a : Act} {K : Act → World → Prop} {Q : Exit → Act → World → Prop} {E : Prop} (hw : Region.wanted o (yielded ops a.tmps) = true) (s x : Operand) (t : TypeId)
    (hop : o.op = Op.call { callee := Callee.builtin Builtin.append, args := #[s, x], argTypes := #[t, t] })
    (base : Nat) (e : TypeId) (i : TypeInfo) (size : Nat) (h1 : P.underlying t = some (.slice e)) (h2 : P.info? e = some i) (h4 : i.size = size)
    (g k cap : Nat) (xs : List Value) (hs : a.eval s = .slice (some ⟨g, 0, none⟩) k cap) (hown : w.ownsRow base e size (.slice (some ⟨g, 0, none⟩) k cap) k xs) (ad : Addr) (m c : Nat) (news : List Value) (hx : a.eval x = .slice (some ad) m c) (hn : news.length = m * size)
    (hc : ∀ j u, news[j]? = some u → w.cell? (ad.add j) = some u) (h1c : ∀ u ∈ news, u.oneCell' = true) (b1 : k + m ≤ cap)
    (hK : ∀ w', w'.ownsRow base e size (.slice (some ⟨g, 0, none⟩) (k + m) cap) (k + m) (xs ++ news) → w.grownBy w' (some g) → K (a.put o.dst (.slice (some ⟨g, 0, none⟩) (k + m) cap)) w') :
    if Region.wanted o (yielded ops a.tmps) = true then Oper.wp P o a w K Q else E := by
  rw [if_pos hw]
  obtain ⟨w', hrun, r1, r2⟩ := run_append_fits (P := P) w base t o.type e i size h1 h2 h4 g k cap xs hown ad m c news hn hc h1c b1
  unfold Oper.wp
  simp [execOp, hop, resolve, invoke, builtin, hs, hx, hrun, Result.andThen]
  exact hK w' r1 r2

theorem grown_drewC (w : World) (n : Nat) : w.grownBy (w.drewN n) none := ⟨rfl, rfl, rfl, Nat.le_refl _, fun _ _ _ => rfl⟩
theorem undrew {a b : World} {row : Option Nat} (h : a.drew.grownBy b row) : a.grownBy b row := ⟨h.os, h.tape, h.output, h.size, h.block⟩

theorem map_snd {α : Type} (g : Nat) (L : List α) : (([] : List (Nat × α)) ++ L.map (Prod.mk g)).map (fun x => x.2) = L := by
  rw [List.nil_append]
  induction L with
  | nil => rfl
  | cons x L ih => rw [List.map_cons, List.map_cons, ih]

theorem since_rowC {w X Y : World} {row : Option Nat} (h : w.Since w.heap.size X) (hg : X.grownBy Y row) (hr : ∀ r, row = some r → w.heap.size ≤ r) : w.Since w.heap.size Y :=
  ⟨hg.os.trans h.os, hg.tape.trans h.tape, hg.output.trans h.output, Nat.le_trans h.size hg.size, fun k hk => (hg.block k (by have := h.size; omega) (fun e => by have := hr k e.symm; omega)).trans (h.block k hk)⟩

end Go.Proofs.Ytkahgpgnfodpgaa
end

section
namespace Go.Proofs.Ytkahgpgnfodpgaa
open Go.RowKit Go.Deep

theorem owns_mono {w : World} {base base' : Nat} {e : TypeId} {size : Nat} {v : Value} {n : Nat} {xs : List Value} (h : w.ownsRow base e size v n xs) (hb : base' ≤ base) : w.ownsRow base' e size v n xs := by
  refine ⟨h.1, ?_⟩
  rcases h.2 with hn | ⟨g, cap, cur, hv, hbb, rest⟩
  · exact .inl hn
  · exact .inr ⟨g, cap, cur, hv, by omega, rest⟩
theorem grown_none {w w' : World} (h : w.grownBy w' none) (row : Option Nat) : w.grownBy w' row := ⟨h.os, h.tape, h.output, h.size, fun k hk _ => h.block k hk (by simp)⟩

theorem step_append_keeps {P : Program} (w : World) {ops : Array Oper} {o : Oper} {a : Act} {K : Act → World → Prop} {Q : Exit → Act → World → Prop} {E : Prop} (hgd : o.guard = none) (s x : Operand) (t : TypeId)
    (hop : o.op = Op.call { callee := Callee.builtin Builtin.append, args := #[s, x], argTypes := #[t, t] })
    (base : Nat) (e : TypeId) (i : TypeInfo) (z : Value) (size bytes : Nat) (h1 : P.underlying t = some (.slice e)) (h2 : P.info? e = some i) (hz : i.zero = some z) (h4 : i.size = size) (h5 : i.bytes = bytes) (h6 : z.cells.size = size) (h7 : 0 < size)
    (g k cap : Nat) (xs : List Value) (hs : a.eval s = .slice (some ⟨g, 0, none⟩) k cap) (hown : w.ownsRow base e size (.slice (some ⟨g, 0, none⟩) k cap) k xs) (ad : Addr) (m c : Nat) (news : List Value) (hx : a.eval x = .slice (some ad) m c) (hn : news.length = m * size)
    (hc : ∀ j u, news[j]? = some u → w.cell? (ad.add j) = some u) (h1c : ∀ u ∈ news, u.oneCell' = true) (b1 : k + m ≤ maxLen) (b2 : (k + m) * bytes ≤ 140737488355328) (hbase : base ≤ w.heap.size)
    (hK : ∀ v' w', w'.ownsRow base e size v' (k + m) (xs ++ news) → w.grownBy w' (some g) → (∀ j u, xs[j]? = some u → w'.cell? ((⟨g, 0, none⟩ : Addr).add j) = some u) → K (a.put o.dst v') w') :
    if Region.wanted o (yielded ops a.tmps) = true then Oper.wp P o a w K Q else E := by
  have hw : Region.wanted o (yielded ops a.tmps) = true := by simp [Region.wanted, hgd]
  rw [if_pos hw]
  have hcells := hown.cells (g := g) rfl
  by_cases hroom : k + m ≤ cap
  · obtain ⟨w', hrun, r1, r2⟩ := run_append_fits (P := P) w base t o.type e i size h1 h2 h4 g k cap xs hown ad m c news hn hc h1c hroom
    unfold Oper.wp
    simp [execOp, hop, resolve, invoke, builtin, hs, hx, hrun, Result.andThen]
    exact hK _ w' r1 r2 fun j u hu => r1.cells (g := g) rfl j u (by
      rw [List.getElem?_append_left (List.getElem?_eq_some_iff.1 hu).1]
      exact hu)
  · obtain ⟨v', w', hrun, r1, r2⟩ := run_append_arg_grows (P := P) w t o.type e i z size bytes h1 h2 hz h4 h5 h6 h7 ⟨g, 0, none⟩ k cap xs hown.1 hcells ad m c news hn hc (by omega) b1 b2
    unfold Oper.wp
    simp [execOp, hop, resolve, invoke, builtin, hs, hx, hrun, Result.andThen]
    exact hK v' w' (owns_mono r1 hbase) (grown_none r2 _) fun j u hu => r2.cell (hcells j u hu) (by simp)

end Go.Proofs.Ytkahgpgnfodpgaa
end

section
namespace Go.Proofs.Ytkahgpgnfodpgaa
open Go.RowKit Go.Deep

def ListK (x : List Int) (most : Int) (k : Nat) : Prop := ∀ j, j < k → inB (x.getD j 0) (-most) most = true
open Classical in
noncomputable def l8B (x : List Int) (most : Int) : Bool := decide (ListK x most x.length) && inB x.length 1 6
theorem ListK.succ {x : List Int} {most : Int} {k : Nat} (h : ListK x most k) (hk : inB (x.getD k 0) (-most) most = true) : ListK x most (k + 1) := fun j hj => by
  rcases Nat.lt_succ_iff_lt_or_eq.1 hj with hlt | heq
  · exact h j hlt
  · rw [heq]; exact hk
theorem l8B_no {x : List Int} {most : Int} (h : ¬ ListK x most x.length) : l8B x most = false := by simp [l8B, h]
theorem l8B_all {x : List Int} {most : Int} (h : ListK x most x.length) : l8B x most = inB x.length 1 6 := by simp [l8B, h]
theorem l8B_of {x : List Int} {most : Int} (h : l8B x most = true) : ListK x most x.length ∧ 1 ≤ x.length ∧ x.length ≤ 6 := by
  simp only [l8B, Bool.and_eq_true, decide_eq_true_eq] at h
  refine ⟨h.1, ?_⟩
  have := h.2
  simp [inB] at this
  omega

set_option maxHeartbeats 1000000 in
theorem l8List_any (a : Option Addr) (cap m : Nat) (x : List Int) (most : Int) (w : World) (hmo : 0 ≤ most ∧ most ≤ 1000) (hn : x.length = m) (h63 : m ≤ 9223372036854775807) (hm : RowR w a x) :
    Calls Try.prog 67 #[.slice a m cap, .int .i64 most] w fun e w' => e = .returned (.bool (l8B x most)) ∧ w = w' := by
  have H := Lib.hid hn; clear hn
  go_enter Try.func67, Try.ntmps67
  go_wp2
  go_loopg [5] m (fun g i wr => ∃ k : Nat, k ≤ m ∧ g = m - k ∧ i = .int .i64 k ∧ w = wr ∧ ListK x most k)
  case atStart => exact ⟨0, Nat.zero_le _, rfl, rfl, rfl, fun r hr => absurd hr (Nat.not_lt_zero _)⟩
  case round =>
    obtain ⟨k, hk, rfl, rfl, rfl, hN⟩ := hrel
    by_cases hlt : k < m
    · obtain ⟨b, o, rfl, hc⟩ := hm (by rw [H.out]; omega)
      have cj := hc k (by rw [H.out]; exact hlt)
      obtain ⟨y, hy⟩ : ∃ y, y = x.getD k 0 := ⟨_, rfl⟩
      rw [← hy] at cj
      have HY := Lib.hid hy
      clear hc hy hm
      have E1 := l6In_any y (-most) most w
      cases hiy : inB y (-most) most with
      | true =>
        rw [hiy] at E1
        replace E1 := Lib.hid E1
        have HI := Lib.hid hiy
        clear hiy
        go_wp2_with fail
        refine (E1.out).mono ?_
        rintro e w' ⟨rfl, rfl⟩
        go_wp2
        go_roundg (m - (k + 1))
        case measure => omega
        case rel => exact ⟨k + 1, by omega, rfl, by go_num, rfl, hN.succ (by rw [← HY.out]; exact HI.out)⟩
      | false =>
        rw [hiy] at E1
        replace E1 := Lib.hid E1
        have HI := Lib.hid hiy
        clear hiy
        have hno := Lib.hid (l8B_no (x := x) (most := most) fun hT => by
          have := hT k (by rw [H.out]; exact hlt)
          rw [← HY.out, HI.out] at this
          exact Bool.noConfusion this)
        go_wp2_with fail
        refine (E1.out).mono ?_
        rintro e w' ⟨rfl, rfl⟩
        go_wp2
        go_ret
        exact ⟨by rw [hno.out]; rfl, rfl⟩
    · have hkm : k = m := by omega
      subst hkm
      have hal := Lib.hid (l8B_all (x := x) (most := most) (by rw [H.out]; exact hN))
      have E2 := Lib.hid (l6In_any (k : Int) 1 6 w)
      go_wp2_with fail
      refine (E2.out).mono ?_
      rintro e w' ⟨rfl, rfl⟩
      go_wp2
      go_ret
      exact ⟨by rw [hal.out, H.out]; rfl, rfl⟩

def pwRow (x : List Int) (i k : Nat) : List Int := (List.range k).map fun j => (x.getD i 0) ^ j
theorem pwRow_succ (x : List Int) (i k : Nat) : pwRow x i (k + 1) = pwRow x i k ++ [(x.getD i 0) ^ k] := by simp [pwRow, List.range_succ]
theorem pwRow_length (x : List Int) (i k : Nat) : (pwRow x i k).length = k := by simp [pwRow]
theorem pwRow_at (x : List Int) (i : Nat) {k j : Nat} (h : j < k) : (pwRow x i k).getD j 0 = (x.getD i 0) ^ j := by simp [pwRow, List.getD, h]
def pwTo (x : List Int) (m r : Nat) : List (List Int) := tabF r m fun i k => (x.getD i 0) ^ k
theorem pwTo_succ (x : List Int) (m r : Nat) : pwTo x m (r + 1) = pwTo x m r ++ [pwRow x r m] := by simp [pwTo, tabF, pwRow, List.range_succ]
theorem pwTo_length (x : List Int) (m r : Nat) : (pwTo x m r).length = r := tabF_length _ _ _
theorem pow_bd {y : Int} (h : -30 ≤ y ∧ y ≤ 30) : ∀ t : Nat, -((30 : Int) ^ t) ≤ y ^ t ∧ y ^ t ≤ (30 : Int) ^ t
  | 0 => by simp
  | t + 1 => by
    obtain ⟨i1, i2⟩ := pow_bd h t
    rw [Int.pow_succ, Int.pow_succ]
    generalize (30 : Int) ^ t = A at *
    generalize y ^ t = b at *
    have h1 : (A + b) * (30 - y) ≥ 0 := Int.mul_nonneg (by omega) (by omega)
    have h2 : (A + b) * (30 + y) ≥ 0 := Int.mul_nonneg (by omega) (by omega)
    have h3 : (A - b) * (30 + y) ≥ 0 := Int.mul_nonneg (by omega) (by omega)
    have h4 : (A - b) * (30 - y) ≥ 0 := Int.mul_nonneg (by omega) (by omega)
    simp only [Int.add_mul, Int.sub_mul, Int.mul_add, Int.mul_sub] at h1 h2 h3 h4
    omega
theorem pow30 : ∀ t : Fin 6, (30 : Int) ^ t.val ≤ 24300000 := by decide +kernel
theorem pow_bd5 {y : Int} (h : -30 ≤ y ∧ y ≤ 30) {t : Nat} (ht : t ≤ 5) : -24300000 ≤ y ^ t ∧ y ^ t ≤ 24300000 := by
  have h1 := pow_bd h t
  have h2 := pow30 ⟨t, by omega⟩
  simp only at h2
  omega
theorem rb_one (w : World) (v : Int) : RB w (w.alloc (.cells #[.int .i64 v] 3)) (.slice (some ⟨w.heap.size, 0, none⟩) 1 1) [v] :=
  ⟨(World.Since.refl _ _).alloc (Nat.le_refl _) _, by simp, .inr ⟨w.heap.size, 1, #[.int .i64 v], rfl, Nat.le_refl _, heap_alloc_new w _, Nat.le_refl _, by unfold maxLen; omega, by simp, by simp⟩⟩

set_option maxRecDepth 100000 in
set_option maxHeartbeats 4000000 in
theorem specKnownPowers_any (a : Option Addr) (cap m : Nat) (x : List Int) (w : World) (hn : x.length = m) (h63 : m ≤ 9223372036854775807) (hm : RowR w a x) :
    Calls Try.prog 17 #[.slice a m cap] w fun e w' => ∃ a' cap', e = .returned (.tuple #[.slice a' (resT (l8B x 30 && tabIn (pwTo x m m)) (pwTo x m m)).length cap', .bool (l8B x 30 && tabIn (pwTo x m m))]) ∧ w.Since w.heap.size w' ∧ InT w.heap.size w'.heap.size w' a' (resT (l8B x 30 && tabIn (pwTo x m m)) (pwTo x m m)) := by
  have E := l8List_any a cap m x 30 w ⟨by omega, by omega⟩ hn h63 hm
  cases hok : l8B x 30 with
  | false =>
    rw [hok] at E
    replace E := Lib.hid E
    simp only [Bool.false_and]
    clear hok hm hn
    go_enter Try.func17, Try.ntmps17
    go_wp2_with fail
    refine (E.out).mono ?_
    rintro e w' ⟨rfl, rfl⟩
    go_wp2_with fail
    refine (l1None_any w).mono ?_
    rintro e w2 ⟨rfl, hs2⟩
    go_wp2
    go_ret2
    exact ⟨_, _, rfl, hs2, InT.nil _ _ _ _⟩
  | true =>
    rw [hok] at E
    replace E := Lib.hid E
    simp only [Bool.true_and]
    obtain ⟨hk, h1, h6⟩ := l8B_of hok
    rw [hn] at hk h1 h6
    obtain ⟨i42, hi42⟩ := info42_parts
    obtain ⟨i3, hi3⟩ := info3_parts
    have HI := Lib.hid hi42
    have HJ := Lib.hid hi3
    obtain ⟨bx, ox, rfl, hcx⟩ := hm (by omega)
    have HX := Lib.hid (fun (W : World) (hd : w.Since w.heap.size W) (k : Nat) (hk : k < m) => by
      have c := hcx k (by omega)
      exact (hd.cell (a := ⟨bx, ox + k, none⟩) (World.block_lt_of_cell? _ _ c)).trans c)
    have hst := bt_start w (fun _ => none) (fun _ => 0) #[] rfl
    have HST := Lib.hid hst
    have HK := Lib.hid hk
    have hsz : szL (pwTo x m m) ≤ 1048576 := szL_tabF _ _ _ (by omega) (by omega)
    clear hi42 hi3 hm hcx hn hok hst hk
    go_enter Try.func17, Try.ntmps17
    go_wp2_with fail
    refine (E.out).mono ?_
    rintro e w' ⟨rfl, rfl⟩
    go_wp2
    go_loopg [4, 5, 6, 7] m (fun g v k _ _ wr => ∃ r : Nat, ∃ A C, r ≤ m ∧ g = m - r ∧ k = .int .i64 r ∧ BT w wr v (pwTo x m r) A C)
    case atStart => exact ⟨0, _, _, Nat.zero_le _, rfl, rfl, HST.out⟩
    case round =>
      obtain ⟨r, A, C, hr, rfl, rfl, hR⟩ := hrel
      clear HST
      by_cases hlt : r < m
      · have HR := Lib.hid hR
        have hrb := rb_one wr 1
        have HRB := Lib.hid (show RB wr (wr.alloc (.cells #[.int .i64 1] 3)) (.slice (some ⟨wr.heap.size, 0, none⟩) 1 1) (pwRow x r 1) by rw [show pwRow x r 1 = [1] by simp [pwRow]]; exact hrb)
        have hsz2 := hR.since.size
        have hlen := pwTo_length x m r
        obtain ⟨wo, rfl⟩ : ∃ wo : World, wo = wr := ⟨_, rfl⟩
        have hy30 := HK.out r hlt
        simp only [inB, decide_eq_true_eq] at hy30
        clear hR hrb
        go_wp2
        go_loopg [6, 7] m (fun g v i wi => ∃ t : Nat, t + 1 ≤ m ∧ g = m - t ∧ i = .int .i64 ((t : Int) + 1) ∧ RB wo wi v (pwRow x r (t + 1)))
        case atStart => exact ⟨0, by omega, rfl, rfl, HRB.out⟩
        case round =>
          obtain ⟨t, ht, rfl, rfl, hI⟩ := hrel
          clear HRB
          have hzi := hI.since.size
          have hle := pwRow_length x r (t + 1)
          by_cases htm : t + 1 < m
          · have hS := HR.out.since.trans (since_mono hI.since hsz2)
            have cx := HX.out wr hS r hlt
            obtain ⟨ra, rcp, hv, hrow⟩ := hI.slice
            rw [hle] at hv
            subst hv
            obtain ⟨G, rfl, hG, hB⟩ := hrow (by omega)
            have c1 := hB.cell (i := t) (by omega)
            rw [pwRow_at x r (by omega)] at c1
            have hp := pow_bd5 hy30 (t := t) (by omega)
            have hq := pow_bd5 hy30 (t := t + 1) (by omega)
            have HS1 := Lib.hid (pwRow_succ x r (t + 1))
            have hpq := Int.pow_succ (x.getD r 0) t
            obtain ⟨y, hy⟩ : ∃ y, x.getD r 0 = y := ⟨_, rfl⟩
            obtain ⟨p, hpp⟩ : ∃ p, (x.getD r 0) ^ t = p := ⟨_, rfl⟩
            obtain ⟨q, hqq⟩ : ∃ q, (x.getD r 0) ^ (t + 1) = q := ⟨_, rfl⟩
            rw [hqq] at hq hpq
            rw [hpp] at hp hpq c1
            rw [hy] at hpq cx
            replace HS1 := Lib.hid (hqq ▸ HS1.out)
            have hsub : IntKind.i64.wrap ((t : Int) + 1 - 1) = (t : Int) := (IntWalk.i64_in _ ⟨by omega, by omega⟩).trans (by omega)
            have hsub2 : IntKind.i64.wrap (t : Int) = (t : Int) := IntWalk.i64_in _ ⟨by omega, by omega⟩
            have htt : t < t + 1 := by omega
            have hti : (t : Int) < (t : Int) + 1 := by omega
            have htc : (t : Int) < ((t + 1 : Nat) : Int) := by omega
            have hmul : IntKind.i64.wrap (p * y) = q := by rw [← hpq]; exact IntWalk.i64_in _ ⟨by omega, by omega⟩
            have hxg : bx < wo.heap.size := by
              have h1 : bx < w.heap.size := World.block_lt_of_cell? _ _ (HX.out w (World.Since.refl _ _) r hlt)
              have := HR.out.since.size
              omega
            have HII := Lib.hid (show RB wo wr.drew (.slice (some ⟨G, 0, none⟩) (t + 1) rcp) (pwRow x r (t + 1)) from hI.drewN 1)
            have HOW := Lib.hid (show wr.drew.ownsRow wo.heap.size 3 1 (.slice (some ⟨G, 0, none⟩) (t + 1) rcp) (t + 1) ((pwRow x r (t + 1)).map (Value.int .i64)) by have := HII.out.own; rw [hle] at this; exact this)
            have HAT := Lib.hid (show ((pwRow x r (t + 1)).map (Value.int .i64))[t]? = some (.int .i64 p) by
              have h := pwRow_at x r (show t < t + 1 by omega)
              have hl : t < (pwRow x r (t + 1)).length := by omega
              rw [hpp] at h
              rw [List.getElem?_map, List.getElem?_eq_getElem hl]
              simp only [List.getD, List.getElem?_eq_getElem hl, Option.getD_some] at h
              rw [h]; rfl)
            have HLE := Lib.hid hle
            clear hI hB hrow hS hpq hy hpp hqq hle
            go_wp2
            go_region_held3 (fun w' => w'.cell? ⟨G, t, none⟩ = some (.int .i64 p) ∧ w'.cell? ⟨bx, ox + r, none⟩ = some (.int .i64 y))
              (first | exact ⟨c1, cx⟩ | exact ⟨cell_alloc_l _ c1, cell_alloc_l _ cx⟩ | exact ⟨q1, q2⟩)
              (first
                | (refine step_append_keeps _ rfl (.tmp 28) (.tmp 39) 23 rfl wo.heap.size 3 i3 (.int .i64 0) 1 8 Try.underlying23 HJ.out.1 HJ.out.2.1 HJ.out.2.2.1 HJ.out.2.2.2 rfl (by decide) G (t + 1) rcp ((pwRow x r (t + 1)).map (Value.int .i64)) rfl (HOW.out.alloc _) ⟨wr.heap.size, 0, none⟩ 1 1 [.int .i64 q] rfl rfl (cell_one_at _ _ _ rfl) (fun x hx => by simp at hx; subst hx; rfl) (by unfold maxLen; omega) (by omega) (by simp; omega) ?_; intro v' w1 hown' hgrow hcel;
                    have q1 := (show w1.cell? ⟨G, t, none⟩ = some (.int .i64 p) by have h := hcel t _ HAT.out; rw [Go.WideShapes.add_plain] at h; simpa using h); have q2 := hgrow.cell (cell_alloc_l _ cx) (fun e => by injection e with e; simp at e; omega);
                    have hP := HII.out.push (v' := v') (w1 := w1) (y := q) (by have := hown'; rw [HLE.out]; exact this) hgrow; rw [← HS1.out] at hP; have HP := Lib.hid hP; clear hP hown' hgrow hcel))
            go_wp2
            go_roundg (m - (t + 1))
            case measure => omega
            case rel => exact ⟨t + 1, by omega, rfl, by go_num, HP.out⟩
          · have htm' : t + 1 = m := by omega
            rw [htm'] at hI hle
            obtain ⟨ra, rcp, hv, hrow⟩ := hI.slice
            rw [hle] at hv
            subst hv
            have HII := Lib.hid hI
            have HROW := Lib.hid hrow
            clear hI hrow
            have hBT := HR.out.later HII.out.since
            have HBT := Lib.hid hBT
            clear hBT
            go_wp2_with (at_builtin; (refine wpList_append_own _ rfl _ _ 25 rfl w.heap.size 23 i42 (.slice none 0 0) 1 24 Try.underlying25 HI.out.1 HI.out.2.1 HI.out.2.2.1 HI.out.2.2.2 rfl (by decide) _ _ _ rfl (HBT.out.own.alloc _) ⟨wr.heap.size, 0, none⟩ 1 1 [.slice ra m rcp] rfl rfl (cell_one_at _ _ _ rfl) (fun x hx => by simp at hx; subst hx; rfl) (by unfold maxLen; omega) (by omega) (by simp; omega) ?_); intro v' w1 hown' hgrow _)
            have hP := HBT.out.push (rv := .slice ra m rcp) (x := pwRow x r m) (a := ra) (cp := rcp) (by rw [pwRow_length]) (fun h => by obtain ⟨G, e, h2, h3⟩ := HROW.out h; exact ⟨G, e, by omega, h3⟩) (fun h => by obtain ⟨G, e, h2, _⟩ := HROW.out h; exact HR.out.fresh e h2) hown' hgrow
            rw [← pwTo_succ] at hP
            have HP := Lib.hid hP
            clear hP hown' hgrow hle hlen
            go_roundg (m - (r + 1))
            case measure => omega
            case rel => exact ⟨r + 1, _, _, by omega, rfl, by go_num, HP.out⟩
      · have hrm : r = m := by omega
        subst hrm
        obtain ⟨ra, rcp, hv, hin⟩ := hR.slice
        rw [pwTo_length] at hv
        subst hv
        have HS := Lib.hid hR.since
        have hsw := hR.since.size
        have HD := Lib.hid (l1Done_any ra rcp r _ _ (pwTo x r r) wr (pwTo_length x r r) hsz hin)
        clear hR hin
        go_wp2_with fail
        refine (HD.out).mono ?_
        rintro e w2 ⟨a', c', rfl, hs2, hin2⟩
        go_wp2
        go_ret2
        exact ⟨a', c', rfl, HS.out.trans (since_mono hs2 hsw), hin2.mono (Nat.le_refl _) hs2.size⟩

end Go.Proofs.Ytkahgpgnfodpgaa
end

section
namespace Go.Proofs.Ytkahgpgnfodpgaa
open Go.RowKit Go.Deep

theorem pow_bd60 {y : Int} (h : -60 ≤ y ∧ y ≤ 60) : ∀ t : Nat, -((60 : Int) ^ t) ≤ y ^ t ∧ y ^ t ≤ (60 : Int) ^ t
  | 0 => by simp
  | t + 1 => by
    obtain ⟨i1, i2⟩ := pow_bd60 h t
    rw [Int.pow_succ, Int.pow_succ]
    generalize (60 : Int) ^ t = A at *
    generalize y ^ t = b at *
    have h1 : (A + b) * (60 - y) ≥ 0 := Int.mul_nonneg (by omega) (by omega)
    have h2 : (A + b) * (60 + y) ≥ 0 := Int.mul_nonneg (by omega) (by omega)
    have h3 : (A - b) * (60 + y) ≥ 0 := Int.mul_nonneg (by omega) (by omega)
    have h4 : (A - b) * (60 - y) ≥ 0 := Int.mul_nonneg (by omega) (by omega)
    simp only [Int.add_mul, Int.sub_mul, Int.mul_add, Int.mul_sub] at h1 h2 h3 h4
    omega
theorem pow60 : ∀ t : Fin 6, (60 : Int) ^ t.val ≤ 777600000 := by decide +kernel
theorem pow_bd65 {y : Int} (h : -60 ≤ y ∧ y ≤ 60) {t : Nat} (ht : t ≤ 5) : -777600000 ≤ y ^ t ∧ y ^ t ≤ 777600000 := by
  have h1 := pow_bd60 h t
  have h2 := pow60 ⟨t, by omega⟩
  simp only at h2
  omega

set_option maxHeartbeats 1000000 in
theorem power_any (x : Int) (n : Nat) (w : World) (hx : -60 ≤ x ∧ x ≤ 60) (hn : n ≤ 5) :
    Calls Try.prog 65 #[.int .i64 x, .int .i64 n] w fun e w' => e = .returned (.int .i64 (x ^ n)) ∧ w = w' := by
  go_enter Try.func65, Try.ntmps65
  go_wp2
  go_loopg [5, 7] n (fun g p i wr => ∃ k : Nat, k ≤ n ∧ g = n - k ∧ i = .int .i64 k ∧ p = .int .i64 (x ^ k) ∧ w = wr)
  case atStart => exact ⟨0, Nat.zero_le _, rfl, rfl, by rw [Int.pow_zero], rfl⟩
  case round =>
    obtain ⟨k, hk, rfl, rfl, rfl, rfl⟩ := hrel
    by_cases hlt : k < n
    · have h2 := pow_bd65 hx (t := k + 1) (by omega)
      have h3 := Int.pow_succ x k
      obtain ⟨p, hp⟩ : ∃ p, x ^ k = p := ⟨_, rfl⟩
      obtain ⟨q, hq⟩ : ∃ q, x ^ (k + 1) = q := ⟨_, rfl⟩
      rw [hq, hp] at h3
      rw [hq] at h2
      rw [hp]
      have hw : wrap64 (p * x) = q := by rw [← h3]; unfold wrap64; omega
      have hw2 : IntKind.i64.wrap (p * x) = q := by rw [← h3]; exact IntWalk.i64_in _ ⟨by omega, by omega⟩
      have HQ := Lib.hid hq
      clear h3 hp hq
      go_wp2
      go_roundg (n - (k + 1))
      case measure => omega
      case rel => exact ⟨k + 1, by omega, rfl, by go_num, by first | rw [HQ.out] | rw [HQ.out, hw], rfl⟩
    · have : k = n := by omega
      subst this
      go_wp2
      go_ret
      exact ⟨rfl, rfl⟩

def smK (x : List Int) : Nat → Int
  | 0 => 0
  | k + 1 => smK x k + x.getD k 0
theorem smK_bd {x : List Int} {m : Nat} (hx : RngK x (-30) 30 m) : ∀ k, k ≤ m → -(30 * (k : Int)) ≤ smK x k ∧ smK x k ≤ 30 * (k : Int)
  | 0, _ => by simp [smK]
  | k + 1, h => by
    have i := smK_bd hx k (by omega)
    have c := hx k (by omega)
    simp only [inB, decide_eq_true_eq] at c
    simp only [smK]
    omega

set_option maxHeartbeats 1000000 in
theorem sumOf_any (a : Option Addr) (cap m : Nat) (x : List Int) (w : World) (hn : x.length = m) (h6 : m ≤ 1048576) (hx : RngK x (-30) 30 m) (hm : RowR w a x) :
    Calls Try.prog 99 #[.slice a m cap] w fun e w' => e = .returned (.int .i64 (smK x m)) ∧ w = w' := by
  have H := Lib.hid hn; clear hn
  have HX := Lib.hid hx; clear hx
  go_enter Try.func99, Try.ntmps99
  go_wp2
  go_loopg [3, 5, 8] m (fun g s _ i wr => ∃ k : Nat, k ≤ m ∧ g = m - k ∧ i = .int .i64 k ∧ s = .int .i64 (smK x k) ∧ w = wr)
  case atStart => exact ⟨0, Nat.zero_le _, rfl, rfl, rfl, rfl⟩
  case round =>
    obtain ⟨k, hk, rfl, rfl, rfl, rfl⟩ := hrel
    by_cases hlt : k < m
    · obtain ⟨b, o, rfl, hc⟩ := hm (by rw [H.out]; omega)
      have cj := hc k (by rw [H.out]; exact hlt)
      have b1 := smK_bd HX.out k (by omega)
      have b2 := smK_bd HX.out (k + 1) (by omega)
      have hs : smK x (k + 1) = smK x k + x.getD k 0 := rfl
      obtain ⟨y, hy⟩ : ∃ y, x.getD k 0 = y := ⟨_, rfl⟩
      obtain ⟨p, hp⟩ : ∃ p, smK x k = p := ⟨_, rfl⟩
      rw [hs] at b2
      rw [hy] at cj hs b2
      rw [hp] at b1 b2 hs ⊢
      have HS := Lib.hid hs
      clear hc hm hs hy hp
      go_wp2
      go_roundg (m - (k + 1))
      case measure => omega
      case rel => exact ⟨k + 1, by omega, rfl, by go_num, by rw [HS.out], rfl⟩
    · have : k = m := by omega
      subst this
      go_wp2
      go_ret
      exact ⟨rfl, rfl⟩

set_option maxHeartbeats 1000000 in
theorem specTurnsSum_loop (a : Option Addr) (cap m : Nat) (x : List Int) (w : World) (hn : x.length = m) (h63 : m ≤ 9223372036854775807) (hm : RowR w a x) :
    Calls Try.prog 51 #[.slice a m cap] w fun e w' => e = .returned (.tuple #[.int .i64 (if l8B x 30 = true then smK x m else 0), .bool (l8B x 30)]) ∧ w = w' := by
  have E := l8List_any a cap m x 30 w ⟨by omega, by omega⟩ hn h63 hm
  have H := Lib.hid hn
  cases hok : l8B x 30 with
  | false =>
    rw [hok] at E
    replace E := Lib.hid E
    clear hok hm hn
    go_enter Try.func51, Try.ntmps51
    go_wp2_with fail
    refine (E.out).mono ?_
    rintro e w' ⟨rfl, rfl⟩
    go_wp2
    go_ret2
    exact ⟨rfl, rfl⟩
  | true =>
    rw [hok] at E
    replace E := Lib.hid E
    obtain ⟨hx, h1, h6⟩ := l8B_of hok
    rw [hn] at hx h1 h6
    have HX := Lib.hid (show RngK x (-30) 30 m from hx)
    clear hok hn hx
    go_enter Try.func51, Try.ntmps51
    go_wp2_with fail
    refine (E.out).mono ?_
    rintro e w' ⟨rfl, rfl⟩
    go_wp2
    go_loopg [4, 5] m (fun g s i wr => ∃ k : Nat, k ≤ m ∧ g = m - k ∧ i = .int .i64 k ∧ s = .int .i64 (smK x k) ∧ w = wr)
    case atStart => exact ⟨0, Nat.zero_le _, rfl, rfl, rfl, rfl⟩
    case round =>
      obtain ⟨k, hk, rfl, rfl, rfl, rfl⟩ := hrel
      by_cases hlt : k < m
      · obtain ⟨b, o, rfl, hc⟩ := hm (by rw [H.out]; omega)
        have cj := hc k (by rw [H.out]; exact hlt)
        have b1 := smK_bd HX.out k (by omega)
        have b2 := smK_bd HX.out (k + 1) (by omega)
        have hs : smK x (k + 1) = smK x k + x.getD k 0 := rfl
        obtain ⟨y, hy⟩ : ∃ y, x.getD k 0 = y := ⟨_, rfl⟩
        obtain ⟨p, hp⟩ : ∃ p, smK x k = p := ⟨_, rfl⟩
        rw [hs] at b2
        rw [hy] at cj hs b2
        rw [hp] at b1 b2 hs ⊢
        have HS := Lib.hid hs
        clear hc hm hs hy hp
        go_wp2
        go_roundg (m - (k + 1))
        case measure => omega
        case rel => exact ⟨k + 1, by omega, rfl, by go_num, by rw [HS.out], rfl⟩
      · have : k = m := by omega
        subst this
        go_wp2
        go_ret2
        exact ⟨rfl, rfl⟩

theorem l8B_split (x : List Int) (most : Int) : l8B x most = (rngB x (-most) most && inB x.length 1 6) := rfl

set_option maxHeartbeats 1000000 in
theorem implKnownTurnsSum_any (a : Option Addr) (cap m : Nat) (x : List Int) (w : World) (hn : x.length = m) (h6 : m ≤ 1048576) (hm : RowR w a x) :
    Calls Try.prog 49 #[.slice a m cap] w fun e w' => e = .returned (.tuple #[.int .i64 (if l8B x 30 = true then smK x m else 0), .bool (l8B x 30)]) ∧ w = w' := by
  have E1 := isSide_any m w
  have E2 := entriesIn_any a cap m x w hn h6 hm
  rw [← numsIn_rng] at E2
  have hsp := l8B_split x 30
  rw [hn] at hsp
  cases h1 : inB (m : Int) 1 6 with
  | false =>
    rw [h1, Bool.and_false] at hsp
    rw [hsp]
    rw [h1] at E1
    replace E1 := Lib.hid E1
    clear E2 hm hn h1 hsp
    go_enter Try.func49, Try.ntmps49
    go_wp2_with fail
    refine (E1.out).mono ?_
    rintro e w' ⟨rfl, rfl⟩
    go_wp2
    go_ret2
    exact ⟨rfl, rfl⟩
  | true =>
    rw [h1] at E1
    replace E1 := Lib.hid E1
    cases h2 : rngB x (-30) 30 with
    | false =>
      rw [h1, h2] at hsp
      rw [hsp]
      rw [h2] at E2
      replace E2 := Lib.hid E2
      clear hm hn h1 h2 hsp
      go_enter Try.func49, Try.ntmps49
      go_wp2_with fail
      refine (E1.out).mono ?_
      rintro e w' ⟨rfl, rfl⟩
      go_wp2_with fail
      refine (E2.out).mono ?_
      rintro e w' ⟨rfl, rfl⟩
      go_wp2
      go_ret2
      exact ⟨rfl, rfl⟩
    | true =>
      rw [h1, h2] at hsp
      rw [hsp]
      rw [h2] at E2
      replace E2 := Lib.hid E2
      have hx := rngB_of h2
      rw [hn] at hx
      have E3 := Lib.hid (sumOf_any a cap m x w hn h6 hx hm)
      clear hm hn h1 h2 hsp hx
      go_enter Try.func49, Try.ntmps49
      go_wp2_with fail
      refine (E1.out).mono ?_
      rintro e w' ⟨rfl, rfl⟩
      go_wp2_with fail
      refine (E2.out).mono ?_
      rintro e w' ⟨rfl, rfl⟩
      go_wp2_with fail
      refine (E3.out).mono ?_
      rintro e w' ⟨rfl, rfl⟩
      go_wp2
      go_ret2
      exact ⟨rfl, rfl⟩

end Go.Proofs.Ytkahgpgnfodpgaa
end

section
namespace Go.Proofs.Ytkahgpgnfodpgaa
open Go.RowKit Go.Deep

theorem RngK.all9 {x : List Int} {m : Nat} (hn : x.length = m) (h : RngK x (-9) 9 m) (j : Nat) : -9 ≤ x.getD j 0 ∧ x.getD j 0 ≤ 9 := by
  by_cases hj : j < m
  · have := h j hj
    simp only [inB, decide_eq_true_eq] at this
    exact this
  · have : x.getD j 0 = 0 := by simp [List.getD, List.getElem?_eq_none (show x.length ≤ j by omega)]
    omega

set_option maxRecDepth 100000 in
set_option maxHeartbeats 2000000 in
theorem productOfDifferences_any (a : Option Addr) (cap m : Nat) (x : List Int) (w : World) (hn : x.length = m) (h6 : m ≤ 6) (hc0 : m ≤ cap) (hx : ∀ j, -9 ≤ x.getD j 0 ∧ x.getD j 0 ≤ 9) (hm : RowR w a x) :
    Calls Try.prog 72 #[.slice a m cap] w fun e w' => e = .returned (.int .i64 (vdO x m)) ∧ w = w' := by
  have H := Lib.hid hn; clear hn
  have HX := Lib.hid hx; clear hx
  go_enter Try.func72, Try.ntmps72
  go_wp2
  go_loopg [3, 4, 5, 7, 10] m (fun g s _ _ _ i wr => ∃ k : Nat, k ≤ m ∧ g = m - k ∧ i = .int .i64 k ∧ s = .int .i64 (vdO x k) ∧ w = wr)
  case atStart => exact ⟨0, Nat.zero_le _, rfl, rfl, rfl, rfl⟩
  case round =>
    obtain ⟨k, hk, rfl, rfl, rfl, rfl⟩ := hrel
    by_cases hlt : k < m
    · obtain ⟨b, o, rfl, hc⟩ := hm (by rw [H.out]; omega)
      have cj := hc k (by rw [H.out]; exact hlt)
      obtain ⟨y, hy⟩ : ∃ y, x.getD k 0 = y := ⟨_, rfl⟩
      have hy9 := HX.out k
      rw [hy] at cj hy9
      have HY := Lib.hid hy
      have HC := Lib.hid hc
      clear hc hm hy
      go_wp2
      go_loopg [3, 7, 19] k (fun g s _ i wi => ∃ t : Nat, t ≤ k ∧ g = k - t ∧ i = .int .i64 t ∧ s = .int .i64 (vdI x k (vdO x k) t) ∧ w = wi)
      case atStart => exact ⟨0, Nat.zero_le _, rfl, rfl, rfl, rfl⟩
      case round =>
        obtain ⟨t, ht, rfl, rfl, rfl, rfl⟩ := hrel
        by_cases htl : t < k
        · have ct := HC.out t (by rw [H.out]; omega)
          have hz9 := HX.out t
          have b1 := vdI_lt HX.out (i := k) (k := t) (by omega) (by omega)
          have b2 := vdI_lt HX.out (i := k) (k := t + 1) (by omega) (by omega)
          have hs : vdI x k (vdO x k) (t + 1) = vdI x k (vdO x k) t * (x.getD k 0 - x.getD t 0) := rfl
          obtain ⟨z, hz⟩ : ∃ z, x.getD t 0 = z := ⟨_, rfl⟩
          obtain ⟨p, hp⟩ : ∃ p, vdI x k (vdO x k) t = p := ⟨_, rfl⟩
          obtain ⟨q, hq⟩ : ∃ q, vdI x k (vdO x k) (t + 1) = q := ⟨_, rfl⟩
          rw [hz] at ct hz9 hs
          rw [hp, hq, HY.out] at hs
          rw [hp] at b1 ⊢
          rw [hq] at b2
          have HQ := Lib.hid hq
          have hw : wrap64 (p * (y - z)) = q := by rw [← hs]; unfold wrap64; omega
          clear hz hp hq hs
          go_wp2
          go_roundg (k - (t + 1))
          case measure => omega
          case rel => exact ⟨t + 1, by omega, rfl, by go_num, by rw [HQ.out, hw], rfl⟩
        · have htk : t = k := by omega
          subst htk
          go_wp2
          go_roundg (m - (t + 1))
          case measure => omega
          case rel => exact ⟨t + 1, by omega, rfl, by go_num, rfl, rfl⟩
    · have : k = m := by omega
      subst this
      go_wp2
      go_ret
      exact ⟨rfl, rfl⟩

set_option maxRecDepth 100000 in
set_option maxHeartbeats 2000000 in
theorem specKnownPowersValue_any (a : Option Addr) (cap m : Nat) (x : List Int) (w : World) (hn : x.length = m) (h63 : m ≤ 9223372036854775807) (hm : RowR w a x) :
    Calls Try.prog 22 #[.slice a m cap] w fun e w' => e = .returned (.tuple #[.int .i64 (if l8B x 9 = true then vdO x m else 0), .bool (l8B x 9)]) ∧ w.Since w.heap.size w' := by
  have E := l8List_any a cap m x 9 w ⟨by omega, by omega⟩ hn h63 hm
  have H := Lib.hid hn
  cases hok : l8B x 9 with
  | false =>
    rw [hok] at E
    replace E := Lib.hid E
    clear hok hm hn
    go_enter Try.func22, Try.ntmps22
    go_wp2_with fail
    refine (E.out).mono ?_
    rintro e w' ⟨rfl, rfl⟩
    go_wp2
    go_ret2
    exact ⟨rfl, World.Since.refl _ _⟩
  | true =>
    rw [hok] at E
    replace E := Lib.hid E
    obtain ⟨hx, h1, h6⟩ := l8B_of hok
    rw [hn] at hx h1 h6
    have HX := Lib.hid (RngK.all9 hn hx)
    obtain ⟨b, o, rfl, hc⟩ := hm (by omega)
    have HC := Lib.hid (fun (W : World) (hd : w.Since w.heap.size W) (k : Nat) (hk : k < m) => by
      have c := hc k (by omega)
      exact (hd.cell (a := ⟨b, o + k, none⟩) (World.block_lt_of_cell? _ _ c)).trans c)
    clear hok hn hx hc hm
    go_enter Try.func22, Try.ntmps22
    go_wp2_with fail
    refine (E.out).mono ?_
    rintro e w' ⟨rfl, rfl⟩
    go_wp2
    go_loopg [4, 5, 6] m (fun g s i _ wr => ∃ k : Nat, k ≤ m ∧ g = m - k ∧ i = .int .i64 k ∧ s = .int .i64 (vdO x k) ∧ Drawn w wr)
    case atStart => exact ⟨0, Nat.zero_le _, rfl, rfl, rfl, Drawn.refl w⟩
    case round =>
      obtain ⟨k, hk, rfl, rfl, rfl, hD⟩ := hrel
      by_cases hlt : k < m
      · have HD := Lib.hid hD
        clear hD
        obtain ⟨wo, hwo⟩ : ∃ wo : World, wo = wr := ⟨_, rfl⟩
        rw [← hwo] at HD ⊢
        clear hwo wr
        go_wp2
        go_loopg [4, 6] k (fun g s i wi => ∃ t : Nat, t ≤ k ∧ g = k - t ∧ i = .int .i64 t ∧ s = .int .i64 (vdI x k (vdO x k) t) ∧ Drawn w wi)
        case atStart => exact ⟨0, Nat.zero_le _, rfl, rfl, rfl, HD.out⟩
        case round =>
          obtain ⟨t, ht, rfl, rfl, rfl, hI⟩ := hrel
          clear HD
          by_cases htl : t < k
          · have ck := HC.out wr (hI.since _) k hlt
            have ct := HC.out wr (hI.since _) t (by omega)
            have hy9 := HX.out k
            have hz9 := HX.out t
            have b1 := vdI_lt HX.out (i := k) (k := t) (by omega) (by omega)
            have b2 := vdI_lt HX.out (i := k) (k := t + 1) (by omega) (by omega)
            have hs : vdI x k (vdO x k) (t + 1) = vdI x k (vdO x k) t * (x.getD k 0 - x.getD t 0) := rfl
            obtain ⟨y, hy⟩ : ∃ y, x.getD k 0 = y := ⟨_, rfl⟩
            obtain ⟨z, hz⟩ : ∃ z, x.getD t 0 = z := ⟨_, rfl⟩
            obtain ⟨p, hp⟩ : ∃ p, vdI x k (vdO x k) t = p := ⟨_, rfl⟩
            obtain ⟨q, hq⟩ : ∃ q, vdI x k (vdO x k) (t + 1) = q := ⟨_, rfl⟩
            rw [hy] at ck hy9
            rw [hz] at ct hz9
            rw [hp, hq, hy, hz] at hs
            rw [hp] at b1 ⊢
            rw [hq] at b2
            have HQ := Lib.hid hq
            have hsub : IntKind.i64.wrap (y - z) = y - z := IntWalk.i64_in _ ⟨by omega, by omega⟩
            have hmul : IntKind.i64.wrap (p * (y - z)) = q := by rw [← hs]; exact IntWalk.i64_in _ ⟨by omega, by omega⟩
            have hw : wrap64 (p * (y - z)) = q := by rw [← hs]; unfold wrap64; omega
            have hkm : (k : Int) < (m : Int) := by omega
            have htm : (t : Int) < (m : Int) := by omega
            have hk0 : k < m := hlt
            have ht0 : t < m := by omega
            have HI := Lib.hid hI
            clear hz hp hq hs hy hI
            go_wp2
            go_quiet (fail)
            go_wp2
            go_roundg (k - (t + 1))
            case measure => omega
            case rel => exact ⟨t + 1, by omega, rfl, by go_num, by rw [HQ.out], HI.out.trans (Drawn.mk _ _)⟩
          · have htk : t = k := by omega
            subst htk
            go_wp2
            go_roundg (m - (t + 1))
            case measure => omega
            case rel => exact ⟨t + 1, by omega, rfl, by go_num, rfl, hI⟩
      · have : k = m := by omega
        subst this
        go_wp2
        go_ret2
        exact ⟨rfl, hD.since _⟩

set_option maxHeartbeats 1000000 in
theorem implKnownPowersValue_any (a : Option Addr) (cap m : Nat) (x : List Int) (w : World) (hn : x.length = m) (h63 : m ≤ 9223372036854775807) (hc0 : m ≤ cap) (hm : RowR w a x) :
    Calls Try.prog 19 #[.slice a m cap] w fun e w' => e = .returned (.tuple #[.int .i64 (if l8B x 9 = true then vdO x m else 0), .bool (l8B x 9)]) ∧ w = w' := by
  have E1 := isSide_any m w
  have E2 := allInRange_any a cap m x (-9) 9 w hn h63 hm
  have hsp := l8B_split x 9
  rw [hn] at hsp
  cases h1 : inB (m : Int) 1 6 with
  | false =>
    rw [h1, Bool.and_false] at hsp
    rw [hsp]
    rw [h1] at E1
    replace E1 := Lib.hid E1
    clear E2 hm hn h1 hsp
    go_enter Try.func19, Try.ntmps19
    go_wp2_with fail
    refine (E1.out).mono ?_
    rintro e w' ⟨rfl, rfl⟩
    go_wp2
    go_ret2
    exact ⟨rfl, rfl⟩
  | true =>
    rw [h1] at E1
    replace E1 := Lib.hid E1
    have h16 := of_decide_eq_true h1
    cases h2 : rngB x (-9) 9 with
    | false =>
      rw [h1, h2] at hsp
      rw [hsp]
      rw [h2] at E2
      replace E2 := Lib.hid E2
      clear hm hn h1 h2 hsp
      go_enter Try.func19, Try.ntmps19
      go_wp2_with fail
      refine (E1.out).mono ?_
      rintro e w' ⟨rfl, rfl⟩
      go_wp2_with fail
      refine (E2.out).mono ?_
      rintro e w' ⟨rfl, rfl⟩
      go_wp2
      go_ret2
      exact ⟨rfl, rfl⟩
    | true =>
      rw [h1, h2] at hsp
      rw [hsp]
      rw [h2] at E2
      replace E2 := Lib.hid E2
      have hx := rngB_of h2
      rw [hn] at hx
      have E3 := Lib.hid (productOfDifferences_any a cap m x w hn (by omega) hc0 (RngK.all9 hn hx) hm)
      clear hm hn h1 h2 hsp hx
      go_enter Try.func19, Try.ntmps19
      go_wp2_with fail
      refine (E1.out).mono ?_
      rintro e w' ⟨rfl, rfl⟩
      go_wp2_with fail
      refine (E2.out).mono ?_
      rintro e w' ⟨rfl, rfl⟩
      go_wp2_with fail
      refine (E3.out).mono ?_
      rintro e w' ⟨rfl, rfl⟩
      go_wp2
      go_ret2
      exact ⟨rfl, rfl⟩

set_option maxHeartbeats 1000000 in
theorem withoutSign_any (x : Nat) (w : World) (hx : x ≤ 1000) :
    Calls Try.prog 116 #[.int .i64 x] w fun e w' => e = .returned (.int .i64 x) ∧ w = w' := by
  go_enter Try.func116, Try.ntmps116
  go_wp2
  go_ret
  exact ⟨ret_int (by omega), rfl⟩

set_option maxHeartbeats 1000000 in
theorem commonDivisor_dr (a b : Nat) (w : World) (ha : a ≤ 1000) (hb : b ≤ 1000) :
    Calls Try.prog 86 #[.int .i64 a, .int .i64 b] w fun e w' => e = .returned (.int .i64 (Nat.gcd a b : Nat)) ∧ Drawn w w' := by
  go_enter Try.func86, Try.ntmps86
  go_wp2
  go_loopg [0, 1] b (fun g x y wr => ∃ p q : Nat, q = g ∧ x = .int .i64 p ∧ y = .int .i64 q ∧ p ≤ 1000 ∧ q ≤ 1000 ∧ Nat.gcd p q = Nat.gcd a b ∧ Drawn w wr)
  case atStart => exact ⟨a, b, rfl, rfl, rfl, ha, hb, rfl, Drawn.refl w⟩
  case round =>
    obtain ⟨p, q, rfl, rfl, rfl, hp, hq, hg, hD⟩ := hrel
    by_cases hz : q = 0
    · subst hz
      rw [Nat.gcd_zero_right] at hg
      subst hg
      have hne : (((0 : Nat) : Int) != 0) = false := by simp
      have E := Lib.hid (withoutSign_any (Nat.gcd a b) wr (by omega))
      go_wp2_with fail
      refine (E.out).mono ?_
      rintro e w' ⟨rfl, rfl⟩
      go_wp2
      go_ret
      exact ⟨rfl, hD⟩
    · have hne : ((q : Int) != 0) = true := by simp; omega
      have hne2 : ((q : Int) == 0) = false := by simp; omega
      have hm : Int.tmod (p : Int) (q : Int) = ((p % q : Nat) : Int) := rfl
      have hlt : p % q < q := Nat.mod_lt _ (by omega)
      have hgg : Nat.gcd q (p % q) = Nat.gcd a b := by rw [Nat.gcd_comm q, ← Nat.gcd_rec, Nat.gcd_comm q p]; exact hg
      have HG := Lib.hid hgg
      clear hg hgg
      go_wp2
      go_quiet (fail)
      go_wp2
      go_roundg (p % q)
      case measure => omega
      case rel => exact ⟨q, p % q, rfl, by go_num, by first | rfl | (rw [← hm]), by omega, by omega, HG.out, hD.trans (Drawn.mk _ _)⟩

theorem commonDivisor_any (a b : Nat) (w : World) (ha : a ≤ 1000) (hb : b ≤ 1000) :
    Calls Try.prog 86 #[.int .i64 a, .int .i64 b] w fun e w' => e = .returned (.int .i64 (Nat.gcd a b : Nat)) ∧ w.Since w.heap.size w' :=
  (commonDivisor_dr a b w ha hb).mono fun _ _ h => ⟨h.1, h.2.since _⟩

set_option maxHeartbeats 1000000 in
theorem l3Gcd_any (a b : Nat) (w : World) (ha : a ≤ 1000) (hb : b ≤ 1000) :
    Calls Try.prog 87 #[.int .i64 a, .int .i64 b] w fun e w' => e = .returned (.int .i64 (Nat.gcd a b : Nat)) ∧ w = w' := by
  have hma : max (a : Int) (-(a : Int)) = a := by omega
  have hmb : max (b : Int) (-(b : Int)) = b := by omega
  go_enter Try.func87, Try.ntmps87
  go_wp2
  go_loopg [0, 1, 5] b (fun g x y _ wr => ∃ p q : Nat, q = g ∧ x = .int .i64 p ∧ y = .int .i64 q ∧ p ≤ 1000 ∧ q ≤ 1000 ∧ Nat.gcd p q = Nat.gcd a b ∧ w = wr)
  case atStart => exact ⟨a, b, rfl, by go_num, by go_num, ha, hb, rfl, rfl⟩
  case round =>
    obtain ⟨p, q, rfl, rfl, rfl, hp, hq, hg, rfl⟩ := hrel
    by_cases hz : q = 0
    · subst hz
      rw [Nat.gcd_zero_right] at hg
      subst hg
      go_wp2
      go_ret
      exact ⟨rfl, rfl⟩
    · have hne : ((q : Int) != 0) = true := by simp; omega
      have hne2 : ((q : Int) == 0) = false := by simp; omega
      have hm : Int.tmod (p : Int) (q : Int) = ((p % q : Nat) : Int) := rfl
      have hlt : p % q < q := Nat.mod_lt _ (by omega)
      have hgg : Nat.gcd q (p % q) = Nat.gcd a b := by rw [Nat.gcd_comm q, ← Nat.gcd_rec, Nat.gcd_comm q p]; exact hg
      have HG := Lib.hid hgg
      clear hg hgg
      go_wp2
      go_roundg (p % q)
      case measure => omega
      case rel => exact ⟨q, p % q, rfl, by go_num, by first | rfl | (rw [← hm]), by omega, by omega, HG.out, rfl⟩

end Go.Proofs.Ytkahgpgnfodpgaa
end

section
namespace Go.Proofs.Ytkahgpgnfodpgaa
open Go.RowKit Go.Deep

def oneIf (d : Nat) : Nat := if d = 1 then 1 else 0
theorem oneIf_one : oneIf 1 = 1 := rfl
theorem oneIf_no {d : Nat} (h : d ≠ 1) : oneIf d = 0 := if_neg h
def phK (i : Nat) : Nat → Nat
  | 0 => 0
  | k + 1 => phK i k + oneIf (Nat.gcd i (k + 1))
def dvK : Nat → Nat
  | 0 => 1
  | i + 1 => dvK i * phK (i + 1) (i + 1)
theorem phK_le (i : Nat) : ∀ k, phK i k ≤ k
  | 0 => Nat.le_refl _
  | k + 1 => by have := phK_le i k; simp only [phK, oneIf]; split <;> omega
theorem dvK_le : ∀ i : Fin 7, 1 ≤ dvK i.val ∧ dvK i.val ≤ 32 := by decide +kernel

set_option maxHeartbeats 1000000 in
theorem countPrimeTo_any (n : Nat) (w : World) (hn : n ≤ 1000) :
    Calls Try.prog 88 #[.int .i64 n] w fun e w' => e = .returned (.int .i64 (phK n n : Nat)) ∧ w.Since w.heap.size w' := by
  go_enter Try.func88, Try.ntmps88
  go_wp2
  go_loopg [3, 4] n (fun g c i wr => ∃ k : Nat, k ≤ n ∧ g = n - k ∧ i = .int .i64 ((k : Int) + 1) ∧ c = .int .i64 (phK n k : Nat) ∧ w.Since w.heap.size wr)
  case atStart => exact ⟨0, Nat.zero_le _, rfl, by go_num, rfl, World.Since.refl _ _⟩
  case round =>
    obtain ⟨k, hk, rfl, rfl, rfl, hs⟩ := hrel
    have hp := phK_le n k
    by_cases hlt : k < n
    · have E := commonDivisor_any (k + 1) n wr (by omega) (by omega)
      have hst : phK n (k + 1) = phK n k + oneIf (Nat.gcd n (k + 1)) := rfl
      rw [Nat.gcd_comm, show ((k + 1 : Nat) : Int) = (k : Int) + 1 by omega] at E
      obtain ⟨d, hd⟩ : ∃ d, Nat.gcd n (k + 1) = d := ⟨_, rfl⟩
      rw [hd] at E hst
      replace E := Lib.hid E
      have HS := Lib.hid hs
      by_cases h1 : d = 1
      · subst h1
        rw [oneIf_one] at hst
        have HST := Lib.hid hst
        clear hd hs hst
        go_wp2_with fail
        refine (E.out).mono ?_
        rintro e w2 ⟨rfl, hs2⟩
        go_wp2
        go_roundg (n - (k + 1))
        case measure => omega
        case rel => exact ⟨k + 1, by omega, rfl, by go_num, by rw [HST.out]; go_num, HS.out.trans (since_mono hs2 HS.out.size)⟩
      · rw [oneIf_no h1] at hst
        have HST := Lib.hid hst
        have hne : ((d : Int) == 1) = false := by simp; omega
        clear hd hs hst
        go_wp2_with fail
        refine (E.out).mono ?_
        rintro e w2 ⟨rfl, hs2⟩
        go_wp2
        go_roundg (n - (k + 1))
        case measure => omega
        case rel => exact ⟨k + 1, by omega, rfl, by go_num, by rw [HST.out]; rfl, HS.out.trans (since_mono hs2 HS.out.size)⟩
    · have : k = n := by omega
      subst this
      go_wp2
      go_ret
      exact ⟨rfl, hs⟩

set_option maxHeartbeats 1000000 in
theorem implKnownDivisorsValue_any (n : Int) (w : World) :
    Calls Try.prog 34 #[.int .i64 n] w fun e w' => e = .returned (.tuple #[.int .i64 (if inB n 1 6 = true then (dvK n.toNat : Nat) else 0), .bool (inB n 1 6)]) ∧ w.Since w.heap.size w' := by
  have E := isSide_any n w
  cases hin : inB n 1 6 with
  | false =>
    rw [hin] at E
    replace E := Lib.hid E
    clear hin
    go_enter Try.func34, Try.ntmps34
    go_wp2_with fail
    refine (E.out).mono ?_
    rintro e w' ⟨rfl, rfl⟩
    go_wp2
    go_ret2
    exact ⟨rfl, World.Since.refl _ _⟩
  | true =>
    rw [hin] at E
    have h6 := of_decide_eq_true hin
    obtain ⟨m, rfl⟩ := Int.eq_ofNat_of_zero_le (show 0 ≤ n by omega)
    replace E := Lib.hid E
    clear hin
    rw [Int.toNat_natCast]
    go_enter Try.func34, Try.ntmps34
    go_wp2_with fail
    refine (E.out).mono ?_
    rintro e w' ⟨rfl, rfl⟩
    go_wp2
    go_loopg [4, 5] m (fun g c i wr => ∃ k : Nat, k ≤ m ∧ g = m - k ∧ i = .int .i64 ((k : Int) + 1) ∧ c = .int .i64 (dvK k : Nat) ∧ w.Since w.heap.size wr)
    case atStart => exact ⟨0, Nat.zero_le _, rfl, by go_num, rfl, World.Since.refl _ _⟩
    case round =>
      obtain ⟨k, hk, rfl, rfl, rfl, hs⟩ := hrel
      by_cases hlt : k < m
      · have E := countPrimeTo_any (k + 1) wr (by omega)
        have hst : dvK (k + 1) = dvK k * phK (k + 1) (k + 1) := rfl
        have b1 := dvK_le ⟨k, by omega⟩
        have b2 := dvK_le ⟨k + 1, by omega⟩
        simp only at b1 b2
        obtain ⟨p, hp⟩ : ∃ p, phK (k + 1) (k + 1) = p := ⟨_, rfl⟩
        obtain ⟨q, hq⟩ : ∃ q, dvK k = q := ⟨_, rfl⟩
        rw [hp, show ((k + 1 : Nat) : Int) = (k : Int) + 1 by omega] at E
        rw [hp, hq] at hst
        rw [hst] at b2
        rw [hq]
        have hmul : wrap64 ((q : Int) * (p : Int)) = ((dvK (k + 1) : Nat) : Int) := by rw [hst, Int.natCast_mul]; have : (q : Int) * (p : Int) = ((q * p : Nat) : Int) := by rw [Int.natCast_mul]
                                                                                       rw [this]; unfold wrap64; omega
        replace E := Lib.hid E
        have HS := Lib.hid hs
        have HMUL := Lib.hid hmul
        clear hp hq hst hs b1 b2 hmul
        go_wp2_with fail
        refine (E.out).mono ?_
        rintro e w2 ⟨rfl, hs2⟩
        go_wp2
        go_roundg (m - (k + 1))
        case measure => omega
        case rel => exact ⟨k + 1, by omega, rfl, by go_num, by rw [HMUL.out], HS.out.trans (since_mono hs2 HS.out.size)⟩
      · have : k = m := by omega
        subst this
        go_wp2
        go_ret2
        exact ⟨rfl, hs⟩

set_option maxHeartbeats 1000000 in
theorem specKnownDivisorsValue_any (n : Int) (w : World) :
    Calls Try.prog 36 #[.int .i64 n] w fun e w' => e = .returned (.tuple #[.int .i64 (if inB n 1 6 = true then (dvK n.toNat : Nat) else 0), .bool (inB n 1 6)]) ∧ w = w' := by
  have E := l6In_any n 1 6 w
  cases hin : inB n 1 6 with
  | false =>
    rw [hin] at E
    replace E := Lib.hid E
    clear hin
    go_enter Try.func36, Try.ntmps36
    go_wp2_with fail
    refine (E.out).mono ?_
    rintro e w' ⟨rfl, rfl⟩
    go_wp2
    go_ret2
    exact ⟨rfl, rfl⟩
  | true =>
    rw [hin] at E
    have h6 := of_decide_eq_true hin
    obtain ⟨m, rfl⟩ := Int.eq_ofNat_of_zero_le (show 0 ≤ n by omega)
    replace E := Lib.hid E
    clear hin
    rw [Int.toNat_natCast]
    go_enter Try.func36, Try.ntmps36
    go_wp2_with fail
    refine (E.out).mono ?_
    rintro e w' ⟨rfl, rfl⟩
    go_wp2
    go_loopg [4, 5, 6, 7] m (fun g c i _ _ wr => ∃ k : Nat, k ≤ m ∧ g = m - k ∧ i = .int .i64 ((k : Int) + 1) ∧ c = .int .i64 (dvK k : Nat) ∧ w = wr)
    case atStart => exact ⟨0, Nat.zero_le _, rfl, by go_num, rfl, rfl⟩
    case round =>
      obtain ⟨k, hk, rfl, rfl, rfl, rfl⟩ := hrel
      by_cases hlt : k < m
      · obtain ⟨q, hq⟩ : ∃ q, dvK k = q := ⟨_, rfl⟩
        have b2 := dvK_le ⟨k + 1, by omega⟩
        simp only at b2
        have hst : dvK (k + 1) = dvK k * phK (k + 1) (k + 1) := rfl
        rw [hq] at hst ⊢
        rw [hst] at b2
        have HST := Lib.hid hst
        have hkd : decide ((k : Int) + 1 ≤ (m : Int)) = true := by simp; omega
        clear hq hst
        go_wp2
        go_loopg [6, 7] (k + 1) (fun g c i wi => ∃ t : Nat, t ≤ k + 1 ∧ g = k + 1 - t ∧ i = .int .i64 ((t : Int) + 1) ∧ c = .int .i64 (phK (k + 1) t : Nat) ∧ w = wi)
        case atStart => exact ⟨0, Nat.zero_le _, rfl, by go_num, rfl, rfl⟩
        case round =>
          obtain ⟨t, ht, rfl, rfl, rfl, rfl⟩ := hrel
          have hp := phK_le (k + 1) t
          by_cases htl : t < k + 1
          · have E := l3Gcd_any (k + 1) (t + 1) w (by omega) (by omega)
            have hs2 : phK (k + 1) (t + 1) = phK (k + 1) t + oneIf (Nat.gcd (k + 1) (t + 1)) := rfl
            rw [show ((k + 1 : Nat) : Int) = (k : Int) + 1 by omega, show ((t + 1 : Nat) : Int) = (t : Int) + 1 by omega] at E
            obtain ⟨d, hd⟩ : ∃ d, Nat.gcd (k + 1) (t + 1) = d := ⟨_, rfl⟩
            rw [hd] at E hs2
            replace E := Lib.hid E
            by_cases h1 : d = 1
            · subst h1
              rw [oneIf_one] at hs2
              have HS2 := Lib.hid hs2
              clear hd hs2
              go_wp2_with fail
              refine (E.out).mono ?_
              rintro e w2 ⟨rfl, rfl⟩
              go_wp2
              go_roundg (k + 1 - (t + 1))
              case measure => omega
              case rel => exact ⟨t + 1, by omega, rfl, by go_num, by rw [HS2.out]; go_num, rfl⟩
            · rw [oneIf_no h1] at hs2
              have HS2 := Lib.hid hs2
              have hne : ((d : Int) == 1) = false := by simp; omega
              clear hd hs2
              go_wp2_with fail
              refine (E.out).mono ?_
              rintro e w2 ⟨rfl, rfl⟩
              go_wp2
              go_roundg (k + 1 - (t + 1))
              case measure => omega
              case rel => exact ⟨t + 1, by omega, rfl, by go_num, by rw [HS2.out]; rfl, rfl⟩
          · have htk : t = k + 1 := by omega
            subst htk
            obtain ⟨p, hpp⟩ : ∃ p, phK (k + 1) (k + 1) = p := ⟨_, rfl⟩
            rw [hpp] at hp b2 ⊢
            have hmul : wrap64 ((q : Int) * (p : Int)) = ((q * p : Nat) : Int) := by
              rw [show (q : Int) * (p : Int) = ((q * p : Nat) : Int) by rw [Int.natCast_mul]]
              unfold wrap64; omega
            have HM := Lib.hid (show wrap64 ((q : Int) * (p : Int)) = ((dvK (k + 1) : Nat) : Int) by rw [HST.out, hpp]; exact hmul)
            have HM2 := Lib.hid (show (q : Int) * (p : Int) = ((dvK (k + 1) : Nat) : Int) by rw [HST.out, hpp, Int.natCast_mul])
            clear hpp hmul
            go_wp2
            go_roundg (m - (k + 1))
            case measure => omega
            case rel => exact ⟨k + 1, by omega, rfl, by go_num, by first | rw [HM.out] | rw [HM2.out], rfl⟩
      · have : k = m := by omega
        subst this
        go_wp2
        go_ret2
        exact ⟨rfl, rfl⟩

end Go.Proofs.Ytkahgpgnfodpgaa
end

section
namespace Go.Proofs.Ytkahgpgnfodpgaa
open Go.RowKit Go.Deep

def onB (n a b : Int) : Bool := inB n 1 6 && (inB a (-30) 30 && inB b (-30) 30)
theorem onB_of {n a b : Int} (h : onB n a b = true) : (1 ≤ n ∧ n ≤ 6) ∧ (-30 ≤ a ∧ a ≤ 30) ∧ (-30 ≤ b ∧ b ≤ 30) := by
  simp only [onB, Bool.and_eq_true, inB, decide_eq_true_eq] at h
  exact ⟨h.1, h.2.1, h.2.2⟩
def onV (n a b : Int) : Int := (a - b) ^ (n.toNat - 1) * (a + (n - 1) * b)
theorem pw_pow (p : Int) : ∀ n, pw p n = p ^ n
  | 0 => by rw [Int.pow_zero]; rfl
  | n + 1 => by rw [show pw p (n + 1) = p * pw p n from rfl, pw_pow p n, Int.pow_succ, Int.mul_comm]

set_option maxHeartbeats 1000000 in
theorem isToldByOnes_any (n a b : Int) (w : World) :
    Calls Try.prog 78 #[.int .i64 n, .int .i64 a, .int .i64 b] w fun e w' => e = .returned (.bool (onB n a b)) ∧ w = w' := by
  have E1 := isSide_any n w
  unfold onB
  cases h1 : inB n 1 6 with
  | false =>
    rw [h1] at E1
    replace E1 := Lib.hid E1
    clear h1
    go_enter Try.func78, Try.ntmps78
    go_wp2_with fail
    refine (E1.out).mono ?_
    rintro e w' ⟨rfl, rfl⟩
    go_wp2
    go_ret
    exact ⟨rfl, rfl⟩
  | true =>
    rw [h1] at E1
    replace E1 := Lib.hid E1
    cases h2 : inB a (-30) 30 with
    | false =>
      have E2 := Lib.hid (isEntry_at a false w h2)
      clear h1 h2
      go_enter Try.func78, Try.ntmps78
      go_wp2_with fail
      refine (E1.out).mono ?_
      rintro e w' ⟨rfl, rfl⟩
      go_wp2_with fail
      refine (E2.out).mono ?_
      rintro e w' ⟨rfl, rfl⟩
      go_wp2
      go_ret
      exact ⟨rfl, rfl⟩
    | true =>
      have E2 := Lib.hid (isEntry_at a true w h2)
      obtain ⟨c, h3⟩ : ∃ c, inB b (-30) 30 = c := ⟨_, rfl⟩
      have E3 := Lib.hid (isEntry_at b c w h3)
      rw [h3]
      clear h1 h2 h3
      go_enter Try.func78, Try.ntmps78
      go_wp2_with fail
      refine (E1.out).mono ?_
      rintro e w' ⟨rfl, rfl⟩
      go_wp2_with fail
      refine (E2.out).mono ?_
      rintro e w' ⟨rfl, rfl⟩
      go_wp2_with fail
      refine (E3.out).mono ?_
      rintro e w' ⟨rfl, rfl⟩
      go_wp2
      go_ret
      exact ⟨by cases c <;> rfl, rfl⟩

theorem on_bd {a b : Int} (ha : -30 ≤ a ∧ a ≤ 30) (hb : -30 ≤ b ∧ b ≤ 30) (m : Nat) (h1 : 1 ≤ m) (h6 : m ≤ 6) : -180 ≤ a + ((m : Int) - 1) * b ∧ a + ((m : Int) - 1) * b ≤ 180 ∧ -150 ≤ ((m : Int) - 1) * b ∧ ((m : Int) - 1) * b ≤ 150 := by
  have h : m = 1 ∨ m = 2 ∨ m = 3 ∨ m = 4 ∨ m = 5 ∨ m = 6 := by omega
  rcases h with rfl | rfl | rfl | rfl | rfl | rfl <;> omega
theorem on_bd2 {p s : Int} (hp : -777600000 ≤ p ∧ p ≤ 777600000) (hs : -180 ≤ s ∧ s ≤ 180) : -139968000000 ≤ p * s ∧ p * s ≤ 139968000000 := by
  have h1 : (777600000 + p) * (180 - s) ≥ 0 := Int.mul_nonneg (by omega) (by omega)
  have h2 : (777600000 + p) * (180 + s) ≥ 0 := Int.mul_nonneg (by omega) (by omega)
  have h3 : (777600000 - p) * (180 + s) ≥ 0 := Int.mul_nonneg (by omega) (by omega)
  have h4 : (777600000 - p) * (180 - s) ≥ 0 := Int.mul_nonneg (by omega) (by omega)
  simp only [Int.add_mul, Int.sub_mul, Int.mul_add, Int.mul_sub] at h1 h2 h3 h4
  omega

set_option maxHeartbeats 1000000 in
theorem implKnownOnesValue_any (n a b : Int) (w : World) :
    Calls Try.prog 27 #[.int .i64 n, .int .i64 a, .int .i64 b] w fun e w' => e = .returned (.tuple #[.int .i64 (if onB n a b = true then onV n a b else 0), .bool (onB n a b)]) ∧ w = w' := by
  have E1 := isToldByOnes_any n a b w
  cases hok : onB n a b with
  | false =>
    rw [hok] at E1
    replace E1 := Lib.hid E1
    clear hok
    go_enter Try.func27, Try.ntmps27
    go_wp2_with fail
    refine (E1.out).mono ?_
    rintro e w' ⟨rfl, rfl⟩
    go_wp2
    go_ret2
    exact ⟨rfl, rfl⟩
  | true =>
    rw [hok] at E1
    replace E1 := Lib.hid E1
    obtain ⟨hn, ha, hb⟩ := onB_of hok
    clear hok
    obtain ⟨m, rfl⟩ := Int.eq_ofNat_of_zero_le (show 0 ≤ n by omega)
    unfold onV
    rw [Int.toNat_natCast]
    have hbd := on_bd ha hb m (by omega) (by omega)
    have hpb := pow_bd65 (y := a - b) (by omega) (t := m - 1) (by omega)
    have E2 := power_any (a - b) (m - 1) w (by omega) (by omega)
    rw [show ((m - 1 : Nat) : Int) = (m : Int) - 1 by omega] at E2
    have hq := on_bd2 hpb ⟨hbd.1, hbd.2.1⟩
    have h5 : 1 ≤ m ∧ m ≤ 6 := by omega
    obtain ⟨p, hp⟩ : ∃ p, (a - b) ^ (m - 1) = p := ⟨_, rfl⟩
    obtain ⟨u, hu⟩ : ∃ u, ((m : Int) - 1) * b = u := ⟨_, rfl⟩
    rw [hp] at E2 hpb hq ⊢
    rw [hu] at hbd hq ⊢
    have hw1 : wrap64 (((m : Int) - 1) * b) = u := by rw [hu]; unfold wrap64; omega
    obtain ⟨q, hqq⟩ : ∃ q, p * (a + u) = q := ⟨_, rfl⟩
    have hw2 : wrap64 (p * (a + u)) = q := by rw [hqq]; rw [hqq] at hq; unfold wrap64; omega
    rw [hqq] at hq ⊢
    replace E2 := Lib.hid E2
    clear hp hu hqq
    go_enter Try.func27, Try.ntmps27
    go_wp2_with fail
    refine (E1.out).mono ?_
    rintro e w' ⟨rfl, rfl⟩
    go_wp2_with fail
    refine (E2.out).mono ?_
    rintro e w' ⟨rfl, rfl⟩
    go_wp2
    go_ret2
    exact ⟨rfl, rfl⟩

set_option maxHeartbeats 2000000 in
theorem specKnownOnesValue_any (n a b : Int) (w : World) :
    Calls Try.prog 30 #[.int .i64 n, .int .i64 a, .int .i64 b] w fun e w' => e = .returned (.tuple #[.int .i64 (if onB n a b = true then onV n a b else 0), .bool (onB n a b)]) ∧ w = w' := by
  have E1 := l6In_any n 1 6 w
  have hsp : onB n a b = (inB n 1 6 && (inB a (-30) 30 && inB b (-30) 30)) := rfl
  cases h1 : inB n 1 6 with
  | false =>
    rw [h1, Bool.false_and] at hsp
    rw [hsp]
    rw [h1] at E1
    replace E1 := Lib.hid E1
    clear h1 hsp
    go_enter Try.func30, Try.ntmps30
    go_wp2_with fail
    refine (E1.out).mono ?_
    rintro e w' ⟨rfl, rfl⟩
    go_wp2
    go_ret2
    exact ⟨rfl, rfl⟩
  | true =>
    rw [h1] at E1
    replace E1 := Lib.hid E1
    have E2 := l6In_any a (-30) 30 w
    cases h2 : inB a (-30) 30 with
    | false =>
      rw [h1, h2, Bool.false_and, Bool.and_false] at hsp
      rw [hsp]
      rw [h2] at E2
      replace E2 := Lib.hid E2
      clear h1 h2 hsp
      go_enter Try.func30, Try.ntmps30
      go_wp2_with fail
      refine (E1.out).mono ?_
      rintro e w' ⟨rfl, rfl⟩
      go_wp2_with fail
      refine (E2.out).mono ?_
      rintro e w' ⟨rfl, rfl⟩
      go_wp2
      go_ret2
      exact ⟨rfl, rfl⟩
    | true =>
      rw [h2] at E2
      replace E2 := Lib.hid E2
      have E3 := l6In_any b (-30) 30 w
      cases h3 : inB b (-30) 30 with
      | false =>
        rw [h1, h2, h3, Bool.and_false, Bool.and_false] at hsp
        rw [hsp]
        rw [h3] at E3
        replace E3 := Lib.hid E3
        clear h1 h2 h3 hsp
        go_enter Try.func30, Try.ntmps30
        go_wp2_with fail
        refine (E1.out).mono ?_
        rintro e w' ⟨rfl, rfl⟩
        go_wp2_with fail
        refine (E2.out).mono ?_
        rintro e w' ⟨rfl, rfl⟩
        go_wp2_with fail
        refine (E3.out).mono ?_
        rintro e w' ⟨rfl, rfl⟩
        go_wp2
        go_ret2
        exact ⟨rfl, rfl⟩
      | true =>
        rw [h3] at E3
        replace E3 := Lib.hid E3
        rw [h1, h2, h3] at hsp
        obtain ⟨hn, ha, hb⟩ := onB_of (show onB n a b = true from hsp)
        rw [show onB n a b = true from hsp]
        clear h1 h2 h3 hsp
        obtain ⟨m, rfl⟩ := Int.eq_ofNat_of_zero_le (show 0 ≤ n by omega)
        unfold onV
        rw [Int.toNat_natCast]
        have hbd := on_bd ha hb m (by omega) (by omega)
        have HPB := Lib.hid (fun (t : Nat) (ht : t ≤ 5) => on_bd2 (pow_bd65 (y := a - b) (by omega) (t := t) ht) ⟨hbd.1, hbd.2.1⟩)
        have h5 : 1 ≤ m ∧ m ≤ 6 := by omega
        obtain ⟨u, hu⟩ : ∃ u, ((m : Int) - 1) * b = u := ⟨_, rfl⟩
        rw [hu] at hbd HPB ⊢
        have hw1 : wrap64 (((m : Int) - 1) * b) = u := by rw [hu]; unfold wrap64; omega
        obtain ⟨s, hss⟩ : ∃ s, a + u = s := ⟨_, rfl⟩
        rw [hss] at hbd HPB ⊢
        obtain ⟨d, hdd⟩ : ∃ d, a - b = d := ⟨_, rfl⟩
        rw [hdd] at HPB ⊢
        have HSS := Lib.hid hss
        have hd60 : -60 ≤ d ∧ d ≤ 60 := by omega
        clear hu hss
        go_enter Try.func30, Try.ntmps30
        go_wp2_with fail
        refine (E1.out).mono ?_
        rintro e w' ⟨rfl, rfl⟩
        go_wp2_with fail
        refine (E2.out).mono ?_
        rintro e w' ⟨rfl, rfl⟩
        go_wp2_with fail
        refine (E3.out).mono ?_
        rintro e w' ⟨rfl, rfl⟩
        go_wp2
        go_loopg [8, 9] m (fun g v i wr => ∃ t : Nat, t + 1 ≤ m ∧ g = m - t ∧ i = .int .i64 ((t : Int) + 1) ∧ v = .int .i64 (d ^ t * s) ∧ w = wr)
        case atStart => exact ⟨0, by omega, rfl, rfl, by rw [Int.pow_zero, Int.one_mul, HSS.out], rfl⟩
        case round =>
          obtain ⟨t, ht, rfl, rfl, rfl, rfl⟩ := hrel
          by_cases htm : t + 1 < m
          · have b1 := HPB.out t (by omega)
            have b2 := HPB.out (t + 1) (by omega)
            have hst : d ^ (t + 1) * s = d ^ t * s * d := by rw [Int.pow_succ, Int.mul_assoc, Int.mul_comm d s, Int.mul_assoc]
            obtain ⟨p, hp⟩ : ∃ p, d ^ t * s = p := ⟨_, rfl⟩
            obtain ⟨q, hq⟩ : ∃ q, d ^ (t + 1) * s = q := ⟨_, rfl⟩
            rw [hp] at b1 hst ⊢
            rw [hq] at b2 hst
            have hmul : wrap64 (p * d) = q := by rw [← hst]; unfold wrap64; omega
            have HQ := Lib.hid hq
            clear hp hq hst
            go_wp2
            go_roundg (m - (t + 1))
            case measure => omega
            case rel => exact ⟨t + 1, by omega, rfl, by go_num, by rw [HQ.out, hmul], rfl⟩
          · have : m = t + 1 := by omega
            subst this
            go_wp2
            go_ret2
            exact ⟨rfl, rfl⟩

end Go.Proofs.Ytkahgpgnfodpgaa
end

section
namespace Go.Proofs.Ytkahgpgnfodpgaa
open Go.RowKit Go.Deep

theorem told_cells {W : World} {b : Nat} {s g : Value} {t : TypeId} (h : W.heap[b]? = some (.cells #[s, g] t)) : W.cell? ⟨b, 0, none⟩ = some s ∧ W.cell? ⟨b, 1, none⟩ = some g := by
  simp [World.cell?, h]

set_option maxRecDepth 100000 in
set_option maxHeartbeats 2000000 in
theorem toldEntry_any (K : Nat) (caps : Array Value) (B b o n cap i k : Nat) (x v : Int) (W : World)
    (hb : W.heap[B]? = some (.cells #[.slice (some ⟨b, o, none⟩) n cap, .func (.func K) #[] caps] 57)) (hi : i < n) (hx : W.cell? ⟨b, o + i, none⟩ = some (.int .i64 x))
    (eg : ∀ args w, (callFunc K args).run Try.prog w = .ok (.enter K args) w)
    (hE : ∀ W', Drawn W W' → Calls Try.prog K (#[.int .i64 x, .int .i64 k] ++ caps) W' fun e w' => e = .returned (.int .i64 v) ∧ Drawn W' w') :
    Calls Try.prog 124 #[.int .i64 i, .int .i64 k, .pointer (some ⟨B, 0, none⟩)] W fun e w' => e = .returned (.int .i64 v) ∧ Drawn W w' := by
  obtain ⟨c0, c1⟩ := told_cells hb
  have hii : (i : Int) < (n : Int) := by omega
  have HE := Lib.hid hE
  clear hE hb
  go_enter Try.func124, Try.ntmps124
  go_wp2
  go_quiet ((refine Calls.quiet_of (HE.out _ ?_); exact Drawn.mk _ _))
  go_wp2
  go_ret
  exact ⟨rfl, Drawn.mk _ _⟩

set_option maxRecDepth 100000 in
set_option maxHeartbeats 2000000 in
theorem toldTable_any (K : Nat) (caps : Array Value) (b o n cap : Nat) (x : Nat → Int) (f : Nat → Nat → Int) (w : World) (hn : n ≤ 1000)
    (hx : ∀ i, i < n → w.cell? ⟨b, o + i, none⟩ = some (.int .i64 (x i)))
    (eg : ∀ args w, (callFunc K args).run Try.prog w = .ok (.enter K args) w)
    (hE : ∀ (W : World) (i k : Nat), w.Since w.heap.size W → i < n → k < n → Calls Try.prog K (#[.int .i64 (x i), .int .i64 k] ++ caps) W fun e w' => e = .returned (.int .i64 (f i k)) ∧ Drawn W w') :
    Calls Try.prog 108 #[.agg #[.slice (some ⟨b, o, none⟩) n cap, .func (.func K) #[] caps]] w fun e w' => ∃ G, e = .returned (.slice (some ⟨G, 0, none⟩) n n) ∧ w.Since w.heap.size w' ∧ OwnT w.heap.size w'.heap.size w' (some ⟨G, 0, none⟩) (tabF n n f) := by
  obtain ⟨w1, hw1⟩ : ∃ w1, w.alloc (.cells #[.slice (some ⟨b, o, none⟩) n cap, .func (.func K) #[] caps] 57) = w1 := ⟨_, rfl⟩
  have hb1 : w1.heap[w.heap.size]? = some (.cells #[.slice (some ⟨b, o, none⟩) n cap, .func (.func K) #[] caps] 57) := by rw [← hw1]; exact World.alloc_heap_new w _
  have hs1 : w.Since w.heap.size w1 := by rw [← hw1]; exact (World.Since.refl _ _).alloc (Nat.le_refl _) _
  have hz1 : w1.heap.size = w.heap.size + 1 := by rw [← hw1]; simp
  have E := newTable_any 124 #[.pointer (some ⟨w.heap.size, 0, none⟩)] n n f w1 hn hn (enters_of Try.func124 (by kernel_rfl) rfl)
    (fun W i k hs hi hk => (toldEntry_any K caps w.heap.size b o n cap i k (x i) (f i k) W ((hs.block _ (by omega)).trans hb1) hi (((hs1.trans (since_mono hs hs1.size)).cell (a := ⟨b, o + i, none⟩) (World.block_lt_of_cell? _ _ (hx i hi))).trans (hx i hi)) eg
      (fun W' hd => hE W' i k ((hs1.trans (since_mono hs hs1.size)).trans (hd.since _)) hi hk)).mono fun _ _ h => ⟨h.1, h.2.since _⟩)
  replace E := Lib.hid E
  have c0 := (told_cells hb1).1
  clear hE hx
  go_enter Try.func108, Try.ntmps108
  go_wp2_with fail
  refine (E.out).mono ?_
  rintro e w' ⟨rfl, hs, ho⟩
  go_wp2
  go_ret
  rw [hz1] at ho
  exact ⟨_, rfl, hs1.trans (since_mono hs hs1.size), ho.mono (by omega) (Nat.le_refl _)⟩

set_option maxRecDepth 100000 in
set_option maxHeartbeats 2000000 in
theorem toldResult_any (K : Nat) (caps : Array Value) (b o n cap : Nat) (x : Nat → Int) (f : Nat → Nat → Int) (w : World) (hn : n ≤ 1000)
    (hx : ∀ i, i < n → w.cell? ⟨b, o + i, none⟩ = some (.int .i64 (x i)))
    (eg : ∀ args w, (callFunc K args).run Try.prog w = .ok (.enter K args) w)
    (hE : ∀ (W : World) (i k : Nat), w.Since w.heap.size W → i < n → k < n → Calls Try.prog K (#[.int .i64 (x i), .int .i64 k] ++ caps) W fun e w' => e = .returned (.int .i64 (f i k)) ∧ Drawn W w') :
    Calls Try.prog 66 #[.agg #[.slice (some ⟨b, o, none⟩) n cap, .func (.func K) #[] caps]] w (ImplT w (tabIn (tabF n n f)) (tabF n n f)) := by
  obtain ⟨w1, hw1⟩ : ∃ w1, w.alloc (.cells #[.slice (some ⟨b, o, none⟩) n cap, .func (.func K) #[] caps] 57) = w1 := ⟨_, rfl⟩
  have hs1 : w.Since w.heap.size w1 := by rw [← hw1]; exact (World.Since.refl _ _).alloc (Nat.le_refl _) _
  have hz1 : w1.heap.size = w.heap.size + 1 := by rw [← hw1]; simp
  have hb1 : w1.heap[w.heap.size]? = some (.cells #[.slice (some ⟨b, o, none⟩) n cap, .func (.func K) #[] caps] 57) := by rw [← hw1]; exact World.alloc_heap_new w _
  obtain ⟨c0, c1⟩ := told_cells hb1
  have E := Lib.hid (toldTable_any K caps b o n cap x f w1 hn (fun i hi => (hs1.cell (a := ⟨b, o + i, none⟩) (World.block_lt_of_cell? _ _ (hx i hi))).trans (hx i hi)) eg
    (fun W i k hs hi hk => hE W i k (hs1.trans (since_mono hs hs1.size)) hi hk))
  have HT := Lib.hid (tabF_length n n f)
  have HSZ := Lib.hid (szL_tabF n n f hn hn)
  obtain ⟨T, hT⟩ : ∃ T, tabF n n f = T := ⟨_, rfl⟩
  rw [hT] at E HT HSZ ⊢
  clear hE hx hT hb1
  go_enter Try.func66, Try.ntmps66
  go_wp2_with fail
  refine (E.out).mono ?_
  rintro e w2 ⟨G, rfl, hs2, ho2⟩
  have hs12 := hs1.trans (since_mono hs2 hs1.size)
  have HS := Lib.hid hs12
  have HO := Lib.hid ho2
  clear hs2 ho2 hs12 E
  go_wp2_with fail
  refine (result_any _ _ _ _ _ T w2 HT.out HSZ.out HO.out).mono ?_
  rintro e w3 ⟨a, cap', rfl, hs3, ho3⟩
  go_wp2
  go_ret2
  exact ⟨a, cap', rfl, HS.out.trans (since_mono hs3 HS.out.size), ho3.mono (by omega) hs3.size⟩

end Go.Proofs.Ytkahgpgnfodpgaa
end

section
namespace Go.Proofs.Ytkahgpgnfodpgaa
open Go.RowKit Go.Deep

structure PL (w wr : World) (n c : Nat) : Prop where
  since : w.Since w.heap.size wr
  row : wr.rowIs (w.heap.size + 1) 3 n (fun k => if k < c then .int .i64 k else .int .i64 0)
  res : ∃ u v, wr.heap[w.heap.size]? = some (.cells #[u, v] 57)

set_option maxRecDepth 100000 in
set_option maxHeartbeats 2000000 in
theorem toldByPlaces_any (n K : Nat) (caps : Array Value) (w : World) (hn : n ≤ 1000) :
    Calls Try.prog 79 #[.int .i64 n, .func (.func K) #[] caps] w fun e w' => ∃ b, e = .returned (.agg #[.slice (some ⟨b, 0, none⟩) n n, .func (.func K) #[] caps]) ∧ w.Since w.heap.size w' ∧ ∀ i, i < n → w'.cell? ⟨b, 0 + i, none⟩ = some (.int .i64 i) := by
  have hmk := run_make_row' (P := Try.prog) 23 3 (.int .i64 0) 8 Try.underlying23 Try.info3 rfl .i64 .i64 n (by omega) (by omega)
  go_enter Try.func79, Try.ntmps79
  go_wp2
  have hst : PL w ((w.alloc (.cells #[.slice none 0 0, Value.nilFunc] 57)).alloc (.cells (madeCells #[.int .i64 0] n) 3)) n 0 := by
    have r := World.rowIs_made (w.alloc (.cells #[.slice none 0 0, Value.nilFunc] 57)) (.int .i64 0) n 3
    simp only [World.size_alloc] at r
    exact ⟨((World.Since.refl _ w).alloc (Nat.le_refl _) _).alloc (by simp) _, r.congr (fun k _ => by simp), ⟨_, _, (Below.heap_alloc _ _ _ (by simp)).trans (World.alloc_heap_new w _)⟩⟩
  have HST := Lib.hid hst
  clear hst hmk
  go_loopg [6, 11] n (fun g _ i wr => ∃ c : Nat, c ≤ n ∧ g = n - c ∧ i = .int .i64 c ∧ PL w wr n c)
  case atStart => exact ⟨0, Nat.zero_le _, rfl, rfl, HST.out⟩
  case round =>
    obtain ⟨c, hc, rfl, rfl, hR⟩ := hrel
    clear HST
    by_cases hlt : c < n
    · have hc1 := hR.row.cell (i := c) hlt
      have hf1 := hR.row.frozen c
      simp only [Nat.lt_irrefl, if_false] at hc1
      have hP : PL w (wr.setCell ⟨w.heap.size + 1, c, none⟩ (.int .i64 c)) n (c + 1) := by
        obtain ⟨u, v, hr⟩ := hR.res
        refine ⟨hR.since.setCell (by show w.heap.size ≤ w.heap.size + 1; omega) _, (hR.row.set c _).congr (fun k _ => ?_), ⟨u, v, ?_⟩⟩
        · by_cases e : k = c
          · subst e; simp
          · rw [if_neg e]
            by_cases h : k < c
            · rw [if_pos h, if_pos (by omega)]
            · rw [if_neg h, if_neg (by omega)]
        · rw [Below.heap_setCell _ _ _ _ (by show w.heap.size ≠ w.heap.size + 1; omega)]; exact hr
      have HP := Lib.hid hP
      clear hR hP
      go_wp2
      go_roundg (n - (c + 1))
      case measure => omega
      case rel => exact ⟨c + 1, by omega, rfl, by go_num, HP.out⟩
    · have hcc : c = n := by omega
      subst hcc
      obtain ⟨u, v, hr⟩ := hR.res
      obtain ⟨c0, c1⟩ := told_cells hr
      have f0 : wr.frozen? ⟨w.heap.size, 0, none⟩ = false := by simp [World.frozen?, hr]
      have f1 : wr.frozen? ⟨w.heap.size, 1, none⟩ = false := by simp [World.frozen?, hr]
      obtain ⟨S, hS⟩ : ∃ S : Value, S = .slice (some ⟨w.heap.size + 1, 0, none⟩) c c := ⟨_, rfl⟩
      obtain ⟨F, hF⟩ : ∃ F : Value, F = .func (.func K) #[] caps := ⟨_, rfl⟩
      have d0 : (wr.setCell ⟨w.heap.size, 0, none⟩ S).cell? ⟨w.heap.size, 0, none⟩ = some S := World.cell?_setCell_same' _ _ _ (by rw [c0]; rfl)
      have d1 : (wr.setCell ⟨w.heap.size, 0, none⟩ S).cell? ⟨w.heap.size, 1, none⟩ = some v := by rw [World.cell?_setCell_other _ _ _ _ (fun e => by injection e with _ e2; omega)]; exact c1
      have g1 : (wr.setCell ⟨w.heap.size, 0, none⟩ S).frozen? ⟨w.heap.size, 1, none⟩ = false := by rw [World.frozen?_setCell]; exact f1
      have e0 : ((wr.setCell ⟨w.heap.size, 0, none⟩ S).setCell ⟨w.heap.size, 1, none⟩ F).cell? ⟨w.heap.size, 0, none⟩ = some S := by rw [World.cell?_setCell_other _ _ _ _ (fun e => by injection e with _ e2; omega)]; exact d0
      have e1 : ((wr.setCell ⟨w.heap.size, 0, none⟩ S).setCell ⟨w.heap.size, 1, none⟩ F).cell? ⟨w.heap.size, 1, none⟩ = some F := World.cell?_setCell_same' _ _ _ (by rw [d1]; rfl)
      have hs2 : w.Since w.heap.size ((wr.setCell ⟨w.heap.size, 0, none⟩ S).setCell ⟨w.heap.size, 1, none⟩ F) := (hR.since.setCell (Nat.le_refl _) _).setCell (Nat.le_refl _) _
      have hrow2 : ((wr.setCell ⟨w.heap.size, 0, none⟩ S).setCell ⟨w.heap.size, 1, none⟩ F).rowIs (w.heap.size + 1) 3 c (fun k => if k < c then .int .i64 k else .int .i64 0) := (hR.row.setOther (by show w.heap.size + 1 ≠ w.heap.size; omega) _).setOther (by show w.heap.size + 1 ≠ w.heap.size; omega) _
      have HS2 := Lib.hid hs2
      have HROW := Lib.hid hrow2
      rw [hS] at d0 d1 g1 e0 e1 HS2 HROW
      rw [hF] at e0 e1 HS2 HROW
      clear hS hF hs2 hrow2 hR hr
      go_wp2
      refine bodyPost_ret (v := .agg #[.slice (some ⟨w.heap.size + 1, 0, none⟩) c c, .func (.func K) #[] caps]) ?_ rfl ⟨w.heap.size + 1, rfl, HS2.out, fun i hi => ?_⟩
      · simp [results, Try.f79, go_sem, e0, e1]
      · have := HROW.out.cell (i := i) hi
        rw [if_pos hi] at this
        rw [Nat.zero_add]
        exact this

end Go.Proofs.Ytkahgpgnfodpgaa
end

section
namespace Go.Proofs.Ytkahgpgnfodpgaa
open Go.RowKit Go.Deep

set_option maxRecDepth 100000 in
set_option maxHeartbeats 2000000 in
theorem implKnownPowers_any (a : Option Addr) (cap m : Nat) (x : List Int) (w : World) (hn : x.length = m) (h6 : m ≤ 1048576) (hm : RowR w a x) :
    Calls Try.prog 16 #[.slice a m cap] w (ImplT w (l8B x 30 && tabIn (pwTo x m m)) (pwTo x m m)) := by
  have E1 := isSide_any m w
  have E2 := entriesIn_any a cap m x w hn h6 hm
  rw [← numsIn_rng] at E2
  have hsp := l8B_split x 30
  rw [hn] at hsp
  cases h1 : inB (m : Int) 1 6 with
  | false =>
    rw [h1, Bool.and_false] at hsp
    rw [hsp, Bool.false_and]
    rw [h1] at E1
    replace E1 := Lib.hid E1
    clear E2 hm hn h1 hsp
    go_enter Try.func16, Try.ntmps16
    go_wp2_with fail
    refine (E1.out).mono ?_
    rintro e w' ⟨rfl, rfl⟩
    go_wp2
    go_ret2
    exact ⟨_, _, rfl, World.Since.refl _ _, OwnT.nil _ _ _ _⟩
  | true =>
    rw [h1] at E1
    replace E1 := Lib.hid E1
    have h16 := of_decide_eq_true h1
    cases h2 : rngB x (-30) 30 with
    | false =>
      rw [h1, h2] at hsp
      rw [hsp]
      rw [h2] at E2
      replace E2 := Lib.hid E2
      clear hm hn h1 h2 hsp
      go_enter Try.func16, Try.ntmps16
      go_wp2_with fail
      refine (E1.out).mono ?_
      rintro e w' ⟨rfl, rfl⟩
      go_wp2_with fail
      refine (E2.out).mono ?_
      rintro e w' ⟨rfl, rfl⟩
      go_wp2
      go_ret2
      exact ⟨_, _, rfl, World.Since.refl _ _, OwnT.nil _ _ _ _⟩
    | true =>
      rw [h1, h2] at hsp
      rw [hsp]
      rw [h2] at E2
      replace E2 := Lib.hid E2
      have hx := rngB_of h2
      rw [hn] at hx
      obtain ⟨b, o, rfl, hc⟩ := hm (by omega)
      have E3 := Lib.hid (toldResult_any 65 #[] b o m cap (fun i => x.getD i 0) (fun i k => (x.getD i 0) ^ k) w (by omega) (fun i hi => hc i (by omega)) (enters_of Try.func65 (by kernel_rfl) rfl)
        (fun W i k _ hi hk => by
          have hb := hx i hi
          simp only [inB, decide_eq_true_eq] at hb
          exact (power_any (x.getD i 0) k W (by omega) (by omega)).mono fun _ _ h => ⟨h.1, h.2 ▸ Drawn.refl _⟩))
      rw [show tabF m m (fun i k => (x.getD i 0) ^ k) = pwTo x m m from rfl] at E3
      rw [Bool.and_self, Bool.true_and]
      obtain ⟨T, hT⟩ : ∃ T, pwTo x m m = T := ⟨_, rfl⟩
      rw [hT] at E3 ⊢
      clear hc hn h1 h2 hsp hx hT
      go_enter Try.func16, Try.ntmps16
      go_wp2_with fail
      refine (E1.out).mono ?_
      rintro e w' ⟨rfl, rfl⟩
      go_wp2_with fail
      refine (E2.out).mono ?_
      rintro e w' ⟨rfl, rfl⟩
      go_wp2_with fail
      refine (E3.out).mono ?_
      rintro e w' ⟨a', c', rfl, hs, ho⟩
      go_wp2
      go_ret2
      exact ⟨a', c', rfl, hs, ho⟩

def gcL (n : Nat) : List (List Int) := tabF n n fun i k => (Nat.gcd (i + 1) (k + 1) : Nat)
def mnL (n : Nat) : List (List Int) := tabF n n fun i k => (min i k : Nat) + 1
theorem tabIn_sq {m : Nat} {f : Nat → Nat → Int} (h1 : 1 ≤ m) (h6 : m ≤ 6) (hf : ∀ i k, i < m → k < m → -30 ≤ f i k ∧ f i k ≤ 30) : tabIn (tabF m m f) = true := by
  refine tabIn_true ⟨by rw [tabF_length]; exact h1, by rw [tabF_length]; exact h6, fun r hr => ?_⟩
  rw [tabF_length] at hr
  refine ⟨by rw [tabF_len _ _ _ _ hr, tabF_len _ _ _ _ (by omega)], by rw [tabF_len _ _ _ _ hr]; exact h1, by rw [tabF_len _ _ _ _ hr]; exact h6, fun k hk => ?_⟩
  rw [tabF_len _ _ _ _ hr] at hk
  rw [tabF_at _ _ _ _ _ hr hk]
  exact hf r k hr hk
theorem gcL_in {m : Nat} (h1 : 1 ≤ m) (h6 : m ≤ 6) : tabIn (gcL m) = true := tabIn_sq h1 h6 fun i k hi _ => by
  have := Nat.gcd_le_left (k + 1) (show 0 < i + 1 by omega)
  omega
theorem mnL_in {m : Nat} (h1 : 1 ≤ m) (h6 : m ≤ 6) : tabIn (mnL m) = true := tabIn_sq h1 h6 fun i k hi _ => by omega

set_option maxHeartbeats 1000000 in
theorem divEntry_any (i k : Nat) (W : World) (hi : i ≤ 100) (hk : k ≤ 100) :
    Calls Try.prog 85 #[.int .i64 i, .int .i64 k] W fun e w' => e = .returned (.int .i64 (Nat.gcd (i + 1) (k + 1) : Nat)) ∧ Drawn W w' := by
  have E := commonDivisor_dr (i + 1) (k + 1) W (by omega) (by omega)
  rw [show ((i + 1 : Nat) : Int) = (i : Int) + 1 by omega, show ((k + 1 : Nat) : Int) = (k : Int) + 1 by omega] at E
  obtain ⟨d, hd⟩ : ∃ d, Nat.gcd (i + 1) (k + 1) = d := ⟨_, rfl⟩
  rw [hd] at E ⊢
  replace E := Lib.hid E
  clear hd
  go_enter Try.func85, Try.ntmps85
  go_wp2_with fail
  refine (E.out).mono ?_
  rintro e w' ⟨rfl, hd⟩
  go_wp2
  go_ret
  exact ⟨rfl, hd⟩

set_option maxHeartbeats 1000000 in
theorem leastEntry_any (i k : Nat) (W : World) (hi : i ≤ 100) (hk : k ≤ 100) :
    Calls Try.prog 89 #[.int .i64 i, .int .i64 k] W fun e w' => e = .returned (.int .i64 ((min i k : Nat) + 1)) ∧ Drawn W w' := by
  go_enter Try.func89, Try.ntmps89
  go_wp2
  all_goals
    go_ret
    exact ⟨ret_int (by omega), Drawn.refl _⟩

set_option maxRecDepth 100000 in
set_option maxHeartbeats 2000000 in
theorem implKnownDivisors_any (n : Int) (w : World) :
    Calls Try.prog 32 #[.int .i64 n] w (ImplT w (inB n 1 6) (gcL n.toNat)) := by
  have E := isSide_any n w
  cases hin : inB n 1 6 with
  | false =>
    rw [hin] at E
    replace E := Lib.hid E
    clear hin
    go_enter Try.func32, Try.ntmps32
    go_wp2_with fail
    refine (E.out).mono ?_
    rintro e w' ⟨rfl, rfl⟩
    go_wp2
    go_ret2
    exact ⟨_, _, rfl, World.Since.refl _ _, OwnT.nil _ _ _ _⟩
  | true =>
    rw [hin] at E
    replace E := Lib.hid E
    have h6 := of_decide_eq_true hin
    obtain ⟨m, rfl⟩ := Int.eq_ofNat_of_zero_le (show 0 ≤ n by omega)
    clear hin
    rw [Int.toNat_natCast]
    have E2 := Lib.hid (toldByPlaces_any m 85 #[] w (by omega))
    have HT := Lib.hid (gcL_in (m := m) (by omega) (by omega))
    have E3 := Lib.hid (fun (W : World) (b : Nat) (hc : ∀ i, i < m → W.cell? ⟨b, 0 + i, none⟩ = some (.int .i64 i)) => toldResult_any 85 #[] b 0 m m (fun i => (i : Int)) (fun i k => (Nat.gcd (i + 1) (k + 1) : Nat)) W (by omega) hc (enters_of Try.func85 (by kernel_rfl) rfl)
      (fun W i k _ hi hk => divEntry_any i k W (by omega) (by omega)))
    have hL : tabF m m (fun i k => (Nat.gcd (i + 1) (k + 1) : Nat)) = gcL m := rfl
    simp only [hL, HT.out] at E3
    clear hL
    obtain ⟨T, hT⟩ : ∃ T, gcL m = T := ⟨_, rfl⟩
    rw [hT] at E3 ⊢
    clear hT HT
    go_enter Try.func32, Try.ntmps32
    go_wp2_with fail
    refine (E.out).mono ?_
    rintro e w' ⟨rfl, rfl⟩
    go_wp2_with fail
    refine (E2.out).mono ?_
    rintro e w1 ⟨b, rfl, hs1, hc1⟩
    have HS1 := Lib.hid hs1
    have HC1 := Lib.hid hc1
    clear hs1 hc1
    have hs2 : w1.Since w1.heap.size (w1.alloc (.cells #[.slice (some ⟨b, 0, none⟩) m m, .func (.func 85) #[] #[]] 57)) := (World.Since.refl _ _).alloc (Nat.le_refl _) _
    have HS2 := Lib.hid (HS1.out.trans (since_mono hs2 HS1.out.size))
    have HC2 := Lib.hid (fun i hi => (hs2.cell (a := ⟨b, 0 + i, none⟩) (World.block_lt_of_cell? _ _ (HC1.out i hi))).trans (HC1.out i hi))
    clear hs2
    go_wp2_with fail
    refine (E3.out _ b HC2.out).mono ?_
    rintro e w3 ⟨a', c', rfl, hs3, ho3⟩
    go_wp2
    go_ret2
    exact ⟨a', c', rfl, HS2.out.trans (since_mono hs3 HS2.out.size), ho3.mono HS2.out.size (Nat.le_refl _)⟩

set_option maxRecDepth 100000 in
set_option maxHeartbeats 2000000 in
theorem implKnownLeast_any (n : Int) (w : World) :
    Calls Try.prog 38 #[.int .i64 n] w (ImplT w (inB n 1 6) (mnL n.toNat)) := by
  have E := isSide_any n w
  cases hin : inB n 1 6 with
  | false =>
    rw [hin] at E
    replace E := Lib.hid E
    clear hin
    go_enter Try.func38, Try.ntmps38
    go_wp2_with fail
    refine (E.out).mono ?_
    rintro e w' ⟨rfl, rfl⟩
    go_wp2
    go_ret2
    exact ⟨_, _, rfl, World.Since.refl _ _, OwnT.nil _ _ _ _⟩
  | true =>
    rw [hin] at E
    replace E := Lib.hid E
    have h6 := of_decide_eq_true hin
    obtain ⟨m, rfl⟩ := Int.eq_ofNat_of_zero_le (show 0 ≤ n by omega)
    clear hin
    rw [Int.toNat_natCast]
    have E2 := Lib.hid (toldByPlaces_any m 89 #[] w (by omega))
    have HT := Lib.hid (mnL_in (m := m) (by omega) (by omega))
    have E3 := Lib.hid (fun (W : World) (b : Nat) (hc : ∀ i, i < m → W.cell? ⟨b, 0 + i, none⟩ = some (.int .i64 i)) => toldResult_any 89 #[] b 0 m m (fun i => (i : Int)) (fun i k => ((min i k : Nat) : Int) + 1) W (by omega) hc (enters_of Try.func89 (by kernel_rfl) rfl)
      (fun W i k _ hi hk => leastEntry_any i k W (by omega) (by omega)))
    have hL : tabF m m (fun i k => ((min i k : Nat) : Int) + 1) = mnL m := rfl
    simp only [hL, HT.out] at E3
    clear hL
    obtain ⟨T, hT⟩ : ∃ T, mnL m = T := ⟨_, rfl⟩
    rw [hT] at E3 ⊢
    clear hT HT
    go_enter Try.func38, Try.ntmps38
    go_wp2_with fail
    refine (E.out).mono ?_
    rintro e w' ⟨rfl, rfl⟩
    go_wp2_with fail
    refine (E2.out).mono ?_
    rintro e w1 ⟨b, rfl, hs1, hc1⟩
    have HS1 := Lib.hid hs1
    have HC1 := Lib.hid hc1
    clear hs1 hc1
    have hs2 : w1.Since w1.heap.size (w1.alloc (.cells #[.slice (some ⟨b, 0, none⟩) m m, .func (.func 89) #[] #[]] 57)) := (World.Since.refl _ _).alloc (Nat.le_refl _) _
    have HS2 := Lib.hid (HS1.out.trans (since_mono hs2 HS1.out.size))
    have HC2 := Lib.hid (fun i hi => (hs2.cell (a := ⟨b, 0 + i, none⟩) (World.block_lt_of_cell? _ _ (HC1.out i hi))).trans (HC1.out i hi))
    clear hs2
    go_wp2_with fail
    refine (E3.out _ b HC2.out).mono ?_
    rintro e w3 ⟨a', c', rfl, hs3, ho3⟩
    go_wp2
    go_ret2
    exact ⟨a', c', rfl, HS2.out.trans (since_mono hs3 HS2.out.size), ho3.mono HS2.out.size (Nat.le_refl _)⟩

def onL (n : Nat) (a b : Int) : List (List Int) := tabF n n (onF a b)
theorem onL_in {m : Nat} {a b : Int} (h1 : 1 ≤ m) (h6 : m ≤ 6) (ha : -30 ≤ a ∧ a ≤ 30) (hb : -30 ≤ b ∧ b ≤ 30) : tabIn (onL m a b) = true := tabIn_sq h1 h6 fun i k _ _ => by unfold onF; split <;> omega

set_option maxHeartbeats 1000000 in
theorem onesEntry_any (i k A B : Nat) (a b : Int) (W : World) (hA : W.cell? ⟨A, 0, none⟩ = some (.int .i64 a)) (hB : W.cell? ⟨B, 0, none⟩ = some (.int .i64 b)) :
    Calls Try.prog 80 #[.int .i64 i, .int .i64 k, .pointer (some ⟨A, 0, none⟩), .pointer (some ⟨B, 0, none⟩)] W fun e w' => e = .returned (.int .i64 (onF a b i k)) ∧ Drawn W w' := by
  unfold onF
  by_cases h : i = k
  · subst h
    rw [if_pos rfl]
    go_enter Try.func80, Try.ntmps80
    go_wp2
    go_ret
    exact ⟨rfl, Drawn.refl _⟩
  · have hne : ((i : Int) == (k : Int)) = false := by simp; omega
    rw [if_neg h]
    go_enter Try.func80, Try.ntmps80
    go_wp2
    go_ret
    exact ⟨rfl, Drawn.refl _⟩

set_option maxRecDepth 100000 in
set_option maxHeartbeats 2000000 in
theorem implKnownOnes_any (n a b : Int) (w : World) :
    Calls Try.prog 25 #[.int .i64 n, .int .i64 a, .int .i64 b] w (ImplT w (onB n a b) (onL n.toNat a b)) := by
  obtain ⟨w0, hw0⟩ : ∃ w0, (w.alloc (.cells #[.int .i64 a] 3)).alloc (.cells #[.int .i64 b] 3) = w0 := ⟨_, rfl⟩
  have s0 : w.Since w.heap.size w0 := by rw [← hw0]; exact ((World.Since.refl _ w).alloc (Nat.le_refl _) _).alloc (by simp) _
  have b1 := Boxed.new (w.alloc (.cells #[.int .i64 a] 3)) 3 (.int .i64 b)
  have b0 := (Boxed.new w 3 (.int .i64 a)).alloc (.cells #[.int .i64 b] 3)
  simp only [World.size_alloc] at b1
  have z0 : w0.heap.size = w.heap.size + 2 := by rw [← hw0]; simp
  rw [hw0] at b0 b1
  have e0 := b0.cell
  have e1 := b1.cell
  have E := isToldByOnes_any n a b w0
  cases hok : onB n a b with
  | false =>
    rw [hok] at E
    replace E := Lib.hid E
    have S0 := Lib.hid s0
    clear hok s0
    go_enter Try.func25, Try.ntmps25
    go_wp2_with fail
    refine (E.out).mono ?_
    rintro e w' ⟨rfl, rfl⟩
    go_wp2
    go_ret2
    exact ⟨_, _, rfl, S0.out, OwnT.nil _ _ _ _⟩
  | true =>
    rw [hok] at E
    replace E := Lib.hid E
    obtain ⟨hn, ha, hb⟩ := onB_of hok
    clear hok
    obtain ⟨m, rfl⟩ := Int.eq_ofNat_of_zero_le (show 0 ≤ n by omega)
    rw [Int.toNat_natCast]
    have E2 := Lib.hid (toldByPlaces_any m 80 #[.pointer (some ⟨w.heap.size, 0, none⟩), .pointer (some ⟨w.heap.size + 1, 0, none⟩)] w0 (by omega))
    have HT := Lib.hid (onL_in (m := m) (by omega) (by omega) ha hb)
    have E3 := Lib.hid (fun (W : World) (hs : w0.Since w0.heap.size W) (c : Nat) (hc : ∀ i, i < m → W.cell? ⟨c, 0 + i, none⟩ = some (.int .i64 i)) => toldResult_any 80 #[.pointer (some ⟨w.heap.size, 0, none⟩), .pointer (some ⟨w.heap.size + 1, 0, none⟩)] c 0 m m (fun i => (i : Int)) (onF a b) W (by omega) hc (enters_of Try.func80 (by kernel_rfl) rfl)
      (fun V i k hv _ _ => onesEntry_any i k w.heap.size (w.heap.size + 1) a b V (((hs.trans (since_mono hv hs.size)).cell (a := ⟨w.heap.size, 0, none⟩) (by show w.heap.size < w0.heap.size; omega)).trans e0) (((hs.trans (since_mono hv hs.size)).cell (a := ⟨w.heap.size + 1, 0, none⟩) (by show w.heap.size + 1 < w0.heap.size; omega)).trans e1)))
    have hL : tabF m m (onF a b) = onL m a b := rfl
    simp only [hL, HT.out] at E3
    clear hL
    obtain ⟨T, hT⟩ : ∃ T, onL m a b = T := ⟨_, rfl⟩
    rw [hT] at E3 ⊢
    have S0 := Lib.hid s0
    clear hT HT s0 b0 b1
    go_enter Try.func25, Try.ntmps25
    go_wp2_with fail
    refine (E.out).mono ?_
    rintro e w' ⟨rfl, rfl⟩
    go_wp2_with fail
    refine (E2.out).mono ?_
    rintro e w1 ⟨c, rfl, hs1, hc1⟩
    have HS1 := Lib.hid hs1
    have HC1 := Lib.hid hc1
    have hz1 := hs1.size
    clear hs1 hc1
    have hs2 : w1.Since w1.heap.size (w1.alloc (.cells #[.slice (some ⟨c, 0, none⟩) m m, .func (.func 80) #[] #[.pointer (some ⟨w.heap.size, 0, none⟩), .pointer (some ⟨w.heap.size + 1, 0, none⟩)]] 57)) := (World.Since.refl _ _).alloc (Nat.le_refl _) _
    have HS2 := Lib.hid (HS1.out.trans (since_mono hs2 HS1.out.size))
    have HC2 := Lib.hid (fun i hi => (hs2.cell (a := ⟨c, 0 + i, none⟩) (World.block_lt_of_cell? _ _ (HC1.out i hi))).trans (HC1.out i hi))
    clear hs2
    go_wp2_with fail
    refine (E3.out _ HS2.out c HC2.out).mono ?_
    rintro e w3 ⟨a', c', rfl, hs3, ho3⟩
    go_wp2
    go_ret2
    exact ⟨a', c', rfl, S0.out.trans (since_mono (HS2.out.trans (since_mono hs3 HS2.out.size)) S0.out.size), ho3.mono (Nat.le_trans S0.out.size HS2.out.size) (Nat.le_refl _)⟩

end Go.Proofs.Ytkahgpgnfodpgaa
end
