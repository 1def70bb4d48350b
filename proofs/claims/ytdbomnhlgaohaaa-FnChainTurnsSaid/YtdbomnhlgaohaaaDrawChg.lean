/- The contracts of the functions that draw for PosChanges. -/
import Derived.Test.YtdbomnhlgaohaaaSolveD
import Derived.Test.YtdbomnhlgaohaaaDrawOne
namespace Go.Proofs.Ytdbomnhlgaohaaa
open Go.RowKit Go.Deep

set_option maxRecDepth 100000 in
set_option maxHeartbeats 2000000 in
theorem l92Numbers_any (w0 w : World) (G nb c p N : Nat) (a : Option Addr) (h : RD w0 w G a nb c 72 p) (hG : G < w.heap.size) (hN : N ≤ 13) (hp : p ≤ 90000) :
    Calls Try.prog 59 #[.pointer (some ⟨G, 0, none⟩), .int .i64 N] w fun e w' => ∃ ax cx x, e = .returned (.slice ax (List.length x) cx) ∧ x.length = N ∧ RowR w' ax x ∧ w.grownBy w' (some G) := by
  obtain ⟨i3, hi3⟩ := info3_parts
  have HJ := Lib.hid hi3
  have HD := Lib.hid h
  clear hi3 h
  go_enter Try.func59, Try.ntmps59
  go_wp2
  have HD3 := Lib.hid (HD.out.grown (World.grownBy_alloc w (.cells #[] 3) none) (fun k e => by cases e))
  have HG3 := Lib.hid (show w.grownBy (w.alloc (.cells #[] 3)) (some G) from grown_alloc (World.grownBy_refl w (some G)) (.cells #[] 3))
  have HW3 := Lib.hid (show RW w.heap.size (w.alloc (.cells #[] 3)) (.slice (some ⟨w.heap.size, 0, none⟩) 0 0) [] from World.ownsRow_made w #[] 0 (Nat.le_refl _) (Nat.zero_le _) rfl)
  go_loopg [5, 6] N (fun g v i wr => ∃ j p x, j ≤ N ∧ g = N - j ∧ i = .int .i64 (j : Nat) ∧ List.length x = j ∧ w.grownBy wr (some G) ∧ RD w0 wr G a nb c 72 p ∧ p ≤ 90000 + 2 * j ∧ RW w.heap.size wr v x)
  case atStart => exact ⟨0, p, [], Nat.zero_le _, rfl, rfl, rfl, HG3.out, HD3.out, by omega, HW3.out⟩
  case round =>
    obtain ⟨j, p, x, hj, rfl, rfl, hxl, hgi, hdi, hpp, hW⟩ := hrel
    clear HG3 HW3 HD HD3
    have HD := Lib.hid hdi
    have HG := Lib.hid hgi
    have HW := Lib.hid hW
    have hz4 := hgi.size
    clear hdi hgi hW
    by_cases hjN : j < N
    · go_wp2_with fail
      refine (pick_any w0 _ G nb c _ a _ HD.out (by omega)).mono ?_
      rintro e w4 ⟨z, rfl, hzz, hg4, hd4⟩
      have HW4 := Lib.hid (HW.out.kept hg4 (by omega))
      have HG4 := Lib.hid (grown_trans HG.out hg4)
      have HD4 := Lib.hid hd4
      have hz5 := HG4.out.size
      obtain ⟨u, hu⟩ : ∃ u : Int, IntKind.i64.wrap ((z : Int) - 3) = u := ⟨_, rfl⟩
      clear hg4 hd4
      go_wp2_with (at_builtin; (refine wpList_append_own _ rfl _ _ 23 rfl w.heap.size 3 i3 (.int .i64 0) 1 8 Try.underlying23 HJ.out.1 HJ.out.2.1 HJ.out.2.2.1 HJ.out.2.2.2 rfl (by decide) _ _ (x.map (Value.int .i64)) rfl (World.ownsRow.alloc HW4.out _) ⟨w4.heap.size, 0, none⟩ 1 1 [.int .i64 u] rfl rfl (cell_one_at _ _ _ rfl) (fun x hx => by simp at hx; subst hx; rfl) (by unfold maxLen; omega) (by omega) (by simp; omega) ?_); intro v' w5 hown' hgrow _)
      have HW5 := Lib.hid (show RW w.heap.size w5 v' (x ++ [u]) by
        have := hown'
        unfold RW
        rw [List.length_append, List.map_append]
        exact this)
      have hge := fun i e => (World.ownsRow.lt HW4.out i e).1
      have HD5 := Lib.hid ((HD4.out.grown (World.grownBy_alloc w4 (.cells #[.int .i64 u] 3) none) (fun k e => by cases e)).grown hgrow (fun i e => by have := hge i e; omega))
      have HG5 := Lib.hid (grown_new (grown_alloc HG4.out _) hgrow hge)
      clear hown' hgrow hge
      go_roundg (N - (j + 1))
      case measure => omega
      case rel => exact ⟨j + 1, _, x ++ [u], by omega, rfl, by go_num, by rw [List.length_append, hxl]; rfl, HG5.out, HD5.out, by omega, HW5.out⟩
    · have hjj : j = N := by omega
      subst hjj
      obtain ⟨ax, cx, hv, hrr⟩ := HW.out.rowR hxl
      subst hv
      have HR := Lib.hid hrr
      clear hrr
      go_wp2
      go_ret
      exact ⟨ax, cx, x, by rw [hxl]; rfl, hxl, HR.out, HG.out⟩

end Go.Proofs.Ytdbomnhlgaohaaa
