/- The contract of spec.TableUnit. -/
import Derived.Test.YtdbomnhlgaohaaaBuild
import Derived.Test.YtdbomnhlgaohaaaNewTable
namespace Go.Proofs.Ytdbomnhlgaohaaa
open Go.RowKit Go.Deep

/-- The unit square, as far as its first i rows. -/
def unitF (i k : Nat) : Int := if i = k then 1 else 0
def unitL (n i : Nat) : List (List Int) := tabF i n unitF
theorem unitL_succ (n i : Nat) : unitL n (i + 1) = unitL n i ++ [(List.range n).map fun k => unitF i k] := by simp [unitL, tabF, List.range_succ]
theorem unitL_length (n i : Nat) : (unitL n i).length = i := tabF_length _ _ _

set_option maxRecDepth 100000 in
set_option maxHeartbeats 4000000 in
theorem specUnit_any (n : Nat) (w : World) (hn : n ≤ 1000) :
    Calls Try.prog 62 #[.int .i64 n] w fun e w' => ∃ a cap, e = .returned (.slice a n cap) ∧ w.Since w.heap.size w' ∧ InT w.heap.size w'.heap.size w' a (unitL n n) := by
  obtain ⟨i42, hi, hz0, hz1, hz2⟩ := info_parts Try.info23
  have hst := bt_start w (fun _ => none) (fun _ => 0) #[] rfl
  have hmk := run_make_row' (P := Try.prog) 23 3 (.int .i64 0) 8 Try.underlying23 Try.info3 rfl .i64 .i64 n (by omega) (by omega)
  have HI := Lib.hid hi
  have HZ := Lib.hid (And.intro hz0 (And.intro hz1 hz2))
  clear hi hz0 hz1 hz2
  go_enter Try.func62, Try.ntmps62
  go_wp2
  go_loopg [3, 4, 5] n (fun g v i _ wr => ∃ r : Nat, ∃ A C, r ≤ n ∧ g = n - r ∧ i = .int .i64 r ∧ BT w wr v (unitL n r) A C)
  case atStart => exact ⟨0, _, _, Nat.zero_le _, rfl, rfl, hst⟩
  case round =>
    obtain ⟨r, A, C, hr, rfl, rfl, hR⟩ := hrel
    clear hst
    by_cases hlt : r < n
    · have HR := Lib.hid hR
      have hsz := hR.since.size
      have hcell : (wr.alloc (.cells (madeCells #[.int .i64 0] n) 3)).cell? ⟨wr.heap.size, r, none⟩ = some (.int .i64 0) := (World.rowIs_made wr (.int .i64 0) n 3).cell hlt
      have hfz : (wr.alloc (.cells (madeCells #[.int .i64 0] n) 3)).frozen? ⟨wr.heap.size, r, none⟩ = false := (World.rowIs_made wr (.int .i64 0) n 3).frozen r
      have hlen := unitL_length n r
      clear hR
      go_wp2_with (at_builtin; (refine wpList_append_own _ rfl _ _ 28 rfl w.heap.size 23 i42 (.slice none 0 0) 1 24 Try.underlying28 HI.out HZ.out.1 HZ.out.2.1 HZ.out.2.2 rfl (by decide) _ _ _ rfl ((HR.out.own.alloc _).alloc _) ⟨wr.heap.size + 1, 0, none⟩ 1 1 [.slice (some ⟨wr.heap.size, 0, none⟩) n n] rfl rfl (cell_one_at _ _ _ (by simp)) (fun x hx => by simp at hx; subst hx; rfl) (by unfold maxLen; omega) (by omega) (by simp; omega) ?_); intro v' w1 hown' hgrow _)
      have hwr : wr.Since wr.heap.size (wr.alloc (.cells ((madeCells #[.int .i64 0] n).setIfInBounds r (.int .i64 1)) 3)) := (World.Since.refl _ _).alloc (Nat.le_refl _) _
      have hrow : RowB (wr.alloc (.cells ((madeCells #[.int .i64 0] n).setIfInBounds r (.int .i64 1)) 3)) wr.heap.size ((List.range n).map fun k => unitF r k) := by
        refine ⟨_, World.alloc_heap_new wr _, fun i hi => ?_⟩
        simp at hi
        rw [Array.getElem?_setIfInBounds]
        have hm : (madeCells #[Value.int .i64 0] n)[i]? = some (.int .i64 0) := by
          obtain ⟨c, h1, _, h3⟩ := World.rowIs_made wr (.int .i64 0) n 3
          have := World.alloc_heap_new wr (.cells (madeCells #[Value.int .i64 0] n) 3)
          rw [this] at h1
          simp at h1
          rw [h1]; exact h3 i hi
        have hz : (madeCells #[Value.int .i64 0] n).size = n := by
          obtain ⟨c, h1, h2, _⟩ := World.rowIs_made wr (.int .i64 0) n 3
          have := World.alloc_heap_new wr (.cells (madeCells #[Value.int .i64 0] n) 3)
          rw [this] at h1
          simp at h1
          rw [h1]; exact h2
        by_cases e : r = i
        · subst e; simp [hz, hi, unitF, List.getD]
        · simp [e, hm, unitF, List.getD, hi]
      have hP := (HR.out.later hwr).push (rv := .slice (some ⟨wr.heap.size, 0, none⟩) n n) (x := (List.range n).map fun k => unitF r k) (a := some ⟨wr.heap.size, 0, none⟩) (cp := n) (by simp)
        (fun _ => ⟨wr.heap.size, rfl, hsz, hrow⟩) (fun _ => HR.out.fresh rfl (Nat.le_refl _)) hown' hgrow
      rw [← unitL_succ] at hP
      have HP := Lib.hid hP
      clear hP hrow hwr hown' hgrow hcell hfz hlen
      go_roundg (n - (r + 1))
      case measure => omega
      case rel => exact ⟨r + 1, _, _, by omega, rfl, by go_num, HP.out⟩
    · have : r = n := by omega
      subst this
      clear hmk
      obtain ⟨a, cap, rfl, hin⟩ := hR.slice
      go_wp2
      go_ret
      exact ⟨a, cap, by show Ending.returned (.slice a (unitL r r).length cap) = _; rw [unitL_length], hR.since, hin⟩

/-- What a function that makes a table returns: a table and true, or none and false. -/
def resT (ok : Bool) (l : List (List Int)) : List (List Int) := if ok then l else []
def SpecT (w : World) (ok : Bool) (l : List (List Int)) (e : Ending) (w' : World) : Prop :=
  ∃ a cap, e = .returned (.tuple #[.slice a (resT ok l).length cap, .bool ok]) ∧ w.Since w.heap.size w' ∧ InT w.heap.size w'.heap.size w' a (resT ok l)
def ImplT (w : World) (ok : Bool) (l : List (List Int)) (e : Ending) (w' : World) : Prop :=
  ∃ a cap, e = .returned (.tuple #[.slice a (resT ok l).length cap, .bool ok]) ∧ w.Since w.heap.size w' ∧ OwnT w.heap.size w'.heap.size w' a (resT ok l)

set_option maxHeartbeats 1000000 in
theorem l1None_any (w : World) : Calls Try.prog 53 #[] w fun e w' => e = .returned (.tuple #[.slice (some ⟨w.heap.size, 0, none⟩) 0 0, .bool false]) ∧ w.Since w.heap.size w' := by
  go_enter Try.func53, Try.ntmps53
  go_wp2
  go_ret2
  exact ⟨rfl, (World.Since.refl _ _).alloc (Nat.le_refl _) _⟩

set_option maxHeartbeats 1000000 in
theorem specTableUnit_any (n : Int) (w : World) :
    Calls Try.prog 44 #[.int .i64 n] w (SpecT w (inB n 1 6) (unitL n.toNat n.toNat)) := by
  cases hin : inB n 1 6 with
  | false =>
    go_enter Try.func44, Try.ntmps44
    go_wp2_with fail
    refine (l6In_at n 1 6 false w hin).mono ?_
    rintro e w' ⟨rfl, rfl⟩
    go_wp2_with fail
    refine (l1None_any w).mono ?_
    rintro e w' ⟨rfl, hs⟩
    go_wp2
    go_ret2
    exact ⟨_, _, rfl, hs, InT.nil _ _ _ _⟩
  | true =>
    have h6 := of_decide_eq_true hin
    obtain ⟨m, rfl⟩ := Int.eq_ofNat_of_zero_le (show 0 ≤ n by omega)
    have E := Lib.hid (l6In_at m 1 6 true w hin)
    clear hin
    rw [Int.toNat_natCast]
    have hul := unitL_length m m
    have HUL := Lib.hid hul
    clear hul
    go_enter Try.func44, Try.ntmps44
    go_wp2_with fail
    refine (E.out).mono ?_
    rintro e w' ⟨rfl, rfl⟩
    go_wp2_with fail
    refine (specUnit_any m w (by omega)).mono ?_
    rintro e w' ⟨a, cap, rfl, hs, hin⟩
    go_wp2
    go_ret2
    exact ⟨a, cap, by unfold resT; rw [if_pos rfl, HUL.out]; rfl, hs, hin⟩

end Go.Proofs.Ytdbomnhlgaohaaa
