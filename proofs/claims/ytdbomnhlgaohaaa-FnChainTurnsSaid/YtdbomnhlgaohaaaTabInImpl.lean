/- The contract of impl.TableIn, at every table. -/
import Derived.Test.YtdbomnhlgaohaaaFits
namespace Go.Proofs.Ytdbomnhlgaohaaa
open Go.RowKit Go.Deep Go.Shelf

theorem Made.matR {N n : Nat} {w wr : World} {l : List (List Int)} (h : Made N n w wr l) (hn : l.length = n) : MatR wr (some ⟨N, 0, none⟩) l := by
  intro _
  refine ⟨N, 0, fun r => some ⟨N + 1 + r, 0, none⟩, fun r => (l.getD r []).length, rfl, fun r hr => ⟨?_, fun _ => ⟨N + 1 + r, 0, rfl, fun i hi => ?_⟩⟩⟩
  · have := h.top.cell (i := r) hr
    rw [if_pos (by omega)] at this
    rw [Nat.zero_add]; exact this
  · have := (h.row r (by omega)).cell (i := i) hi
    rw [Nat.zero_add]; exact this

set_option maxRecDepth 100000 in
set_option maxHeartbeats 1000000 in
theorem fits_none (a : Option Addr) (n cap : Nat) (w : World) (hn : ¬ (1 ≤ n ∧ n ≤ 6)) :
    Calls Try.prog 76 #[.slice a n cap] w fun e w' => e = .returned (.bool false) ∧ w.Since w.heap.size w' := by
  have hin : inB (n : Int) 1 6 = false := by simp [inB]; omega
  have hB2 : Below w.heap.size w ((w.alloc (.cells #[.slice a n cap] 50)).alloc (.cells #[.bool false] 4)) := ((Below.refl _ w).alloc (Nat.le_refl _) _).alloc (by simp) _
  have HB2 := Lib.hid hB2
  clear hB2
  refine (callsIn_wide (n := 9)).1 ?_
  refine callsIn_of_wp_marks Try.func76 rfl trivial ?_ rfl
  simp only [Try.ntmps76, List.size_toArray, List.length_cons, List.length_nil, Nat.reduceAdd, Nat.reduceSub, Array.replicate_succ, Array.replicate_zero, List.push_toArray, List.append_toArray, List.nil_append, List.cons_append]
  gi_wp2_with (refine ⟨trivial, ?_⟩; gi_at_call 71; refine (callsIn_wide.2 (isSide_any _ _)).mono ?_; rintro e w' ⟨rfl, rfl⟩)
  refine ⟨trivial, ?_⟩
  gi_wp2
  refine ⟨trivial, ?_⟩
  gi_wp2
  refine ⟨.bool false, ?_, rfl, below_since HB2.out⟩
  simp [results, Try.f76, go_sem]

theorem fits_any (a : Option Addr) (cap n : Nat) (l : List (List Int)) (w : World) (hn : l.length = n) (hsz : szL l ≤ 1048576) (hm : MatR w a l) :
    Calls Try.prog 76 #[.slice a n cap] w fun e w' => e = .returned (.bool (tabIn l)) ∧ w.Since w.heap.size w' := by
  by_cases h : 1 ≤ n ∧ n ≤ 6
  · exact fits_small a cap n l w hn h hsz hm
  · have hT : tabIn l = false := tabIn_false fun hT => h (by rw [← hn]; exact ⟨hT.1, hT.2.1⟩)
    rw [hT]
    exact fits_none a n cap w h

set_option maxHeartbeats 1000000 in
theorem implTableIn_any (a : Option Addr) (cap n : Nat) (l : List (List Int)) (w : World) (hn : l.length = n) (hsz : szL l ≤ 1048576) (hm : MatR w a l) :
    Calls Try.prog 68 #[.slice a n cap] w fun e w' => e = .returned (.bool (tabIn l)) ∧ w.Since w.heap.size w' := by
  have E := Lib.hid (fits_any a cap n l w hn hsz hm)
  clear hn hsz hm
  go_enter Try.func68, Try.ntmps68
  go_wp2_with fail
  refine (E.out).mono ?_
  rintro e w' ⟨rfl, hs⟩
  go_wp2
  go_ret
  exact ⟨rfl, hs⟩

end Go.Proofs.Ytdbomnhlgaohaaa
