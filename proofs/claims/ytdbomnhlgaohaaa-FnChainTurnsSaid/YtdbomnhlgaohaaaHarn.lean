/- Contracts of the helpers of the exact laws: sizes, copies, comparisons. -/
import Derived.Test.YtdbomnhlgaohaaaRows
import Derived.Test.YtdbomnhlgaohaaaData
import Derived.WalkSpells
import Derived.WalkLawsBesides
import Derived.Lib.Hide
import Derived.BigQuiet
import Derived.Deep.QuietTactic
namespace Go.Proofs.Ytdbomnhlgaohaaa
open Go.RowKit Go.Deep

set_option maxHeartbeats 400000 in
theorem szIntS_any (a : Option Addr) (n cap : Nat) (left : Int) (w : World) (h0 : 0 ≤ left) (h1 : left ≤ 1048576) (hn : n ≤ 9223372036854775807) :
    Calls Try.prog 65 #[.slice a n cap, .int .i64 left] w fun e w' => e = .returned (.int .i64 (if left - n < 0 then -1 else left - n)) ∧ w = w' := by
  by_cases h : left - n < 0
  · rw [if_pos h]
    go_enter Try.func65, Try.ntmps65
    go_wp2
    go_ret
    exact ⟨rfl, rfl⟩
  · rw [if_neg h]
    go_enter Try.func65, Try.ntmps65
    go_wp2
    go_ret
    exact ⟨rfl, rfl⟩

/-- What szIntSS returns: what is left, if all fits. -/
def SzPost (l : List (List Int)) (left : Int) (w : World) (e : Ending) (w' : World) : Prop :=
  ∃ r : Int, e = .returned (.int .i64 r) ∧ -1 ≤ r ∧ (0 ≤ r → r = left - szL l) ∧ w = w'

def SzRel (l : List (List Int)) (left : Int) (k : Nat) (r : Int) : Prop := r = left - l.length - sumTo l k

set_option maxHeartbeats 1000000 in
theorem szIntSS_any (a : Option Addr) (cap : Nat) (l : List (List Int)) (left : Int) (w : World) (h0 : 0 ≤ left) (h1 : left ≤ 1048576) (hn : l.length ≤ 9223372036854775807)
    (hl : ∀ r, r < l.length → (l.getD r []).length ≤ 9223372036854775807) (hm : MatR w a l) :
    Calls Try.prog 40 #[.slice a l.length cap, .int .i64 left] w (SzPost l left w) := by
  obtain ⟨n, hnn⟩ : ∃ n, n = l.length := ⟨_, rfl⟩
  rw [← hnn] at hn hl ⊢
  have H := Lib.hid hnn; clear hnn
  by_cases h : left - n < 0
  · clear hm
    go_enter Try.func40, Try.ntmps40
    go_wp2
    go_ret
    exact ⟨-1, rfl, by omega, fun h => by omega, rfl⟩
  · go_enter Try.func40, Try.ntmps40
    go_wp2
    go_loop [1, 5] (fun q i => ∃ k : Nat, ∃ r : Int, k ≤ n ∧ i = .int .i64 k ∧ q = .int .i64 r ∧ 0 ≤ r ∧ r ≤ 1048576 ∧ SzRel l left k r) (fun _ i => n - (intOf i).toNat)
    case atStart => exact ⟨0, left - n, Nat.zero_le _, rfl, rfl, by omega, by omega, by unfold SzRel sumTo; rw [H.out]; omega⟩
    case round =>
      obtain ⟨k, r, hk, rfl, rfl, hr0, hr1, hR⟩ := hrel
      by_cases hlt : k < n
      · obtain ⟨b, o, A, C, rfl, hc⟩ := hm (by rw [← H.out]; omega)
        have hck := (hc k (by rw [← H.out]; exact hlt)).1
        have hlk := hl k hlt
        obtain ⟨m, hmm⟩ : ∃ m, m = (l.getD k []).length := ⟨_, rfl⟩
        rw [← hmm] at hck hlk
        have HM := Lib.hid hmm; clear hmm hc hm hl
        go_wp2_with fail
        refine (szIntS_any (A k) m (C k) r _ hr0 hr1 hlk).mono ?_
        rintro e w' ⟨rfl, rfl⟩
        by_cases hs : r - m < 0
        · rw [if_pos hs]
          go_wp2
          go_ret
          exact ⟨-1, rfl, by omega, fun h => by omega, rfl⟩
        · rw [if_neg hs]
          go_wp2
          go_round
          case rel => exact ⟨k + 1, r - m, by omega, by go_num, rfl, by omega, by omega, by unfold SzRel at *; simp only [sumTo]; rw [← HM.out]; omega⟩
          case measure => simp [intOf]; omega
      · go_wp2
        go_ret
        have : k = n := by omega
        subst this
        exact ⟨r, rfl, by omega, fun _ => by unfold SzRel at hR; unfold szL; have hh := H.out; rw [← hh]; omega, rfl⟩

theorem Try.info3 : (Try.prog.info? 3).map (fun i => (i.zero, i.size, i.bytes)) = some (some (.int .i64 0), 1, 8) := by kernel_rfl
theorem Try.info23 : (Try.prog.info? 23).map (fun i => (i.zero, i.size, i.bytes)) = some (some (.slice none 0 0), 1, 24) := by kernel_rfl

/-- What toIntS has made: one block, its own, that reads as the list. -/
structure RowMade (w wr : World) (l : List Int) (k : Nat) : Prop where
  since : w.Since w.heap.size wr
  size : wr.heap.size = w.heap.size + 1
  row : wr.rowIs w.heap.size 3 l.length (fun i => if i < k then .int .i64 (l.getD i 0) else .int .i64 0)

theorem rowMade_start (w : World) (l : List Int) : RowMade w (w.alloc (.cells (madeCells #[.int .i64 0] l.length) 3)) l 0 :=
  ⟨(World.Since.refl _ _).alloc (Nat.le_refl _) _, by simp, (World.rowIs_made w _ l.length 3).congr (fun j _ => by simp)⟩

theorem rowMade_step {w wr : World} {l : List Int} {k : Nat} (h : RowMade w wr l k) (x : Int) (hx : x = l.getD k 0) : RowMade w (wr.setCell ⟨w.heap.size, k, none⟩ (.int .i64 x)) l (k + 1) := by
  refine ⟨h.since.setCell (Nat.le_refl _) _, by simp [h.size], (h.row.set k _).congr (fun j _ => ?_)⟩
  by_cases e : j = k
  · subst e; subst hx; simp
  · rw [if_neg e]
    by_cases hlt : j < k
    · rw [if_pos hlt, if_pos (by omega)]
    · rw [if_neg hlt, if_neg (by omega)]

set_option maxHeartbeats 1000000 in
theorem toIntS_any (a : Option Addr) (cap : Nat) (l : List Int) (w : World) (hn : l.length ≤ 1048576) (hm : RowR w a l) :
    Calls Try.prog 33 #[.slice a l.length cap] w fun e w' => e = .returned (.slice (some ⟨w.heap.size, 0, none⟩) l.length l.length) ∧ RowMade w w' l l.length := by
  have hst := rowMade_start w l
  obtain ⟨n, hnn⟩ : ∃ n, n = l.length := ⟨_, rfl⟩
  rw [← hnn] at hn hst ⊢
  have hmk := run_make_row' (P := Try.prog) 23 3 (.int .i64 0) 8 Try.underlying23 Try.info3 rfl .i64 .i64 n (by omega) (by omega)
  have H := Lib.hid hnn; clear hnn
  go_enter Try.func33, Try.ntmps33
  go_wp2
  go_loopg [4] n (fun g i wr => ∃ k : Nat, k ≤ n ∧ g = n - k ∧ i = .int .i64 k ∧ RowMade w wr l k)
  case atStart => exact ⟨0, Nat.zero_le _, rfl, rfl, hst⟩
  case round =>
    obtain ⟨k, hk, rfl, rfl, hR⟩ := hrel
    clear hst hmk
    by_cases hlt : k < n
    · obtain ⟨b, o, rfl, hc⟩ := hm (by rw [← H.out]; omega)
      have hck := hc k (by rw [← H.out]; exact hlt)
      have hold : wr.cell? ⟨b, o + k, none⟩ = some (.int .i64 (l.getD k 0)) := by rw [hR.since.cell (a := ⟨b, o + k, none⟩) (World.block_lt_of_cell? _ _ hck), hck]
      obtain ⟨x, hx⟩ : ∃ x, x = l.getD k 0 := ⟨_, rfl⟩
      rw [← hx] at hold
      have HX := Lib.hid hx
      have hnew : wr.cell? ⟨w.heap.size, k, none⟩ = some (.int .i64 0) := by have := hR.row.cell (i := k) (by rw [← H.out]; exact hlt); simpa using this
      have hfz : wr.frozen? ⟨w.heap.size, k, none⟩ = false := hR.row.frozen k
      clear hc hck hm hx
      go_wp2
      go_roundg (n - (k + 1))
      case measure => omega
      case rel => exact ⟨k + 1, by omega, rfl, by go_num, rowMade_step hR x HX.out⟩
    · have : k = n := by omega
      subst this
      go_wp2
      go_ret
      exact ⟨rfl, hR⟩

end Go.Proofs.Ytdbomnhlgaohaaa
