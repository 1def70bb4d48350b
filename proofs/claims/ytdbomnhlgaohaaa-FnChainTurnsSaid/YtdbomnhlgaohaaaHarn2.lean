/- Contracts of the helpers of the exact laws: comparisons, marks. -/
import Derived.Test.YtdbomnhlgaohaaaHarn
namespace Go.Proofs.Ytdbomnhlgaohaaa
open Go.RowKit Go.Deep

theorem ret_int {k : IntKind} {a b : Int} (h : a = b) : Ending.returned (.int k a) = .returned (.int k b) := by rw [h]

set_option maxHeartbeats 1000000 in
/-- Two slices that read as one list are equal. -/
theorem eqIntS_same (a b : Option Addr) (ca cb n : Nat) (l : List Int) (w : World) (hn : l.length = n) (h63 : n ≤ 9223372036854775807) (ha : RowR w a l) (hb : RowR w b l) :
    Calls Try.prog 34 #[.slice a n ca, .slice b n cb] w fun e w' => e = .returned (.bool true) ∧ Drawn w w' := by
  have H := Lib.hid hn; clear hn
  go_enter Try.func34, Try.ntmps34
  go_wp2
  go_loopg [5] n (fun g i wr => ∃ k : Nat, k ≤ n ∧ g = n - k ∧ i = .int .i64 k ∧ Drawn w wr)
  case atStart => exact ⟨0, Nat.zero_le _, rfl, rfl, Drawn.refl w⟩
  case round =>
    obtain ⟨k, hk, rfl, rfl, hD⟩ := hrel
    by_cases hlt : k < n
    · obtain ⟨b1, o1, rfl, hc1⟩ := ha (by rw [H.out]; omega)
      obtain ⟨b2, o2, rfl, hc2⟩ := hb (by rw [H.out]; omega)
      have c1 := hc1 k (by rw [H.out]; exact hlt)
      have c2 := hc2 k (by rw [H.out]; exact hlt)
      obtain ⟨x, hx⟩ : ∃ x, x = l.getD k 0 := ⟨_, rfl⟩
      rw [← hx] at c1 c2
      rw [← hD.cell] at c1 c2
      clear hx hc1 hc2 ha hb
      go_wp2
      go_quiet (fail)
      go_wp2
      go_roundg (n - (k + 1))
      case measure => omega
      case rel => exact ⟨k + 1, by omega, rfl, by go_num, hD.trans (Drawn.mk _ _)⟩
    · go_wp2
      go_ret
      exact ⟨rfl, hD⟩

set_option maxHeartbeats 1000000 in
/-- Two slices of slices that read as one list of lists are equal. -/
theorem eqIntSS_same (a b : Option Addr) (ca cb n : Nat) (l : List (List Int)) (w : World) (hn : l.length = n) (h63 : n ≤ 9223372036854775807) (hl : ∀ r, r < l.length → (l.getD r []).length ≤ 9223372036854775807)
    (ha : MatR w a l) (hb : MatR w b l) :
    Calls Try.prog 35 #[.slice a n ca, .slice b n cb] w fun e w' => e = .returned (.bool true) ∧ Drawn w w' := by
  have H := Lib.hid hn; clear hn
  go_enter Try.func35, Try.ntmps35
  go_wp2
  go_loopg [5] n (fun g i wr => ∃ k : Nat, k ≤ n ∧ g = n - k ∧ i = .int .i64 k ∧ Drawn w wr)
  case atStart => exact ⟨0, Nat.zero_le _, rfl, rfl, Drawn.refl w⟩
  case round =>
    obtain ⟨k, hk, rfl, rfl, hD⟩ := hrel
    by_cases hlt : k < n
    · obtain ⟨b1, o1, A1, C1, rfl, hc1⟩ := ha (by rw [H.out]; omega)
      obtain ⟨b2, o2, A2, C2, rfl, hc2⟩ := hb (by rw [H.out]; omega)
      obtain ⟨c1, r1⟩ := hc1 k (by rw [H.out]; exact hlt)
      obtain ⟨c2, r2⟩ := hc2 k (by rw [H.out]; exact hlt)
      have hlk := hl k (by rw [H.out]; exact hlt)
      obtain ⟨x, hx⟩ : ∃ x, x = l.getD k [] := ⟨_, rfl⟩
      rw [← hx] at c1 c2 r1 r2 hlk
      obtain ⟨m, hm⟩ : ∃ m, x.length = m := ⟨_, rfl⟩
      rw [hm] at c1 c2 hlk
      have HM := Lib.hid hm
      clear hx hc1 hc2 ha hb hl hm
      have r1 := r1.drawn hD
      have r2 := r2.drawn hD
      rw [← hD.cell] at c1 c2
      have e1 := fun (p : Nat) => eqIntS_same (A1 k) (A2 k) (C1 k) (C2 k) m x (wr.drewN p) HM.out hlk r1 r2
      have E1 := Lib.hid e1; clear e1 r1 r2
      go_wp2
      go_quiet ((go_at_call 34; exact Calls.quiet_of (E1.out _)))
      go_wp2
      go_roundg (n - (k + 1))
      case measure => omega
      case rel => exact ⟨k + 1, by omega, rfl, by go_num, hD.trans (Drawn.mk _ _)⟩
    · go_wp2
      go_ret
      exact ⟨rfl, hD⟩

theorem made_start (w : World) (l : List (List Int)) : Made w.heap.size 0 w (w.alloc (.cells (madeCells #[.slice none 0 0] l.length) 23)) l :=
  ⟨(World.Since.refl _ _).alloc (Nat.le_refl _) _, by simp, (World.rowIs_made w _ l.length 23).congr (fun j _ => by simp), fun j hj => absurd hj (Nat.not_lt_zero _)⟩

theorem made_step {N k : Nat} {w wr w1 : World} {l : List (List Int)} (h : Made N k w wr l) (hr : RowMade wr w1 (l.getD k []) (l.getD k []).length) :
    Made N (k + 1) w (w1.setCell ⟨N, k, none⟩ (.slice (some ⟨N + 1 + k, 0, none⟩) (l.getD k []).length (l.getD k []).length)) l := by
  have hs := hr.since
  have hsz := h.size
  refine ⟨(h.since.trans (since_mono hs (by omega))).setCell (Nat.le_refl _) _, by simp [hr.size, hsz]; omega, ?_, ?_⟩
  · refine (((h.top.of_block (hs.block N (by omega))).set k _).congr (fun j _ => ?_))
    by_cases e : j = k
    · subst e; simp
    · rw [if_neg e]
      by_cases hlt : j < k
      · rw [if_pos hlt, if_pos (by omega)]
      · rw [if_neg hlt, if_neg (by omega)]
  · intro j hj
    by_cases e : j = k
    · subst e
      have := hr.row
      rw [hsz] at this
      exact (this.setOther (by show N + 1 + j ≠ N; omega) _).congr (fun i hi => if_pos hi)
    · exact ((h.row j (by omega)).of_block (hs.block _ (by omega))).setOther (by show N + 1 + j ≠ N; omega) _

set_option maxHeartbeats 1000000 in
theorem toIntSS_any (a : Option Addr) (cap n : Nat) (l : List (List Int)) (w : World) (hn : l.length = n) (hsz : szL l ≤ 1048576) (hm : MatR w a l) :
    Calls Try.prog 42 #[.slice a n cap] w fun e w' => e = .returned (.slice (some ⟨w.heap.size, 0, none⟩) n n) ∧ Made w.heap.size n w w' l := by
  have hst := made_start w l
  rw [hn] at hst
  have hn1 : n ≤ 1048576 := by rw [← hn]; unfold szL at hsz; omega
  have hmk := run_make_row' (P := Try.prog) 28 23 (.slice none 0 0) 24 Try.underlying28 Try.info23 rfl .i64 .i64 n (by omega) (by omega)
  have H := Lib.hid hn; clear hn
  go_enter Try.func42, Try.ntmps42
  go_wp2
  go_loopg [4] n (fun g i wr => ∃ k : Nat, k ≤ n ∧ g = n - k ∧ i = .int .i64 k ∧ Made w.heap.size k w wr l)
  case atStart => exact ⟨0, Nat.zero_le _, rfl, rfl, hst⟩
  case round =>
    obtain ⟨k, hk, rfl, rfl, hR⟩ := hrel
    clear hst hmk
    by_cases hlt : k < n
    · obtain ⟨b, o, A, C, rfl, hc⟩ := hm (by rw [H.out]; omega)
      obtain ⟨c1, r1⟩ := hc k (by rw [H.out]; exact hlt)
      have hold : wr.cell? ⟨b, o + k, none⟩ = some (.slice (A k) (l.getD k []).length (C k)) := by rw [hR.since.cell (a := ⟨b, o + k, none⟩) (World.block_lt_of_cell? _ _ c1), c1]
      have hrr : RowR wr (A k) (l.getD k []) := r1.since hR.since
      have hml : (l.getD k []).length ≤ 1048576 := by have := row_le l (r := k) (by rw [H.out]; exact hlt); unfold szL at hsz; omega
      have hsz0 := hR.size
      obtain ⟨x, hx⟩ : ∃ x, x = l.getD k [] := ⟨_, rfl⟩
      rw [← hx] at hold hrr hml
      have HX := Lib.hid hx
      have hnew : wr.cell? ⟨w.heap.size, k, none⟩ = some (.slice none 0 0) := by have := hR.top.cell (i := k) (by rw [H.out]; exact hlt); simpa using this
      have hfz : wr.frozen? ⟨w.heap.size, k, none⟩ = false := hR.top.frozen k
      have e1 := toIntS_any (A k) (C k) x wr hml hrr
      have E1 := Lib.hid e1
      have HS := Lib.hid hsz0
      clear hc c1 r1 hm hx e1 hsz0
      obtain ⟨m, hm⟩ : ∃ m, m = x.length := ⟨_, rfl⟩
      rw [← hm] at hold
      have HM := Lib.hid hm
      clear hm
      go_wp2_with fail
      rw [HM.out]
      refine (E1.out).mono ?_
      rintro e w1 ⟨rfl, h1⟩
      rw [HS.out]
      have hst := made_step hR (w1 := w1) (by rw [← HX.out]; exact h1)
      rw [← HX.out, ← HM.out] at hst
      rw [← HM.out]
      have hnew1 : w1.cell? ⟨w.heap.size, k, none⟩ = some (.slice none 0 0) := by rw [h1.since.cell (a := ⟨w.heap.size, k, none⟩) (World.block_lt_of_cell? _ _ hnew), hnew]
      have hfz1 : w1.frozen? ⟨w.heap.size, k, none⟩ = false := by rw [h1.since.frozen (a := ⟨w.heap.size, k, none⟩) (World.block_lt_of_cell? _ _ hnew), hfz]
      clear hnew hfz hold
      go_wp2
      go_roundg (n - (k + 1))
      case measure => omega
      case rel => exact ⟨k + 1, by omega, rfl, by go_num, hst⟩
    · have : k = n := by omega
      subst this
      go_wp2
      go_ret
      exact ⟨rfl, hR⟩

end Go.Proofs.Ytdbomnhlgaohaaa
