/- The contracts of laws.sameInts and laws.sameRows. -/
import Derived.Test.YtdbomnhlgaohaaaHarn2
namespace Go.Proofs.Ytdbomnhlgaohaaa
open Go.RowKit Go.Deep

set_option maxHeartbeats 1000000 in
/-- Two slices that read as one list are equal. -/
theorem sameInts_same (a b : Option Addr) (ca cb n : Nat) (l : List Int) (w : World) (hn : l.length = n) (h63 : n ≤ 9223372036854775807) (ha : RowR w a l) (hb : RowR w b l) :
    Calls Try.prog 29 #[.slice a n ca, .slice b n cb] w fun e w' => e = .returned (.bool true) ∧ Drawn w w' := by
  have H := Lib.hid hn; clear hn
  go_enter Try.func29, Try.ntmps29
  go_wp2
  go_loopg [5] n (fun g i wr => ∃ k : Nat, k ≤ n ∧ g = n - k ∧ i = .int .i64 k ∧ Drawn w wr)
  case atStart => exact ⟨0, Nat.zero_le _, rfl, rfl, Drawn.refl w⟩
  case round =>
    obtain ⟨k, hk, rfl, rfl, hD⟩ := hrel
    by_cases hlt : k < n
    · obtain ⟨b1, o1, rfl, hc1⟩ := ha (by rw [H.out]; omega)
      obtain ⟨b2, o2, rfl, hc2⟩ := hb (by rw [H.out]; omega)
      have c1 := hc1 k (by rw [H.out]; exact hlt)
      have c2 := hc2 k (by rw [H.out]; exact hlt)
      obtain ⟨x, hx⟩ : ∃ x, x = l.getD k 0 := ⟨_, rfl⟩
      rw [← hx] at c1 c2
      rw [← hD.cell] at c1 c2
      clear hx hc1 hc2 ha hb
      go_wp2
      go_quiet (fail)
      go_wp2
      go_roundg (n - (k + 1))
      case measure => omega
      case rel => exact ⟨k + 1, by omega, rfl, by go_num, hD.trans (Drawn.mk _ _)⟩
    · go_wp2
      go_ret
      exact ⟨rfl, hD⟩

set_option maxHeartbeats 1000000 in
/-- Two slices of slices that read as one list of lists are equal. -/
theorem sameRows_same (a b : Option Addr) (ca cb n : Nat) (l : List (List Int)) (w : World) (hn : l.length = n) (h63 : n ≤ 9223372036854775807) (hl : ∀ r, r < l.length → (l.getD r []).length ≤ 9223372036854775807)
    (ha : MatR w a l) (hb : MatR w b l) :
    Calls Try.prog 21 #[.slice a n ca, .slice b n cb] w fun e w' => e = .returned (.bool true) ∧ Drawn w w' := by
  have H := Lib.hid hn; clear hn
  go_enter Try.func21, Try.ntmps21
  go_wp2
  go_loopg [5] n (fun g i wr => ∃ k : Nat, k ≤ n ∧ g = n - k ∧ i = .int .i64 k ∧ Drawn w wr)
  case atStart => exact ⟨0, Nat.zero_le _, rfl, rfl, Drawn.refl w⟩
  case round =>
    obtain ⟨k, hk, rfl, rfl, hD⟩ := hrel
    by_cases hlt : k < n
    · obtain ⟨b1, o1, A1, C1, rfl, hc1⟩ := ha (by rw [H.out]; omega)
      obtain ⟨b2, o2, A2, C2, rfl, hc2⟩ := hb (by rw [H.out]; omega)
      obtain ⟨c1, r1⟩ := hc1 k (by rw [H.out]; exact hlt)
      obtain ⟨c2, r2⟩ := hc2 k (by rw [H.out]; exact hlt)
      have hlk := hl k (by rw [H.out]; exact hlt)
      obtain ⟨x, hx⟩ : ∃ x, x = l.getD k [] := ⟨_, rfl⟩
      rw [← hx] at c1 c2 r1 r2 hlk
      obtain ⟨m, hm⟩ : ∃ m, x.length = m := ⟨_, rfl⟩
      rw [hm] at c1 c2 hlk
      have HM := Lib.hid hm
      clear hx hc1 hc2 ha hb hl hm
      have r1 := r1.drawn hD
      have r2 := r2.drawn hD
      rw [← hD.cell] at c1 c2
      have e1 := fun (p : Nat) => sameInts_same (A1 k) (A2 k) (C1 k) (C2 k) m x (wr.drewN p) HM.out hlk r1 r2
      have E1 := Lib.hid e1; clear e1 r1 r2
      go_wp2
      go_quiet ((go_at_call 29; exact Calls.quiet_of (E1.out _)))
      go_wp2
      go_roundg (n - (k + 1))
      case measure => omega
      case rel => exact ⟨k + 1, by omega, rfl, by go_num, hD.trans (Drawn.mk _ _)⟩
    · go_wp2
      go_ret
      exact ⟨rfl, hD⟩

end Go.Proofs.Ytdbomnhlgaohaaa
