/- What draws one net. -/
import Derived.Test.YtggmiojhglkcgaaDrawC
namespace Go.Proofs.Ytggmiojhglkcgaa
open Go.RowKit Go.Deep

theorem drawNetIn_any (a : Option Addr) (nb cb : Nat) (w : World) (hc : nb ≤ cb) (h63 : cb ≤ 9223372036854775807) (hb : BytR w a nb) :
    Calls Try.prog 14 #[.slice a nb cb] w fun e w' => ∃ (n : Nat) (a' : Option Addr) (cap : Nat) (cs : List RC), e = .returned (.tuple #[.int .i64 n, .slice a' cs.length cap]) ∧ w.Since w.heap.size w' ∧ (2 ≤ n ∧ n ≤ 5) ∧ DrawnC w w' a' cap cs := by
  have E := Lib.hid (l92Net_any a nb cb w hc h63 hb)
  clear hb
  go_enter Try.func14, Try.ntmps14
  go_wp2_with fail
  refine (E.out).mono ?_
  rintro e w1 ⟨n, a', cap, cs, rfl, hs, hn, hd⟩
  have HS := Lib.hid hs
  have HD := Lib.hid hd
  clear hs hd
  go_wp2_with fail
  go_ret2
  exact ⟨_, _, _, _, rfl, HS.out, hn, HD.out⟩

theorem drawNetTable_any (a : Option Addr) (nb cb : Nat) (w : World) (hc : nb ≤ cb) (h63 : cb ≤ 9223372036854775807) (hb : BytR w a nb) :
    Calls Try.prog 17 #[.slice a nb cb] w fun e w' => ∃ (n : Nat) (a' : Option Addr) (cap : Nat) (cs : List RC), e = .returned (.tuple #[.int .i64 n, .slice a' cs.length cap]) ∧ w.Since w.heap.size w' ∧ (2 ≤ n ∧ n ≤ 5) ∧ DrawnC w w' a' cap cs := by
  have E := Lib.hid (l92Net_any a nb cb w hc h63 hb)
  clear hb
  go_enter Try.func17, Try.ntmps17
  go_wp2_with fail
  refine (E.out).mono ?_
  rintro e w1 ⟨n, a', cap, cs, rfl, hs, hn, hd⟩
  have HS := Lib.hid hs
  have HD := Lib.hid hd
  clear hs hd
  go_wp2_with fail
  go_ret2
  exact ⟨_, _, _, _, rfl, HS.out, hn, HD.out⟩

theorem drawNetTurn_any (a : Option Addr) (nb cb : Nat) (w : World) (hc : nb ≤ cb) (h63 : cb ≤ 9223372036854775807) (hb : BytR w a nb) :
    Calls Try.prog 31 #[.slice a nb cb] w fun e w' => ∃ (n : Nat) (a' : Option Addr) (cap : Nat) (cs : List RC), e = .returned (.tuple #[.int .i64 n, .slice a' cs.length cap]) ∧ w.Since w.heap.size w' ∧ (2 ≤ n ∧ n ≤ 5) ∧ DrawnC w w' a' cap cs := by
  have E := Lib.hid (l92Net_any a nb cb w hc h63 hb)
  clear hb
  go_enter Try.func31, Try.ntmps31
  go_wp2_with fail
  refine (E.out).mono ?_
  rintro e w1 ⟨n, a', cap, cs, rfl, hs, hn, hd⟩
  have HS := Lib.hid hs
  have HD := Lib.hid hd
  clear hs hd
  go_wp2_with fail
  go_ret2
  exact ⟨_, _, _, _, rfl, HS.out, hn, HD.out⟩

end Go.Proofs.Ytggmiojhglkcgaa
