/- The contract of impl.PlainSums. -/
import Derived.Test.YtiabnlebonmedaaSumsJ
import Derived.Test.YtiabnlebonmedaaSquareV
namespace Go.Proofs.Ytiabnlebonmedaa
open Go.RowKit Go.Deep

set_option maxHeartbeats 1000000 in
theorem implPlainSums_any (a : Option Addr) (cap n : Nat) (l : List (List Int)) (w : World) (hn : l.length = n) (hsz : szL l ≤ 1048576) (hm : MatR w a l) :
    Calls Try.prog 17 #[.slice a n cap] w (SpecW w (sqB l) (sumN (ryT l n) (2 ^ n))) := by
  have E := isSquare_any a cap n l w hn hsz hm
  cases hs : sqB l with
  | false =>
    rw [hs] at E
    replace E := Lib.hid E
    clear hs hm hn hsz
    go_enter Try.func17, Try.ntmps17
    go_wp2_with fail
    refine (E.out).mono ?_
    rintro e w1 ⟨rfl, hd⟩
    have HD := Lib.hid hd
    clear hd
    go_wp2
    go_ret2
    exact ⟨rfl, HD.out⟩
  | true =>
    rw [hs] at E
    replace E := Lib.hid E
    obtain ⟨hT, hw⟩ := sqB_of hs
    have E2 := Lib.hid (fun (W : World) (hd : w.Since w.heap.size W) => plainBySums_any a cap n l W hn hT (by omega) (hm.since hd))
    clear hs hm hn hsz hT hw
    go_enter Try.func17, Try.ntmps17
    go_wp2_with fail
    refine (E.out).mono ?_
    rintro e w1 ⟨rfl, hd⟩
    have HD := Lib.hid hd
    clear hd
    go_wp2_with fail
    refine (E2.out w1 HD.out).mono ?_
    rintro e w2 ⟨rfl, hs2⟩
    have HS2 := Lib.hid (HD.out.trans (since_mono hs2 HD.out.size))
    clear hs2
    go_wp2
    go_ret2
    exact ⟨rfl, HS2.out⟩

end Go.Proofs.Ytiabnlebonmedaa
