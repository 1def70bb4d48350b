/- The contracts of spec.l2Value, spec.ValueOrders and spec.ValueTrace. -/
import Derived.Test.YtiabnlebonmedaaOrders
namespace Go.Proofs.Ytiabnlebonmedaa
open Go.RowKit Go.Deep

set_option maxHeartbeats 1000000 in
theorem l2Value_any (a : Option Addr) (cap n : Nat) (l : List (List Int)) (hn : l.length = n) (hT : TabIn l) (hm : (l.getD 0 []).length = n) (w : World) (hmat : MatR w a l) :
    Calls Try.prog 49 #[.slice a n cap] w fun e w' => e = .returned (.int .i64 (ordF l n n 0)) ∧ Drawn w w' := by
  have E := Lib.hid (l2Orders_any a cap n l hn hT hm n 0 0 (Nat.zero_add _) (by omega) w hmat)
  clear hmat hT hm hn
  go_enter Try.func49, Try.ntmps49
  go_wp2_with fail
  refine (E.out).mono ?_
  rintro e w1 ⟨rfl, hd⟩
  go_wp2
  go_ret
  exact ⟨rfl, hd⟩

/-- A number and whether there is one. -/
def SpecV (w : World) (ok : Bool) (x : Int) (e : Ending) (w' : World) : Prop := e = .returned (.tuple #[.int .i64 (if ok then x else 0), .bool ok]) ∧ Drawn w w'

set_option maxHeartbeats 1000000 in
theorem specValueOrders_any (a : Option Addr) (cap n : Nat) (l : List (List Int)) (w : World) (hn : l.length = n) (hsz : szL l ≤ 1048576) (hm : MatR w a l) :
    Calls Try.prog 27 #[.slice a n cap] w (SpecV w (sqB l) (ordF l n n 0)) := by
  have E := l2Square_any a cap n l w hn hsz hm
  cases hs : sqB l with
  | false =>
    rw [hs] at E
    replace E := Lib.hid E
    clear hs hm hn hsz
    go_enter Try.func27, Try.ntmps27
    go_wp2_with fail
    refine (E.out).mono ?_
    rintro e w1 ⟨rfl, hd⟩
    go_wp2
    go_ret2
    exact ⟨rfl, hd⟩
  | true =>
    rw [hs] at E
    replace E := Lib.hid E
    obtain ⟨hT, hw⟩ := sqB_of hs
    have E2 := Lib.hid (fun (W : World) (hd : Drawn w W) => l2Value_any a cap n l hn hT (by rw [← hw, hn]) W (hm.drawn hd))
    clear hs hm hn hsz hT hw
    go_enter Try.func27, Try.ntmps27
    go_wp2_with fail
    refine (E.out).mono ?_
    rintro e w1 ⟨rfl, hd⟩
    go_wp2_with fail
    refine (E2.out w1 hd).mono ?_
    rintro e w2 ⟨rfl, hd2⟩
    go_wp2
    go_ret2
    exact ⟨rfl, hd.trans hd2⟩

/-- The sum of the middle. -/
def trF (l : List (List Int)) (i : Nat) : Int := at2 l i i

end Go.Proofs.Ytiabnlebonmedaa
