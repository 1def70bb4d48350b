/- The contracts of spec.l2Value, spec.ValueOrders and spec.ValueTrace. -/
import Derived.Test.YtlgjplhffpmfpaaOrders
namespace Go.Proofs.Ytlgjplhffpmfpaa
open Go.RowKit Go.Deep

set_option maxHeartbeats 1000000 in
theorem l2Value_any (a : Option Addr) (cap n : Nat) (l : List (List Int)) (hn : l.length = n) (hT : TabIn l) (hm : (l.getD 0 []).length = n) (w : World) (hmat : MatR w a l) :
    Calls Try.prog 31 #[.slice a n cap] w fun e w' => e = .returned (.int .i64 (ordF l n n 0)) ∧ Drawn w w' := by
  have E := Lib.hid (l2Orders_any a cap n l hn hT hm n 0 0 (Nat.zero_add _) (by omega) w hmat)
  clear hmat hT hm hn
  go_enter Try.func31, Try.ntmps31
  go_wp2_with fail
  refine (E.out).mono ?_
  rintro e w1 ⟨rfl, hd⟩
  go_wp2
  go_ret
  exact ⟨rfl, hd⟩

/-- A number and whether there is one. -/
def SpecV (w : World) (ok : Bool) (x : Int) (e : Ending) (w' : World) : Prop := e = .returned (.tuple #[.int .i64 (if ok then x else 0), .bool ok]) ∧ Drawn w w'

/-- The sum of the middle. -/
def trF (l : List (List Int)) (i : Nat) : Int := at2 l i i

end Go.Proofs.Ytlgjplhffpmfpaa
