/- The contracts of spec.l2Value, spec.ValueOrders and spec.ValueTrace. -/
import Derived.Test.YtdbomnhlgaohaaaOrders
namespace Go.Proofs.Ytdbomnhlgaohaaa
open Go.RowKit Go.Deep

/-- A number and whether there is one. -/
def SpecV (w : World) (ok : Bool) (x : Int) (e : Ending) (w' : World) : Prop := e = .returned (.tuple #[.int .i64 (if ok then x else 0), .bool ok]) ∧ Drawn w w'

/-- The sum of the middle. -/
def trF (l : List (List Int)) (i : Nat) : Int := at2 l i i

end Go.Proofs.Ytdbomnhlgaohaaa
