/- The contract of the function value that tells the entries of a product. -/
import Derived.Test.YtkahgpgnfodpgaaLSum
import Derived.Test.YtkahgpgnfodpgaaGrid
namespace Go.Proofs.Ytkahgpgnfodpgaa
open Go.RowKit Go.Deep Go.Shelf
attribute [local go_sem] Oper.semAt_some

def dotF (l u : List (List Int)) (i k j : Nat) : Int := at2 l i j * at2 u j k

end Go.Proofs.Ytkahgpgnfodpgaa
