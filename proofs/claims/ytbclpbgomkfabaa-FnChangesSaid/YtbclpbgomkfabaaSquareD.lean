/- The contracts of the functions that draw a square. -/
import Derived.Test.YtbclpbgomkfabaaDrawOne
namespace Go.Proofs.Ytbclpbgomkfabaa
open Go.RowKit Go.Deep









end Go.Proofs.Ytbclpbgomkfabaa
