/- The contracts of the functions that draw a square. -/
import Derived.Test.YtkahgpgnfodpgaaDrawOne
namespace Go.Proofs.Ytkahgpgnfodpgaa
open Go.RowKit Go.Deep









end Go.Proofs.Ytkahgpgnfodpgaa
