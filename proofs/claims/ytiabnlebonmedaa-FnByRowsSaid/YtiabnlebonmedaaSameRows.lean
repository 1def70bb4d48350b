/- The contracts of laws.sameInts and laws.sameRows. -/
import Derived.Test.YtiabnlebonmedaaHarn2
namespace Go.Proofs.Ytiabnlebonmedaa
open Go.RowKit Go.Deep

end Go.Proofs.Ytiabnlebonmedaa
