/- The walk of laws.FnExactChainPairs at any arguments. -/
import Derived.Test.YtdbomnhlgaohaaaLawChainPairs
import Derived.Test.YtdbomnhlgaohaaaChainQ
import Derived.Test.YtdbomnhlgaohaaaChainJ
namespace Go.Proofs.Ytdbomnhlgaohaaa
open Go.RowKit Go.Deep

theorem lawChainPairs (a0 : Option Addr) (cap0 n0 : Nat) (l0 : List Int) (w : World) (hn0 : l0.length = n0) (h630 : n0 ≤ 9223372036854775807) (hm0 : RowR w a0 l0) :
    Calls Try.prog 10 #[.slice a0 n0 cap0] w fun e w' => e = .returned (.bool true) ∧ w.Since w.heap.size w' :=
  lawChainPairs_aux a0 cap0 n0 l0 (l9B l0) (if (l9B l0) = true then chV l0 else 0) w hn0 h630 hm0 
    (fun W b0 _ hr0 => specChainPairs_any b0 n0 n0 l0 W hn0 (Nat.le_refl _) h630 hr0)
    (fun W b0 _ hr0 => implChainPairs_any b0 n0 n0 l0 W hn0 h630 hr0)

end Go.Proofs.Ytdbomnhlgaohaaa
