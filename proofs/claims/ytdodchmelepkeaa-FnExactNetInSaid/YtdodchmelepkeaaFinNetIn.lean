/- The walk of laws.FnExactNetIn at any arguments. -/
import Derived.Test.YtdodchmelepkeaaLawNetIn
import Derived.Test.YtdodchmelepkeaaNetInI
namespace Go.Proofs.Ytdodchmelepkeaa
open Go.RowKit Go.Deep

theorem lawNetIn (x : Int) (a : Option Addr) (cap n : Nat) (l : List RC) (w : World) (hn : l.length = n) (h63 : n ≤ 9223372036854775807) (hs : ShortL l) (hm : ChipsR w a l) :
    Calls Try.prog 3 #[.int .i64 x, .slice a n cap] w fun e w' => e = .returned (.bool true) ∧ w.Since w.heap.size w' :=
  lawNetIn_aux x a cap n l (netB x l) w hn h63 hs hm (fun _ W b c _ _ _ hb => specNetIn_any b c n x l W hn h63 hb) (fun _ W b c _ _ _ hb => implNetIn_any b c n x l W hn h63 hb)

end Go.Proofs.Ytdodchmelepkeaa
