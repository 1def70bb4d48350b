/- The walk of laws.FnExactNetJoin at any arguments. -/
import Derived.Test.YtdodchmelepkeaaLawNetJoin
import Derived.Test.YtdodchmelepkeaaNetJoinI
namespace Go.Proofs.Ytdodchmelepkeaa
open Go.RowKit Go.Deep

theorem join_len (x : Int) (l u : List RC) : (resC (joinB x l u) (l ++ u)).length ≤ 1048576 := by
  cases hb : joinB x l u with
  | false => simp [resC]
  | true =>
    unfold joinB at hb
    simp only [Bool.and_eq_true, decide_eq_true_eq] at hb
    unfold resC
    rw [if_pos rfl, List.length_append]
    omega

theorem lawNetJoin (x : Int) (a : Option Addr) (cap n : Nat) (l : List RC) (a2 : Option Addr) (cap2 n2 : Nat) (u : List RC) (w : World) (hn : l.length = n) (h63 : n ≤ 9223372036854775807) (hs : ShortL l) (hm : ChipsR w a l) (hn2 : u.length = n2) (h632 : n2 ≤ 9223372036854775807) (hs2 : ShortL u) (hm2 : ChipsR w a2 u) :
    Calls Try.prog 8 #[.int .i64 x, .slice a n cap, .slice a2 n2 cap2] w fun e w' => e = .returned (.bool true) ∧ w.Since w.heap.size w' :=
  lawNetJoin_aux x a cap n l a2 cap2 n2 u (joinB x l u) (resC (joinB x l u) (l ++ u)) w hn h63 hs hm hn2 h632 hs2 hm2 (join_len x l u)
    (fun _ _ W b c b2 c2 _ _ hg hb _ _ hg2 hb2 => (specNetJoin_any b c n b2 c2 n2 x l u W hn h63 hb hn2 h632 hb2 (hg.elim fun g e => ⟨g, 0, e⟩) (hg2.elim fun g e => ⟨g, 0, e⟩)).mono fun _ _ ⟨a, c, h1, h2, h3, _⟩ => ⟨a, c, h1, h2, h3⟩)
    (fun _ _ W b c b2 c2 _ _ hg hb _ _ hg2 hb2 => implNetJoin_any b c n b2 c2 n2 x l u W hn h63 hb hn2 h632 hb2 (hg.elim fun g e => ⟨g, 0, e⟩) (hg2.elim fun g e => ⟨g, 0, e⟩))

end Go.Proofs.Ytdodchmelepkeaa
