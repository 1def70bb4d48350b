/-
  No cell of these rows narrows 'for every input' (looked for: loops, veiled, ifaces, maps, wideKeys, modest, calm, conditions, laid).
  DERIVED. THE GIVEN ROWS OF THIS SEAT. 12 by the template 'for every input the law returns true; each argument reads behind the call as it read before'; 0 by the template 'total and deterministic' (their statements: YtkahgpgnfodpgaaTotals.lean).
  GIVEN WITH THE SEED: the statements are not yours to turn. If you find one false, say at which input.
  Laid BY PROGRAM, IN A SANDBOX (cutbox-rows.mjs): the forced cells as the released guide's own fill.sh prints them over the translation c5d27b6082920362… (all of the seat's roots in one cut). By AI agents, Wed Nov 11 2026. No macro, syntax, notation, axiom, sorry.
-/
import Derived.Test.YtkahgpgnfodpgaaChecked
import GoSem.Claim
import GoSem.ClaimJoined
import GoSem.ClaimMapViews
import Derived.JoinedTies
import Derived.KernelRfl
namespace Go.Proofs.Ytkahgpgnfodpgaa
/- THE CELL 'sum', in the pinned program and in every row, IS THE sha256 OF THE DUMP (.gsa) THAT YtkahgpgnfodpgaaProg.lean LOADS. Nothing in Lean hashes anything: it is a label: what it is worth is what the hold of that sum in a sandbox is worth. -/
noncomputable def Try.pinned : Pinned := { name := "ytkahgpgnfodpgaa", sum := "c5d27b6082920362b9177ac9a70c1406c2c6126e08a42dc623c2fffe6d42846e", checked := Try.checked }
namespace Rows
def none {H : Type} : Left H := { results := [], args := [] }

/-- 'laws.FnPowers': WHATEVER THE INPUT: true; the input reads as it did. -/
def fnPowersSpec : ChangeSpec := { name := "fnPowers", fn := fun _ => fun
  | [d] => { results := [.lit (.bool true)], args := [d] }
  | _ => none }
def fnPowersRow : OpenClaim := { program := "ytkahgpgnfodpgaa", sum := "c5d27b6082920362b9177ac9a70c1406c2c6126e08a42dc623c2fffe6d42846e", func := "loop.example/tableminors/laws.FnPowers", spec := "fnPowers", unfollowed := true, recurses := true, apart := false }
def FnPowersSaid : Prop := fnPowersRow.holds Try.pinned (OpenSpec.ofChange fnPowersSpec)

/-- ITS FALSE NEIGHBOUR: 'it returns false'. Refute it at one input. -/
def fnPowersWrong : ChangeSpec := { name := "fnPowers", fn := fun _ => fun
  | [d] => { results := [.lit (.bool false)], args := [d] }
  | _ => none }
def FnPowersWrongFalsely : Prop := fnPowersRow.holds Try.pinned (OpenSpec.ofChange fnPowersWrong)

/-- 'laws.FnPowersValue': WHATEVER THE INPUT: true; the input reads as it did. -/
def fnPowersValueSpec : ChangeSpec := { name := "fnPowersValue", fn := fun _ => fun
  | [d] => { results := [.lit (.bool true)], args := [d] }
  | _ => none }
def fnPowersValueRow : OpenClaim := { program := "ytkahgpgnfodpgaa", sum := "c5d27b6082920362b9177ac9a70c1406c2c6126e08a42dc623c2fffe6d42846e", func := "loop.example/tableminors/laws.FnPowersValue", spec := "fnPowersValue", apart := false }
def FnPowersValueSaid : Prop := fnPowersValueRow.holds Try.pinned (OpenSpec.ofChange fnPowersValueSpec)

/-- ITS FALSE NEIGHBOUR: 'it returns false'. Refute it at one input. -/
def fnPowersValueWrong : ChangeSpec := { name := "fnPowersValue", fn := fun _ => fun
  | [d] => { results := [.lit (.bool false)], args := [d] }
  | _ => none }
def FnPowersValueWrongFalsely : Prop := fnPowersValueRow.holds Try.pinned (OpenSpec.ofChange fnPowersValueWrong)

/-- 'laws.FnPowersStrict': WHATEVER THE INPUT: true; the input reads as it did. -/
def fnPowersStrictSpec : ChangeSpec := { name := "fnPowersStrict", fn := fun _ => fun
  | [d] => { results := [.lit (.bool true)], args := [d] }
  | _ => none }
def fnPowersStrictRow : OpenClaim := { program := "ytkahgpgnfodpgaa", sum := "c5d27b6082920362b9177ac9a70c1406c2c6126e08a42dc623c2fffe6d42846e", func := "loop.example/tableminors/laws.FnPowersStrict", spec := "fnPowersStrict", unfollowed := true, recurses := true, apart := false }
def FnPowersStrictSaid : Prop := fnPowersStrictRow.holds Try.pinned (OpenSpec.ofChange fnPowersStrictSpec)

/-- ITS FALSE NEIGHBOUR: 'it returns false'. Refute it at one input. -/
def fnPowersStrictWrong : ChangeSpec := { name := "fnPowersStrict", fn := fun _ => fun
  | [d] => { results := [.lit (.bool false)], args := [d] }
  | _ => none }
def FnPowersStrictWrongFalsely : Prop := fnPowersStrictRow.holds Try.pinned (OpenSpec.ofChange fnPowersStrictWrong)

/-- 'laws.FnOnes': WHATEVER THE INPUT: true; the input reads as it did. -/
def fnOnesSpec : ChangeSpec := { name := "fnOnes", fn := fun _ => fun
  | [d] => { results := [.lit (.bool true)], args := [d] }
  | _ => none }
def fnOnesRow : OpenClaim := { program := "ytkahgpgnfodpgaa", sum := "c5d27b6082920362b9177ac9a70c1406c2c6126e08a42dc623c2fffe6d42846e", func := "loop.example/tableminors/laws.FnOnes", spec := "fnOnes", unfollowed := true, recurses := true, apart := false }
def FnOnesSaid : Prop := fnOnesRow.holds Try.pinned (OpenSpec.ofChange fnOnesSpec)

/-- ITS FALSE NEIGHBOUR: 'it returns false'. Refute it at one input. -/
def fnOnesWrong : ChangeSpec := { name := "fnOnes", fn := fun _ => fun
  | [d] => { results := [.lit (.bool false)], args := [d] }
  | _ => none }
def FnOnesWrongFalsely : Prop := fnOnesRow.holds Try.pinned (OpenSpec.ofChange fnOnesWrong)

/-- 'laws.FnOnesValue': WHATEVER THE INPUT: true; the input reads as it did. -/
def fnOnesValueSpec : ChangeSpec := { name := "fnOnesValue", fn := fun _ => fun
  | [d] => { results := [.lit (.bool true)], args := [d] }
  | _ => none }
def fnOnesValueRow : OpenClaim := { program := "ytkahgpgnfodpgaa", sum := "c5d27b6082920362b9177ac9a70c1406c2c6126e08a42dc623c2fffe6d42846e", func := "loop.example/tableminors/laws.FnOnesValue", spec := "fnOnesValue", apart := false }
def FnOnesValueSaid : Prop := fnOnesValueRow.holds Try.pinned (OpenSpec.ofChange fnOnesValueSpec)

/-- ITS FALSE NEIGHBOUR: 'it returns false'. Refute it at one input. -/
def fnOnesValueWrong : ChangeSpec := { name := "fnOnesValue", fn := fun _ => fun
  | [d] => { results := [.lit (.bool false)], args := [d] }
  | _ => none }
def FnOnesValueWrongFalsely : Prop := fnOnesValueRow.holds Try.pinned (OpenSpec.ofChange fnOnesValueWrong)

/-- 'laws.FnDivisors': WHATEVER THE INPUT: true; the input reads as it did. -/
def fnDivisorsSpec : ChangeSpec := { name := "fnDivisors", fn := fun _ => fun
  | [d] => { results := [.lit (.bool true)], args := [d] }
  | _ => none }
def fnDivisorsRow : OpenClaim := { program := "ytkahgpgnfodpgaa", sum := "c5d27b6082920362b9177ac9a70c1406c2c6126e08a42dc623c2fffe6d42846e", func := "loop.example/tableminors/laws.FnDivisors", spec := "fnDivisors", unfollowed := true, recurses := true, apart := false }
def FnDivisorsSaid : Prop := fnDivisorsRow.holds Try.pinned (OpenSpec.ofChange fnDivisorsSpec)

/-- ITS FALSE NEIGHBOUR: 'it returns false'. Refute it at one input. -/
def fnDivisorsWrong : ChangeSpec := { name := "fnDivisors", fn := fun _ => fun
  | [d] => { results := [.lit (.bool false)], args := [d] }
  | _ => none }
def FnDivisorsWrongFalsely : Prop := fnDivisorsRow.holds Try.pinned (OpenSpec.ofChange fnDivisorsWrong)

/-- 'laws.FnDivisorsValue': WHATEVER THE INPUT: true; the input reads as it did. -/
def fnDivisorsValueSpec : ChangeSpec := { name := "fnDivisorsValue", fn := fun _ => fun
  | [d] => { results := [.lit (.bool true)], args := [d] }
  | _ => none }
def fnDivisorsValueRow : OpenClaim := { program := "ytkahgpgnfodpgaa", sum := "c5d27b6082920362b9177ac9a70c1406c2c6126e08a42dc623c2fffe6d42846e", func := "loop.example/tableminors/laws.FnDivisorsValue", spec := "fnDivisorsValue", apart := false }
def FnDivisorsValueSaid : Prop := fnDivisorsValueRow.holds Try.pinned (OpenSpec.ofChange fnDivisorsValueSpec)

/-- ITS FALSE NEIGHBOUR: 'it returns false'. Refute it at one input. -/
def fnDivisorsValueWrong : ChangeSpec := { name := "fnDivisorsValue", fn := fun _ => fun
  | [d] => { results := [.lit (.bool false)], args := [d] }
  | _ => none }
def FnDivisorsValueWrongFalsely : Prop := fnDivisorsValueRow.holds Try.pinned (OpenSpec.ofChange fnDivisorsValueWrong)

/-- 'laws.FnLeast': WHATEVER THE INPUT: true; the input reads as it did. -/
def fnLeastSpec : ChangeSpec := { name := "fnLeast", fn := fun _ => fun
  | [d] => { results := [.lit (.bool true)], args := [d] }
  | _ => none }
def fnLeastRow : OpenClaim := { program := "ytkahgpgnfodpgaa", sum := "c5d27b6082920362b9177ac9a70c1406c2c6126e08a42dc623c2fffe6d42846e", func := "loop.example/tableminors/laws.FnLeast", spec := "fnLeast", unfollowed := true, recurses := true, apart := false }
def FnLeastSaid : Prop := fnLeastRow.holds Try.pinned (OpenSpec.ofChange fnLeastSpec)

/-- ITS FALSE NEIGHBOUR: 'it returns false'. Refute it at one input. -/
def fnLeastWrong : ChangeSpec := { name := "fnLeast", fn := fun _ => fun
  | [d] => { results := [.lit (.bool false)], args := [d] }
  | _ => none }
def FnLeastWrongFalsely : Prop := fnLeastRow.holds Try.pinned (OpenSpec.ofChange fnLeastWrong)

/-- 'laws.FnSums': WHATEVER THE INPUT: true; the input reads as it did. -/
def fnSumsSpec : ChangeSpec := { name := "fnSums", fn := fun _ => fun
  | [d] => { results := [.lit (.bool true)], args := [d] }
  | _ => none }
def fnSumsRow : OpenClaim := { program := "ytkahgpgnfodpgaa", sum := "c5d27b6082920362b9177ac9a70c1406c2c6126e08a42dc623c2fffe6d42846e", func := "loop.example/tableminors/laws.FnSums", spec := "fnSums", unfollowed := true, recurses := true, apart := false }
def FnSumsSaid : Prop := fnSumsRow.holds Try.pinned (OpenSpec.ofChange fnSumsSpec)

/-- ITS FALSE NEIGHBOUR: 'it returns false'. Refute it at one input. -/
def fnSumsWrong : ChangeSpec := { name := "fnSums", fn := fun _ => fun
  | [d] => { results := [.lit (.bool false)], args := [d] }
  | _ => none }
def FnSumsWrongFalsely : Prop := fnSumsRow.holds Try.pinned (OpenSpec.ofChange fnSumsWrong)

/-- 'laws.FnTurns': WHATEVER THE INPUT: true; the input reads as it did. -/
def fnTurnsSpec : ChangeSpec := { name := "fnTurns", fn := fun _ => fun
  | [d] => { results := [.lit (.bool true)], args := [d] }
  | _ => none }
def fnTurnsRow : OpenClaim := { program := "ytkahgpgnfodpgaa", sum := "c5d27b6082920362b9177ac9a70c1406c2c6126e08a42dc623c2fffe6d42846e", func := "loop.example/tableminors/laws.FnTurns", spec := "fnTurns", unfollowed := true, recurses := true, apart := false }
def FnTurnsSaid : Prop := fnTurnsRow.holds Try.pinned (OpenSpec.ofChange fnTurnsSpec)

/-- ITS FALSE NEIGHBOUR: 'it returns false'. Refute it at one input. -/
def fnTurnsWrong : ChangeSpec := { name := "fnTurns", fn := fun _ => fun
  | [d] => { results := [.lit (.bool false)], args := [d] }
  | _ => none }
def FnTurnsWrongFalsely : Prop := fnTurnsRow.holds Try.pinned (OpenSpec.ofChange fnTurnsWrong)

/-- 'laws.FnTurnsMake': WHATEVER THE INPUT: true; the input reads as it did. -/
def fnTurnsMakeSpec : ChangeSpec := { name := "fnTurnsMake", fn := fun _ => fun
  | [d] => { results := [.lit (.bool true)], args := [d] }
  | _ => none }
def fnTurnsMakeRow : OpenClaim := { program := "ytkahgpgnfodpgaa", sum := "c5d27b6082920362b9177ac9a70c1406c2c6126e08a42dc623c2fffe6d42846e", func := "loop.example/tableminors/laws.FnTurnsMake", spec := "fnTurnsMake", unfollowed := true, recurses := true, apart := false }
def FnTurnsMakeSaid : Prop := fnTurnsMakeRow.holds Try.pinned (OpenSpec.ofChange fnTurnsMakeSpec)

/-- ITS FALSE NEIGHBOUR: 'it returns false'. Refute it at one input. -/
def fnTurnsMakeWrong : ChangeSpec := { name := "fnTurnsMake", fn := fun _ => fun
  | [d] => { results := [.lit (.bool false)], args := [d] }
  | _ => none }
def FnTurnsMakeWrongFalsely : Prop := fnTurnsMakeRow.holds Try.pinned (OpenSpec.ofChange fnTurnsMakeWrong)

/-- 'laws.FnExactTableTurn': WHATEVER THE INPUT: true; the input reads as it did. -/
def fnExactTableTurnSpec : ChangeSpec := { name := "fnExactTableTurn", fn := fun _ => fun
  | [d] => { results := [.lit (.bool true)], args := [d] }
  | _ => none }
def fnExactTableTurnRow : OpenClaim := { program := "ytkahgpgnfodpgaa", sum := "c5d27b6082920362b9177ac9a70c1406c2c6126e08a42dc623c2fffe6d42846e", func := "loop.example/tableminors/laws.FnExactTableTurn", spec := "fnExactTableTurn", unfollowed := true, recurses := true, apart := false }
def FnExactTableTurnSaid : Prop := fnExactTableTurnRow.holds Try.pinned (OpenSpec.ofChange fnExactTableTurnSpec)

/-- ITS FALSE NEIGHBOUR: 'it returns false'. Refute it at one input. -/
def fnExactTableTurnWrong : ChangeSpec := { name := "fnExactTableTurn", fn := fun _ => fun
  | [d] => { results := [.lit (.bool false)], args := [d] }
  | _ => none }
def FnExactTableTurnWrongFalsely : Prop := fnExactTableTurnRow.holds Try.pinned (OpenSpec.ofChange fnExactTableTurnWrong)

/- THE SECOND FORM. 'bulk': how many values and letters a reading holds, each counted each time it is reached (what is shared counts as often as it is met; a slice's spare places count too). A statement '..UptoSaid' is the law's where the arguments, and the package variables that the reading takes, are together of bulk at most 1048576: NARROWER than '..Said'. Prove '..Said' where nothing that the law and all that it calls make is longer than what came in: it says more and counts as full. Else prove '..UptoSaid'. A law counts once. -/
mutual
def uptoBulk {H : Type} : DataW H → Nat
  | .lit (.string bytes) => bytes.length + 1
  | .lit _ => 1
  | .nil => 1
  | .ptr d => uptoBulk d + 1
  | .slice elems spare => uptoBulkAll elems + uptoBulkAll spare + 1
  | .agg parts => uptoBulkAll parts + 1
  | .iface _ d => uptoBulk d + 1
  | .map entries => uptoBulkEntries entries + 1
  | .held _ => 1
def uptoBulkAll {H : Type} : List (DataW H) → Nat
  | [] => 0
  | d :: r => uptoBulk d + uptoBulkAll r
def uptoBulkEntries {H : Type} : List (Lit × DataW H) → Nat
  | [] => 0
  | x :: r => uptoBulkEntry x + uptoBulkEntries r
def uptoBulkEntry {H : Type} : Lit × DataW H → Nat
  | (.string bytes, d) => bytes.length + uptoBulk d + 1
  | (_, d) => uptoBulk d + 1
 end
def uptoSmall : (H : Type) → List (DataW H) → Bool := fun _ ds => decide (uptoBulkAll ds ≤ 1048576)
def OpenSpec.upto (s : _root_.Go.ChangeSpec) : _root_.Go.OpenSpec := { _root_.Go.OpenSpec.ofChange s with cond := some uptoSmall }

/-- 'laws.FnPowers', WHERE WHAT IT READS IS OF BULK AT MOST 1048576: true; the input reads as it did. -/
def fnPowersUptoRow : OpenClaim := { program := "ytkahgpgnfodpgaa", sum := "c5d27b6082920362b9177ac9a70c1406c2c6126e08a42dc623c2fffe6d42846e", func := "loop.example/tableminors/laws.FnPowers", spec := "fnPowers", unfollowed := true, recurses := true, apart := false, narrowed := true }
def FnPowersUptoSaid : Prop := fnPowersUptoRow.holds Try.pinned (OpenSpec.upto fnPowersSpec)

/-- 'laws.FnPowersValue', WHERE WHAT IT READS IS OF BULK AT MOST 1048576: true; the input reads as it did. -/
def fnPowersValueUptoRow : OpenClaim := { program := "ytkahgpgnfodpgaa", sum := "c5d27b6082920362b9177ac9a70c1406c2c6126e08a42dc623c2fffe6d42846e", func := "loop.example/tableminors/laws.FnPowersValue", spec := "fnPowersValue", apart := false, narrowed := true }
def FnPowersValueUptoSaid : Prop := fnPowersValueUptoRow.holds Try.pinned (OpenSpec.upto fnPowersValueSpec)

/-- 'laws.FnPowersStrict', WHERE WHAT IT READS IS OF BULK AT MOST 1048576: true; the input reads as it did. -/
def fnPowersStrictUptoRow : OpenClaim := { program := "ytkahgpgnfodpgaa", sum := "c5d27b6082920362b9177ac9a70c1406c2c6126e08a42dc623c2fffe6d42846e", func := "loop.example/tableminors/laws.FnPowersStrict", spec := "fnPowersStrict", unfollowed := true, recurses := true, apart := false, narrowed := true }
def FnPowersStrictUptoSaid : Prop := fnPowersStrictUptoRow.holds Try.pinned (OpenSpec.upto fnPowersStrictSpec)

/-- 'laws.FnOnes', WHERE WHAT IT READS IS OF BULK AT MOST 1048576: true; the input reads as it did. -/
def fnOnesUptoRow : OpenClaim := { program := "ytkahgpgnfodpgaa", sum := "c5d27b6082920362b9177ac9a70c1406c2c6126e08a42dc623c2fffe6d42846e", func := "loop.example/tableminors/laws.FnOnes", spec := "fnOnes", unfollowed := true, recurses := true, apart := false, narrowed := true }
def FnOnesUptoSaid : Prop := fnOnesUptoRow.holds Try.pinned (OpenSpec.upto fnOnesSpec)

/-- 'laws.FnOnesValue', WHERE WHAT IT READS IS OF BULK AT MOST 1048576: true; the input reads as it did. -/
def fnOnesValueUptoRow : OpenClaim := { program := "ytkahgpgnfodpgaa", sum := "c5d27b6082920362b9177ac9a70c1406c2c6126e08a42dc623c2fffe6d42846e", func := "loop.example/tableminors/laws.FnOnesValue", spec := "fnOnesValue", apart := false, narrowed := true }
def FnOnesValueUptoSaid : Prop := fnOnesValueUptoRow.holds Try.pinned (OpenSpec.upto fnOnesValueSpec)

/-- 'laws.FnDivisors', WHERE WHAT IT READS IS OF BULK AT MOST 1048576: true; the input reads as it did. -/
def fnDivisorsUptoRow : OpenClaim := { program := "ytkahgpgnfodpgaa", sum := "c5d27b6082920362b9177ac9a70c1406c2c6126e08a42dc623c2fffe6d42846e", func := "loop.example/tableminors/laws.FnDivisors", spec := "fnDivisors", unfollowed := true, recurses := true, apart := false, narrowed := true }
def FnDivisorsUptoSaid : Prop := fnDivisorsUptoRow.holds Try.pinned (OpenSpec.upto fnDivisorsSpec)

/-- 'laws.FnDivisorsValue', WHERE WHAT IT READS IS OF BULK AT MOST 1048576: true; the input reads as it did. -/
def fnDivisorsValueUptoRow : OpenClaim := { program := "ytkahgpgnfodpgaa", sum := "c5d27b6082920362b9177ac9a70c1406c2c6126e08a42dc623c2fffe6d42846e", func := "loop.example/tableminors/laws.FnDivisorsValue", spec := "fnDivisorsValue", apart := false, narrowed := true }
def FnDivisorsValueUptoSaid : Prop := fnDivisorsValueUptoRow.holds Try.pinned (OpenSpec.upto fnDivisorsValueSpec)

/-- 'laws.FnLeast', WHERE WHAT IT READS IS OF BULK AT MOST 1048576: true; the input reads as it did. -/
def fnLeastUptoRow : OpenClaim := { program := "ytkahgpgnfodpgaa", sum := "c5d27b6082920362b9177ac9a70c1406c2c6126e08a42dc623c2fffe6d42846e", func := "loop.example/tableminors/laws.FnLeast", spec := "fnLeast", unfollowed := true, recurses := true, apart := false, narrowed := true }
def FnLeastUptoSaid : Prop := fnLeastUptoRow.holds Try.pinned (OpenSpec.upto fnLeastSpec)

/-- 'laws.FnSums', WHERE WHAT IT READS IS OF BULK AT MOST 1048576: true; the input reads as it did. -/
def fnSumsUptoRow : OpenClaim := { program := "ytkahgpgnfodpgaa", sum := "c5d27b6082920362b9177ac9a70c1406c2c6126e08a42dc623c2fffe6d42846e", func := "loop.example/tableminors/laws.FnSums", spec := "fnSums", unfollowed := true, recurses := true, apart := false, narrowed := true }
def FnSumsUptoSaid : Prop := fnSumsUptoRow.holds Try.pinned (OpenSpec.upto fnSumsSpec)

/-- 'laws.FnTurns', WHERE WHAT IT READS IS OF BULK AT MOST 1048576: true; the input reads as it did. -/
def fnTurnsUptoRow : OpenClaim := { program := "ytkahgpgnfodpgaa", sum := "c5d27b6082920362b9177ac9a70c1406c2c6126e08a42dc623c2fffe6d42846e", func := "loop.example/tableminors/laws.FnTurns", spec := "fnTurns", unfollowed := true, recurses := true, apart := false, narrowed := true }
def FnTurnsUptoSaid : Prop := fnTurnsUptoRow.holds Try.pinned (OpenSpec.upto fnTurnsSpec)

/-- 'laws.FnTurnsMake', WHERE WHAT IT READS IS OF BULK AT MOST 1048576: true; the input reads as it did. -/
def fnTurnsMakeUptoRow : OpenClaim := { program := "ytkahgpgnfodpgaa", sum := "c5d27b6082920362b9177ac9a70c1406c2c6126e08a42dc623c2fffe6d42846e", func := "loop.example/tableminors/laws.FnTurnsMake", spec := "fnTurnsMake", unfollowed := true, recurses := true, apart := false, narrowed := true }
def FnTurnsMakeUptoSaid : Prop := fnTurnsMakeUptoRow.holds Try.pinned (OpenSpec.upto fnTurnsMakeSpec)

/-- 'laws.FnExactTableTurn', WHERE WHAT IT READS IS OF BULK AT MOST 1048576: true; the input reads as it did. -/
def fnExactTableTurnUptoRow : OpenClaim := { program := "ytkahgpgnfodpgaa", sum := "c5d27b6082920362b9177ac9a70c1406c2c6126e08a42dc623c2fffe6d42846e", func := "loop.example/tableminors/laws.FnExactTableTurn", spec := "fnExactTableTurn", unfollowed := true, recurses := true, apart := false, narrowed := true }
def FnExactTableTurnUptoSaid : Prop := fnExactTableTurnUptoRow.holds Try.pinned (OpenSpec.upto fnExactTableTurnSpec)

end Rows
end Go.Proofs.Ytkahgpgnfodpgaa
