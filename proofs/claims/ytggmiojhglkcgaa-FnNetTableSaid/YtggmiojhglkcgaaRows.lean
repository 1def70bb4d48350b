/-
  No cell of these rows narrows 'for every input' (looked for: loops, veiled, ifaces, maps, wideKeys, modest, calm, conditions, laid).
  DERIVED. THE GIVEN ROWS OF THIS SEAT. 11 by the template 'for every input the law returns true; each argument reads behind the call as it read before'; 0 by the template 'total and deterministic' (their statements: YtggmiojhglkcgaaTotals.lean).
  GIVEN WITH THE SEED: the statements are not yours to turn. If you find one false, say at which input.
  Laid BY PROGRAM, IN A SANDBOX (cutbox-rows.mjs): the forced cells as the released guide's own fill.sh prints them over the translation b146a86bad904583… (all of the seat's roots in one cut). By AI agents, Wed Nov 11 2026. No macro, syntax, notation, axiom, sorry.
-/
import Derived.Test.YtggmiojhglkcgaaChecked
import GoSem.Claim
import GoSem.ClaimJoined
import GoSem.ClaimMapViews
import Derived.JoinedTies
import Derived.KernelRfl
namespace Go.Proofs.Ytggmiojhglkcgaa
/- THE CELL 'sum', in the pinned program and in every row, IS THE sha256 OF THE DUMP (.gsa) THAT YtggmiojhglkcgaaProg.lean LOADS. Nothing in Lean hashes anything: it is a label: what it is worth is what the hold of that sum in a sandbox is worth. -/
noncomputable def Try.pinned : Pinned := { name := "ytggmiojhglkcgaa", sum := "b146a86bad904583e239cb96be6c937ddd5a0482643f205a9bbb1299863d93b4", checked := Try.checked }
namespace Rows
def none {H : Type} : Left H := { results := [], args := [] }

/-- 'laws.FnNet': WHATEVER THE INPUT: true; the input reads as it did. -/
def fnNetSpec : ChangeSpec := { name := "fnNet", fn := fun _ => fun
  | [d] => { results := [.lit (.bool true)], args := [d] }
  | _ => none }
def fnNetRow : OpenClaim := { program := "ytggmiojhglkcgaa", sum := "b146a86bad904583e239cb96be6c937ddd5a0482643f205a9bbb1299863d93b4", func := "loop.example/tableminors/laws.FnNet", spec := "fnNet", unfollowed := true, recurses := true, apart := false }
def FnNetSaid : Prop := fnNetRow.holds Try.pinned (OpenSpec.ofChange fnNetSpec)

/-- ITS FALSE NEIGHBOUR: 'it returns false'. Refute it at one input. -/
def fnNetWrong : ChangeSpec := { name := "fnNet", fn := fun _ => fun
  | [d] => { results := [.lit (.bool false)], args := [d] }
  | _ => none }
def FnNetWrongFalsely : Prop := fnNetRow.holds Try.pinned (OpenSpec.ofChange fnNetWrong)

/-- 'laws.FnNetTable': WHATEVER THE INPUT: true; the input reads as it did. -/
def fnNetTableSpec : ChangeSpec := { name := "fnNetTable", fn := fun _ => fun
  | [d] => { results := [.lit (.bool true)], args := [d] }
  | _ => none }
def fnNetTableRow : OpenClaim := { program := "ytggmiojhglkcgaa", sum := "b146a86bad904583e239cb96be6c937ddd5a0482643f205a9bbb1299863d93b4", func := "loop.example/tableminors/laws.FnNetTable", spec := "fnNetTable", unfollowed := true, recurses := true, apart := false }
def FnNetTableSaid : Prop := fnNetTableRow.holds Try.pinned (OpenSpec.ofChange fnNetTableSpec)

/-- ITS FALSE NEIGHBOUR: 'it returns false'. Refute it at one input. -/
def fnNetTableWrong : ChangeSpec := { name := "fnNetTable", fn := fun _ => fun
  | [d] => { results := [.lit (.bool false)], args := [d] }
  | _ => none }
def FnNetTableWrongFalsely : Prop := fnNetTableRow.holds Try.pinned (OpenSpec.ofChange fnNetTableWrong)

/-- 'laws.FnPaths': WHATEVER THE INPUT: true; the input reads as it did. -/
def fnPathsSpec : ChangeSpec := { name := "fnPaths", fn := fun _ => fun
  | [d] => { results := [.lit (.bool true)], args := [d] }
  | _ => none }
def fnPathsRow : OpenClaim := { program := "ytggmiojhglkcgaa", sum := "b146a86bad904583e239cb96be6c937ddd5a0482643f205a9bbb1299863d93b4", func := "loop.example/tableminors/laws.FnPaths", spec := "fnPaths", unfollowed := true, recurses := true, apart := false }
def FnPathsSaid : Prop := fnPathsRow.holds Try.pinned (OpenSpec.ofChange fnPathsSpec)

/-- ITS FALSE NEIGHBOUR: 'it returns false'. Refute it at one input. -/
def fnPathsWrong : ChangeSpec := { name := "fnPaths", fn := fun _ => fun
  | [d] => { results := [.lit (.bool false)], args := [d] }
  | _ => none }
def FnPathsWrongFalsely : Prop := fnPathsRow.holds Try.pinned (OpenSpec.ofChange fnPathsWrong)

/-- 'laws.FnFamilies': WHATEVER THE INPUT: true; the input reads as it did. -/
def fnFamiliesSpec : ChangeSpec := { name := "fnFamilies", fn := fun _ => fun
  | [d] => { results := [.lit (.bool true)], args := [d] }
  | _ => none }
def fnFamiliesRow : OpenClaim := { program := "ytggmiojhglkcgaa", sum := "b146a86bad904583e239cb96be6c937ddd5a0482643f205a9bbb1299863d93b4", func := "loop.example/tableminors/laws.FnFamilies", spec := "fnFamilies", unfollowed := true, recurses := true, apart := false }
def FnFamiliesSaid : Prop := fnFamiliesRow.holds Try.pinned (OpenSpec.ofChange fnFamiliesSpec)

/-- ITS FALSE NEIGHBOUR: 'it returns false'. Refute it at one input. -/
def fnFamiliesWrong : ChangeSpec := { name := "fnFamilies", fn := fun _ => fun
  | [d] => { results := [.lit (.bool false)], args := [d] }
  | _ => none }
def FnFamiliesWrongFalsely : Prop := fnFamiliesRow.holds Try.pinned (OpenSpec.ofChange fnFamiliesWrong)

/-- 'laws.FnFamiliesSign': WHATEVER THE INPUT: true; the input reads as it did. -/
def fnFamiliesSignSpec : ChangeSpec := { name := "fnFamiliesSign", fn := fun _ => fun
  | [d] => { results := [.lit (.bool true)], args := [d] }
  | _ => none }
def fnFamiliesSignRow : OpenClaim := { program := "ytggmiojhglkcgaa", sum := "b146a86bad904583e239cb96be6c937ddd5a0482643f205a9bbb1299863d93b4", func := "loop.example/tableminors/laws.FnFamiliesSign", spec := "fnFamiliesSign", unfollowed := true, recurses := true, apart := false }
def FnFamiliesSignSaid : Prop := fnFamiliesSignRow.holds Try.pinned (OpenSpec.ofChange fnFamiliesSignSpec)

/-- ITS FALSE NEIGHBOUR: 'it returns false'. Refute it at one input. -/
def fnFamiliesSignWrong : ChangeSpec := { name := "fnFamiliesSign", fn := fun _ => fun
  | [d] => { results := [.lit (.bool false)], args := [d] }
  | _ => none }
def FnFamiliesSignWrongFalsely : Prop := fnFamiliesSignRow.holds Try.pinned (OpenSpec.ofChange fnFamiliesSignWrong)

/-- 'laws.FnNetTurn': WHATEVER THE INPUT: true; the input reads as it did. -/
def fnNetTurnSpec : ChangeSpec := { name := "fnNetTurn", fn := fun _ => fun
  | [d] => { results := [.lit (.bool true)], args := [d] }
  | _ => none }
def fnNetTurnRow : OpenClaim := { program := "ytggmiojhglkcgaa", sum := "b146a86bad904583e239cb96be6c937ddd5a0482643f205a9bbb1299863d93b4", func := "loop.example/tableminors/laws.FnNetTurn", spec := "fnNetTurn", unfollowed := true, recurses := true, apart := false }
def FnNetTurnSaid : Prop := fnNetTurnRow.holds Try.pinned (OpenSpec.ofChange fnNetTurnSpec)

/-- ITS FALSE NEIGHBOUR: 'it returns false'. Refute it at one input. -/
def fnNetTurnWrong : ChangeSpec := { name := "fnNetTurn", fn := fun _ => fun
  | [d] => { results := [.lit (.bool false)], args := [d] }
  | _ => none }
def FnNetTurnWrongFalsely : Prop := fnNetTurnRow.holds Try.pinned (OpenSpec.ofChange fnNetTurnWrong)

/-- 'laws.FnNetJoin': WHATEVER THE INPUT: true; the input reads as it did. -/
def fnNetJoinSpec : ChangeSpec := { name := "fnNetJoin", fn := fun _ => fun
  | [d] => { results := [.lit (.bool true)], args := [d] }
  | _ => none }
def fnNetJoinRow : OpenClaim := { program := "ytggmiojhglkcgaa", sum := "b146a86bad904583e239cb96be6c937ddd5a0482643f205a9bbb1299863d93b4", func := "loop.example/tableminors/laws.FnNetJoin", spec := "fnNetJoin", unfollowed := true, recurses := true, apart := false }
def FnNetJoinSaid : Prop := fnNetJoinRow.holds Try.pinned (OpenSpec.ofChange fnNetJoinSpec)

/-- ITS FALSE NEIGHBOUR: 'it returns false'. Refute it at one input. -/
def fnNetJoinWrong : ChangeSpec := { name := "fnNetJoin", fn := fun _ => fun
  | [d] => { results := [.lit (.bool false)], args := [d] }
  | _ => none }
def FnNetJoinWrongFalsely : Prop := fnNetJoinRow.holds Try.pinned (OpenSpec.ofChange fnNetJoinWrong)

/-- 'laws.FnNetCount': WHATEVER THE INPUT: true; the input reads as it did. -/
def fnNetCountSpec : ChangeSpec := { name := "fnNetCount", fn := fun _ => fun
  | [d] => { results := [.lit (.bool true)], args := [d] }
  | _ => none }
def fnNetCountRow : OpenClaim := { program := "ytggmiojhglkcgaa", sum := "b146a86bad904583e239cb96be6c937ddd5a0482643f205a9bbb1299863d93b4", func := "loop.example/tableminors/laws.FnNetCount", spec := "fnNetCount", unfollowed := true, recurses := true, apart := false }
def FnNetCountSaid : Prop := fnNetCountRow.holds Try.pinned (OpenSpec.ofChange fnNetCountSpec)

/-- ITS FALSE NEIGHBOUR: 'it returns false'. Refute it at one input. -/
def fnNetCountWrong : ChangeSpec := { name := "fnNetCount", fn := fun _ => fun
  | [d] => { results := [.lit (.bool false)], args := [d] }
  | _ => none }
def FnNetCountWrongFalsely : Prop := fnNetCountRow.holds Try.pinned (OpenSpec.ofChange fnNetCountWrong)

/-- 'laws.FnNetMost': WHATEVER THE INPUT: true; the input reads as it did. -/
def fnNetMostSpec : ChangeSpec := { name := "fnNetMost", fn := fun _ => fun
  | [d] => { results := [.lit (.bool true)], args := [d] }
  | _ => none }
def fnNetMostRow : OpenClaim := { program := "ytggmiojhglkcgaa", sum := "b146a86bad904583e239cb96be6c937ddd5a0482643f205a9bbb1299863d93b4", func := "loop.example/tableminors/laws.FnNetMost", spec := "fnNetMost", unfollowed := true, recurses := true, apart := false }
def FnNetMostSaid : Prop := fnNetMostRow.holds Try.pinned (OpenSpec.ofChange fnNetMostSpec)

/-- ITS FALSE NEIGHBOUR: 'it returns false'. Refute it at one input. -/
def fnNetMostWrong : ChangeSpec := { name := "fnNetMost", fn := fun _ => fun
  | [d] => { results := [.lit (.bool false)], args := [d] }
  | _ => none }
def FnNetMostWrongFalsely : Prop := fnNetMostRow.holds Try.pinned (OpenSpec.ofChange fnNetMostWrong)

/-- 'laws.FnExactTableTurn': WHATEVER THE INPUT: true; the input reads as it did. -/
def fnExactTableTurnSpec : ChangeSpec := { name := "fnExactTableTurn", fn := fun _ => fun
  | [d] => { results := [.lit (.bool true)], args := [d] }
  | _ => none }
def fnExactTableTurnRow : OpenClaim := { program := "ytggmiojhglkcgaa", sum := "b146a86bad904583e239cb96be6c937ddd5a0482643f205a9bbb1299863d93b4", func := "loop.example/tableminors/laws.FnExactTableTurn", spec := "fnExactTableTurn", unfollowed := true, recurses := true, apart := false }
def FnExactTableTurnSaid : Prop := fnExactTableTurnRow.holds Try.pinned (OpenSpec.ofChange fnExactTableTurnSpec)

/-- ITS FALSE NEIGHBOUR: 'it returns false'. Refute it at one input. -/
def fnExactTableTurnWrong : ChangeSpec := { name := "fnExactTableTurn", fn := fun _ => fun
  | [d] => { results := [.lit (.bool false)], args := [d] }
  | _ => none }
def FnExactTableTurnWrongFalsely : Prop := fnExactTableTurnRow.holds Try.pinned (OpenSpec.ofChange fnExactTableTurnWrong)

/-- 'laws.FnExactTableUnit': WHATEVER THE INPUT: true; the input reads as it did. -/
def fnExactTableUnitSpec : ChangeSpec := { name := "fnExactTableUnit", fn := fun _ => fun
  | [d] => { results := [.lit (.bool true)], args := [d] }
  | _ => none }
def fnExactTableUnitRow : OpenClaim := { program := "ytggmiojhglkcgaa", sum := "b146a86bad904583e239cb96be6c937ddd5a0482643f205a9bbb1299863d93b4", func := "loop.example/tableminors/laws.FnExactTableUnit", spec := "fnExactTableUnit", unfollowed := true, recurses := true, apart := false }
def FnExactTableUnitSaid : Prop := fnExactTableUnitRow.holds Try.pinned (OpenSpec.ofChange fnExactTableUnitSpec)

/-- ITS FALSE NEIGHBOUR: 'it returns false'. Refute it at one input. -/
def fnExactTableUnitWrong : ChangeSpec := { name := "fnExactTableUnit", fn := fun _ => fun
  | [d] => { results := [.lit (.bool false)], args := [d] }
  | _ => none }
def FnExactTableUnitWrongFalsely : Prop := fnExactTableUnitRow.holds Try.pinned (OpenSpec.ofChange fnExactTableUnitWrong)

/- THE SECOND FORM. 'bulk': how many values and letters a reading holds, each counted each time it is reached (what is shared counts as often as it is met; a slice's spare places count too). A statement '..UptoSaid' is the law's where the arguments, and the package variables that the reading takes, are together of bulk at most 1048576: NARROWER than '..Said'. Prove '..Said' where nothing that the law and all that it calls make is longer than what came in: it says more and counts as full. Else prove '..UptoSaid'. A law counts once. -/
mutual
def uptoBulk {H : Type} : DataW H → Nat
  | .lit (.string bytes) => bytes.length + 1
  | .lit _ => 1
  | .nil => 1
  | .ptr d => uptoBulk d + 1
  | .slice elems spare => uptoBulkAll elems + uptoBulkAll spare + 1
  | .agg parts => uptoBulkAll parts + 1
  | .iface _ d => uptoBulk d + 1
  | .map entries => uptoBulkEntries entries + 1
  | .held _ => 1
def uptoBulkAll {H : Type} : List (DataW H) → Nat
  | [] => 0
  | d :: r => uptoBulk d + uptoBulkAll r
def uptoBulkEntries {H : Type} : List (Lit × DataW H) → Nat
  | [] => 0
  | x :: r => uptoBulkEntry x + uptoBulkEntries r
def uptoBulkEntry {H : Type} : Lit × DataW H → Nat
  | (.string bytes, d) => bytes.length + uptoBulk d + 1
  | (_, d) => uptoBulk d + 1
 end
def uptoSmall : (H : Type) → List (DataW H) → Bool := fun _ ds => decide (uptoBulkAll ds ≤ 1048576)
def OpenSpec.upto (s : _root_.Go.ChangeSpec) : _root_.Go.OpenSpec := { _root_.Go.OpenSpec.ofChange s with cond := some uptoSmall }

/-- 'laws.FnNet', WHERE WHAT IT READS IS OF BULK AT MOST 1048576: true; the input reads as it did. -/
def fnNetUptoRow : OpenClaim := { program := "ytggmiojhglkcgaa", sum := "b146a86bad904583e239cb96be6c937ddd5a0482643f205a9bbb1299863d93b4", func := "loop.example/tableminors/laws.FnNet", spec := "fnNet", unfollowed := true, recurses := true, apart := false, narrowed := true }
def FnNetUptoSaid : Prop := fnNetUptoRow.holds Try.pinned (OpenSpec.upto fnNetSpec)

/-- 'laws.FnNetTable', WHERE WHAT IT READS IS OF BULK AT MOST 1048576: true; the input reads as it did. -/
def fnNetTableUptoRow : OpenClaim := { program := "ytggmiojhglkcgaa", sum := "b146a86bad904583e239cb96be6c937ddd5a0482643f205a9bbb1299863d93b4", func := "loop.example/tableminors/laws.FnNetTable", spec := "fnNetTable", unfollowed := true, recurses := true, apart := false, narrowed := true }
def FnNetTableUptoSaid : Prop := fnNetTableUptoRow.holds Try.pinned (OpenSpec.upto fnNetTableSpec)

/-- 'laws.FnPaths', WHERE WHAT IT READS IS OF BULK AT MOST 1048576: true; the input reads as it did. -/
def fnPathsUptoRow : OpenClaim := { program := "ytggmiojhglkcgaa", sum := "b146a86bad904583e239cb96be6c937ddd5a0482643f205a9bbb1299863d93b4", func := "loop.example/tableminors/laws.FnPaths", spec := "fnPaths", unfollowed := true, recurses := true, apart := false, narrowed := true }
def FnPathsUptoSaid : Prop := fnPathsUptoRow.holds Try.pinned (OpenSpec.upto fnPathsSpec)

/-- 'laws.FnFamilies', WHERE WHAT IT READS IS OF BULK AT MOST 1048576: true; the input reads as it did. -/
def fnFamiliesUptoRow : OpenClaim := { program := "ytggmiojhglkcgaa", sum := "b146a86bad904583e239cb96be6c937ddd5a0482643f205a9bbb1299863d93b4", func := "loop.example/tableminors/laws.FnFamilies", spec := "fnFamilies", unfollowed := true, recurses := true, apart := false, narrowed := true }
def FnFamiliesUptoSaid : Prop := fnFamiliesUptoRow.holds Try.pinned (OpenSpec.upto fnFamiliesSpec)

/-- 'laws.FnFamiliesSign', WHERE WHAT IT READS IS OF BULK AT MOST 1048576: true; the input reads as it did. -/
def fnFamiliesSignUptoRow : OpenClaim := { program := "ytggmiojhglkcgaa", sum := "b146a86bad904583e239cb96be6c937ddd5a0482643f205a9bbb1299863d93b4", func := "loop.example/tableminors/laws.FnFamiliesSign", spec := "fnFamiliesSign", unfollowed := true, recurses := true, apart := false, narrowed := true }
def FnFamiliesSignUptoSaid : Prop := fnFamiliesSignUptoRow.holds Try.pinned (OpenSpec.upto fnFamiliesSignSpec)

/-- 'laws.FnNetTurn', WHERE WHAT IT READS IS OF BULK AT MOST 1048576: true; the input reads as it did. -/
def fnNetTurnUptoRow : OpenClaim := { program := "ytggmiojhglkcgaa", sum := "b146a86bad904583e239cb96be6c937ddd5a0482643f205a9bbb1299863d93b4", func := "loop.example/tableminors/laws.FnNetTurn", spec := "fnNetTurn", unfollowed := true, recurses := true, apart := false, narrowed := true }
def FnNetTurnUptoSaid : Prop := fnNetTurnUptoRow.holds Try.pinned (OpenSpec.upto fnNetTurnSpec)

/-- 'laws.FnNetJoin', WHERE WHAT IT READS IS OF BULK AT MOST 1048576: true; the input reads as it did. -/
def fnNetJoinUptoRow : OpenClaim := { program := "ytggmiojhglkcgaa", sum := "b146a86bad904583e239cb96be6c937ddd5a0482643f205a9bbb1299863d93b4", func := "loop.example/tableminors/laws.FnNetJoin", spec := "fnNetJoin", unfollowed := true, recurses := true, apart := false, narrowed := true }
def FnNetJoinUptoSaid : Prop := fnNetJoinUptoRow.holds Try.pinned (OpenSpec.upto fnNetJoinSpec)

/-- 'laws.FnNetCount', WHERE WHAT IT READS IS OF BULK AT MOST 1048576: true; the input reads as it did. -/
def fnNetCountUptoRow : OpenClaim := { program := "ytggmiojhglkcgaa", sum := "b146a86bad904583e239cb96be6c937ddd5a0482643f205a9bbb1299863d93b4", func := "loop.example/tableminors/laws.FnNetCount", spec := "fnNetCount", unfollowed := true, recurses := true, apart := false, narrowed := true }
def FnNetCountUptoSaid : Prop := fnNetCountUptoRow.holds Try.pinned (OpenSpec.upto fnNetCountSpec)

/-- 'laws.FnNetMost', WHERE WHAT IT READS IS OF BULK AT MOST 1048576: true; the input reads as it did. -/
def fnNetMostUptoRow : OpenClaim := { program := "ytggmiojhglkcgaa", sum := "b146a86bad904583e239cb96be6c937ddd5a0482643f205a9bbb1299863d93b4", func := "loop.example/tableminors/laws.FnNetMost", spec := "fnNetMost", unfollowed := true, recurses := true, apart := false, narrowed := true }
def FnNetMostUptoSaid : Prop := fnNetMostUptoRow.holds Try.pinned (OpenSpec.upto fnNetMostSpec)

/-- 'laws.FnExactTableTurn', WHERE WHAT IT READS IS OF BULK AT MOST 1048576: true; the input reads as it did. -/
def fnExactTableTurnUptoRow : OpenClaim := { program := "ytggmiojhglkcgaa", sum := "b146a86bad904583e239cb96be6c937ddd5a0482643f205a9bbb1299863d93b4", func := "loop.example/tableminors/laws.FnExactTableTurn", spec := "fnExactTableTurn", unfollowed := true, recurses := true, apart := false, narrowed := true }
def FnExactTableTurnUptoSaid : Prop := fnExactTableTurnUptoRow.holds Try.pinned (OpenSpec.upto fnExactTableTurnSpec)

/-- 'laws.FnExactTableUnit', WHERE WHAT IT READS IS OF BULK AT MOST 1048576: true; the input reads as it did. -/
def fnExactTableUnitUptoRow : OpenClaim := { program := "ytggmiojhglkcgaa", sum := "b146a86bad904583e239cb96be6c937ddd5a0482643f205a9bbb1299863d93b4", func := "loop.example/tableminors/laws.FnExactTableUnit", spec := "fnExactTableUnit", unfollowed := true, recurses := true, apart := false, narrowed := true }
def FnExactTableUnitUptoSaid : Prop := fnExactTableUnitUptoRow.holds Try.pinned (OpenSpec.upto fnExactTableUnitSpec)

end Rows
end Go.Proofs.Ytggmiojhglkcgaa
