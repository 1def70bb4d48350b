/-
  No cell of these rows narrows 'for every input' (looked for: loops, veiled, ifaces, maps, wideKeys, modest, calm, conditions, laid).
  DERIVED. THE GIVEN ROWS OF THIS SEAT. 10 by the template 'for every input the law returns true; each argument reads behind the call as it read before'; 0 by the template 'total and deterministic' (their statements: YtdodchmelepkeaaTotals.lean).
  GIVEN WITH THE SEED: the statements are not yours to turn. If you find one false, say at which input.
  Laid BY PROGRAM, IN A SANDBOX (cutbox-rows.mjs): the forced cells as the released guide's own fill.sh prints them over the translation 5ecf966f5727c573… (all of the seat's roots in one cut). By AI agents, Wed Nov 11 2026. No macro, syntax, notation, axiom, sorry.
-/
import Derived.Test.YtdodchmelepkeaaChecked
import GoSem.Claim
import GoSem.ClaimJoined
import GoSem.ClaimMapViews
import Derived.JoinedTies
import Derived.KernelRfl
namespace Go.Proofs.Ytdodchmelepkeaa
/- THE CELL 'sum', in the pinned program and in every row, IS THE sha256 OF THE DUMP (.gsa) THAT YtdodchmelepkeaaProg.lean LOADS. Nothing in Lean hashes anything: it is a label: what it is worth is what the hold of that sum in a sandbox is worth. -/
noncomputable def Try.pinned : Pinned := { name := "ytdodchmelepkeaa", sum := "5ecf966f5727c573ba12688e688be823052b74166b73b20ddffb5ab5794d9041", checked := Try.checked }
namespace Rows
def none {H : Type} : Left H := { results := [], args := [] }

/-- 'laws.FnExactNetIn': WHATEVER THE INPUT: true; the input reads as it did. -/
def fnExactNetInSpec : ChangeSpec := { name := "fnExactNetIn", fn := fun _ => fun
  | [d1, d2] => { results := [.lit (.bool true)], args := [d1, d2] }
  | _ => none }
def fnExactNetInRow : OpenClaim := { program := "ytdodchmelepkeaa", sum := "5ecf966f5727c573ba12688e688be823052b74166b73b20ddffb5ab5794d9041", func := "loop.example/tableminors/laws.FnExactNetIn", spec := "fnExactNetIn", unfollowed := true, recurses := true, apart := false }
def FnExactNetInSaid : Prop := fnExactNetInRow.holds Try.pinned (OpenSpec.ofChange fnExactNetInSpec)

/-- ITS FALSE NEIGHBOUR: 'it returns false'. Refute it at one input. -/
def fnExactNetInWrong : ChangeSpec := { name := "fnExactNetIn", fn := fun _ => fun
  | [d1, d2] => { results := [.lit (.bool false)], args := [d1, d2] }
  | _ => none }
def FnExactNetInWrongFalsely : Prop := fnExactNetInRow.holds Try.pinned (OpenSpec.ofChange fnExactNetInWrong)

/-- 'laws.FnExactNetTable': WHATEVER THE INPUT: true; the input reads as it did. -/
def fnExactNetTableSpec : ChangeSpec := { name := "fnExactNetTable", fn := fun _ => fun
  | [d1, d2] => { results := [.lit (.bool true)], args := [d1, d2] }
  | _ => none }
def fnExactNetTableRow : OpenClaim := { program := "ytdodchmelepkeaa", sum := "5ecf966f5727c573ba12688e688be823052b74166b73b20ddffb5ab5794d9041", func := "loop.example/tableminors/laws.FnExactNetTable", spec := "fnExactNetTable", unfollowed := true, recurses := true, apart := false }
def FnExactNetTableSaid : Prop := fnExactNetTableRow.holds Try.pinned (OpenSpec.ofChange fnExactNetTableSpec)

/-- ITS FALSE NEIGHBOUR: 'it returns false'. Refute it at one input. -/
def fnExactNetTableWrong : ChangeSpec := { name := "fnExactNetTable", fn := fun _ => fun
  | [d1, d2] => { results := [.lit (.bool false)], args := [d1, d2] }
  | _ => none }
def FnExactNetTableWrongFalsely : Prop := fnExactNetTableRow.holds Try.pinned (OpenSpec.ofChange fnExactNetTableWrong)

/-- 'laws.FnExactNetPaths': WHATEVER THE INPUT: true; the input reads as it did. -/
def fnExactNetPathsSpec : ChangeSpec := { name := "fnExactNetPaths", fn := fun _ => fun
  | [d1, d2, d3, d4] => { results := [.lit (.bool true)], args := [d1, d2, d3, d4] }
  | _ => none }
def fnExactNetPathsRow : OpenClaim := { program := "ytdodchmelepkeaa", sum := "5ecf966f5727c573ba12688e688be823052b74166b73b20ddffb5ab5794d9041", func := "loop.example/tableminors/laws.FnExactNetPaths", spec := "fnExactNetPaths", unfollowed := true, recurses := true, apart := false }
def FnExactNetPathsSaid : Prop := fnExactNetPathsRow.holds Try.pinned (OpenSpec.ofChange fnExactNetPathsSpec)

/-- ITS FALSE NEIGHBOUR: 'it returns false'. Refute it at one input. -/
def fnExactNetPathsWrong : ChangeSpec := { name := "fnExactNetPaths", fn := fun _ => fun
  | [d1, d2, d3, d4] => { results := [.lit (.bool false)], args := [d1, d2, d3, d4] }
  | _ => none }
def FnExactNetPathsWrongFalsely : Prop := fnExactNetPathsRow.holds Try.pinned (OpenSpec.ofChange fnExactNetPathsWrong)

/-- 'laws.FnExactNetFamilies': WHATEVER THE INPUT: true; the input reads as it did. -/
def fnExactNetFamiliesSpec : ChangeSpec := { name := "fnExactNetFamilies", fn := fun _ => fun
  | [d1, d2, d3, d4] => { results := [.lit (.bool true)], args := [d1, d2, d3, d4] }
  | _ => none }
def fnExactNetFamiliesRow : OpenClaim := { program := "ytdodchmelepkeaa", sum := "5ecf966f5727c573ba12688e688be823052b74166b73b20ddffb5ab5794d9041", func := "loop.example/tableminors/laws.FnExactNetFamilies", spec := "fnExactNetFamilies", unfollowed := true, recurses := true, apart := false }
def FnExactNetFamiliesSaid : Prop := fnExactNetFamiliesRow.holds Try.pinned (OpenSpec.ofChange fnExactNetFamiliesSpec)

/-- ITS FALSE NEIGHBOUR: 'it returns false'. Refute it at one input. -/
def fnExactNetFamiliesWrong : ChangeSpec := { name := "fnExactNetFamilies", fn := fun _ => fun
  | [d1, d2, d3, d4] => { results := [.lit (.bool false)], args := [d1, d2, d3, d4] }
  | _ => none }
def FnExactNetFamiliesWrongFalsely : Prop := fnExactNetFamiliesRow.holds Try.pinned (OpenSpec.ofChange fnExactNetFamiliesWrong)

/-- 'laws.FnExactNetTurn': WHATEVER THE INPUT: true; the input reads as it did. -/
def fnExactNetTurnSpec : ChangeSpec := { name := "fnExactNetTurn", fn := fun _ => fun
  | [d1, d2] => { results := [.lit (.bool true)], args := [d1, d2] }
  | _ => none }
def fnExactNetTurnRow : OpenClaim := { program := "ytdodchmelepkeaa", sum := "5ecf966f5727c573ba12688e688be823052b74166b73b20ddffb5ab5794d9041", func := "loop.example/tableminors/laws.FnExactNetTurn", spec := "fnExactNetTurn", unfollowed := true, recurses := true, apart := false }
def FnExactNetTurnSaid : Prop := fnExactNetTurnRow.holds Try.pinned (OpenSpec.ofChange fnExactNetTurnSpec)

/-- ITS FALSE NEIGHBOUR: 'it returns false'. Refute it at one input. -/
def fnExactNetTurnWrong : ChangeSpec := { name := "fnExactNetTurn", fn := fun _ => fun
  | [d1, d2] => { results := [.lit (.bool false)], args := [d1, d2] }
  | _ => none }
def FnExactNetTurnWrongFalsely : Prop := fnExactNetTurnRow.holds Try.pinned (OpenSpec.ofChange fnExactNetTurnWrong)

/-- 'laws.FnExactNetJoin': WHATEVER THE INPUT: true; the input reads as it did. -/
def fnExactNetJoinSpec : ChangeSpec := { name := "fnExactNetJoin", fn := fun _ => fun
  | [d1, d2, d3] => { results := [.lit (.bool true)], args := [d1, d2, d3] }
  | _ => none }
def fnExactNetJoinRow : OpenClaim := { program := "ytdodchmelepkeaa", sum := "5ecf966f5727c573ba12688e688be823052b74166b73b20ddffb5ab5794d9041", func := "loop.example/tableminors/laws.FnExactNetJoin", spec := "fnExactNetJoin", unfollowed := true, recurses := true, apart := false }
def FnExactNetJoinSaid : Prop := fnExactNetJoinRow.holds Try.pinned (OpenSpec.ofChange fnExactNetJoinSpec)

/-- ITS FALSE NEIGHBOUR: 'it returns false'. Refute it at one input. -/
def fnExactNetJoinWrong : ChangeSpec := { name := "fnExactNetJoin", fn := fun _ => fun
  | [d1, d2, d3] => { results := [.lit (.bool false)], args := [d1, d2, d3] }
  | _ => none }
def FnExactNetJoinWrongFalsely : Prop := fnExactNetJoinRow.holds Try.pinned (OpenSpec.ofChange fnExactNetJoinWrong)

/-- 'laws.FnExactNetCount': WHATEVER THE INPUT: true; the input reads as it did. -/
def fnExactNetCountSpec : ChangeSpec := { name := "fnExactNetCount", fn := fun _ => fun
  | [d1, d2, d3, d4] => { results := [.lit (.bool true)], args := [d1, d2, d3, d4] }
  | _ => none }
def fnExactNetCountRow : OpenClaim := { program := "ytdodchmelepkeaa", sum := "5ecf966f5727c573ba12688e688be823052b74166b73b20ddffb5ab5794d9041", func := "loop.example/tableminors/laws.FnExactNetCount", spec := "fnExactNetCount", unfollowed := true, recurses := true, apart := false }
def FnExactNetCountSaid : Prop := fnExactNetCountRow.holds Try.pinned (OpenSpec.ofChange fnExactNetCountSpec)

/-- ITS FALSE NEIGHBOUR: 'it returns false'. Refute it at one input. -/
def fnExactNetCountWrong : ChangeSpec := { name := "fnExactNetCount", fn := fun _ => fun
  | [d1, d2, d3, d4] => { results := [.lit (.bool false)], args := [d1, d2, d3, d4] }
  | _ => none }
def FnExactNetCountWrongFalsely : Prop := fnExactNetCountRow.holds Try.pinned (OpenSpec.ofChange fnExactNetCountWrong)

/-- 'laws.FnExactNetMost': WHATEVER THE INPUT: true; the input reads as it did. -/
def fnExactNetMostSpec : ChangeSpec := { name := "fnExactNetMost", fn := fun _ => fun
  | [d1, d2] => { results := [.lit (.bool true)], args := [d1, d2] }
  | _ => none }
def fnExactNetMostRow : OpenClaim := { program := "ytdodchmelepkeaa", sum := "5ecf966f5727c573ba12688e688be823052b74166b73b20ddffb5ab5794d9041", func := "loop.example/tableminors/laws.FnExactNetMost", spec := "fnExactNetMost", unfollowed := true, recurses := true, apart := false }
def FnExactNetMostSaid : Prop := fnExactNetMostRow.holds Try.pinned (OpenSpec.ofChange fnExactNetMostSpec)

/-- ITS FALSE NEIGHBOUR: 'it returns false'. Refute it at one input. -/
def fnExactNetMostWrong : ChangeSpec := { name := "fnExactNetMost", fn := fun _ => fun
  | [d1, d2] => { results := [.lit (.bool false)], args := [d1, d2] }
  | _ => none }
def FnExactNetMostWrongFalsely : Prop := fnExactNetMostRow.holds Try.pinned (OpenSpec.ofChange fnExactNetMostWrong)

/-- 'laws.FnExactTableTurn': WHATEVER THE INPUT: true; the input reads as it did. -/
def fnExactTableTurnSpec : ChangeSpec := { name := "fnExactTableTurn", fn := fun _ => fun
  | [d] => { results := [.lit (.bool true)], args := [d] }
  | _ => none }
def fnExactTableTurnRow : OpenClaim := { program := "ytdodchmelepkeaa", sum := "5ecf966f5727c573ba12688e688be823052b74166b73b20ddffb5ab5794d9041", func := "loop.example/tableminors/laws.FnExactTableTurn", spec := "fnExactTableTurn", unfollowed := true, recurses := true, apart := false }
def FnExactTableTurnSaid : Prop := fnExactTableTurnRow.holds Try.pinned (OpenSpec.ofChange fnExactTableTurnSpec)

/-- ITS FALSE NEIGHBOUR: 'it returns false'. Refute it at one input. -/
def fnExactTableTurnWrong : ChangeSpec := { name := "fnExactTableTurn", fn := fun _ => fun
  | [d] => { results := [.lit (.bool false)], args := [d] }
  | _ => none }
def FnExactTableTurnWrongFalsely : Prop := fnExactTableTurnRow.holds Try.pinned (OpenSpec.ofChange fnExactTableTurnWrong)

/-- 'laws.FnExactTableUnit': WHATEVER THE INPUT: true; the input reads as it did. -/
def fnExactTableUnitSpec : ChangeSpec := { name := "fnExactTableUnit", fn := fun _ => fun
  | [d] => { results := [.lit (.bool true)], args := [d] }
  | _ => none }
def fnExactTableUnitRow : OpenClaim := { program := "ytdodchmelepkeaa", sum := "5ecf966f5727c573ba12688e688be823052b74166b73b20ddffb5ab5794d9041", func := "loop.example/tableminors/laws.FnExactTableUnit", spec := "fnExactTableUnit", unfollowed := true, recurses := true, apart := false }
def FnExactTableUnitSaid : Prop := fnExactTableUnitRow.holds Try.pinned (OpenSpec.ofChange fnExactTableUnitSpec)

/-- ITS FALSE NEIGHBOUR: 'it returns false'. Refute it at one input. -/
def fnExactTableUnitWrong : ChangeSpec := { name := "fnExactTableUnit", fn := fun _ => fun
  | [d] => { results := [.lit (.bool false)], args := [d] }
  | _ => none }
def FnExactTableUnitWrongFalsely : Prop := fnExactTableUnitRow.holds Try.pinned (OpenSpec.ofChange fnExactTableUnitWrong)

/- THE SECOND FORM. 'bulk': how many values and letters a reading holds, each counted each time it is reached (what is shared counts as often as it is met; a slice's spare places count too). A statement '..UptoSaid' is the law's where the arguments, and the package variables that the reading takes, are together of bulk at most 1048576: NARROWER than '..Said'. Prove '..Said' where nothing that the law and all that it calls make is longer than what came in: it says more and counts as full. Else prove '..UptoSaid'. A law counts once. -/
mutual
def uptoBulk {H : Type} : DataW H → Nat
  | .lit (.string bytes) => bytes.length + 1
  | .lit _ => 1
  | .nil => 1
  | .ptr d => uptoBulk d + 1
  | .slice elems spare => uptoBulkAll elems + uptoBulkAll spare + 1
  | .agg parts => uptoBulkAll parts + 1
  | .iface _ d => uptoBulk d + 1
  | .map entries => uptoBulkEntries entries + 1
  | .held _ => 1
def uptoBulkAll {H : Type} : List (DataW H) → Nat
  | [] => 0
  | d :: r => uptoBulk d + uptoBulkAll r
def uptoBulkEntries {H : Type} : List (Lit × DataW H) → Nat
  | [] => 0
  | x :: r => uptoBulkEntry x + uptoBulkEntries r
def uptoBulkEntry {H : Type} : Lit × DataW H → Nat
  | (.string bytes, d) => bytes.length + uptoBulk d + 1
  | (_, d) => uptoBulk d + 1
 end
def uptoSmall : (H : Type) → List (DataW H) → Bool := fun _ ds => decide (uptoBulkAll ds ≤ 1048576)
def OpenSpec.upto (s : _root_.Go.ChangeSpec) : _root_.Go.OpenSpec := { _root_.Go.OpenSpec.ofChange s with cond := some uptoSmall }

/-- 'laws.FnExactNetIn', WHERE WHAT IT READS IS OF BULK AT MOST 1048576: true; the input reads as it did. -/
def fnExactNetInUptoRow : OpenClaim := { program := "ytdodchmelepkeaa", sum := "5ecf966f5727c573ba12688e688be823052b74166b73b20ddffb5ab5794d9041", func := "loop.example/tableminors/laws.FnExactNetIn", spec := "fnExactNetIn", unfollowed := true, recurses := true, apart := false, narrowed := true }
def FnExactNetInUptoSaid : Prop := fnExactNetInUptoRow.holds Try.pinned (OpenSpec.upto fnExactNetInSpec)

/-- 'laws.FnExactNetTable', WHERE WHAT IT READS IS OF BULK AT MOST 1048576: true; the input reads as it did. -/
def fnExactNetTableUptoRow : OpenClaim := { program := "ytdodchmelepkeaa", sum := "5ecf966f5727c573ba12688e688be823052b74166b73b20ddffb5ab5794d9041", func := "loop.example/tableminors/laws.FnExactNetTable", spec := "fnExactNetTable", unfollowed := true, recurses := true, apart := false, narrowed := true }
def FnExactNetTableUptoSaid : Prop := fnExactNetTableUptoRow.holds Try.pinned (OpenSpec.upto fnExactNetTableSpec)

/-- 'laws.FnExactNetPaths', WHERE WHAT IT READS IS OF BULK AT MOST 1048576: true; the input reads as it did. -/
def fnExactNetPathsUptoRow : OpenClaim := { program := "ytdodchmelepkeaa", sum := "5ecf966f5727c573ba12688e688be823052b74166b73b20ddffb5ab5794d9041", func := "loop.example/tableminors/laws.FnExactNetPaths", spec := "fnExactNetPaths", unfollowed := true, recurses := true, apart := false, narrowed := true }
def FnExactNetPathsUptoSaid : Prop := fnExactNetPathsUptoRow.holds Try.pinned (OpenSpec.upto fnExactNetPathsSpec)

/-- 'laws.FnExactNetFamilies', WHERE WHAT IT READS IS OF BULK AT MOST 1048576: true; the input reads as it did. -/
def fnExactNetFamiliesUptoRow : OpenClaim := { program := "ytdodchmelepkeaa", sum := "5ecf966f5727c573ba12688e688be823052b74166b73b20ddffb5ab5794d9041", func := "loop.example/tableminors/laws.FnExactNetFamilies", spec := "fnExactNetFamilies", unfollowed := true, recurses := true, apart := false, narrowed := true }
def FnExactNetFamiliesUptoSaid : Prop := fnExactNetFamiliesUptoRow.holds Try.pinned (OpenSpec.upto fnExactNetFamiliesSpec)

/-- 'laws.FnExactNetTurn', WHERE WHAT IT READS IS OF BULK AT MOST 1048576: true; the input reads as it did. -/
def fnExactNetTurnUptoRow : OpenClaim := { program := "ytdodchmelepkeaa", sum := "5ecf966f5727c573ba12688e688be823052b74166b73b20ddffb5ab5794d9041", func := "loop.example/tableminors/laws.FnExactNetTurn", spec := "fnExactNetTurn", unfollowed := true, recurses := true, apart := false, narrowed := true }
def FnExactNetTurnUptoSaid : Prop := fnExactNetTurnUptoRow.holds Try.pinned (OpenSpec.upto fnExactNetTurnSpec)

/-- 'laws.FnExactNetJoin', WHERE WHAT IT READS IS OF BULK AT MOST 1048576: true; the input reads as it did. -/
def fnExactNetJoinUptoRow : OpenClaim := { program := "ytdodchmelepkeaa", sum := "5ecf966f5727c573ba12688e688be823052b74166b73b20ddffb5ab5794d9041", func := "loop.example/tableminors/laws.FnExactNetJoin", spec := "fnExactNetJoin", unfollowed := true, recurses := true, apart := false, narrowed := true }
def FnExactNetJoinUptoSaid : Prop := fnExactNetJoinUptoRow.holds Try.pinned (OpenSpec.upto fnExactNetJoinSpec)

/-- 'laws.FnExactNetCount', WHERE WHAT IT READS IS OF BULK AT MOST 1048576: true; the input reads as it did. -/
def fnExactNetCountUptoRow : OpenClaim := { program := "ytdodchmelepkeaa", sum := "5ecf966f5727c573ba12688e688be823052b74166b73b20ddffb5ab5794d9041", func := "loop.example/tableminors/laws.FnExactNetCount", spec := "fnExactNetCount", unfollowed := true, recurses := true, apart := false, narrowed := true }
def FnExactNetCountUptoSaid : Prop := fnExactNetCountUptoRow.holds Try.pinned (OpenSpec.upto fnExactNetCountSpec)

/-- 'laws.FnExactNetMost', WHERE WHAT IT READS IS OF BULK AT MOST 1048576: true; the input reads as it did. -/
def fnExactNetMostUptoRow : OpenClaim := { program := "ytdodchmelepkeaa", sum := "5ecf966f5727c573ba12688e688be823052b74166b73b20ddffb5ab5794d9041", func := "loop.example/tableminors/laws.FnExactNetMost", spec := "fnExactNetMost", unfollowed := true, recurses := true, apart := false, narrowed := true }
def FnExactNetMostUptoSaid : Prop := fnExactNetMostUptoRow.holds Try.pinned (OpenSpec.upto fnExactNetMostSpec)

/-- 'laws.FnExactTableTurn', WHERE WHAT IT READS IS OF BULK AT MOST 1048576: true; the input reads as it did. -/
def fnExactTableTurnUptoRow : OpenClaim := { program := "ytdodchmelepkeaa", sum := "5ecf966f5727c573ba12688e688be823052b74166b73b20ddffb5ab5794d9041", func := "loop.example/tableminors/laws.FnExactTableTurn", spec := "fnExactTableTurn", unfollowed := true, recurses := true, apart := false, narrowed := true }
def FnExactTableTurnUptoSaid : Prop := fnExactTableTurnUptoRow.holds Try.pinned (OpenSpec.upto fnExactTableTurnSpec)

/-- 'laws.FnExactTableUnit', WHERE WHAT IT READS IS OF BULK AT MOST 1048576: true; the input reads as it did. -/
def fnExactTableUnitUptoRow : OpenClaim := { program := "ytdodchmelepkeaa", sum := "5ecf966f5727c573ba12688e688be823052b74166b73b20ddffb5ab5794d9041", func := "loop.example/tableminors/laws.FnExactTableUnit", spec := "fnExactTableUnit", unfollowed := true, recurses := true, apart := false, narrowed := true }
def FnExactTableUnitUptoSaid : Prop := fnExactTableUnitUptoRow.holds Try.pinned (OpenSpec.upto fnExactTableUnitSpec)

end Rows
end Go.Proofs.Ytdodchmelepkeaa
