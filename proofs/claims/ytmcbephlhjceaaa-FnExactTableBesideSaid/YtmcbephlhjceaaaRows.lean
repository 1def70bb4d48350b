/-
  No cell of these rows narrows 'for every input' (looked for: loops, veiled, ifaces, maps, wideKeys, modest, calm, conditions, laid).
  DERIVED. THE GIVEN ROWS OF THIS SEAT. 12 by the template 'for every input the law returns true; each argument reads behind the call as it read before'; 0 by the template 'total and deterministic' (their statements: YtmcbephlhjceaaaTotals.lean).
  GIVEN WITH THE SEED: the statements are not yours to turn. If you find one false, say at which input.
  Laid BY PROGRAM, IN A SANDBOX (cutbox-rows.mjs): the forced cells as the released guide's own fill.sh prints them over the translation e4361951dcb6641e… (all of the seat's roots in one cut). By AI agents, Wed Nov 11 2026. No macro, syntax, notation, axiom, sorry.
-/
import Derived.Test.YtmcbephlhjceaaaChecked
import GoSem.Claim
import GoSem.ClaimJoined
import GoSem.ClaimMapViews
import Derived.JoinedTies
import Derived.KernelRfl
namespace Go.Proofs.Ytmcbephlhjceaaa
/- THE CELL 'sum', in the pinned program and in every row, IS THE sha256 OF THE DUMP (.gsa) THAT YtmcbephlhjceaaaProg.lean LOADS. Nothing in Lean hashes anything: it is a label: what it is worth is what the hold of that sum in a sandbox is worth. -/
noncomputable def Try.pinned : Pinned := { name := "ytmcbephlhjceaaa", sum := "e4361951dcb6641ec8f2bed18c6b7ca33781dc2b322357034c3ad88e2f6adade", checked := Try.checked }
namespace Rows
def none {H : Type} : Left H := { results := [], args := [] }

/-- 'laws.FnExactTableIn': WHATEVER THE INPUT: true; the input reads as it did. -/
def fnExactTableInSpec : ChangeSpec := { name := "fnExactTableIn", fn := fun _ => fun
  | [d] => { results := [.lit (.bool true)], args := [d] }
  | _ => none }
def fnExactTableInRow : OpenClaim := { program := "ytmcbephlhjceaaa", sum := "e4361951dcb6641ec8f2bed18c6b7ca33781dc2b322357034c3ad88e2f6adade", func := "loop.example/tableminors/laws.FnExactTableIn", spec := "fnExactTableIn", unfollowed := true, recurses := true, apart := false }
def FnExactTableInSaid : Prop := fnExactTableInRow.holds Try.pinned (OpenSpec.ofChange fnExactTableInSpec)

/-- ITS FALSE NEIGHBOUR: 'it returns false'. Refute it at one input. -/
def fnExactTableInWrong : ChangeSpec := { name := "fnExactTableIn", fn := fun _ => fun
  | [d] => { results := [.lit (.bool false)], args := [d] }
  | _ => none }
def FnExactTableInWrongFalsely : Prop := fnExactTableInRow.holds Try.pinned (OpenSpec.ofChange fnExactTableInWrong)

/-- 'laws.FnExactTableSum': WHATEVER THE INPUT: true; the input reads as it did. -/
def fnExactTableSumSpec : ChangeSpec := { name := "fnExactTableSum", fn := fun _ => fun
  | [d1, d2] => { results := [.lit (.bool true)], args := [d1, d2] }
  | _ => none }
def fnExactTableSumRow : OpenClaim := { program := "ytmcbephlhjceaaa", sum := "e4361951dcb6641ec8f2bed18c6b7ca33781dc2b322357034c3ad88e2f6adade", func := "loop.example/tableminors/laws.FnExactTableSum", spec := "fnExactTableSum", unfollowed := true, recurses := true, apart := false }
def FnExactTableSumSaid : Prop := fnExactTableSumRow.holds Try.pinned (OpenSpec.ofChange fnExactTableSumSpec)

/-- ITS FALSE NEIGHBOUR: 'it returns false'. Refute it at one input. -/
def fnExactTableSumWrong : ChangeSpec := { name := "fnExactTableSum", fn := fun _ => fun
  | [d1, d2] => { results := [.lit (.bool false)], args := [d1, d2] }
  | _ => none }
def FnExactTableSumWrongFalsely : Prop := fnExactTableSumRow.holds Try.pinned (OpenSpec.ofChange fnExactTableSumWrong)

/-- 'laws.FnExactTableTimes': WHATEVER THE INPUT: true; the input reads as it did. -/
def fnExactTableTimesSpec : ChangeSpec := { name := "fnExactTableTimes", fn := fun _ => fun
  | [d1, d2] => { results := [.lit (.bool true)], args := [d1, d2] }
  | _ => none }
def fnExactTableTimesRow : OpenClaim := { program := "ytmcbephlhjceaaa", sum := "e4361951dcb6641ec8f2bed18c6b7ca33781dc2b322357034c3ad88e2f6adade", func := "loop.example/tableminors/laws.FnExactTableTimes", spec := "fnExactTableTimes", unfollowed := true, recurses := true, apart := false }
def FnExactTableTimesSaid : Prop := fnExactTableTimesRow.holds Try.pinned (OpenSpec.ofChange fnExactTableTimesSpec)

/-- ITS FALSE NEIGHBOUR: 'it returns false'. Refute it at one input. -/
def fnExactTableTimesWrong : ChangeSpec := { name := "fnExactTableTimes", fn := fun _ => fun
  | [d1, d2] => { results := [.lit (.bool false)], args := [d1, d2] }
  | _ => none }
def FnExactTableTimesWrongFalsely : Prop := fnExactTableTimesRow.holds Try.pinned (OpenSpec.ofChange fnExactTableTimesWrong)

/-- 'laws.FnExactTableMake': WHATEVER THE INPUT: true; the input reads as it did. -/
def fnExactTableMakeSpec : ChangeSpec := { name := "fnExactTableMake", fn := fun _ => fun
  | [d1, d2] => { results := [.lit (.bool true)], args := [d1, d2] }
  | _ => none }
def fnExactTableMakeRow : OpenClaim := { program := "ytmcbephlhjceaaa", sum := "e4361951dcb6641ec8f2bed18c6b7ca33781dc2b322357034c3ad88e2f6adade", func := "loop.example/tableminors/laws.FnExactTableMake", spec := "fnExactTableMake", unfollowed := true, recurses := true, apart := false }
def FnExactTableMakeSaid : Prop := fnExactTableMakeRow.holds Try.pinned (OpenSpec.ofChange fnExactTableMakeSpec)

/-- ITS FALSE NEIGHBOUR: 'it returns false'. Refute it at one input. -/
def fnExactTableMakeWrong : ChangeSpec := { name := "fnExactTableMake", fn := fun _ => fun
  | [d1, d2] => { results := [.lit (.bool false)], args := [d1, d2] }
  | _ => none }
def FnExactTableMakeWrongFalsely : Prop := fnExactTableMakeRow.holds Try.pinned (OpenSpec.ofChange fnExactTableMakeWrong)

/-- 'laws.FnExactTableTurn': WHATEVER THE INPUT: true; the input reads as it did. -/
def fnExactTableTurnSpec : ChangeSpec := { name := "fnExactTableTurn", fn := fun _ => fun
  | [d] => { results := [.lit (.bool true)], args := [d] }
  | _ => none }
def fnExactTableTurnRow : OpenClaim := { program := "ytmcbephlhjceaaa", sum := "e4361951dcb6641ec8f2bed18c6b7ca33781dc2b322357034c3ad88e2f6adade", func := "loop.example/tableminors/laws.FnExactTableTurn", spec := "fnExactTableTurn", unfollowed := true, recurses := true, apart := false }
def FnExactTableTurnSaid : Prop := fnExactTableTurnRow.holds Try.pinned (OpenSpec.ofChange fnExactTableTurnSpec)

/-- ITS FALSE NEIGHBOUR: 'it returns false'. Refute it at one input. -/
def fnExactTableTurnWrong : ChangeSpec := { name := "fnExactTableTurn", fn := fun _ => fun
  | [d] => { results := [.lit (.bool false)], args := [d] }
  | _ => none }
def FnExactTableTurnWrongFalsely : Prop := fnExactTableTurnRow.holds Try.pinned (OpenSpec.ofChange fnExactTableTurnWrong)

/-- 'laws.FnExactTablePart': WHATEVER THE INPUT: true; the input reads as it did. -/
def fnExactTablePartSpec : ChangeSpec := { name := "fnExactTablePart", fn := fun _ => fun
  | [d1, d2, d3] => { results := [.lit (.bool true)], args := [d1, d2, d3] }
  | _ => none }
def fnExactTablePartRow : OpenClaim := { program := "ytmcbephlhjceaaa", sum := "e4361951dcb6641ec8f2bed18c6b7ca33781dc2b322357034c3ad88e2f6adade", func := "loop.example/tableminors/laws.FnExactTablePart", spec := "fnExactTablePart", unfollowed := true, recurses := true, apart := false }
def FnExactTablePartSaid : Prop := fnExactTablePartRow.holds Try.pinned (OpenSpec.ofChange fnExactTablePartSpec)

/-- ITS FALSE NEIGHBOUR: 'it returns false'. Refute it at one input. -/
def fnExactTablePartWrong : ChangeSpec := { name := "fnExactTablePart", fn := fun _ => fun
  | [d1, d2, d3] => { results := [.lit (.bool false)], args := [d1, d2, d3] }
  | _ => none }
def FnExactTablePartWrongFalsely : Prop := fnExactTablePartRow.holds Try.pinned (OpenSpec.ofChange fnExactTablePartWrong)

/-- 'laws.FnExactTableUnit': WHATEVER THE INPUT: true; the input reads as it did. -/
def fnExactTableUnitSpec : ChangeSpec := { name := "fnExactTableUnit", fn := fun _ => fun
  | [d] => { results := [.lit (.bool true)], args := [d] }
  | _ => none }
def fnExactTableUnitRow : OpenClaim := { program := "ytmcbephlhjceaaa", sum := "e4361951dcb6641ec8f2bed18c6b7ca33781dc2b322357034c3ad88e2f6adade", func := "loop.example/tableminors/laws.FnExactTableUnit", spec := "fnExactTableUnit", unfollowed := true, recurses := true, apart := false }
def FnExactTableUnitSaid : Prop := fnExactTableUnitRow.holds Try.pinned (OpenSpec.ofChange fnExactTableUnitSpec)

/-- ITS FALSE NEIGHBOUR: 'it returns false'. Refute it at one input. -/
def fnExactTableUnitWrong : ChangeSpec := { name := "fnExactTableUnit", fn := fun _ => fun
  | [d] => { results := [.lit (.bool false)], args := [d] }
  | _ => none }
def FnExactTableUnitWrongFalsely : Prop := fnExactTableUnitRow.holds Try.pinned (OpenSpec.ofChange fnExactTableUnitWrong)

/-- 'laws.FnExactTableBeside': WHATEVER THE INPUT: true; the input reads as it did. -/
def fnExactTableBesideSpec : ChangeSpec := { name := "fnExactTableBeside", fn := fun _ => fun
  | [d1, d2] => { results := [.lit (.bool true)], args := [d1, d2] }
  | _ => none }
def fnExactTableBesideRow : OpenClaim := { program := "ytmcbephlhjceaaa", sum := "e4361951dcb6641ec8f2bed18c6b7ca33781dc2b322357034c3ad88e2f6adade", func := "loop.example/tableminors/laws.FnExactTableBeside", spec := "fnExactTableBeside", unfollowed := true, recurses := true, apart := false }
def FnExactTableBesideSaid : Prop := fnExactTableBesideRow.holds Try.pinned (OpenSpec.ofChange fnExactTableBesideSpec)

/-- ITS FALSE NEIGHBOUR: 'it returns false'. Refute it at one input. -/
def fnExactTableBesideWrong : ChangeSpec := { name := "fnExactTableBeside", fn := fun _ => fun
  | [d1, d2] => { results := [.lit (.bool false)], args := [d1, d2] }
  | _ => none }
def FnExactTableBesideWrongFalsely : Prop := fnExactTableBesideRow.holds Try.pinned (OpenSpec.ofChange fnExactTableBesideWrong)

/-- 'laws.FnExactTableSwap': WHATEVER THE INPUT: true; the input reads as it did. -/
def fnExactTableSwapSpec : ChangeSpec := { name := "fnExactTableSwap", fn := fun _ => fun
  | [d1, d2, d3] => { results := [.lit (.bool true)], args := [d1, d2, d3] }
  | _ => none }
def fnExactTableSwapRow : OpenClaim := { program := "ytmcbephlhjceaaa", sum := "e4361951dcb6641ec8f2bed18c6b7ca33781dc2b322357034c3ad88e2f6adade", func := "loop.example/tableminors/laws.FnExactTableSwap", spec := "fnExactTableSwap", unfollowed := true, recurses := true, apart := false }
def FnExactTableSwapSaid : Prop := fnExactTableSwapRow.holds Try.pinned (OpenSpec.ofChange fnExactTableSwapSpec)

/-- ITS FALSE NEIGHBOUR: 'it returns false'. Refute it at one input. -/
def fnExactTableSwapWrong : ChangeSpec := { name := "fnExactTableSwap", fn := fun _ => fun
  | [d1, d2, d3] => { results := [.lit (.bool false)], args := [d1, d2, d3] }
  | _ => none }
def FnExactTableSwapWrongFalsely : Prop := fnExactTableSwapRow.holds Try.pinned (OpenSpec.ofChange fnExactTableSwapWrong)

/-- 'laws.FnExactTableAdd': WHATEVER THE INPUT: true; the input reads as it did. -/
def fnExactTableAddSpec : ChangeSpec := { name := "fnExactTableAdd", fn := fun _ => fun
  | [d1, d2, d3, d4] => { results := [.lit (.bool true)], args := [d1, d2, d3, d4] }
  | _ => none }
def fnExactTableAddRow : OpenClaim := { program := "ytmcbephlhjceaaa", sum := "e4361951dcb6641ec8f2bed18c6b7ca33781dc2b322357034c3ad88e2f6adade", func := "loop.example/tableminors/laws.FnExactTableAdd", spec := "fnExactTableAdd", unfollowed := true, recurses := true, apart := false }
def FnExactTableAddSaid : Prop := fnExactTableAddRow.holds Try.pinned (OpenSpec.ofChange fnExactTableAddSpec)

/-- ITS FALSE NEIGHBOUR: 'it returns false'. Refute it at one input. -/
def fnExactTableAddWrong : ChangeSpec := { name := "fnExactTableAdd", fn := fun _ => fun
  | [d1, d2, d3, d4] => { results := [.lit (.bool false)], args := [d1, d2, d3, d4] }
  | _ => none }
def FnExactTableAddWrongFalsely : Prop := fnExactTableAddRow.holds Try.pinned (OpenSpec.ofChange fnExactTableAddWrong)

/-- 'laws.FnExactTableSame': WHATEVER THE INPUT: true; the input reads as it did. -/
def fnExactTableSameSpec : ChangeSpec := { name := "fnExactTableSame", fn := fun _ => fun
  | [d1, d2] => { results := [.lit (.bool true)], args := [d1, d2] }
  | _ => none }
def fnExactTableSameRow : OpenClaim := { program := "ytmcbephlhjceaaa", sum := "e4361951dcb6641ec8f2bed18c6b7ca33781dc2b322357034c3ad88e2f6adade", func := "loop.example/tableminors/laws.FnExactTableSame", spec := "fnExactTableSame", unfollowed := true, recurses := true, apart := false }
def FnExactTableSameSaid : Prop := fnExactTableSameRow.holds Try.pinned (OpenSpec.ofChange fnExactTableSameSpec)

/-- ITS FALSE NEIGHBOUR: 'it returns false'. Refute it at one input. -/
def fnExactTableSameWrong : ChangeSpec := { name := "fnExactTableSame", fn := fun _ => fun
  | [d1, d2] => { results := [.lit (.bool false)], args := [d1, d2] }
  | _ => none }
def FnExactTableSameWrongFalsely : Prop := fnExactTableSameRow.holds Try.pinned (OpenSpec.ofChange fnExactTableSameWrong)

/-- 'laws.FnTable': WHATEVER THE INPUT: true; the input reads as it did. -/
def fnTableSpec : ChangeSpec := { name := "fnTable", fn := fun _ => fun
  | [d] => { results := [.lit (.bool true)], args := [d] }
  | _ => none }
def fnTableRow : OpenClaim := { program := "ytmcbephlhjceaaa", sum := "e4361951dcb6641ec8f2bed18c6b7ca33781dc2b322357034c3ad88e2f6adade", func := "loop.example/tableminors/laws.FnTable", spec := "fnTable", unfollowed := true, recurses := true, apart := false }
def FnTableSaid : Prop := fnTableRow.holds Try.pinned (OpenSpec.ofChange fnTableSpec)

/-- ITS FALSE NEIGHBOUR: 'it returns false'. Refute it at one input. -/
def fnTableWrong : ChangeSpec := { name := "fnTable", fn := fun _ => fun
  | [d] => { results := [.lit (.bool false)], args := [d] }
  | _ => none }
def FnTableWrongFalsely : Prop := fnTableRow.holds Try.pinned (OpenSpec.ofChange fnTableWrong)

/- THE SECOND FORM. 'bulk': how many values and letters a reading holds, each counted each time it is reached (what is shared counts as often as it is met; a slice's spare places count too). A statement '..UptoSaid' is the law's where the arguments, and the package variables that the reading takes, are together of bulk at most 1048576: NARROWER than '..Said'. Prove '..Said' where nothing that the law and all that it calls make is longer than what came in: it says more and counts as full. Else prove '..UptoSaid'. A law counts once. -/
mutual
def uptoBulk {H : Type} : DataW H → Nat
  | .lit (.string bytes) => bytes.length + 1
  | .lit _ => 1
  | .nil => 1
  | .ptr d => uptoBulk d + 1
  | .slice elems spare => uptoBulkAll elems + uptoBulkAll spare + 1
  | .agg parts => uptoBulkAll parts + 1
  | .iface _ d => uptoBulk d + 1
  | .map entries => uptoBulkEntries entries + 1
  | .held _ => 1
def uptoBulkAll {H : Type} : List (DataW H) → Nat
  | [] => 0
  | d :: r => uptoBulk d + uptoBulkAll r
def uptoBulkEntries {H : Type} : List (Lit × DataW H) → Nat
  | [] => 0
  | x :: r => uptoBulkEntry x + uptoBulkEntries r
def uptoBulkEntry {H : Type} : Lit × DataW H → Nat
  | (.string bytes, d) => bytes.length + uptoBulk d + 1
  | (_, d) => uptoBulk d + 1
 end
def uptoSmall : (H : Type) → List (DataW H) → Bool := fun _ ds => decide (uptoBulkAll ds ≤ 1048576)
def OpenSpec.upto (s : _root_.Go.ChangeSpec) : _root_.Go.OpenSpec := { _root_.Go.OpenSpec.ofChange s with cond := some uptoSmall }

/-- 'laws.FnExactTableIn', WHERE WHAT IT READS IS OF BULK AT MOST 1048576: true; the input reads as it did. -/
def fnExactTableInUptoRow : OpenClaim := { program := "ytmcbephlhjceaaa", sum := "e4361951dcb6641ec8f2bed18c6b7ca33781dc2b322357034c3ad88e2f6adade", func := "loop.example/tableminors/laws.FnExactTableIn", spec := "fnExactTableIn", unfollowed := true, recurses := true, apart := false, narrowed := true }
def FnExactTableInUptoSaid : Prop := fnExactTableInUptoRow.holds Try.pinned (OpenSpec.upto fnExactTableInSpec)

/-- 'laws.FnExactTableSum', WHERE WHAT IT READS IS OF BULK AT MOST 1048576: true; the input reads as it did. -/
def fnExactTableSumUptoRow : OpenClaim := { program := "ytmcbephlhjceaaa", sum := "e4361951dcb6641ec8f2bed18c6b7ca33781dc2b322357034c3ad88e2f6adade", func := "loop.example/tableminors/laws.FnExactTableSum", spec := "fnExactTableSum", unfollowed := true, recurses := true, apart := false, narrowed := true }
def FnExactTableSumUptoSaid : Prop := fnExactTableSumUptoRow.holds Try.pinned (OpenSpec.upto fnExactTableSumSpec)

/-- 'laws.FnExactTableTimes', WHERE WHAT IT READS IS OF BULK AT MOST 1048576: true; the input reads as it did. -/
def fnExactTableTimesUptoRow : OpenClaim := { program := "ytmcbephlhjceaaa", sum := "e4361951dcb6641ec8f2bed18c6b7ca33781dc2b322357034c3ad88e2f6adade", func := "loop.example/tableminors/laws.FnExactTableTimes", spec := "fnExactTableTimes", unfollowed := true, recurses := true, apart := false, narrowed := true }
def FnExactTableTimesUptoSaid : Prop := fnExactTableTimesUptoRow.holds Try.pinned (OpenSpec.upto fnExactTableTimesSpec)

/-- 'laws.FnExactTableMake', WHERE WHAT IT READS IS OF BULK AT MOST 1048576: true; the input reads as it did. -/
def fnExactTableMakeUptoRow : OpenClaim := { program := "ytmcbephlhjceaaa", sum := "e4361951dcb6641ec8f2bed18c6b7ca33781dc2b322357034c3ad88e2f6adade", func := "loop.example/tableminors/laws.FnExactTableMake", spec := "fnExactTableMake", unfollowed := true, recurses := true, apart := false, narrowed := true }
def FnExactTableMakeUptoSaid : Prop := fnExactTableMakeUptoRow.holds Try.pinned (OpenSpec.upto fnExactTableMakeSpec)

/-- 'laws.FnExactTableTurn', WHERE WHAT IT READS IS OF BULK AT MOST 1048576: true; the input reads as it did. -/
def fnExactTableTurnUptoRow : OpenClaim := { program := "ytmcbephlhjceaaa", sum := "e4361951dcb6641ec8f2bed18c6b7ca33781dc2b322357034c3ad88e2f6adade", func := "loop.example/tableminors/laws.FnExactTableTurn", spec := "fnExactTableTurn", unfollowed := true, recurses := true, apart := false, narrowed := true }
def FnExactTableTurnUptoSaid : Prop := fnExactTableTurnUptoRow.holds Try.pinned (OpenSpec.upto fnExactTableTurnSpec)

/-- 'laws.FnExactTablePart', WHERE WHAT IT READS IS OF BULK AT MOST 1048576: true; the input reads as it did. -/
def fnExactTablePartUptoRow : OpenClaim := { program := "ytmcbephlhjceaaa", sum := "e4361951dcb6641ec8f2bed18c6b7ca33781dc2b322357034c3ad88e2f6adade", func := "loop.example/tableminors/laws.FnExactTablePart", spec := "fnExactTablePart", unfollowed := true, recurses := true, apart := false, narrowed := true }
def FnExactTablePartUptoSaid : Prop := fnExactTablePartUptoRow.holds Try.pinned (OpenSpec.upto fnExactTablePartSpec)

/-- 'laws.FnExactTableUnit', WHERE WHAT IT READS IS OF BULK AT MOST 1048576: true; the input reads as it did. -/
def fnExactTableUnitUptoRow : OpenClaim := { program := "ytmcbephlhjceaaa", sum := "e4361951dcb6641ec8f2bed18c6b7ca33781dc2b322357034c3ad88e2f6adade", func := "loop.example/tableminors/laws.FnExactTableUnit", spec := "fnExactTableUnit", unfollowed := true, recurses := true, apart := false, narrowed := true }
def FnExactTableUnitUptoSaid : Prop := fnExactTableUnitUptoRow.holds Try.pinned (OpenSpec.upto fnExactTableUnitSpec)

/-- 'laws.FnExactTableBeside', WHERE WHAT IT READS IS OF BULK AT MOST 1048576: true; the input reads as it did. -/
def fnExactTableBesideUptoRow : OpenClaim := { program := "ytmcbephlhjceaaa", sum := "e4361951dcb6641ec8f2bed18c6b7ca33781dc2b322357034c3ad88e2f6adade", func := "loop.example/tableminors/laws.FnExactTableBeside", spec := "fnExactTableBeside", unfollowed := true, recurses := true, apart := false, narrowed := true }
def FnExactTableBesideUptoSaid : Prop := fnExactTableBesideUptoRow.holds Try.pinned (OpenSpec.upto fnExactTableBesideSpec)

/-- 'laws.FnExactTableSwap', WHERE WHAT IT READS IS OF BULK AT MOST 1048576: true; the input reads as it did. -/
def fnExactTableSwapUptoRow : OpenClaim := { program := "ytmcbephlhjceaaa", sum := "e4361951dcb6641ec8f2bed18c6b7ca33781dc2b322357034c3ad88e2f6adade", func := "loop.example/tableminors/laws.FnExactTableSwap", spec := "fnExactTableSwap", unfollowed := true, recurses := true, apart := false, narrowed := true }
def FnExactTableSwapUptoSaid : Prop := fnExactTableSwapUptoRow.holds Try.pinned (OpenSpec.upto fnExactTableSwapSpec)

/-- 'laws.FnExactTableAdd', WHERE WHAT IT READS IS OF BULK AT MOST 1048576: true; the input reads as it did. -/
def fnExactTableAddUptoRow : OpenClaim := { program := "ytmcbephlhjceaaa", sum := "e4361951dcb6641ec8f2bed18c6b7ca33781dc2b322357034c3ad88e2f6adade", func := "loop.example/tableminors/laws.FnExactTableAdd", spec := "fnExactTableAdd", unfollowed := true, recurses := true, apart := false, narrowed := true }
def FnExactTableAddUptoSaid : Prop := fnExactTableAddUptoRow.holds Try.pinned (OpenSpec.upto fnExactTableAddSpec)

/-- 'laws.FnExactTableSame', WHERE WHAT IT READS IS OF BULK AT MOST 1048576: true; the input reads as it did. -/
def fnExactTableSameUptoRow : OpenClaim := { program := "ytmcbephlhjceaaa", sum := "e4361951dcb6641ec8f2bed18c6b7ca33781dc2b322357034c3ad88e2f6adade", func := "loop.example/tableminors/laws.FnExactTableSame", spec := "fnExactTableSame", unfollowed := true, recurses := true, apart := false, narrowed := true }
def FnExactTableSameUptoSaid : Prop := fnExactTableSameUptoRow.holds Try.pinned (OpenSpec.upto fnExactTableSameSpec)

/-- 'laws.FnTable', WHERE WHAT IT READS IS OF BULK AT MOST 1048576: true; the input reads as it did. -/
def fnTableUptoRow : OpenClaim := { program := "ytmcbephlhjceaaa", sum := "e4361951dcb6641ec8f2bed18c6b7ca33781dc2b322357034c3ad88e2f6adade", func := "loop.example/tableminors/laws.FnTable", spec := "fnTable", unfollowed := true, recurses := true, apart := false, narrowed := true }
def FnTableUptoSaid : Prop := fnTableUptoRow.holds Try.pinned (OpenSpec.upto fnTableSpec)

end Rows
end Go.Proofs.Ytmcbephlhjceaaa
