/-
  No cell of these rows narrows 'for every input' (looked for: loops, veiled, ifaces, maps, wideKeys, modest, calm, conditions, laid).
  DERIVED. THE GIVEN ROWS OF THIS SEAT. 13 by the template 'for every input the law returns true; each argument reads behind the call as it read before'; 0 by the template 'total and deterministic' (their statements: YtkfondipmhjhjaaTotals.lean).
  GIVEN WITH THE SEED: the statements are not yours to turn. If you find one false, say at which input.
  Laid BY PROGRAM, IN A SANDBOX (cutbox-rows.mjs): the forced cells as the released guide's own fill.sh prints them over the translation c2225b8fd9b7e58d… (all of the seat's roots in one cut). By AI agents, Wed Nov 11 2026. No macro, syntax, notation, axiom, sorry.
-/
import Derived.Test.YtkfondipmhjhjaaChecked
import GoSem.Claim
import GoSem.ClaimJoined
import GoSem.ClaimMapViews
import Derived.JoinedTies
import Derived.KernelRfl
namespace Go.Proofs.Ytkfondipmhjhjaa
/- THE CELL 'sum', in the pinned program and in every row, IS THE sha256 OF THE DUMP (.gsa) THAT YtkfondipmhjhjaaProg.lean LOADS. Nothing in Lean hashes anything: it is a label: what it is worth is what the hold of that sum in a sandbox is worth. -/
noncomputable def Try.pinned : Pinned := { name := "ytkfondipmhjhjaa", sum := "c2225b8fd9b7e58d1893e05d85191d09a51e517802ce424c39466a76baf33621", checked := Try.checked }
namespace Rows
def none {H : Type} : Left H := { results := [], args := [] }

/-- 'laws.FnCondense': WHATEVER THE INPUT: true; the input reads as it did. -/
def fnCondenseSpec : ChangeSpec := { name := "fnCondense", fn := fun _ => fun
  | [d] => { results := [.lit (.bool true)], args := [d] }
  | _ => none }
def fnCondenseRow : OpenClaim := { program := "ytkfondipmhjhjaa", sum := "c2225b8fd9b7e58d1893e05d85191d09a51e517802ce424c39466a76baf33621", func := "loop.example/tableminors/laws.FnCondense", spec := "fnCondense", unfollowed := true, recurses := true, apart := false }
def FnCondenseSaid : Prop := fnCondenseRow.holds Try.pinned (OpenSpec.ofChange fnCondenseSpec)

/-- ITS FALSE NEIGHBOUR: 'it returns false'. Refute it at one input. -/
def fnCondenseWrong : ChangeSpec := { name := "fnCondense", fn := fun _ => fun
  | [d] => { results := [.lit (.bool false)], args := [d] }
  | _ => none }
def FnCondenseWrongFalsely : Prop := fnCondenseRow.holds Try.pinned (OpenSpec.ofChange fnCondenseWrong)

/-- 'laws.FnSolve': WHATEVER THE INPUT: true; the input reads as it did. -/
def fnSolveSpec : ChangeSpec := { name := "fnSolve", fn := fun _ => fun
  | [d] => { results := [.lit (.bool true)], args := [d] }
  | _ => none }
def fnSolveRow : OpenClaim := { program := "ytkfondipmhjhjaa", sum := "c2225b8fd9b7e58d1893e05d85191d09a51e517802ce424c39466a76baf33621", func := "loop.example/tableminors/laws.FnSolve", spec := "fnSolve", unfollowed := true, recurses := true, apart := false }
def FnSolveSaid : Prop := fnSolveRow.holds Try.pinned (OpenSpec.ofChange fnSolveSpec)

/-- ITS FALSE NEIGHBOUR: 'it returns false'. Refute it at one input. -/
def fnSolveWrong : ChangeSpec := { name := "fnSolve", fn := fun _ => fun
  | [d] => { results := [.lit (.bool false)], args := [d] }
  | _ => none }
def FnSolveWrongFalsely : Prop := fnSolveRow.holds Try.pinned (OpenSpec.ofChange fnSolveWrong)

/-- 'laws.FnExactValueCondense': WHATEVER THE INPUT: true; the input reads as it did. -/
def fnExactValueCondenseSpec : ChangeSpec := { name := "fnExactValueCondense", fn := fun _ => fun
  | [d] => { results := [.lit (.bool true)], args := [d] }
  | _ => none }
def fnExactValueCondenseRow : OpenClaim := { program := "ytkfondipmhjhjaa", sum := "c2225b8fd9b7e58d1893e05d85191d09a51e517802ce424c39466a76baf33621", func := "loop.example/tableminors/laws.FnExactValueCondense", spec := "fnExactValueCondense", unfollowed := true, recurses := true, apart := false }
def FnExactValueCondenseSaid : Prop := fnExactValueCondenseRow.holds Try.pinned (OpenSpec.ofChange fnExactValueCondenseSpec)

/-- ITS FALSE NEIGHBOUR: 'it returns false'. Refute it at one input. -/
def fnExactValueCondenseWrong : ChangeSpec := { name := "fnExactValueCondense", fn := fun _ => fun
  | [d] => { results := [.lit (.bool false)], args := [d] }
  | _ => none }
def FnExactValueCondenseWrongFalsely : Prop := fnExactValueCondenseRow.holds Try.pinned (OpenSpec.ofChange fnExactValueCondenseWrong)

/-- 'laws.FnExactValueSolve': WHATEVER THE INPUT: true; the input reads as it did. -/
def fnExactValueSolveSpec : ChangeSpec := { name := "fnExactValueSolve", fn := fun _ => fun
  | [d1, d2] => { results := [.lit (.bool true)], args := [d1, d2] }
  | _ => none }
def fnExactValueSolveRow : OpenClaim := { program := "ytkfondipmhjhjaa", sum := "c2225b8fd9b7e58d1893e05d85191d09a51e517802ce424c39466a76baf33621", func := "loop.example/tableminors/laws.FnExactValueSolve", spec := "fnExactValueSolve", unfollowed := true, recurses := true, apart := false }
def FnExactValueSolveSaid : Prop := fnExactValueSolveRow.holds Try.pinned (OpenSpec.ofChange fnExactValueSolveSpec)

/-- ITS FALSE NEIGHBOUR: 'it returns false'. Refute it at one input. -/
def fnExactValueSolveWrong : ChangeSpec := { name := "fnExactValueSolve", fn := fun _ => fun
  | [d1, d2] => { results := [.lit (.bool false)], args := [d1, d2] }
  | _ => none }
def FnExactValueSolveWrongFalsely : Prop := fnExactValueSolveRow.holds Try.pinned (OpenSpec.ofChange fnExactValueSolveWrong)

/-- 'laws.FnExactValueTrace': WHATEVER THE INPUT: true; the input reads as it did. -/
def fnExactValueTraceSpec : ChangeSpec := { name := "fnExactValueTrace", fn := fun _ => fun
  | [d] => { results := [.lit (.bool true)], args := [d] }
  | _ => none }
def fnExactValueTraceRow : OpenClaim := { program := "ytkfondipmhjhjaa", sum := "c2225b8fd9b7e58d1893e05d85191d09a51e517802ce424c39466a76baf33621", func := "loop.example/tableminors/laws.FnExactValueTrace", spec := "fnExactValueTrace", unfollowed := true, recurses := true, apart := false }
def FnExactValueTraceSaid : Prop := fnExactValueTraceRow.holds Try.pinned (OpenSpec.ofChange fnExactValueTraceSpec)

/-- ITS FALSE NEIGHBOUR: 'it returns false'. Refute it at one input. -/
def fnExactValueTraceWrong : ChangeSpec := { name := "fnExactValueTrace", fn := fun _ => fun
  | [d] => { results := [.lit (.bool false)], args := [d] }
  | _ => none }
def FnExactValueTraceWrongFalsely : Prop := fnExactValueTraceRow.holds Try.pinned (OpenSpec.ofChange fnExactValueTraceWrong)

/-- 'laws.FnTrace': WHATEVER THE INPUT: true; the input reads as it did. -/
def fnTraceSpec : ChangeSpec := { name := "fnTrace", fn := fun _ => fun
  | [d] => { results := [.lit (.bool true)], args := [d] }
  | _ => none }
def fnTraceRow : OpenClaim := { program := "ytkfondipmhjhjaa", sum := "c2225b8fd9b7e58d1893e05d85191d09a51e517802ce424c39466a76baf33621", func := "loop.example/tableminors/laws.FnTrace", spec := "fnTrace", unfollowed := true, recurses := true, apart := false }
def FnTraceSaid : Prop := fnTraceRow.holds Try.pinned (OpenSpec.ofChange fnTraceSpec)

/-- ITS FALSE NEIGHBOUR: 'it returns false'. Refute it at one input. -/
def fnTraceWrong : ChangeSpec := { name := "fnTrace", fn := fun _ => fun
  | [d] => { results := [.lit (.bool false)], args := [d] }
  | _ => none }
def FnTraceWrongFalsely : Prop := fnTraceRow.holds Try.pinned (OpenSpec.ofChange fnTraceWrong)

/-- 'laws.FnTraceMake': WHATEVER THE INPUT: true; the input reads as it did. -/
def fnTraceMakeSpec : ChangeSpec := { name := "fnTraceMake", fn := fun _ => fun
  | [d] => { results := [.lit (.bool true)], args := [d] }
  | _ => none }
def fnTraceMakeRow : OpenClaim := { program := "ytkfondipmhjhjaa", sum := "c2225b8fd9b7e58d1893e05d85191d09a51e517802ce424c39466a76baf33621", func := "loop.example/tableminors/laws.FnTraceMake", spec := "fnTraceMake", unfollowed := true, recurses := true, apart := false }
def FnTraceMakeSaid : Prop := fnTraceMakeRow.holds Try.pinned (OpenSpec.ofChange fnTraceMakeSpec)

/-- ITS FALSE NEIGHBOUR: 'it returns false'. Refute it at one input. -/
def fnTraceMakeWrong : ChangeSpec := { name := "fnTraceMake", fn := fun _ => fun
  | [d] => { results := [.lit (.bool false)], args := [d] }
  | _ => none }
def FnTraceMakeWrongFalsely : Prop := fnTraceMakeRow.holds Try.pinned (OpenSpec.ofChange fnTraceMakeWrong)

/-- 'laws.FnRankMake': WHATEVER THE INPUT: true; the input reads as it did. -/
def fnRankMakeSpec : ChangeSpec := { name := "fnRankMake", fn := fun _ => fun
  | [d] => { results := [.lit (.bool true)], args := [d] }
  | _ => none }
def fnRankMakeRow : OpenClaim := { program := "ytkfondipmhjhjaa", sum := "c2225b8fd9b7e58d1893e05d85191d09a51e517802ce424c39466a76baf33621", func := "loop.example/tableminors/laws.FnRankMake", spec := "fnRankMake", unfollowed := true, recurses := true, apart := false }
def FnRankMakeSaid : Prop := fnRankMakeRow.holds Try.pinned (OpenSpec.ofChange fnRankMakeSpec)

/-- ITS FALSE NEIGHBOUR: 'it returns false'. Refute it at one input. -/
def fnRankMakeWrong : ChangeSpec := { name := "fnRankMake", fn := fun _ => fun
  | [d] => { results := [.lit (.bool false)], args := [d] }
  | _ => none }
def FnRankMakeWrongFalsely : Prop := fnRankMakeRow.holds Try.pinned (OpenSpec.ofChange fnRankMakeWrong)

/-- 'laws.FnValueBeside': WHATEVER THE INPUT: true; the input reads as it did. -/
def fnValueBesideSpec : ChangeSpec := { name := "fnValueBeside", fn := fun _ => fun
  | [d] => { results := [.lit (.bool true)], args := [d] }
  | _ => none }
def fnValueBesideRow : OpenClaim := { program := "ytkfondipmhjhjaa", sum := "c2225b8fd9b7e58d1893e05d85191d09a51e517802ce424c39466a76baf33621", func := "loop.example/tableminors/laws.FnValueBeside", spec := "fnValueBeside", unfollowed := true, recurses := true, apart := false }
def FnValueBesideSaid : Prop := fnValueBesideRow.holds Try.pinned (OpenSpec.ofChange fnValueBesideSpec)

/-- ITS FALSE NEIGHBOUR: 'it returns false'. Refute it at one input. -/
def fnValueBesideWrong : ChangeSpec := { name := "fnValueBeside", fn := fun _ => fun
  | [d] => { results := [.lit (.bool false)], args := [d] }
  | _ => none }
def FnValueBesideWrongFalsely : Prop := fnValueBesideRow.holds Try.pinned (OpenSpec.ofChange fnValueBesideWrong)

/-- 'laws.FnTimes': WHATEVER THE INPUT: true; the input reads as it did. -/
def fnTimesSpec : ChangeSpec := { name := "fnTimes", fn := fun _ => fun
  | [d] => { results := [.lit (.bool true)], args := [d] }
  | _ => none }
def fnTimesRow : OpenClaim := { program := "ytkfondipmhjhjaa", sum := "c2225b8fd9b7e58d1893e05d85191d09a51e517802ce424c39466a76baf33621", func := "loop.example/tableminors/laws.FnTimes", spec := "fnTimes", unfollowed := true, recurses := true, apart := false }
def FnTimesSaid : Prop := fnTimesRow.holds Try.pinned (OpenSpec.ofChange fnTimesSpec)

/-- ITS FALSE NEIGHBOUR: 'it returns false'. Refute it at one input. -/
def fnTimesWrong : ChangeSpec := { name := "fnTimes", fn := fun _ => fun
  | [d] => { results := [.lit (.bool false)], args := [d] }
  | _ => none }
def FnTimesWrongFalsely : Prop := fnTimesRow.holds Try.pinned (OpenSpec.ofChange fnTimesWrong)

/-- 'laws.FnExactTableTurn': WHATEVER THE INPUT: true; the input reads as it did. -/
def fnExactTableTurnSpec : ChangeSpec := { name := "fnExactTableTurn", fn := fun _ => fun
  | [d] => { results := [.lit (.bool true)], args := [d] }
  | _ => none }
def fnExactTableTurnRow : OpenClaim := { program := "ytkfondipmhjhjaa", sum := "c2225b8fd9b7e58d1893e05d85191d09a51e517802ce424c39466a76baf33621", func := "loop.example/tableminors/laws.FnExactTableTurn", spec := "fnExactTableTurn", unfollowed := true, recurses := true, apart := false }
def FnExactTableTurnSaid : Prop := fnExactTableTurnRow.holds Try.pinned (OpenSpec.ofChange fnExactTableTurnSpec)

/-- ITS FALSE NEIGHBOUR: 'it returns false'. Refute it at one input. -/
def fnExactTableTurnWrong : ChangeSpec := { name := "fnExactTableTurn", fn := fun _ => fun
  | [d] => { results := [.lit (.bool false)], args := [d] }
  | _ => none }
def FnExactTableTurnWrongFalsely : Prop := fnExactTableTurnRow.holds Try.pinned (OpenSpec.ofChange fnExactTableTurnWrong)

/-- 'laws.FnExactTableUnit': WHATEVER THE INPUT: true; the input reads as it did. -/
def fnExactTableUnitSpec : ChangeSpec := { name := "fnExactTableUnit", fn := fun _ => fun
  | [d] => { results := [.lit (.bool true)], args := [d] }
  | _ => none }
def fnExactTableUnitRow : OpenClaim := { program := "ytkfondipmhjhjaa", sum := "c2225b8fd9b7e58d1893e05d85191d09a51e517802ce424c39466a76baf33621", func := "loop.example/tableminors/laws.FnExactTableUnit", spec := "fnExactTableUnit", unfollowed := true, recurses := true, apart := false }
def FnExactTableUnitSaid : Prop := fnExactTableUnitRow.holds Try.pinned (OpenSpec.ofChange fnExactTableUnitSpec)

/-- ITS FALSE NEIGHBOUR: 'it returns false'. Refute it at one input. -/
def fnExactTableUnitWrong : ChangeSpec := { name := "fnExactTableUnit", fn := fun _ => fun
  | [d] => { results := [.lit (.bool false)], args := [d] }
  | _ => none }
def FnExactTableUnitWrongFalsely : Prop := fnExactTableUnitRow.holds Try.pinned (OpenSpec.ofChange fnExactTableUnitWrong)

/-- 'laws.FnJacobi': WHATEVER THE INPUT: true; the input reads as it did. -/
def fnJacobiSpec : ChangeSpec := { name := "fnJacobi", fn := fun _ => fun
  | [d] => { results := [.lit (.bool true)], args := [d] }
  | _ => none }
def fnJacobiRow : OpenClaim := { program := "ytkfondipmhjhjaa", sum := "c2225b8fd9b7e58d1893e05d85191d09a51e517802ce424c39466a76baf33621", func := "loop.example/tableminors/laws.FnJacobi", spec := "fnJacobi", unfollowed := true, recurses := true, apart := false }
def FnJacobiSaid : Prop := fnJacobiRow.holds Try.pinned (OpenSpec.ofChange fnJacobiSpec)

/-- ITS FALSE NEIGHBOUR: 'it returns false'. Refute it at one input. -/
def fnJacobiWrong : ChangeSpec := { name := "fnJacobi", fn := fun _ => fun
  | [d] => { results := [.lit (.bool false)], args := [d] }
  | _ => none }
def FnJacobiWrongFalsely : Prop := fnJacobiRow.holds Try.pinned (OpenSpec.ofChange fnJacobiWrong)

/- THE SECOND FORM. 'bulk': how many values and letters a reading holds, each counted each time it is reached (what is shared counts as often as it is met; a slice's spare places count too). A statement '..UptoSaid' is the law's where the arguments, and the package variables that the reading takes, are together of bulk at most 1048576: NARROWER than '..Said'. Prove '..Said' where nothing that the law and all that it calls make is longer than what came in: it says more and counts as full. Else prove '..UptoSaid'. A law counts once. -/
mutual
def uptoBulk {H : Type} : DataW H → Nat
  | .lit (.string bytes) => bytes.length + 1
  | .lit _ => 1
  | .nil => 1
  | .ptr d => uptoBulk d + 1
  | .slice elems spare => uptoBulkAll elems + uptoBulkAll spare + 1
  | .agg parts => uptoBulkAll parts + 1
  | .iface _ d => uptoBulk d + 1
  | .map entries => uptoBulkEntries entries + 1
  | .held _ => 1
def uptoBulkAll {H : Type} : List (DataW H) → Nat
  | [] => 0
  | d :: r => uptoBulk d + uptoBulkAll r
def uptoBulkEntries {H : Type} : List (Lit × DataW H) → Nat
  | [] => 0
  | x :: r => uptoBulkEntry x + uptoBulkEntries r
def uptoBulkEntry {H : Type} : Lit × DataW H → Nat
  | (.string bytes, d) => bytes.length + uptoBulk d + 1
  | (_, d) => uptoBulk d + 1
 end
def uptoSmall : (H : Type) → List (DataW H) → Bool := fun _ ds => decide (uptoBulkAll ds ≤ 1048576)
def OpenSpec.upto (s : _root_.Go.ChangeSpec) : _root_.Go.OpenSpec := { _root_.Go.OpenSpec.ofChange s with cond := some uptoSmall }

/-- 'laws.FnCondense', WHERE WHAT IT READS IS OF BULK AT MOST 1048576: true; the input reads as it did. -/
def fnCondenseUptoRow : OpenClaim := { program := "ytkfondipmhjhjaa", sum := "c2225b8fd9b7e58d1893e05d85191d09a51e517802ce424c39466a76baf33621", func := "loop.example/tableminors/laws.FnCondense", spec := "fnCondense", unfollowed := true, recurses := true, apart := false, narrowed := true }
def FnCondenseUptoSaid : Prop := fnCondenseUptoRow.holds Try.pinned (OpenSpec.upto fnCondenseSpec)

/-- 'laws.FnSolve', WHERE WHAT IT READS IS OF BULK AT MOST 1048576: true; the input reads as it did. -/
def fnSolveUptoRow : OpenClaim := { program := "ytkfondipmhjhjaa", sum := "c2225b8fd9b7e58d1893e05d85191d09a51e517802ce424c39466a76baf33621", func := "loop.example/tableminors/laws.FnSolve", spec := "fnSolve", unfollowed := true, recurses := true, apart := false, narrowed := true }
def FnSolveUptoSaid : Prop := fnSolveUptoRow.holds Try.pinned (OpenSpec.upto fnSolveSpec)

/-- 'laws.FnExactValueCondense', WHERE WHAT IT READS IS OF BULK AT MOST 1048576: true; the input reads as it did. -/
def fnExactValueCondenseUptoRow : OpenClaim := { program := "ytkfondipmhjhjaa", sum := "c2225b8fd9b7e58d1893e05d85191d09a51e517802ce424c39466a76baf33621", func := "loop.example/tableminors/laws.FnExactValueCondense", spec := "fnExactValueCondense", unfollowed := true, recurses := true, apart := false, narrowed := true }
def FnExactValueCondenseUptoSaid : Prop := fnExactValueCondenseUptoRow.holds Try.pinned (OpenSpec.upto fnExactValueCondenseSpec)

/-- 'laws.FnExactValueSolve', WHERE WHAT IT READS IS OF BULK AT MOST 1048576: true; the input reads as it did. -/
def fnExactValueSolveUptoRow : OpenClaim := { program := "ytkfondipmhjhjaa", sum := "c2225b8fd9b7e58d1893e05d85191d09a51e517802ce424c39466a76baf33621", func := "loop.example/tableminors/laws.FnExactValueSolve", spec := "fnExactValueSolve", unfollowed := true, recurses := true, apart := false, narrowed := true }
def FnExactValueSolveUptoSaid : Prop := fnExactValueSolveUptoRow.holds Try.pinned (OpenSpec.upto fnExactValueSolveSpec)

/-- 'laws.FnExactValueTrace', WHERE WHAT IT READS IS OF BULK AT MOST 1048576: true; the input reads as it did. -/
def fnExactValueTraceUptoRow : OpenClaim := { program := "ytkfondipmhjhjaa", sum := "c2225b8fd9b7e58d1893e05d85191d09a51e517802ce424c39466a76baf33621", func := "loop.example/tableminors/laws.FnExactValueTrace", spec := "fnExactValueTrace", unfollowed := true, recurses := true, apart := false, narrowed := true }
def FnExactValueTraceUptoSaid : Prop := fnExactValueTraceUptoRow.holds Try.pinned (OpenSpec.upto fnExactValueTraceSpec)

/-- 'laws.FnTrace', WHERE WHAT IT READS IS OF BULK AT MOST 1048576: true; the input reads as it did. -/
def fnTraceUptoRow : OpenClaim := { program := "ytkfondipmhjhjaa", sum := "c2225b8fd9b7e58d1893e05d85191d09a51e517802ce424c39466a76baf33621", func := "loop.example/tableminors/laws.FnTrace", spec := "fnTrace", unfollowed := true, recurses := true, apart := false, narrowed := true }
def FnTraceUptoSaid : Prop := fnTraceUptoRow.holds Try.pinned (OpenSpec.upto fnTraceSpec)

/-- 'laws.FnTraceMake', WHERE WHAT IT READS IS OF BULK AT MOST 1048576: true; the input reads as it did. -/
def fnTraceMakeUptoRow : OpenClaim := { program := "ytkfondipmhjhjaa", sum := "c2225b8fd9b7e58d1893e05d85191d09a51e517802ce424c39466a76baf33621", func := "loop.example/tableminors/laws.FnTraceMake", spec := "fnTraceMake", unfollowed := true, recurses := true, apart := false, narrowed := true }
def FnTraceMakeUptoSaid : Prop := fnTraceMakeUptoRow.holds Try.pinned (OpenSpec.upto fnTraceMakeSpec)

/-- 'laws.FnRankMake', WHERE WHAT IT READS IS OF BULK AT MOST 1048576: true; the input reads as it did. -/
def fnRankMakeUptoRow : OpenClaim := { program := "ytkfondipmhjhjaa", sum := "c2225b8fd9b7e58d1893e05d85191d09a51e517802ce424c39466a76baf33621", func := "loop.example/tableminors/laws.FnRankMake", spec := "fnRankMake", unfollowed := true, recurses := true, apart := false, narrowed := true }
def FnRankMakeUptoSaid : Prop := fnRankMakeUptoRow.holds Try.pinned (OpenSpec.upto fnRankMakeSpec)

/-- 'laws.FnValueBeside', WHERE WHAT IT READS IS OF BULK AT MOST 1048576: true; the input reads as it did. -/
def fnValueBesideUptoRow : OpenClaim := { program := "ytkfondipmhjhjaa", sum := "c2225b8fd9b7e58d1893e05d85191d09a51e517802ce424c39466a76baf33621", func := "loop.example/tableminors/laws.FnValueBeside", spec := "fnValueBeside", unfollowed := true, recurses := true, apart := false, narrowed := true }
def FnValueBesideUptoSaid : Prop := fnValueBesideUptoRow.holds Try.pinned (OpenSpec.upto fnValueBesideSpec)

/-- 'laws.FnTimes', WHERE WHAT IT READS IS OF BULK AT MOST 1048576: true; the input reads as it did. -/
def fnTimesUptoRow : OpenClaim := { program := "ytkfondipmhjhjaa", sum := "c2225b8fd9b7e58d1893e05d85191d09a51e517802ce424c39466a76baf33621", func := "loop.example/tableminors/laws.FnTimes", spec := "fnTimes", unfollowed := true, recurses := true, apart := false, narrowed := true }
def FnTimesUptoSaid : Prop := fnTimesUptoRow.holds Try.pinned (OpenSpec.upto fnTimesSpec)

/-- 'laws.FnExactTableTurn', WHERE WHAT IT READS IS OF BULK AT MOST 1048576: true; the input reads as it did. -/
def fnExactTableTurnUptoRow : OpenClaim := { program := "ytkfondipmhjhjaa", sum := "c2225b8fd9b7e58d1893e05d85191d09a51e517802ce424c39466a76baf33621", func := "loop.example/tableminors/laws.FnExactTableTurn", spec := "fnExactTableTurn", unfollowed := true, recurses := true, apart := false, narrowed := true }
def FnExactTableTurnUptoSaid : Prop := fnExactTableTurnUptoRow.holds Try.pinned (OpenSpec.upto fnExactTableTurnSpec)

/-- 'laws.FnExactTableUnit', WHERE WHAT IT READS IS OF BULK AT MOST 1048576: true; the input reads as it did. -/
def fnExactTableUnitUptoRow : OpenClaim := { program := "ytkfondipmhjhjaa", sum := "c2225b8fd9b7e58d1893e05d85191d09a51e517802ce424c39466a76baf33621", func := "loop.example/tableminors/laws.FnExactTableUnit", spec := "fnExactTableUnit", unfollowed := true, recurses := true, apart := false, narrowed := true }
def FnExactTableUnitUptoSaid : Prop := fnExactTableUnitUptoRow.holds Try.pinned (OpenSpec.upto fnExactTableUnitSpec)

/-- 'laws.FnJacobi', WHERE WHAT IT READS IS OF BULK AT MOST 1048576: true; the input reads as it did. -/
def fnJacobiUptoRow : OpenClaim := { program := "ytkfondipmhjhjaa", sum := "c2225b8fd9b7e58d1893e05d85191d09a51e517802ce424c39466a76baf33621", func := "loop.example/tableminors/laws.FnJacobi", spec := "fnJacobi", unfollowed := true, recurses := true, apart := false, narrowed := true }
def FnJacobiUptoSaid : Prop := fnJacobiUptoRow.holds Try.pinned (OpenSpec.upto fnJacobiSpec)

end Rows
end Go.Proofs.Ytkfondipmhjhjaa
