/-
  No cell of these rows narrows 'for every input' (looked for: loops, veiled, ifaces, maps, wideKeys, modest, calm, conditions, laid).
  DERIVED. THE GIVEN ROWS OF THIS SEAT. 12 by the template 'for every input the law returns true; each argument reads behind the call as it read before'; 0 by the template 'total and deterministic' (their statements: YtikjeaoapeaabaaTotals.lean).
  GIVEN WITH THE SEED: the statements are not yours to turn. If you find one false, say at which input.
  Laid BY PROGRAM, IN A SANDBOX (cutbox-rows.mjs): the forced cells as the released guide's own fill.sh prints them over the translation 260353dbbf9694f4… (all of the seat's roots in one cut). By AI agents, Wed Nov 11 2026. No macro, syntax, notation, axiom, sorry.
-/
import Derived.Test.YtikjeaoapeaabaaChecked
import GoSem.Claim
import GoSem.ClaimJoined
import GoSem.ClaimMapViews
import Derived.JoinedTies
import Derived.KernelRfl
namespace Go.Proofs.Ytikjeaoapeaabaa
/- THE CELL 'sum', in the pinned program and in every row, IS THE sha256 OF THE DUMP (.gsa) THAT YtikjeaoapeaabaaProg.lean LOADS. Nothing in Lean hashes anything: it is a label: what it is worth is what the hold of that sum in a sandbox is worth. -/
noncomputable def Try.pinned : Pinned := { name := "ytikjeaoapeaabaa", sum := "260353dbbf9694f4999b8929bb465b9b30f6963f5da9214381d5ce5fdbd459ec", checked := Try.checked }
namespace Rows
def none {H : Type} : Left H := { results := [], args := [] }

/-- 'laws.FnExactValueRows': WHATEVER THE INPUT: true; the input reads as it did. -/
def fnExactValueRowsSpec : ChangeSpec := { name := "fnExactValueRows", fn := fun _ => fun
  | [d] => { results := [.lit (.bool true)], args := [d] }
  | _ => none }
def fnExactValueRowsRow : OpenClaim := { program := "ytikjeaoapeaabaa", sum := "260353dbbf9694f4999b8929bb465b9b30f6963f5da9214381d5ce5fdbd459ec", func := "loop.example/tableminors/laws.FnExactValueRows", spec := "fnExactValueRows", unfollowed := true, recurses := true, apart := false }
def FnExactValueRowsSaid : Prop := fnExactValueRowsRow.holds Try.pinned (OpenSpec.ofChange fnExactValueRowsSpec)

/-- ITS FALSE NEIGHBOUR: 'it returns false'. Refute it at one input. -/
def fnExactValueRowsWrong : ChangeSpec := { name := "fnExactValueRows", fn := fun _ => fun
  | [d] => { results := [.lit (.bool false)], args := [d] }
  | _ => none }
def FnExactValueRowsWrongFalsely : Prop := fnExactValueRowsRow.holds Try.pinned (OpenSpec.ofChange fnExactValueRowsWrong)

/-- 'laws.FnExactValuePivots': WHATEVER THE INPUT: true; the input reads as it did. -/
def fnExactValuePivotsSpec : ChangeSpec := { name := "fnExactValuePivots", fn := fun _ => fun
  | [d] => { results := [.lit (.bool true)], args := [d] }
  | _ => none }
def fnExactValuePivotsRow : OpenClaim := { program := "ytikjeaoapeaabaa", sum := "260353dbbf9694f4999b8929bb465b9b30f6963f5da9214381d5ce5fdbd459ec", func := "loop.example/tableminors/laws.FnExactValuePivots", spec := "fnExactValuePivots", unfollowed := true, recurses := true, apart := false }
def FnExactValuePivotsSaid : Prop := fnExactValuePivotsRow.holds Try.pinned (OpenSpec.ofChange fnExactValuePivotsSpec)

/-- ITS FALSE NEIGHBOUR: 'it returns false'. Refute it at one input. -/
def fnExactValuePivotsWrong : ChangeSpec := { name := "fnExactValuePivots", fn := fun _ => fun
  | [d] => { results := [.lit (.bool false)], args := [d] }
  | _ => none }
def FnExactValuePivotsWrongFalsely : Prop := fnExactValuePivotsRow.holds Try.pinned (OpenSpec.ofChange fnExactValuePivotsWrong)

/-- 'laws.FnExactValueCondense': WHATEVER THE INPUT: true; the input reads as it did. -/
def fnExactValueCondenseSpec : ChangeSpec := { name := "fnExactValueCondense", fn := fun _ => fun
  | [d] => { results := [.lit (.bool true)], args := [d] }
  | _ => none }
def fnExactValueCondenseRow : OpenClaim := { program := "ytikjeaoapeaabaa", sum := "260353dbbf9694f4999b8929bb465b9b30f6963f5da9214381d5ce5fdbd459ec", func := "loop.example/tableminors/laws.FnExactValueCondense", spec := "fnExactValueCondense", unfollowed := true, recurses := true, apart := false }
def FnExactValueCondenseSaid : Prop := fnExactValueCondenseRow.holds Try.pinned (OpenSpec.ofChange fnExactValueCondenseSpec)

/-- ITS FALSE NEIGHBOUR: 'it returns false'. Refute it at one input. -/
def fnExactValueCondenseWrong : ChangeSpec := { name := "fnExactValueCondense", fn := fun _ => fun
  | [d] => { results := [.lit (.bool false)], args := [d] }
  | _ => none }
def FnExactValueCondenseWrongFalsely : Prop := fnExactValueCondenseRow.holds Try.pinned (OpenSpec.ofChange fnExactValueCondenseWrong)

/-- 'laws.FnExactValueMinor': WHATEVER THE INPUT: true; the input reads as it did. -/
def fnExactValueMinorSpec : ChangeSpec := { name := "fnExactValueMinor", fn := fun _ => fun
  | [d1, d2, d3] => { results := [.lit (.bool true)], args := [d1, d2, d3] }
  | _ => none }
def fnExactValueMinorRow : OpenClaim := { program := "ytikjeaoapeaabaa", sum := "260353dbbf9694f4999b8929bb465b9b30f6963f5da9214381d5ce5fdbd459ec", func := "loop.example/tableminors/laws.FnExactValueMinor", spec := "fnExactValueMinor", unfollowed := true, recurses := true, apart := false }
def FnExactValueMinorSaid : Prop := fnExactValueMinorRow.holds Try.pinned (OpenSpec.ofChange fnExactValueMinorSpec)

/-- ITS FALSE NEIGHBOUR: 'it returns false'. Refute it at one input. -/
def fnExactValueMinorWrong : ChangeSpec := { name := "fnExactValueMinor", fn := fun _ => fun
  | [d1, d2, d3] => { results := [.lit (.bool false)], args := [d1, d2, d3] }
  | _ => none }
def FnExactValueMinorWrongFalsely : Prop := fnExactValueMinorRow.holds Try.pinned (OpenSpec.ofChange fnExactValueMinorWrong)

/-- 'laws.FnExactValueOther': WHATEVER THE INPUT: true; the input reads as it did. -/
def fnExactValueOtherSpec : ChangeSpec := { name := "fnExactValueOther", fn := fun _ => fun
  | [d] => { results := [.lit (.bool true)], args := [d] }
  | _ => none }
def fnExactValueOtherRow : OpenClaim := { program := "ytikjeaoapeaabaa", sum := "260353dbbf9694f4999b8929bb465b9b30f6963f5da9214381d5ce5fdbd459ec", func := "loop.example/tableminors/laws.FnExactValueOther", spec := "fnExactValueOther", unfollowed := true, recurses := true, apart := false }
def FnExactValueOtherSaid : Prop := fnExactValueOtherRow.holds Try.pinned (OpenSpec.ofChange fnExactValueOtherSpec)

/-- ITS FALSE NEIGHBOUR: 'it returns false'. Refute it at one input. -/
def fnExactValueOtherWrong : ChangeSpec := { name := "fnExactValueOther", fn := fun _ => fun
  | [d] => { results := [.lit (.bool false)], args := [d] }
  | _ => none }
def FnExactValueOtherWrongFalsely : Prop := fnExactValueOtherRow.holds Try.pinned (OpenSpec.ofChange fnExactValueOtherWrong)

/-- 'laws.FnExactValueRank': WHATEVER THE INPUT: true; the input reads as it did. -/
def fnExactValueRankSpec : ChangeSpec := { name := "fnExactValueRank", fn := fun _ => fun
  | [d] => { results := [.lit (.bool true)], args := [d] }
  | _ => none }
def fnExactValueRankRow : OpenClaim := { program := "ytikjeaoapeaabaa", sum := "260353dbbf9694f4999b8929bb465b9b30f6963f5da9214381d5ce5fdbd459ec", func := "loop.example/tableminors/laws.FnExactValueRank", spec := "fnExactValueRank", unfollowed := true, recurses := true, apart := false }
def FnExactValueRankSaid : Prop := fnExactValueRankRow.holds Try.pinned (OpenSpec.ofChange fnExactValueRankSpec)

/-- ITS FALSE NEIGHBOUR: 'it returns false'. Refute it at one input. -/
def fnExactValueRankWrong : ChangeSpec := { name := "fnExactValueRank", fn := fun _ => fun
  | [d] => { results := [.lit (.bool false)], args := [d] }
  | _ => none }
def FnExactValueRankWrongFalsely : Prop := fnExactValueRankRow.holds Try.pinned (OpenSpec.ofChange fnExactValueRankWrong)

/-- 'laws.FnExactValueSolve': WHATEVER THE INPUT: true; the input reads as it did. -/
def fnExactValueSolveSpec : ChangeSpec := { name := "fnExactValueSolve", fn := fun _ => fun
  | [d1, d2] => { results := [.lit (.bool true)], args := [d1, d2] }
  | _ => none }
def fnExactValueSolveRow : OpenClaim := { program := "ytikjeaoapeaabaa", sum := "260353dbbf9694f4999b8929bb465b9b30f6963f5da9214381d5ce5fdbd459ec", func := "loop.example/tableminors/laws.FnExactValueSolve", spec := "fnExactValueSolve", unfollowed := true, recurses := true, apart := false }
def FnExactValueSolveSaid : Prop := fnExactValueSolveRow.holds Try.pinned (OpenSpec.ofChange fnExactValueSolveSpec)

/-- ITS FALSE NEIGHBOUR: 'it returns false'. Refute it at one input. -/
def fnExactValueSolveWrong : ChangeSpec := { name := "fnExactValueSolve", fn := fun _ => fun
  | [d1, d2] => { results := [.lit (.bool false)], args := [d1, d2] }
  | _ => none }
def FnExactValueSolveWrongFalsely : Prop := fnExactValueSolveRow.holds Try.pinned (OpenSpec.ofChange fnExactValueSolveWrong)

/-- 'laws.FnSolve': WHATEVER THE INPUT: true; the input reads as it did. -/
def fnSolveSpec : ChangeSpec := { name := "fnSolve", fn := fun _ => fun
  | [d] => { results := [.lit (.bool true)], args := [d] }
  | _ => none }
def fnSolveRow : OpenClaim := { program := "ytikjeaoapeaabaa", sum := "260353dbbf9694f4999b8929bb465b9b30f6963f5da9214381d5ce5fdbd459ec", func := "loop.example/tableminors/laws.FnSolve", spec := "fnSolve", unfollowed := true, recurses := true, apart := false }
def FnSolveSaid : Prop := fnSolveRow.holds Try.pinned (OpenSpec.ofChange fnSolveSpec)

/-- ITS FALSE NEIGHBOUR: 'it returns false'. Refute it at one input. -/
def fnSolveWrong : ChangeSpec := { name := "fnSolve", fn := fun _ => fun
  | [d] => { results := [.lit (.bool false)], args := [d] }
  | _ => none }
def FnSolveWrongFalsely : Prop := fnSolveRow.holds Try.pinned (OpenSpec.ofChange fnSolveWrong)

/-- 'laws.FnCondense': WHATEVER THE INPUT: true; the input reads as it did. -/
def fnCondenseSpec : ChangeSpec := { name := "fnCondense", fn := fun _ => fun
  | [d] => { results := [.lit (.bool true)], args := [d] }
  | _ => none }
def fnCondenseRow : OpenClaim := { program := "ytikjeaoapeaabaa", sum := "260353dbbf9694f4999b8929bb465b9b30f6963f5da9214381d5ce5fdbd459ec", func := "loop.example/tableminors/laws.FnCondense", spec := "fnCondense", unfollowed := true, recurses := true, apart := false }
def FnCondenseSaid : Prop := fnCondenseRow.holds Try.pinned (OpenSpec.ofChange fnCondenseSpec)

/-- ITS FALSE NEIGHBOUR: 'it returns false'. Refute it at one input. -/
def fnCondenseWrong : ChangeSpec := { name := "fnCondense", fn := fun _ => fun
  | [d] => { results := [.lit (.bool false)], args := [d] }
  | _ => none }
def FnCondenseWrongFalsely : Prop := fnCondenseRow.holds Try.pinned (OpenSpec.ofChange fnCondenseWrong)

/-- 'laws.FnJacobi': WHATEVER THE INPUT: true; the input reads as it did. -/
def fnJacobiSpec : ChangeSpec := { name := "fnJacobi", fn := fun _ => fun
  | [d] => { results := [.lit (.bool true)], args := [d] }
  | _ => none }
def fnJacobiRow : OpenClaim := { program := "ytikjeaoapeaabaa", sum := "260353dbbf9694f4999b8929bb465b9b30f6963f5da9214381d5ce5fdbd459ec", func := "loop.example/tableminors/laws.FnJacobi", spec := "fnJacobi", unfollowed := true, recurses := true, apart := false }
def FnJacobiSaid : Prop := fnJacobiRow.holds Try.pinned (OpenSpec.ofChange fnJacobiSpec)

/-- ITS FALSE NEIGHBOUR: 'it returns false'. Refute it at one input. -/
def fnJacobiWrong : ChangeSpec := { name := "fnJacobi", fn := fun _ => fun
  | [d] => { results := [.lit (.bool false)], args := [d] }
  | _ => none }
def FnJacobiWrongFalsely : Prop := fnJacobiRow.holds Try.pinned (OpenSpec.ofChange fnJacobiWrong)

/-- 'laws.FnExactTableTurn': WHATEVER THE INPUT: true; the input reads as it did. -/
def fnExactTableTurnSpec : ChangeSpec := { name := "fnExactTableTurn", fn := fun _ => fun
  | [d] => { results := [.lit (.bool true)], args := [d] }
  | _ => none }
def fnExactTableTurnRow : OpenClaim := { program := "ytikjeaoapeaabaa", sum := "260353dbbf9694f4999b8929bb465b9b30f6963f5da9214381d5ce5fdbd459ec", func := "loop.example/tableminors/laws.FnExactTableTurn", spec := "fnExactTableTurn", unfollowed := true, recurses := true, apart := false }
def FnExactTableTurnSaid : Prop := fnExactTableTurnRow.holds Try.pinned (OpenSpec.ofChange fnExactTableTurnSpec)

/-- ITS FALSE NEIGHBOUR: 'it returns false'. Refute it at one input. -/
def fnExactTableTurnWrong : ChangeSpec := { name := "fnExactTableTurn", fn := fun _ => fun
  | [d] => { results := [.lit (.bool false)], args := [d] }
  | _ => none }
def FnExactTableTurnWrongFalsely : Prop := fnExactTableTurnRow.holds Try.pinned (OpenSpec.ofChange fnExactTableTurnWrong)

/-- 'laws.FnExactTableUnit': WHATEVER THE INPUT: true; the input reads as it did. -/
def fnExactTableUnitSpec : ChangeSpec := { name := "fnExactTableUnit", fn := fun _ => fun
  | [d] => { results := [.lit (.bool true)], args := [d] }
  | _ => none }
def fnExactTableUnitRow : OpenClaim := { program := "ytikjeaoapeaabaa", sum := "260353dbbf9694f4999b8929bb465b9b30f6963f5da9214381d5ce5fdbd459ec", func := "loop.example/tableminors/laws.FnExactTableUnit", spec := "fnExactTableUnit", unfollowed := true, recurses := true, apart := false }
def FnExactTableUnitSaid : Prop := fnExactTableUnitRow.holds Try.pinned (OpenSpec.ofChange fnExactTableUnitSpec)

/-- ITS FALSE NEIGHBOUR: 'it returns false'. Refute it at one input. -/
def fnExactTableUnitWrong : ChangeSpec := { name := "fnExactTableUnit", fn := fun _ => fun
  | [d] => { results := [.lit (.bool false)], args := [d] }
  | _ => none }
def FnExactTableUnitWrongFalsely : Prop := fnExactTableUnitRow.holds Try.pinned (OpenSpec.ofChange fnExactTableUnitWrong)

/- THE SECOND FORM. 'bulk': how many values and letters a reading holds, each counted each time it is reached (what is shared counts as often as it is met; a slice's spare places count too). A statement '..UptoSaid' is the law's where the arguments, and the package variables that the reading takes, are together of bulk at most 1048576: NARROWER than '..Said'. Prove '..Said' where nothing that the law and all that it calls make is longer than what came in: it says more and counts as full. Else prove '..UptoSaid'. A law counts once. -/
mutual
def uptoBulk {H : Type} : DataW H → Nat
  | .lit (.string bytes) => bytes.length + 1
  | .lit _ => 1
  | .nil => 1
  | .ptr d => uptoBulk d + 1
  | .slice elems spare => uptoBulkAll elems + uptoBulkAll spare + 1
  | .agg parts => uptoBulkAll parts + 1
  | .iface _ d => uptoBulk d + 1
  | .map entries => uptoBulkEntries entries + 1
  | .held _ => 1
def uptoBulkAll {H : Type} : List (DataW H) → Nat
  | [] => 0
  | d :: r => uptoBulk d + uptoBulkAll r
def uptoBulkEntries {H : Type} : List (Lit × DataW H) → Nat
  | [] => 0
  | x :: r => uptoBulkEntry x + uptoBulkEntries r
def uptoBulkEntry {H : Type} : Lit × DataW H → Nat
  | (.string bytes, d) => bytes.length + uptoBulk d + 1
  | (_, d) => uptoBulk d + 1
 end
def uptoSmall : (H : Type) → List (DataW H) → Bool := fun _ ds => decide (uptoBulkAll ds ≤ 1048576)
def OpenSpec.upto (s : _root_.Go.ChangeSpec) : _root_.Go.OpenSpec := { _root_.Go.OpenSpec.ofChange s with cond := some uptoSmall }

/-- 'laws.FnExactValueRows', WHERE WHAT IT READS IS OF BULK AT MOST 1048576: true; the input reads as it did. -/
def fnExactValueRowsUptoRow : OpenClaim := { program := "ytikjeaoapeaabaa", sum := "260353dbbf9694f4999b8929bb465b9b30f6963f5da9214381d5ce5fdbd459ec", func := "loop.example/tableminors/laws.FnExactValueRows", spec := "fnExactValueRows", unfollowed := true, recurses := true, apart := false, narrowed := true }
def FnExactValueRowsUptoSaid : Prop := fnExactValueRowsUptoRow.holds Try.pinned (OpenSpec.upto fnExactValueRowsSpec)

/-- 'laws.FnExactValuePivots', WHERE WHAT IT READS IS OF BULK AT MOST 1048576: true; the input reads as it did. -/
def fnExactValuePivotsUptoRow : OpenClaim := { program := "ytikjeaoapeaabaa", sum := "260353dbbf9694f4999b8929bb465b9b30f6963f5da9214381d5ce5fdbd459ec", func := "loop.example/tableminors/laws.FnExactValuePivots", spec := "fnExactValuePivots", unfollowed := true, recurses := true, apart := false, narrowed := true }
def FnExactValuePivotsUptoSaid : Prop := fnExactValuePivotsUptoRow.holds Try.pinned (OpenSpec.upto fnExactValuePivotsSpec)

/-- 'laws.FnExactValueCondense', WHERE WHAT IT READS IS OF BULK AT MOST 1048576: true; the input reads as it did. -/
def fnExactValueCondenseUptoRow : OpenClaim := { program := "ytikjeaoapeaabaa", sum := "260353dbbf9694f4999b8929bb465b9b30f6963f5da9214381d5ce5fdbd459ec", func := "loop.example/tableminors/laws.FnExactValueCondense", spec := "fnExactValueCondense", unfollowed := true, recurses := true, apart := false, narrowed := true }
def FnExactValueCondenseUptoSaid : Prop := fnExactValueCondenseUptoRow.holds Try.pinned (OpenSpec.upto fnExactValueCondenseSpec)

/-- 'laws.FnExactValueMinor', WHERE WHAT IT READS IS OF BULK AT MOST 1048576: true; the input reads as it did. -/
def fnExactValueMinorUptoRow : OpenClaim := { program := "ytikjeaoapeaabaa", sum := "260353dbbf9694f4999b8929bb465b9b30f6963f5da9214381d5ce5fdbd459ec", func := "loop.example/tableminors/laws.FnExactValueMinor", spec := "fnExactValueMinor", unfollowed := true, recurses := true, apart := false, narrowed := true }
def FnExactValueMinorUptoSaid : Prop := fnExactValueMinorUptoRow.holds Try.pinned (OpenSpec.upto fnExactValueMinorSpec)

/-- 'laws.FnExactValueOther', WHERE WHAT IT READS IS OF BULK AT MOST 1048576: true; the input reads as it did. -/
def fnExactValueOtherUptoRow : OpenClaim := { program := "ytikjeaoapeaabaa", sum := "260353dbbf9694f4999b8929bb465b9b30f6963f5da9214381d5ce5fdbd459ec", func := "loop.example/tableminors/laws.FnExactValueOther", spec := "fnExactValueOther", unfollowed := true, recurses := true, apart := false, narrowed := true }
def FnExactValueOtherUptoSaid : Prop := fnExactValueOtherUptoRow.holds Try.pinned (OpenSpec.upto fnExactValueOtherSpec)

/-- 'laws.FnExactValueRank', WHERE WHAT IT READS IS OF BULK AT MOST 1048576: true; the input reads as it did. -/
def fnExactValueRankUptoRow : OpenClaim := { program := "ytikjeaoapeaabaa", sum := "260353dbbf9694f4999b8929bb465b9b30f6963f5da9214381d5ce5fdbd459ec", func := "loop.example/tableminors/laws.FnExactValueRank", spec := "fnExactValueRank", unfollowed := true, recurses := true, apart := false, narrowed := true }
def FnExactValueRankUptoSaid : Prop := fnExactValueRankUptoRow.holds Try.pinned (OpenSpec.upto fnExactValueRankSpec)

/-- 'laws.FnExactValueSolve', WHERE WHAT IT READS IS OF BULK AT MOST 1048576: true; the input reads as it did. -/
def fnExactValueSolveUptoRow : OpenClaim := { program := "ytikjeaoapeaabaa", sum := "260353dbbf9694f4999b8929bb465b9b30f6963f5da9214381d5ce5fdbd459ec", func := "loop.example/tableminors/laws.FnExactValueSolve", spec := "fnExactValueSolve", unfollowed := true, recurses := true, apart := false, narrowed := true }
def FnExactValueSolveUptoSaid : Prop := fnExactValueSolveUptoRow.holds Try.pinned (OpenSpec.upto fnExactValueSolveSpec)

/-- 'laws.FnSolve', WHERE WHAT IT READS IS OF BULK AT MOST 1048576: true; the input reads as it did. -/
def fnSolveUptoRow : OpenClaim := { program := "ytikjeaoapeaabaa", sum := "260353dbbf9694f4999b8929bb465b9b30f6963f5da9214381d5ce5fdbd459ec", func := "loop.example/tableminors/laws.FnSolve", spec := "fnSolve", unfollowed := true, recurses := true, apart := false, narrowed := true }
def FnSolveUptoSaid : Prop := fnSolveUptoRow.holds Try.pinned (OpenSpec.upto fnSolveSpec)

/-- 'laws.FnCondense', WHERE WHAT IT READS IS OF BULK AT MOST 1048576: true; the input reads as it did. -/
def fnCondenseUptoRow : OpenClaim := { program := "ytikjeaoapeaabaa", sum := "260353dbbf9694f4999b8929bb465b9b30f6963f5da9214381d5ce5fdbd459ec", func := "loop.example/tableminors/laws.FnCondense", spec := "fnCondense", unfollowed := true, recurses := true, apart := false, narrowed := true }
def FnCondenseUptoSaid : Prop := fnCondenseUptoRow.holds Try.pinned (OpenSpec.upto fnCondenseSpec)

/-- 'laws.FnJacobi', WHERE WHAT IT READS IS OF BULK AT MOST 1048576: true; the input reads as it did. -/
def fnJacobiUptoRow : OpenClaim := { program := "ytikjeaoapeaabaa", sum := "260353dbbf9694f4999b8929bb465b9b30f6963f5da9214381d5ce5fdbd459ec", func := "loop.example/tableminors/laws.FnJacobi", spec := "fnJacobi", unfollowed := true, recurses := true, apart := false, narrowed := true }
def FnJacobiUptoSaid : Prop := fnJacobiUptoRow.holds Try.pinned (OpenSpec.upto fnJacobiSpec)

/-- 'laws.FnExactTableTurn', WHERE WHAT IT READS IS OF BULK AT MOST 1048576: true; the input reads as it did. -/
def fnExactTableTurnUptoRow : OpenClaim := { program := "ytikjeaoapeaabaa", sum := "260353dbbf9694f4999b8929bb465b9b30f6963f5da9214381d5ce5fdbd459ec", func := "loop.example/tableminors/laws.FnExactTableTurn", spec := "fnExactTableTurn", unfollowed := true, recurses := true, apart := false, narrowed := true }
def FnExactTableTurnUptoSaid : Prop := fnExactTableTurnUptoRow.holds Try.pinned (OpenSpec.upto fnExactTableTurnSpec)

/-- 'laws.FnExactTableUnit', WHERE WHAT IT READS IS OF BULK AT MOST 1048576: true; the input reads as it did. -/
def fnExactTableUnitUptoRow : OpenClaim := { program := "ytikjeaoapeaabaa", sum := "260353dbbf9694f4999b8929bb465b9b30f6963f5da9214381d5ce5fdbd459ec", func := "loop.example/tableminors/laws.FnExactTableUnit", spec := "fnExactTableUnit", unfollowed := true, recurses := true, apart := false, narrowed := true }
def FnExactTableUnitUptoSaid : Prop := fnExactTableUnitUptoRow.holds Try.pinned (OpenSpec.upto fnExactTableUnitSpec)

end Rows
end Go.Proofs.Ytikjeaoapeaabaa
