/-
  No cell of these rows narrows 'for every input' (looked for: loops, veiled, ifaces, maps, wideKeys, modest, calm, conditions, laid).
  DERIVED. THE GIVEN ROWS OF THIS SEAT. 13 by the template 'for every input the law returns true; each argument reads behind the call as it read before'; 0 by the template 'total and deterministic' (their statements: YteaabemnolacdaaTotals.lean).
  GIVEN WITH THE SEED: the statements are not yours to turn. If you find one false, say at which input.
  Laid BY PROGRAM, IN A SANDBOX (cutbox-rows.mjs): the forced cells as the released guide's own fill.sh prints them over the translation ced7150b1d82c205… (all of the seat's roots in one cut). By AI agents, Wed Nov 11 2026. No macro, syntax, notation, axiom, sorry.
-/
import Derived.Test.YteaabemnolacdaaChecked
import GoSem.Claim
import GoSem.ClaimJoined
import GoSem.ClaimMapViews
import Derived.JoinedTies
import Derived.KernelRfl
namespace Go.Proofs.Yteaabemnolacdaa
/- THE CELL 'sum', in the pinned program and in every row, IS THE sha256 OF THE DUMP (.gsa) THAT YteaabemnolacdaaProg.lean LOADS. Nothing in Lean hashes anything: it is a label: what it is worth is what the hold of that sum in a sandbox is worth. -/
noncomputable def Try.pinned : Pinned := { name := "yteaabemnolacdaa", sum := "ced7150b1d82c2059f2854b76694d59118ec08f8a7942a17443f34340028ceb6", checked := Try.checked }
namespace Rows
def none {H : Type} : Left H := { results := [], args := [] }

/-- 'laws.FnUnit': WHATEVER THE INPUT: true; the input reads as it did. -/
def fnUnitSpec : ChangeSpec := { name := "fnUnit", fn := fun _ => fun
  | [d] => { results := [.lit (.bool true)], args := [d] }
  | _ => none }
def fnUnitRow : OpenClaim := { program := "yteaabemnolacdaa", sum := "ced7150b1d82c2059f2854b76694d59118ec08f8a7942a17443f34340028ceb6", func := "loop.example/tableminors/laws.FnUnit", spec := "fnUnit", unfollowed := true, recurses := true, apart := false }
def FnUnitSaid : Prop := fnUnitRow.holds Try.pinned (OpenSpec.ofChange fnUnitSpec)

/-- ITS FALSE NEIGHBOUR: 'it returns false'. Refute it at one input. -/
def fnUnitWrong : ChangeSpec := { name := "fnUnit", fn := fun _ => fun
  | [d] => { results := [.lit (.bool false)], args := [d] }
  | _ => none }
def FnUnitWrongFalsely : Prop := fnUnitRow.holds Try.pinned (OpenSpec.ofChange fnUnitWrong)

/-- 'laws.FnSame': WHATEVER THE INPUT: true; the input reads as it did. -/
def fnSameSpec : ChangeSpec := { name := "fnSame", fn := fun _ => fun
  | [d] => { results := [.lit (.bool true)], args := [d] }
  | _ => none }
def fnSameRow : OpenClaim := { program := "yteaabemnolacdaa", sum := "ced7150b1d82c2059f2854b76694d59118ec08f8a7942a17443f34340028ceb6", func := "loop.example/tableminors/laws.FnSame", spec := "fnSame", unfollowed := true, recurses := true, apart := false }
def FnSameSaid : Prop := fnSameRow.holds Try.pinned (OpenSpec.ofChange fnSameSpec)

/-- ITS FALSE NEIGHBOUR: 'it returns false'. Refute it at one input. -/
def fnSameWrong : ChangeSpec := { name := "fnSame", fn := fun _ => fun
  | [d] => { results := [.lit (.bool false)], args := [d] }
  | _ => none }
def FnSameWrongFalsely : Prop := fnSameRow.holds Try.pinned (OpenSpec.ofChange fnSameWrong)

/-- 'laws.FnByPivots': WHATEVER THE INPUT: true; the input reads as it did. -/
def fnByPivotsSpec : ChangeSpec := { name := "fnByPivots", fn := fun _ => fun
  | [d] => { results := [.lit (.bool true)], args := [d] }
  | _ => none }
def fnByPivotsRow : OpenClaim := { program := "yteaabemnolacdaa", sum := "ced7150b1d82c2059f2854b76694d59118ec08f8a7942a17443f34340028ceb6", func := "loop.example/tableminors/laws.FnByPivots", spec := "fnByPivots", unfollowed := true, recurses := true, apart := false }
def FnByPivotsSaid : Prop := fnByPivotsRow.holds Try.pinned (OpenSpec.ofChange fnByPivotsSpec)

/-- ITS FALSE NEIGHBOUR: 'it returns false'. Refute it at one input. -/
def fnByPivotsWrong : ChangeSpec := { name := "fnByPivots", fn := fun _ => fun
  | [d] => { results := [.lit (.bool false)], args := [d] }
  | _ => none }
def FnByPivotsWrongFalsely : Prop := fnByPivotsRow.holds Try.pinned (OpenSpec.ofChange fnByPivotsWrong)

/-- 'laws.FnPivotsTurn': WHATEVER THE INPUT: true; the input reads as it did. -/
def fnPivotsTurnSpec : ChangeSpec := { name := "fnPivotsTurn", fn := fun _ => fun
  | [d] => { results := [.lit (.bool true)], args := [d] }
  | _ => none }
def fnPivotsTurnRow : OpenClaim := { program := "yteaabemnolacdaa", sum := "ced7150b1d82c2059f2854b76694d59118ec08f8a7942a17443f34340028ceb6", func := "loop.example/tableminors/laws.FnPivotsTurn", spec := "fnPivotsTurn", unfollowed := true, recurses := true, apart := false }
def FnPivotsTurnSaid : Prop := fnPivotsTurnRow.holds Try.pinned (OpenSpec.ofChange fnPivotsTurnSpec)

/-- ITS FALSE NEIGHBOUR: 'it returns false'. Refute it at one input. -/
def fnPivotsTurnWrong : ChangeSpec := { name := "fnPivotsTurn", fn := fun _ => fun
  | [d] => { results := [.lit (.bool false)], args := [d] }
  | _ => none }
def FnPivotsTurnWrongFalsely : Prop := fnPivotsTurnRow.holds Try.pinned (OpenSpec.ofChange fnPivotsTurnWrong)

/-- 'laws.FnMinor': WHATEVER THE INPUT: true; the input reads as it did. -/
def fnMinorSpec : ChangeSpec := { name := "fnMinor", fn := fun _ => fun
  | [d] => { results := [.lit (.bool true)], args := [d] }
  | _ => none }
def fnMinorRow : OpenClaim := { program := "yteaabemnolacdaa", sum := "ced7150b1d82c2059f2854b76694d59118ec08f8a7942a17443f34340028ceb6", func := "loop.example/tableminors/laws.FnMinor", spec := "fnMinor", unfollowed := true, recurses := true, apart := false }
def FnMinorSaid : Prop := fnMinorRow.holds Try.pinned (OpenSpec.ofChange fnMinorSpec)

/-- ITS FALSE NEIGHBOUR: 'it returns false'. Refute it at one input. -/
def fnMinorWrong : ChangeSpec := { name := "fnMinor", fn := fun _ => fun
  | [d] => { results := [.lit (.bool false)], args := [d] }
  | _ => none }
def FnMinorWrongFalsely : Prop := fnMinorRow.holds Try.pinned (OpenSpec.ofChange fnMinorWrong)

/-- 'laws.FnOther': WHATEVER THE INPUT: true; the input reads as it did. -/
def fnOtherSpec : ChangeSpec := { name := "fnOther", fn := fun _ => fun
  | [d] => { results := [.lit (.bool true)], args := [d] }
  | _ => none }
def fnOtherRow : OpenClaim := { program := "yteaabemnolacdaa", sum := "ced7150b1d82c2059f2854b76694d59118ec08f8a7942a17443f34340028ceb6", func := "loop.example/tableminors/laws.FnOther", spec := "fnOther", unfollowed := true, recurses := true, apart := false }
def FnOtherSaid : Prop := fnOtherRow.holds Try.pinned (OpenSpec.ofChange fnOtherSpec)

/-- ITS FALSE NEIGHBOUR: 'it returns false'. Refute it at one input. -/
def fnOtherWrong : ChangeSpec := { name := "fnOther", fn := fun _ => fun
  | [d] => { results := [.lit (.bool false)], args := [d] }
  | _ => none }
def FnOtherWrongFalsely : Prop := fnOtherRow.holds Try.pinned (OpenSpec.ofChange fnOtherWrong)

/-- 'laws.FnRank': WHATEVER THE INPUT: true; the input reads as it did. -/
def fnRankSpec : ChangeSpec := { name := "fnRank", fn := fun _ => fun
  | [d] => { results := [.lit (.bool true)], args := [d] }
  | _ => none }
def fnRankRow : OpenClaim := { program := "yteaabemnolacdaa", sum := "ced7150b1d82c2059f2854b76694d59118ec08f8a7942a17443f34340028ceb6", func := "loop.example/tableminors/laws.FnRank", spec := "fnRank", unfollowed := true, recurses := true, apart := false }
def FnRankSaid : Prop := fnRankRow.holds Try.pinned (OpenSpec.ofChange fnRankSpec)

/-- ITS FALSE NEIGHBOUR: 'it returns false'. Refute it at one input. -/
def fnRankWrong : ChangeSpec := { name := "fnRank", fn := fun _ => fun
  | [d] => { results := [.lit (.bool false)], args := [d] }
  | _ => none }
def FnRankWrongFalsely : Prop := fnRankRow.holds Try.pinned (OpenSpec.ofChange fnRankWrong)

/-- 'laws.FnRankMake': WHATEVER THE INPUT: true; the input reads as it did. -/
def fnRankMakeSpec : ChangeSpec := { name := "fnRankMake", fn := fun _ => fun
  | [d] => { results := [.lit (.bool true)], args := [d] }
  | _ => none }
def fnRankMakeRow : OpenClaim := { program := "yteaabemnolacdaa", sum := "ced7150b1d82c2059f2854b76694d59118ec08f8a7942a17443f34340028ceb6", func := "loop.example/tableminors/laws.FnRankMake", spec := "fnRankMake", unfollowed := true, recurses := true, apart := false }
def FnRankMakeSaid : Prop := fnRankMakeRow.holds Try.pinned (OpenSpec.ofChange fnRankMakeSpec)

/-- ITS FALSE NEIGHBOUR: 'it returns false'. Refute it at one input. -/
def fnRankMakeWrong : ChangeSpec := { name := "fnRankMake", fn := fun _ => fun
  | [d] => { results := [.lit (.bool false)], args := [d] }
  | _ => none }
def FnRankMakeWrongFalsely : Prop := fnRankMakeRow.holds Try.pinned (OpenSpec.ofChange fnRankMakeWrong)

/-- 'laws.FnValueMake': WHATEVER THE INPUT: true; the input reads as it did. -/
def fnValueMakeSpec : ChangeSpec := { name := "fnValueMake", fn := fun _ => fun
  | [d] => { results := [.lit (.bool true)], args := [d] }
  | _ => none }
def fnValueMakeRow : OpenClaim := { program := "yteaabemnolacdaa", sum := "ced7150b1d82c2059f2854b76694d59118ec08f8a7942a17443f34340028ceb6", func := "loop.example/tableminors/laws.FnValueMake", spec := "fnValueMake", unfollowed := true, recurses := true, apart := false }
def FnValueMakeSaid : Prop := fnValueMakeRow.holds Try.pinned (OpenSpec.ofChange fnValueMakeSpec)

/-- ITS FALSE NEIGHBOUR: 'it returns false'. Refute it at one input. -/
def fnValueMakeWrong : ChangeSpec := { name := "fnValueMake", fn := fun _ => fun
  | [d] => { results := [.lit (.bool false)], args := [d] }
  | _ => none }
def FnValueMakeWrongFalsely : Prop := fnValueMakeRow.holds Try.pinned (OpenSpec.ofChange fnValueMakeWrong)

/-- 'laws.FnValueBeside': WHATEVER THE INPUT: true; the input reads as it did. -/
def fnValueBesideSpec : ChangeSpec := { name := "fnValueBeside", fn := fun _ => fun
  | [d] => { results := [.lit (.bool true)], args := [d] }
  | _ => none }
def fnValueBesideRow : OpenClaim := { program := "yteaabemnolacdaa", sum := "ced7150b1d82c2059f2854b76694d59118ec08f8a7942a17443f34340028ceb6", func := "loop.example/tableminors/laws.FnValueBeside", spec := "fnValueBeside", unfollowed := true, recurses := true, apart := false }
def FnValueBesideSaid : Prop := fnValueBesideRow.holds Try.pinned (OpenSpec.ofChange fnValueBesideSpec)

/-- ITS FALSE NEIGHBOUR: 'it returns false'. Refute it at one input. -/
def fnValueBesideWrong : ChangeSpec := { name := "fnValueBeside", fn := fun _ => fun
  | [d] => { results := [.lit (.bool false)], args := [d] }
  | _ => none }
def FnValueBesideWrongFalsely : Prop := fnValueBesideRow.holds Try.pinned (OpenSpec.ofChange fnValueBesideWrong)

/-- 'laws.FnValueAdd': WHATEVER THE INPUT: true; the input reads as it did. -/
def fnValueAddSpec : ChangeSpec := { name := "fnValueAdd", fn := fun _ => fun
  | [d] => { results := [.lit (.bool true)], args := [d] }
  | _ => none }
def fnValueAddRow : OpenClaim := { program := "yteaabemnolacdaa", sum := "ced7150b1d82c2059f2854b76694d59118ec08f8a7942a17443f34340028ceb6", func := "loop.example/tableminors/laws.FnValueAdd", spec := "fnValueAdd", unfollowed := true, recurses := true, apart := false }
def FnValueAddSaid : Prop := fnValueAddRow.holds Try.pinned (OpenSpec.ofChange fnValueAddSpec)

/-- ITS FALSE NEIGHBOUR: 'it returns false'. Refute it at one input. -/
def fnValueAddWrong : ChangeSpec := { name := "fnValueAdd", fn := fun _ => fun
  | [d] => { results := [.lit (.bool false)], args := [d] }
  | _ => none }
def FnValueAddWrongFalsely : Prop := fnValueAddRow.holds Try.pinned (OpenSpec.ofChange fnValueAddWrong)

/-- 'laws.FnExactTableTurn': WHATEVER THE INPUT: true; the input reads as it did. -/
def fnExactTableTurnSpec : ChangeSpec := { name := "fnExactTableTurn", fn := fun _ => fun
  | [d] => { results := [.lit (.bool true)], args := [d] }
  | _ => none }
def fnExactTableTurnRow : OpenClaim := { program := "yteaabemnolacdaa", sum := "ced7150b1d82c2059f2854b76694d59118ec08f8a7942a17443f34340028ceb6", func := "loop.example/tableminors/laws.FnExactTableTurn", spec := "fnExactTableTurn", unfollowed := true, recurses := true, apart := false }
def FnExactTableTurnSaid : Prop := fnExactTableTurnRow.holds Try.pinned (OpenSpec.ofChange fnExactTableTurnSpec)

/-- ITS FALSE NEIGHBOUR: 'it returns false'. Refute it at one input. -/
def fnExactTableTurnWrong : ChangeSpec := { name := "fnExactTableTurn", fn := fun _ => fun
  | [d] => { results := [.lit (.bool false)], args := [d] }
  | _ => none }
def FnExactTableTurnWrongFalsely : Prop := fnExactTableTurnRow.holds Try.pinned (OpenSpec.ofChange fnExactTableTurnWrong)

/-- 'laws.FnExactTableUnit': WHATEVER THE INPUT: true; the input reads as it did. -/
def fnExactTableUnitSpec : ChangeSpec := { name := "fnExactTableUnit", fn := fun _ => fun
  | [d] => { results := [.lit (.bool true)], args := [d] }
  | _ => none }
def fnExactTableUnitRow : OpenClaim := { program := "yteaabemnolacdaa", sum := "ced7150b1d82c2059f2854b76694d59118ec08f8a7942a17443f34340028ceb6", func := "loop.example/tableminors/laws.FnExactTableUnit", spec := "fnExactTableUnit", unfollowed := true, recurses := true, apart := false }
def FnExactTableUnitSaid : Prop := fnExactTableUnitRow.holds Try.pinned (OpenSpec.ofChange fnExactTableUnitSpec)

/-- ITS FALSE NEIGHBOUR: 'it returns false'. Refute it at one input. -/
def fnExactTableUnitWrong : ChangeSpec := { name := "fnExactTableUnit", fn := fun _ => fun
  | [d] => { results := [.lit (.bool false)], args := [d] }
  | _ => none }
def FnExactTableUnitWrongFalsely : Prop := fnExactTableUnitRow.holds Try.pinned (OpenSpec.ofChange fnExactTableUnitWrong)

/- THE SECOND FORM. 'bulk': how many values and letters a reading holds, each counted each time it is reached (what is shared counts as often as it is met; a slice's spare places count too). A statement '..UptoSaid' is the law's where the arguments, and the package variables that the reading takes, are together of bulk at most 1048576: NARROWER than '..Said'. Prove '..Said' where nothing that the law and all that it calls make is longer than what came in: it says more and counts as full. Else prove '..UptoSaid'. A law counts once. -/
mutual
def uptoBulk {H : Type} : DataW H → Nat
  | .lit (.string bytes) => bytes.length + 1
  | .lit _ => 1
  | .nil => 1
  | .ptr d => uptoBulk d + 1
  | .slice elems spare => uptoBulkAll elems + uptoBulkAll spare + 1
  | .agg parts => uptoBulkAll parts + 1
  | .iface _ d => uptoBulk d + 1
  | .map entries => uptoBulkEntries entries + 1
  | .held _ => 1
def uptoBulkAll {H : Type} : List (DataW H) → Nat
  | [] => 0
  | d :: r => uptoBulk d + uptoBulkAll r
def uptoBulkEntries {H : Type} : List (Lit × DataW H) → Nat
  | [] => 0
  | x :: r => uptoBulkEntry x + uptoBulkEntries r
def uptoBulkEntry {H : Type} : Lit × DataW H → Nat
  | (.string bytes, d) => bytes.length + uptoBulk d + 1
  | (_, d) => uptoBulk d + 1
 end
def uptoSmall : (H : Type) → List (DataW H) → Bool := fun _ ds => decide (uptoBulkAll ds ≤ 1048576)
def OpenSpec.upto (s : _root_.Go.ChangeSpec) : _root_.Go.OpenSpec := { _root_.Go.OpenSpec.ofChange s with cond := some uptoSmall }

/-- 'laws.FnUnit', WHERE WHAT IT READS IS OF BULK AT MOST 1048576: true; the input reads as it did. -/
def fnUnitUptoRow : OpenClaim := { program := "yteaabemnolacdaa", sum := "ced7150b1d82c2059f2854b76694d59118ec08f8a7942a17443f34340028ceb6", func := "loop.example/tableminors/laws.FnUnit", spec := "fnUnit", unfollowed := true, recurses := true, apart := false, narrowed := true }
def FnUnitUptoSaid : Prop := fnUnitUptoRow.holds Try.pinned (OpenSpec.upto fnUnitSpec)

/-- 'laws.FnSame', WHERE WHAT IT READS IS OF BULK AT MOST 1048576: true; the input reads as it did. -/
def fnSameUptoRow : OpenClaim := { program := "yteaabemnolacdaa", sum := "ced7150b1d82c2059f2854b76694d59118ec08f8a7942a17443f34340028ceb6", func := "loop.example/tableminors/laws.FnSame", spec := "fnSame", unfollowed := true, recurses := true, apart := false, narrowed := true }
def FnSameUptoSaid : Prop := fnSameUptoRow.holds Try.pinned (OpenSpec.upto fnSameSpec)

/-- 'laws.FnByPivots', WHERE WHAT IT READS IS OF BULK AT MOST 1048576: true; the input reads as it did. -/
def fnByPivotsUptoRow : OpenClaim := { program := "yteaabemnolacdaa", sum := "ced7150b1d82c2059f2854b76694d59118ec08f8a7942a17443f34340028ceb6", func := "loop.example/tableminors/laws.FnByPivots", spec := "fnByPivots", unfollowed := true, recurses := true, apart := false, narrowed := true }
def FnByPivotsUptoSaid : Prop := fnByPivotsUptoRow.holds Try.pinned (OpenSpec.upto fnByPivotsSpec)

/-- 'laws.FnPivotsTurn', WHERE WHAT IT READS IS OF BULK AT MOST 1048576: true; the input reads as it did. -/
def fnPivotsTurnUptoRow : OpenClaim := { program := "yteaabemnolacdaa", sum := "ced7150b1d82c2059f2854b76694d59118ec08f8a7942a17443f34340028ceb6", func := "loop.example/tableminors/laws.FnPivotsTurn", spec := "fnPivotsTurn", unfollowed := true, recurses := true, apart := false, narrowed := true }
def FnPivotsTurnUptoSaid : Prop := fnPivotsTurnUptoRow.holds Try.pinned (OpenSpec.upto fnPivotsTurnSpec)

/-- 'laws.FnMinor', WHERE WHAT IT READS IS OF BULK AT MOST 1048576: true; the input reads as it did. -/
def fnMinorUptoRow : OpenClaim := { program := "yteaabemnolacdaa", sum := "ced7150b1d82c2059f2854b76694d59118ec08f8a7942a17443f34340028ceb6", func := "loop.example/tableminors/laws.FnMinor", spec := "fnMinor", unfollowed := true, recurses := true, apart := false, narrowed := true }
def FnMinorUptoSaid : Prop := fnMinorUptoRow.holds Try.pinned (OpenSpec.upto fnMinorSpec)

/-- 'laws.FnOther', WHERE WHAT IT READS IS OF BULK AT MOST 1048576: true; the input reads as it did. -/
def fnOtherUptoRow : OpenClaim := { program := "yteaabemnolacdaa", sum := "ced7150b1d82c2059f2854b76694d59118ec08f8a7942a17443f34340028ceb6", func := "loop.example/tableminors/laws.FnOther", spec := "fnOther", unfollowed := true, recurses := true, apart := false, narrowed := true }
def FnOtherUptoSaid : Prop := fnOtherUptoRow.holds Try.pinned (OpenSpec.upto fnOtherSpec)

/-- 'laws.FnRank', WHERE WHAT IT READS IS OF BULK AT MOST 1048576: true; the input reads as it did. -/
def fnRankUptoRow : OpenClaim := { program := "yteaabemnolacdaa", sum := "ced7150b1d82c2059f2854b76694d59118ec08f8a7942a17443f34340028ceb6", func := "loop.example/tableminors/laws.FnRank", spec := "fnRank", unfollowed := true, recurses := true, apart := false, narrowed := true }
def FnRankUptoSaid : Prop := fnRankUptoRow.holds Try.pinned (OpenSpec.upto fnRankSpec)

/-- 'laws.FnRankMake', WHERE WHAT IT READS IS OF BULK AT MOST 1048576: true; the input reads as it did. -/
def fnRankMakeUptoRow : OpenClaim := { program := "yteaabemnolacdaa", sum := "ced7150b1d82c2059f2854b76694d59118ec08f8a7942a17443f34340028ceb6", func := "loop.example/tableminors/laws.FnRankMake", spec := "fnRankMake", unfollowed := true, recurses := true, apart := false, narrowed := true }
def FnRankMakeUptoSaid : Prop := fnRankMakeUptoRow.holds Try.pinned (OpenSpec.upto fnRankMakeSpec)

/-- 'laws.FnValueMake', WHERE WHAT IT READS IS OF BULK AT MOST 1048576: true; the input reads as it did. -/
def fnValueMakeUptoRow : OpenClaim := { program := "yteaabemnolacdaa", sum := "ced7150b1d82c2059f2854b76694d59118ec08f8a7942a17443f34340028ceb6", func := "loop.example/tableminors/laws.FnValueMake", spec := "fnValueMake", unfollowed := true, recurses := true, apart := false, narrowed := true }
def FnValueMakeUptoSaid : Prop := fnValueMakeUptoRow.holds Try.pinned (OpenSpec.upto fnValueMakeSpec)

/-- 'laws.FnValueBeside', WHERE WHAT IT READS IS OF BULK AT MOST 1048576: true; the input reads as it did. -/
def fnValueBesideUptoRow : OpenClaim := { program := "yteaabemnolacdaa", sum := "ced7150b1d82c2059f2854b76694d59118ec08f8a7942a17443f34340028ceb6", func := "loop.example/tableminors/laws.FnValueBeside", spec := "fnValueBeside", unfollowed := true, recurses := true, apart := false, narrowed := true }
def FnValueBesideUptoSaid : Prop := fnValueBesideUptoRow.holds Try.pinned (OpenSpec.upto fnValueBesideSpec)

/-- 'laws.FnValueAdd', WHERE WHAT IT READS IS OF BULK AT MOST 1048576: true; the input reads as it did. -/
def fnValueAddUptoRow : OpenClaim := { program := "yteaabemnolacdaa", sum := "ced7150b1d82c2059f2854b76694d59118ec08f8a7942a17443f34340028ceb6", func := "loop.example/tableminors/laws.FnValueAdd", spec := "fnValueAdd", unfollowed := true, recurses := true, apart := false, narrowed := true }
def FnValueAddUptoSaid : Prop := fnValueAddUptoRow.holds Try.pinned (OpenSpec.upto fnValueAddSpec)

/-- 'laws.FnExactTableTurn', WHERE WHAT IT READS IS OF BULK AT MOST 1048576: true; the input reads as it did. -/
def fnExactTableTurnUptoRow : OpenClaim := { program := "yteaabemnolacdaa", sum := "ced7150b1d82c2059f2854b76694d59118ec08f8a7942a17443f34340028ceb6", func := "loop.example/tableminors/laws.FnExactTableTurn", spec := "fnExactTableTurn", unfollowed := true, recurses := true, apart := false, narrowed := true }
def FnExactTableTurnUptoSaid : Prop := fnExactTableTurnUptoRow.holds Try.pinned (OpenSpec.upto fnExactTableTurnSpec)

/-- 'laws.FnExactTableUnit', WHERE WHAT IT READS IS OF BULK AT MOST 1048576: true; the input reads as it did. -/
def fnExactTableUnitUptoRow : OpenClaim := { program := "yteaabemnolacdaa", sum := "ced7150b1d82c2059f2854b76694d59118ec08f8a7942a17443f34340028ceb6", func := "loop.example/tableminors/laws.FnExactTableUnit", spec := "fnExactTableUnit", unfollowed := true, recurses := true, apart := false, narrowed := true }
def FnExactTableUnitUptoSaid : Prop := fnExactTableUnitUptoRow.holds Try.pinned (OpenSpec.upto fnExactTableUnitSpec)

end Rows
end Go.Proofs.Yteaabemnolacdaa
