/-
  No cell of these rows narrows 'for every input' (looked for: loops, veiled, ifaces, maps, wideKeys, modest, calm, conditions, laid).
  DERIVED. THE GIVEN ROWS OF THIS SEAT. 8 by the template 'for every input the law returns true; each argument reads behind the call as it read before'; 0 by the template 'total and deterministic' (their statements: YtpjebmddhnpedaaTotals.lean).
  GIVEN WITH THE SEED: the statements are not yours to turn. If you find one false, say at which input.
  Laid BY PROGRAM, IN A SANDBOX (cutbox-rows.mjs): the forced cells as the released guide's own fill.sh prints them over the translation 779edfb947e296b0… (all of the seat's roots in one cut). By AI agents, Wed Nov 11 2026. No macro, syntax, notation, axiom, sorry.
-/
import Derived.Test.YtpjebmddhnpedaaChecked
import GoSem.Claim
import GoSem.ClaimJoined
import GoSem.ClaimMapViews
import Derived.JoinedTies
import Derived.KernelRfl
namespace Go.Proofs.Ytpjebmddhnpedaa
/- THE CELL 'sum', in the pinned program and in every row, IS THE sha256 OF THE DUMP (.gsa) THAT YtpjebmddhnpedaaProg.lean LOADS. Nothing in Lean hashes anything: it is a label: what it is worth is what the hold of that sum in a sandbox is worth. -/
noncomputable def Try.pinned : Pinned := { name := "ytpjebmddhnpedaa", sum := "779edfb947e296b068996aec8d09fd4e65961d6f7829c86b7161f975b316b3d6", checked := Try.checked }
namespace Rows
def none {H : Type} : Left H := { results := [], args := [] }

/-- 'laws.FnLasting': WHATEVER THE INPUT: true; the input reads as it did. -/
def fnLastingSpec : ChangeSpec := { name := "fnLasting", fn := fun _ => fun
  | [d] => { results := [.lit (.bool true)], args := [d] }
  | _ => none }
def fnLastingRow : OpenClaim := { program := "ytpjebmddhnpedaa", sum := "779edfb947e296b068996aec8d09fd4e65961d6f7829c86b7161f975b316b3d6", func := "loop.example/tableminors/laws.FnLasting", spec := "fnLasting", unfollowed := true, recurses := true, apart := false }
def FnLastingSaid : Prop := fnLastingRow.holds Try.pinned (OpenSpec.ofChange fnLastingSpec)

/-- ITS FALSE NEIGHBOUR: 'it returns false'. Refute it at one input. -/
def fnLastingWrong : ChangeSpec := { name := "fnLasting", fn := fun _ => fun
  | [d] => { results := [.lit (.bool false)], args := [d] }
  | _ => none }
def FnLastingWrongFalsely : Prop := fnLastingRow.holds Try.pinned (OpenSpec.ofChange fnLastingWrong)

/-- 'laws.FnLastingMake': WHATEVER THE INPUT: true; the input reads as it did. -/
def fnLastingMakeSpec : ChangeSpec := { name := "fnLastingMake", fn := fun _ => fun
  | [d] => { results := [.lit (.bool true)], args := [d] }
  | _ => none }
def fnLastingMakeRow : OpenClaim := { program := "ytpjebmddhnpedaa", sum := "779edfb947e296b068996aec8d09fd4e65961d6f7829c86b7161f975b316b3d6", func := "loop.example/tableminors/laws.FnLastingMake", spec := "fnLastingMake", unfollowed := true, recurses := true, apart := false }
def FnLastingMakeSaid : Prop := fnLastingMakeRow.holds Try.pinned (OpenSpec.ofChange fnLastingMakeSpec)

/-- ITS FALSE NEIGHBOUR: 'it returns false'. Refute it at one input. -/
def fnLastingMakeWrong : ChangeSpec := { name := "fnLastingMake", fn := fun _ => fun
  | [d] => { results := [.lit (.bool false)], args := [d] }
  | _ => none }
def FnLastingMakeWrongFalsely : Prop := fnLastingMakeRow.holds Try.pinned (OpenSpec.ofChange fnLastingMakeWrong)

/-- 'laws.FnStrict': WHATEVER THE INPUT: true; the input reads as it did. -/
def fnStrictSpec : ChangeSpec := { name := "fnStrict", fn := fun _ => fun
  | [d] => { results := [.lit (.bool true)], args := [d] }
  | _ => none }
def fnStrictRow : OpenClaim := { program := "ytpjebmddhnpedaa", sum := "779edfb947e296b068996aec8d09fd4e65961d6f7829c86b7161f975b316b3d6", func := "loop.example/tableminors/laws.FnStrict", spec := "fnStrict", unfollowed := true, recurses := true, apart := false }
def FnStrictSaid : Prop := fnStrictRow.holds Try.pinned (OpenSpec.ofChange fnStrictSpec)

/-- ITS FALSE NEIGHBOUR: 'it returns false'. Refute it at one input. -/
def fnStrictWrong : ChangeSpec := { name := "fnStrict", fn := fun _ => fun
  | [d] => { results := [.lit (.bool false)], args := [d] }
  | _ => none }
def FnStrictWrongFalsely : Prop := fnStrictRow.holds Try.pinned (OpenSpec.ofChange fnStrictWrong)

/-- 'laws.FnFirst': WHATEVER THE INPUT: true; the input reads as it did. -/
def fnFirstSpec : ChangeSpec := { name := "fnFirst", fn := fun _ => fun
  | [d] => { results := [.lit (.bool true)], args := [d] }
  | _ => none }
def fnFirstRow : OpenClaim := { program := "ytpjebmddhnpedaa", sum := "779edfb947e296b068996aec8d09fd4e65961d6f7829c86b7161f975b316b3d6", func := "loop.example/tableminors/laws.FnFirst", spec := "fnFirst", unfollowed := true, recurses := true, apart := false }
def FnFirstSaid : Prop := fnFirstRow.holds Try.pinned (OpenSpec.ofChange fnFirstSpec)

/-- ITS FALSE NEIGHBOUR: 'it returns false'. Refute it at one input. -/
def fnFirstWrong : ChangeSpec := { name := "fnFirst", fn := fun _ => fun
  | [d] => { results := [.lit (.bool false)], args := [d] }
  | _ => none }
def FnFirstWrongFalsely : Prop := fnFirstRow.holds Try.pinned (OpenSpec.ofChange fnFirstWrong)

/-- 'laws.FnTimesChanges': WHATEVER THE INPUT: true; the input reads as it did. -/
def fnTimesChangesSpec : ChangeSpec := { name := "fnTimesChanges", fn := fun _ => fun
  | [d] => { results := [.lit (.bool true)], args := [d] }
  | _ => none }
def fnTimesChangesRow : OpenClaim := { program := "ytpjebmddhnpedaa", sum := "779edfb947e296b068996aec8d09fd4e65961d6f7829c86b7161f975b316b3d6", func := "loop.example/tableminors/laws.FnTimesChanges", spec := "fnTimesChanges", unfollowed := true, recurses := true, apart := false }
def FnTimesChangesSaid : Prop := fnTimesChangesRow.holds Try.pinned (OpenSpec.ofChange fnTimesChangesSpec)

/-- ITS FALSE NEIGHBOUR: 'it returns false'. Refute it at one input. -/
def fnTimesChangesWrong : ChangeSpec := { name := "fnTimesChanges", fn := fun _ => fun
  | [d] => { results := [.lit (.bool false)], args := [d] }
  | _ => none }
def FnTimesChangesWrongFalsely : Prop := fnTimesChangesRow.holds Try.pinned (OpenSpec.ofChange fnTimesChangesWrong)

/-- 'laws.FnWorst': WHATEVER THE INPUT: true; the input reads as it did. -/
def fnWorstSpec : ChangeSpec := { name := "fnWorst", fn := fun _ => fun
  | [d] => { results := [.lit (.bool true)], args := [d] }
  | _ => none }
def fnWorstRow : OpenClaim := { program := "ytpjebmddhnpedaa", sum := "779edfb947e296b068996aec8d09fd4e65961d6f7829c86b7161f975b316b3d6", func := "loop.example/tableminors/laws.FnWorst", spec := "fnWorst", unfollowed := true, recurses := true, apart := false }
def FnWorstSaid : Prop := fnWorstRow.holds Try.pinned (OpenSpec.ofChange fnWorstSpec)

/-- ITS FALSE NEIGHBOUR: 'it returns false'. Refute it at one input. -/
def fnWorstWrong : ChangeSpec := { name := "fnWorst", fn := fun _ => fun
  | [d] => { results := [.lit (.bool false)], args := [d] }
  | _ => none }
def FnWorstWrongFalsely : Prop := fnWorstRow.holds Try.pinned (OpenSpec.ofChange fnWorstWrong)

/-- 'laws.FnExactTableTurn': WHATEVER THE INPUT: true; the input reads as it did. -/
def fnExactTableTurnSpec : ChangeSpec := { name := "fnExactTableTurn", fn := fun _ => fun
  | [d] => { results := [.lit (.bool true)], args := [d] }
  | _ => none }
def fnExactTableTurnRow : OpenClaim := { program := "ytpjebmddhnpedaa", sum := "779edfb947e296b068996aec8d09fd4e65961d6f7829c86b7161f975b316b3d6", func := "loop.example/tableminors/laws.FnExactTableTurn", spec := "fnExactTableTurn", unfollowed := true, recurses := true, apart := false }
def FnExactTableTurnSaid : Prop := fnExactTableTurnRow.holds Try.pinned (OpenSpec.ofChange fnExactTableTurnSpec)

/-- ITS FALSE NEIGHBOUR: 'it returns false'. Refute it at one input. -/
def fnExactTableTurnWrong : ChangeSpec := { name := "fnExactTableTurn", fn := fun _ => fun
  | [d] => { results := [.lit (.bool false)], args := [d] }
  | _ => none }
def FnExactTableTurnWrongFalsely : Prop := fnExactTableTurnRow.holds Try.pinned (OpenSpec.ofChange fnExactTableTurnWrong)

/-- 'laws.FnExactTableUnit': WHATEVER THE INPUT: true; the input reads as it did. -/
def fnExactTableUnitSpec : ChangeSpec := { name := "fnExactTableUnit", fn := fun _ => fun
  | [d] => { results := [.lit (.bool true)], args := [d] }
  | _ => none }
def fnExactTableUnitRow : OpenClaim := { program := "ytpjebmddhnpedaa", sum := "779edfb947e296b068996aec8d09fd4e65961d6f7829c86b7161f975b316b3d6", func := "loop.example/tableminors/laws.FnExactTableUnit", spec := "fnExactTableUnit", unfollowed := true, recurses := true, apart := false }
def FnExactTableUnitSaid : Prop := fnExactTableUnitRow.holds Try.pinned (OpenSpec.ofChange fnExactTableUnitSpec)

/-- ITS FALSE NEIGHBOUR: 'it returns false'. Refute it at one input. -/
def fnExactTableUnitWrong : ChangeSpec := { name := "fnExactTableUnit", fn := fun _ => fun
  | [d] => { results := [.lit (.bool false)], args := [d] }
  | _ => none }
def FnExactTableUnitWrongFalsely : Prop := fnExactTableUnitRow.holds Try.pinned (OpenSpec.ofChange fnExactTableUnitWrong)

/- THE SECOND FORM. 'bulk': how many values and letters a reading holds, each counted each time it is reached (what is shared counts as often as it is met; a slice's spare places count too). A statement '..UptoSaid' is the law's where the arguments, and the package variables that the reading takes, are together of bulk at most 1048576: NARROWER than '..Said'. Prove '..Said' where nothing that the law and all that it calls make is longer than what came in: it says more and counts as full. Else prove '..UptoSaid'. A law counts once. -/
mutual
def uptoBulk {H : Type} : DataW H → Nat
  | .lit (.string bytes) => bytes.length + 1
  | .lit _ => 1
  | .nil => 1
  | .ptr d => uptoBulk d + 1
  | .slice elems spare => uptoBulkAll elems + uptoBulkAll spare + 1
  | .agg parts => uptoBulkAll parts + 1
  | .iface _ d => uptoBulk d + 1
  | .map entries => uptoBulkEntries entries + 1
  | .held _ => 1
def uptoBulkAll {H : Type} : List (DataW H) → Nat
  | [] => 0
  | d :: r => uptoBulk d + uptoBulkAll r
def uptoBulkEntries {H : Type} : List (Lit × DataW H) → Nat
  | [] => 0
  | x :: r => uptoBulkEntry x + uptoBulkEntries r
def uptoBulkEntry {H : Type} : Lit × DataW H → Nat
  | (.string bytes, d) => bytes.length + uptoBulk d + 1
  | (_, d) => uptoBulk d + 1
 end
def uptoSmall : (H : Type) → List (DataW H) → Bool := fun _ ds => decide (uptoBulkAll ds ≤ 1048576)
def OpenSpec.upto (s : _root_.Go.ChangeSpec) : _root_.Go.OpenSpec := { _root_.Go.OpenSpec.ofChange s with cond := some uptoSmall }

/-- 'laws.FnLasting', WHERE WHAT IT READS IS OF BULK AT MOST 1048576: true; the input reads as it did. -/
def fnLastingUptoRow : OpenClaim := { program := "ytpjebmddhnpedaa", sum := "779edfb947e296b068996aec8d09fd4e65961d6f7829c86b7161f975b316b3d6", func := "loop.example/tableminors/laws.FnLasting", spec := "fnLasting", unfollowed := true, recurses := true, apart := false, narrowed := true }
def FnLastingUptoSaid : Prop := fnLastingUptoRow.holds Try.pinned (OpenSpec.upto fnLastingSpec)

/-- 'laws.FnLastingMake', WHERE WHAT IT READS IS OF BULK AT MOST 1048576: true; the input reads as it did. -/
def fnLastingMakeUptoRow : OpenClaim := { program := "ytpjebmddhnpedaa", sum := "779edfb947e296b068996aec8d09fd4e65961d6f7829c86b7161f975b316b3d6", func := "loop.example/tableminors/laws.FnLastingMake", spec := "fnLastingMake", unfollowed := true, recurses := true, apart := false, narrowed := true }
def FnLastingMakeUptoSaid : Prop := fnLastingMakeUptoRow.holds Try.pinned (OpenSpec.upto fnLastingMakeSpec)

/-- 'laws.FnStrict', WHERE WHAT IT READS IS OF BULK AT MOST 1048576: true; the input reads as it did. -/
def fnStrictUptoRow : OpenClaim := { program := "ytpjebmddhnpedaa", sum := "779edfb947e296b068996aec8d09fd4e65961d6f7829c86b7161f975b316b3d6", func := "loop.example/tableminors/laws.FnStrict", spec := "fnStrict", unfollowed := true, recurses := true, apart := false, narrowed := true }
def FnStrictUptoSaid : Prop := fnStrictUptoRow.holds Try.pinned (OpenSpec.upto fnStrictSpec)

/-- 'laws.FnFirst', WHERE WHAT IT READS IS OF BULK AT MOST 1048576: true; the input reads as it did. -/
def fnFirstUptoRow : OpenClaim := { program := "ytpjebmddhnpedaa", sum := "779edfb947e296b068996aec8d09fd4e65961d6f7829c86b7161f975b316b3d6", func := "loop.example/tableminors/laws.FnFirst", spec := "fnFirst", unfollowed := true, recurses := true, apart := false, narrowed := true }
def FnFirstUptoSaid : Prop := fnFirstUptoRow.holds Try.pinned (OpenSpec.upto fnFirstSpec)

/-- 'laws.FnTimesChanges', WHERE WHAT IT READS IS OF BULK AT MOST 1048576: true; the input reads as it did. -/
def fnTimesChangesUptoRow : OpenClaim := { program := "ytpjebmddhnpedaa", sum := "779edfb947e296b068996aec8d09fd4e65961d6f7829c86b7161f975b316b3d6", func := "loop.example/tableminors/laws.FnTimesChanges", spec := "fnTimesChanges", unfollowed := true, recurses := true, apart := false, narrowed := true }
def FnTimesChangesUptoSaid : Prop := fnTimesChangesUptoRow.holds Try.pinned (OpenSpec.upto fnTimesChangesSpec)

/-- 'laws.FnWorst', WHERE WHAT IT READS IS OF BULK AT MOST 1048576: true; the input reads as it did. -/
def fnWorstUptoRow : OpenClaim := { program := "ytpjebmddhnpedaa", sum := "779edfb947e296b068996aec8d09fd4e65961d6f7829c86b7161f975b316b3d6", func := "loop.example/tableminors/laws.FnWorst", spec := "fnWorst", unfollowed := true, recurses := true, apart := false, narrowed := true }
def FnWorstUptoSaid : Prop := fnWorstUptoRow.holds Try.pinned (OpenSpec.upto fnWorstSpec)

/-- 'laws.FnExactTableTurn', WHERE WHAT IT READS IS OF BULK AT MOST 1048576: true; the input reads as it did. -/
def fnExactTableTurnUptoRow : OpenClaim := { program := "ytpjebmddhnpedaa", sum := "779edfb947e296b068996aec8d09fd4e65961d6f7829c86b7161f975b316b3d6", func := "loop.example/tableminors/laws.FnExactTableTurn", spec := "fnExactTableTurn", unfollowed := true, recurses := true, apart := false, narrowed := true }
def FnExactTableTurnUptoSaid : Prop := fnExactTableTurnUptoRow.holds Try.pinned (OpenSpec.upto fnExactTableTurnSpec)

/-- 'laws.FnExactTableUnit', WHERE WHAT IT READS IS OF BULK AT MOST 1048576: true; the input reads as it did. -/
def fnExactTableUnitUptoRow : OpenClaim := { program := "ytpjebmddhnpedaa", sum := "779edfb947e296b068996aec8d09fd4e65961d6f7829c86b7161f975b316b3d6", func := "loop.example/tableminors/laws.FnExactTableUnit", spec := "fnExactTableUnit", unfollowed := true, recurses := true, apart := false, narrowed := true }
def FnExactTableUnitUptoSaid : Prop := fnExactTableUnitUptoRow.holds Try.pinned (OpenSpec.upto fnExactTableUnitSpec)

end Rows
end Go.Proofs.Ytpjebmddhnpedaa
