/-
  No cell of these rows narrows 'for every input' (looked for: loops, veiled, ifaces, maps, wideKeys, modest, calm, conditions, laid).
  DERIVED. THE GIVEN ROWS OF THIS SEAT. 12 by the template 'for every input the law returns true; each argument reads behind the call as it read before'; 0 by the template 'total and deterministic' (their statements: YtpoabeniejmpkaaTotals.lean).
  GIVEN WITH THE SEED: the statements are not yours to turn. If you find one false, say at which input.
  Laid BY PROGRAM, IN A SANDBOX (cutbox-rows.mjs): the forced cells as the released guide's own fill.sh prints them over the translation 5820ee57ff080d44… (all of the seat's roots in one cut). By AI agents, Wed Nov 11 2026. No macro, syntax, notation, axiom, sorry.
-/
import Derived.Test.YtpoabeniejmpkaaChecked
import GoSem.Claim
import GoSem.ClaimJoined
import GoSem.ClaimMapViews
import Derived.JoinedTies
import Derived.KernelRfl
namespace Go.Proofs.Ytpoabeniejmpkaa
/- THE CELL 'sum', in the pinned program and in every row, IS THE sha256 OF THE DUMP (.gsa) THAT YtpoabeniejmpkaaProg.lean LOADS. Nothing in Lean hashes anything: it is a label: what it is worth is what the hold of that sum in a sandbox is worth. -/
noncomputable def Try.pinned : Pinned := { name := "ytpoabeniejmpkaa", sum := "5820ee57ff080d44d8c9e69dbbad778e61295b866f1fb13b6387c7fe2a4b326e", checked := Try.checked }
namespace Rows
def none {H : Type} : Left H := { results := [], args := [] }

/-- 'laws.FnSame': WHATEVER THE INPUT: true; the input reads as it did. -/
def fnSameSpec : ChangeSpec := { name := "fnSame", fn := fun _ => fun
  | [d] => { results := [.lit (.bool true)], args := [d] }
  | _ => none }
def fnSameRow : OpenClaim := { program := "ytpoabeniejmpkaa", sum := "5820ee57ff080d44d8c9e69dbbad778e61295b866f1fb13b6387c7fe2a4b326e", func := "loop.example/tableminors/laws.FnSame", spec := "fnSame", unfollowed := true, recurses := true, apart := false }
def FnSameSaid : Prop := fnSameRow.holds Try.pinned (OpenSpec.ofChange fnSameSpec)

/-- ITS FALSE NEIGHBOUR: 'it returns false'. Refute it at one input. -/
def fnSameWrong : ChangeSpec := { name := "fnSame", fn := fun _ => fun
  | [d] => { results := [.lit (.bool false)], args := [d] }
  | _ => none }
def FnSameWrongFalsely : Prop := fnSameRow.holds Try.pinned (OpenSpec.ofChange fnSameWrong)

/-- 'laws.FnRank': WHATEVER THE INPUT: true; the input reads as it did. -/
def fnRankSpec : ChangeSpec := { name := "fnRank", fn := fun _ => fun
  | [d] => { results := [.lit (.bool true)], args := [d] }
  | _ => none }
def fnRankRow : OpenClaim := { program := "ytpoabeniejmpkaa", sum := "5820ee57ff080d44d8c9e69dbbad778e61295b866f1fb13b6387c7fe2a4b326e", func := "loop.example/tableminors/laws.FnRank", spec := "fnRank", unfollowed := true, recurses := true, apart := false }
def FnRankSaid : Prop := fnRankRow.holds Try.pinned (OpenSpec.ofChange fnRankSpec)

/-- ITS FALSE NEIGHBOUR: 'it returns false'. Refute it at one input. -/
def fnRankWrong : ChangeSpec := { name := "fnRank", fn := fun _ => fun
  | [d] => { results := [.lit (.bool false)], args := [d] }
  | _ => none }
def FnRankWrongFalsely : Prop := fnRankRow.holds Try.pinned (OpenSpec.ofChange fnRankWrong)

/-- 'laws.FnRankMake': WHATEVER THE INPUT: true; the input reads as it did. -/
def fnRankMakeSpec : ChangeSpec := { name := "fnRankMake", fn := fun _ => fun
  | [d] => { results := [.lit (.bool true)], args := [d] }
  | _ => none }
def fnRankMakeRow : OpenClaim := { program := "ytpoabeniejmpkaa", sum := "5820ee57ff080d44d8c9e69dbbad778e61295b866f1fb13b6387c7fe2a4b326e", func := "loop.example/tableminors/laws.FnRankMake", spec := "fnRankMake", unfollowed := true, recurses := true, apart := false }
def FnRankMakeSaid : Prop := fnRankMakeRow.holds Try.pinned (OpenSpec.ofChange fnRankMakeSpec)

/-- ITS FALSE NEIGHBOUR: 'it returns false'. Refute it at one input. -/
def fnRankMakeWrong : ChangeSpec := { name := "fnRankMake", fn := fun _ => fun
  | [d] => { results := [.lit (.bool false)], args := [d] }
  | _ => none }
def FnRankMakeWrongFalsely : Prop := fnRankMakeRow.holds Try.pinned (OpenSpec.ofChange fnRankMakeWrong)

/-- 'laws.FnValueBeside': WHATEVER THE INPUT: true; the input reads as it did. -/
def fnValueBesideSpec : ChangeSpec := { name := "fnValueBeside", fn := fun _ => fun
  | [d] => { results := [.lit (.bool true)], args := [d] }
  | _ => none }
def fnValueBesideRow : OpenClaim := { program := "ytpoabeniejmpkaa", sum := "5820ee57ff080d44d8c9e69dbbad778e61295b866f1fb13b6387c7fe2a4b326e", func := "loop.example/tableminors/laws.FnValueBeside", spec := "fnValueBeside", unfollowed := true, recurses := true, apart := false }
def FnValueBesideSaid : Prop := fnValueBesideRow.holds Try.pinned (OpenSpec.ofChange fnValueBesideSpec)

/-- ITS FALSE NEIGHBOUR: 'it returns false'. Refute it at one input. -/
def fnValueBesideWrong : ChangeSpec := { name := "fnValueBeside", fn := fun _ => fun
  | [d] => { results := [.lit (.bool false)], args := [d] }
  | _ => none }
def FnValueBesideWrongFalsely : Prop := fnValueBesideRow.holds Try.pinned (OpenSpec.ofChange fnValueBesideWrong)

/-- 'laws.FnValueAdd': WHATEVER THE INPUT: true; the input reads as it did. -/
def fnValueAddSpec : ChangeSpec := { name := "fnValueAdd", fn := fun _ => fun
  | [d] => { results := [.lit (.bool true)], args := [d] }
  | _ => none }
def fnValueAddRow : OpenClaim := { program := "ytpoabeniejmpkaa", sum := "5820ee57ff080d44d8c9e69dbbad778e61295b866f1fb13b6387c7fe2a4b326e", func := "loop.example/tableminors/laws.FnValueAdd", spec := "fnValueAdd", unfollowed := true, recurses := true, apart := false }
def FnValueAddSaid : Prop := fnValueAddRow.holds Try.pinned (OpenSpec.ofChange fnValueAddSpec)

/-- ITS FALSE NEIGHBOUR: 'it returns false'. Refute it at one input. -/
def fnValueAddWrong : ChangeSpec := { name := "fnValueAdd", fn := fun _ => fun
  | [d] => { results := [.lit (.bool false)], args := [d] }
  | _ => none }
def FnValueAddWrongFalsely : Prop := fnValueAddRow.holds Try.pinned (OpenSpec.ofChange fnValueAddWrong)

/-- 'laws.FnTrace': WHATEVER THE INPUT: true; the input reads as it did. -/
def fnTraceSpec : ChangeSpec := { name := "fnTrace", fn := fun _ => fun
  | [d] => { results := [.lit (.bool true)], args := [d] }
  | _ => none }
def fnTraceRow : OpenClaim := { program := "ytpoabeniejmpkaa", sum := "5820ee57ff080d44d8c9e69dbbad778e61295b866f1fb13b6387c7fe2a4b326e", func := "loop.example/tableminors/laws.FnTrace", spec := "fnTrace", unfollowed := true, recurses := true, apart := false }
def FnTraceSaid : Prop := fnTraceRow.holds Try.pinned (OpenSpec.ofChange fnTraceSpec)

/-- ITS FALSE NEIGHBOUR: 'it returns false'. Refute it at one input. -/
def fnTraceWrong : ChangeSpec := { name := "fnTrace", fn := fun _ => fun
  | [d] => { results := [.lit (.bool false)], args := [d] }
  | _ => none }
def FnTraceWrongFalsely : Prop := fnTraceRow.holds Try.pinned (OpenSpec.ofChange fnTraceWrong)

/-- 'laws.FnTraceMake': WHATEVER THE INPUT: true; the input reads as it did. -/
def fnTraceMakeSpec : ChangeSpec := { name := "fnTraceMake", fn := fun _ => fun
  | [d] => { results := [.lit (.bool true)], args := [d] }
  | _ => none }
def fnTraceMakeRow : OpenClaim := { program := "ytpoabeniejmpkaa", sum := "5820ee57ff080d44d8c9e69dbbad778e61295b866f1fb13b6387c7fe2a4b326e", func := "loop.example/tableminors/laws.FnTraceMake", spec := "fnTraceMake", unfollowed := true, recurses := true, apart := false }
def FnTraceMakeSaid : Prop := fnTraceMakeRow.holds Try.pinned (OpenSpec.ofChange fnTraceMakeSpec)

/-- ITS FALSE NEIGHBOUR: 'it returns false'. Refute it at one input. -/
def fnTraceMakeWrong : ChangeSpec := { name := "fnTraceMake", fn := fun _ => fun
  | [d] => { results := [.lit (.bool false)], args := [d] }
  | _ => none }
def FnTraceMakeWrongFalsely : Prop := fnTraceMakeRow.holds Try.pinned (OpenSpec.ofChange fnTraceMakeWrong)

/-- 'laws.FnSum': WHATEVER THE INPUT: true; the input reads as it did. -/
def fnSumSpec : ChangeSpec := { name := "fnSum", fn := fun _ => fun
  | [d] => { results := [.lit (.bool true)], args := [d] }
  | _ => none }
def fnSumRow : OpenClaim := { program := "ytpoabeniejmpkaa", sum := "5820ee57ff080d44d8c9e69dbbad778e61295b866f1fb13b6387c7fe2a4b326e", func := "loop.example/tableminors/laws.FnSum", spec := "fnSum", unfollowed := true, recurses := true, apart := false }
def FnSumSaid : Prop := fnSumRow.holds Try.pinned (OpenSpec.ofChange fnSumSpec)

/-- ITS FALSE NEIGHBOUR: 'it returns false'. Refute it at one input. -/
def fnSumWrong : ChangeSpec := { name := "fnSum", fn := fun _ => fun
  | [d] => { results := [.lit (.bool false)], args := [d] }
  | _ => none }
def FnSumWrongFalsely : Prop := fnSumRow.holds Try.pinned (OpenSpec.ofChange fnSumWrong)

/-- 'laws.FnTimes': WHATEVER THE INPUT: true; the input reads as it did. -/
def fnTimesSpec : ChangeSpec := { name := "fnTimes", fn := fun _ => fun
  | [d] => { results := [.lit (.bool true)], args := [d] }
  | _ => none }
def fnTimesRow : OpenClaim := { program := "ytpoabeniejmpkaa", sum := "5820ee57ff080d44d8c9e69dbbad778e61295b866f1fb13b6387c7fe2a4b326e", func := "loop.example/tableminors/laws.FnTimes", spec := "fnTimes", unfollowed := true, recurses := true, apart := false }
def FnTimesSaid : Prop := fnTimesRow.holds Try.pinned (OpenSpec.ofChange fnTimesSpec)

/-- ITS FALSE NEIGHBOUR: 'it returns false'. Refute it at one input. -/
def fnTimesWrong : ChangeSpec := { name := "fnTimes", fn := fun _ => fun
  | [d] => { results := [.lit (.bool false)], args := [d] }
  | _ => none }
def FnTimesWrongFalsely : Prop := fnTimesRow.holds Try.pinned (OpenSpec.ofChange fnTimesWrong)

/-- 'laws.FnSwap': WHATEVER THE INPUT: true; the input reads as it did. -/
def fnSwapSpec : ChangeSpec := { name := "fnSwap", fn := fun _ => fun
  | [d] => { results := [.lit (.bool true)], args := [d] }
  | _ => none }
def fnSwapRow : OpenClaim := { program := "ytpoabeniejmpkaa", sum := "5820ee57ff080d44d8c9e69dbbad778e61295b866f1fb13b6387c7fe2a4b326e", func := "loop.example/tableminors/laws.FnSwap", spec := "fnSwap", unfollowed := true, recurses := true, apart := false }
def FnSwapSaid : Prop := fnSwapRow.holds Try.pinned (OpenSpec.ofChange fnSwapSpec)

/-- ITS FALSE NEIGHBOUR: 'it returns false'. Refute it at one input. -/
def fnSwapWrong : ChangeSpec := { name := "fnSwap", fn := fun _ => fun
  | [d] => { results := [.lit (.bool false)], args := [d] }
  | _ => none }
def FnSwapWrongFalsely : Prop := fnSwapRow.holds Try.pinned (OpenSpec.ofChange fnSwapWrong)

/-- 'laws.FnExactTableTurn': WHATEVER THE INPUT: true; the input reads as it did. -/
def fnExactTableTurnSpec : ChangeSpec := { name := "fnExactTableTurn", fn := fun _ => fun
  | [d] => { results := [.lit (.bool true)], args := [d] }
  | _ => none }
def fnExactTableTurnRow : OpenClaim := { program := "ytpoabeniejmpkaa", sum := "5820ee57ff080d44d8c9e69dbbad778e61295b866f1fb13b6387c7fe2a4b326e", func := "loop.example/tableminors/laws.FnExactTableTurn", spec := "fnExactTableTurn", unfollowed := true, recurses := true, apart := false }
def FnExactTableTurnSaid : Prop := fnExactTableTurnRow.holds Try.pinned (OpenSpec.ofChange fnExactTableTurnSpec)

/-- ITS FALSE NEIGHBOUR: 'it returns false'. Refute it at one input. -/
def fnExactTableTurnWrong : ChangeSpec := { name := "fnExactTableTurn", fn := fun _ => fun
  | [d] => { results := [.lit (.bool false)], args := [d] }
  | _ => none }
def FnExactTableTurnWrongFalsely : Prop := fnExactTableTurnRow.holds Try.pinned (OpenSpec.ofChange fnExactTableTurnWrong)

/-- 'laws.FnExactTableUnit': WHATEVER THE INPUT: true; the input reads as it did. -/
def fnExactTableUnitSpec : ChangeSpec := { name := "fnExactTableUnit", fn := fun _ => fun
  | [d] => { results := [.lit (.bool true)], args := [d] }
  | _ => none }
def fnExactTableUnitRow : OpenClaim := { program := "ytpoabeniejmpkaa", sum := "5820ee57ff080d44d8c9e69dbbad778e61295b866f1fb13b6387c7fe2a4b326e", func := "loop.example/tableminors/laws.FnExactTableUnit", spec := "fnExactTableUnit", unfollowed := true, recurses := true, apart := false }
def FnExactTableUnitSaid : Prop := fnExactTableUnitRow.holds Try.pinned (OpenSpec.ofChange fnExactTableUnitSpec)

/-- ITS FALSE NEIGHBOUR: 'it returns false'. Refute it at one input. -/
def fnExactTableUnitWrong : ChangeSpec := { name := "fnExactTableUnit", fn := fun _ => fun
  | [d] => { results := [.lit (.bool false)], args := [d] }
  | _ => none }
def FnExactTableUnitWrongFalsely : Prop := fnExactTableUnitRow.holds Try.pinned (OpenSpec.ofChange fnExactTableUnitWrong)

/- THE SECOND FORM. 'bulk': how many values and letters a reading holds, each counted each time it is reached (what is shared counts as often as it is met; a slice's spare places count too). A statement '..UptoSaid' is the law's where the arguments, and the package variables that the reading takes, are together of bulk at most 1048576: NARROWER than '..Said'. Prove '..Said' where nothing that the law and all that it calls make is longer than what came in: it says more and counts as full. Else prove '..UptoSaid'. A law counts once. -/
mutual
def uptoBulk {H : Type} : DataW H → Nat
  | .lit (.string bytes) => bytes.length + 1
  | .lit _ => 1
  | .nil => 1
  | .ptr d => uptoBulk d + 1
  | .slice elems spare => uptoBulkAll elems + uptoBulkAll spare + 1
  | .agg parts => uptoBulkAll parts + 1
  | .iface _ d => uptoBulk d + 1
  | .map entries => uptoBulkEntries entries + 1
  | .held _ => 1
def uptoBulkAll {H : Type} : List (DataW H) → Nat
  | [] => 0
  | d :: r => uptoBulk d + uptoBulkAll r
def uptoBulkEntries {H : Type} : List (Lit × DataW H) → Nat
  | [] => 0
  | x :: r => uptoBulkEntry x + uptoBulkEntries r
def uptoBulkEntry {H : Type} : Lit × DataW H → Nat
  | (.string bytes, d) => bytes.length + uptoBulk d + 1
  | (_, d) => uptoBulk d + 1
 end
def uptoSmall : (H : Type) → List (DataW H) → Bool := fun _ ds => decide (uptoBulkAll ds ≤ 1048576)
def OpenSpec.upto (s : _root_.Go.ChangeSpec) : _root_.Go.OpenSpec := { _root_.Go.OpenSpec.ofChange s with cond := some uptoSmall }

/-- 'laws.FnSame', WHERE WHAT IT READS IS OF BULK AT MOST 1048576: true; the input reads as it did. -/
def fnSameUptoRow : OpenClaim := { program := "ytpoabeniejmpkaa", sum := "5820ee57ff080d44d8c9e69dbbad778e61295b866f1fb13b6387c7fe2a4b326e", func := "loop.example/tableminors/laws.FnSame", spec := "fnSame", unfollowed := true, recurses := true, apart := false, narrowed := true }
def FnSameUptoSaid : Prop := fnSameUptoRow.holds Try.pinned (OpenSpec.upto fnSameSpec)

/-- 'laws.FnRank', WHERE WHAT IT READS IS OF BULK AT MOST 1048576: true; the input reads as it did. -/
def fnRankUptoRow : OpenClaim := { program := "ytpoabeniejmpkaa", sum := "5820ee57ff080d44d8c9e69dbbad778e61295b866f1fb13b6387c7fe2a4b326e", func := "loop.example/tableminors/laws.FnRank", spec := "fnRank", unfollowed := true, recurses := true, apart := false, narrowed := true }
def FnRankUptoSaid : Prop := fnRankUptoRow.holds Try.pinned (OpenSpec.upto fnRankSpec)

/-- 'laws.FnRankMake', WHERE WHAT IT READS IS OF BULK AT MOST 1048576: true; the input reads as it did. -/
def fnRankMakeUptoRow : OpenClaim := { program := "ytpoabeniejmpkaa", sum := "5820ee57ff080d44d8c9e69dbbad778e61295b866f1fb13b6387c7fe2a4b326e", func := "loop.example/tableminors/laws.FnRankMake", spec := "fnRankMake", unfollowed := true, recurses := true, apart := false, narrowed := true }
def FnRankMakeUptoSaid : Prop := fnRankMakeUptoRow.holds Try.pinned (OpenSpec.upto fnRankMakeSpec)

/-- 'laws.FnValueBeside', WHERE WHAT IT READS IS OF BULK AT MOST 1048576: true; the input reads as it did. -/
def fnValueBesideUptoRow : OpenClaim := { program := "ytpoabeniejmpkaa", sum := "5820ee57ff080d44d8c9e69dbbad778e61295b866f1fb13b6387c7fe2a4b326e", func := "loop.example/tableminors/laws.FnValueBeside", spec := "fnValueBeside", unfollowed := true, recurses := true, apart := false, narrowed := true }
def FnValueBesideUptoSaid : Prop := fnValueBesideUptoRow.holds Try.pinned (OpenSpec.upto fnValueBesideSpec)

/-- 'laws.FnValueAdd', WHERE WHAT IT READS IS OF BULK AT MOST 1048576: true; the input reads as it did. -/
def fnValueAddUptoRow : OpenClaim := { program := "ytpoabeniejmpkaa", sum := "5820ee57ff080d44d8c9e69dbbad778e61295b866f1fb13b6387c7fe2a4b326e", func := "loop.example/tableminors/laws.FnValueAdd", spec := "fnValueAdd", unfollowed := true, recurses := true, apart := false, narrowed := true }
def FnValueAddUptoSaid : Prop := fnValueAddUptoRow.holds Try.pinned (OpenSpec.upto fnValueAddSpec)

/-- 'laws.FnTrace', WHERE WHAT IT READS IS OF BULK AT MOST 1048576: true; the input reads as it did. -/
def fnTraceUptoRow : OpenClaim := { program := "ytpoabeniejmpkaa", sum := "5820ee57ff080d44d8c9e69dbbad778e61295b866f1fb13b6387c7fe2a4b326e", func := "loop.example/tableminors/laws.FnTrace", spec := "fnTrace", unfollowed := true, recurses := true, apart := false, narrowed := true }
def FnTraceUptoSaid : Prop := fnTraceUptoRow.holds Try.pinned (OpenSpec.upto fnTraceSpec)

/-- 'laws.FnTraceMake', WHERE WHAT IT READS IS OF BULK AT MOST 1048576: true; the input reads as it did. -/
def fnTraceMakeUptoRow : OpenClaim := { program := "ytpoabeniejmpkaa", sum := "5820ee57ff080d44d8c9e69dbbad778e61295b866f1fb13b6387c7fe2a4b326e", func := "loop.example/tableminors/laws.FnTraceMake", spec := "fnTraceMake", unfollowed := true, recurses := true, apart := false, narrowed := true }
def FnTraceMakeUptoSaid : Prop := fnTraceMakeUptoRow.holds Try.pinned (OpenSpec.upto fnTraceMakeSpec)

/-- 'laws.FnSum', WHERE WHAT IT READS IS OF BULK AT MOST 1048576: true; the input reads as it did. -/
def fnSumUptoRow : OpenClaim := { program := "ytpoabeniejmpkaa", sum := "5820ee57ff080d44d8c9e69dbbad778e61295b866f1fb13b6387c7fe2a4b326e", func := "loop.example/tableminors/laws.FnSum", spec := "fnSum", unfollowed := true, recurses := true, apart := false, narrowed := true }
def FnSumUptoSaid : Prop := fnSumUptoRow.holds Try.pinned (OpenSpec.upto fnSumSpec)

/-- 'laws.FnTimes', WHERE WHAT IT READS IS OF BULK AT MOST 1048576: true; the input reads as it did. -/
def fnTimesUptoRow : OpenClaim := { program := "ytpoabeniejmpkaa", sum := "5820ee57ff080d44d8c9e69dbbad778e61295b866f1fb13b6387c7fe2a4b326e", func := "loop.example/tableminors/laws.FnTimes", spec := "fnTimes", unfollowed := true, recurses := true, apart := false, narrowed := true }
def FnTimesUptoSaid : Prop := fnTimesUptoRow.holds Try.pinned (OpenSpec.upto fnTimesSpec)

/-- 'laws.FnSwap', WHERE WHAT IT READS IS OF BULK AT MOST 1048576: true; the input reads as it did. -/
def fnSwapUptoRow : OpenClaim := { program := "ytpoabeniejmpkaa", sum := "5820ee57ff080d44d8c9e69dbbad778e61295b866f1fb13b6387c7fe2a4b326e", func := "loop.example/tableminors/laws.FnSwap", spec := "fnSwap", unfollowed := true, recurses := true, apart := false, narrowed := true }
def FnSwapUptoSaid : Prop := fnSwapUptoRow.holds Try.pinned (OpenSpec.upto fnSwapSpec)

/-- 'laws.FnExactTableTurn', WHERE WHAT IT READS IS OF BULK AT MOST 1048576: true; the input reads as it did. -/
def fnExactTableTurnUptoRow : OpenClaim := { program := "ytpoabeniejmpkaa", sum := "5820ee57ff080d44d8c9e69dbbad778e61295b866f1fb13b6387c7fe2a4b326e", func := "loop.example/tableminors/laws.FnExactTableTurn", spec := "fnExactTableTurn", unfollowed := true, recurses := true, apart := false, narrowed := true }
def FnExactTableTurnUptoSaid : Prop := fnExactTableTurnUptoRow.holds Try.pinned (OpenSpec.upto fnExactTableTurnSpec)

/-- 'laws.FnExactTableUnit', WHERE WHAT IT READS IS OF BULK AT MOST 1048576: true; the input reads as it did. -/
def fnExactTableUnitUptoRow : OpenClaim := { program := "ytpoabeniejmpkaa", sum := "5820ee57ff080d44d8c9e69dbbad778e61295b866f1fb13b6387c7fe2a4b326e", func := "loop.example/tableminors/laws.FnExactTableUnit", spec := "fnExactTableUnit", unfollowed := true, recurses := true, apart := false, narrowed := true }
def FnExactTableUnitUptoSaid : Prop := fnExactTableUnitUptoRow.holds Try.pinned (OpenSpec.upto fnExactTableUnitSpec)

end Rows
end Go.Proofs.Ytpoabeniejmpkaa
