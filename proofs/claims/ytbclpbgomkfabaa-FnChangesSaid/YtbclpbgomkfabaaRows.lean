/-
  No cell of these rows narrows 'for every input' (looked for: loops, veiled, ifaces, maps, wideKeys, modest, calm, conditions, laid).
  DERIVED. THE GIVEN ROWS OF THIS SEAT. 9 by the template 'for every input the law returns true; each argument reads behind the call as it read before'; 0 by the template 'total and deterministic' (their statements: YtbclpbgomkfabaaTotals.lean).
  GIVEN WITH THE SEED: the statements are not yours to turn. If you find one false, say at which input.
  Laid BY PROGRAM, IN A SANDBOX (cutbox-rows.mjs): the forced cells as the released guide's own fill.sh prints them over the translation 90337e3c5e417475… (all of the seat's roots in one cut). By AI agents, Wed Nov 11 2026. No macro, syntax, notation, axiom, sorry.
-/
import Derived.Test.YtbclpbgomkfabaaChecked
import GoSem.Claim
import GoSem.ClaimJoined
import GoSem.ClaimMapViews
import Derived.JoinedTies
import Derived.KernelRfl
namespace Go.Proofs.Ytbclpbgomkfabaa
/- THE CELL 'sum', in the pinned program and in every row, IS THE sha256 OF THE DUMP (.gsa) THAT YtbclpbgomkfabaaProg.lean LOADS. Nothing in Lean hashes anything: it is a label: what it is worth is what the hold of that sum in a sandbox is worth. -/
noncomputable def Try.pinned : Pinned := { name := "ytbclpbgomkfabaa", sum := "90337e3c5e417475d2bfaac520addba76ecf4cb2bbebd8716455bf7cd6dafdde", checked := Try.checked }
namespace Rows
def none {H : Type} : Left H := { results := [], args := [] }

/-- 'laws.FnPaths': WHATEVER THE INPUT: true; the input reads as it did. -/
def fnPathsSpec : ChangeSpec := { name := "fnPaths", fn := fun _ => fun
  | [d] => { results := [.lit (.bool true)], args := [d] }
  | _ => none }
def fnPathsRow : OpenClaim := { program := "ytbclpbgomkfabaa", sum := "90337e3c5e417475d2bfaac520addba76ecf4cb2bbebd8716455bf7cd6dafdde", func := "loop.example/tableminors/laws.FnPaths", spec := "fnPaths", unfollowed := true, recurses := true, apart := false }
def FnPathsSaid : Prop := fnPathsRow.holds Try.pinned (OpenSpec.ofChange fnPathsSpec)

/-- ITS FALSE NEIGHBOUR: 'it returns false'. Refute it at one input. -/
def fnPathsWrong : ChangeSpec := { name := "fnPaths", fn := fun _ => fun
  | [d] => { results := [.lit (.bool false)], args := [d] }
  | _ => none }
def FnPathsWrongFalsely : Prop := fnPathsRow.holds Try.pinned (OpenSpec.ofChange fnPathsWrong)

/-- 'laws.FnFamilies': WHATEVER THE INPUT: true; the input reads as it did. -/
def fnFamiliesSpec : ChangeSpec := { name := "fnFamilies", fn := fun _ => fun
  | [d] => { results := [.lit (.bool true)], args := [d] }
  | _ => none }
def fnFamiliesRow : OpenClaim := { program := "ytbclpbgomkfabaa", sum := "90337e3c5e417475d2bfaac520addba76ecf4cb2bbebd8716455bf7cd6dafdde", func := "loop.example/tableminors/laws.FnFamilies", spec := "fnFamilies", unfollowed := true, recurses := true, apart := false }
def FnFamiliesSaid : Prop := fnFamiliesRow.holds Try.pinned (OpenSpec.ofChange fnFamiliesSpec)

/-- ITS FALSE NEIGHBOUR: 'it returns false'. Refute it at one input. -/
def fnFamiliesWrong : ChangeSpec := { name := "fnFamilies", fn := fun _ => fun
  | [d] => { results := [.lit (.bool false)], args := [d] }
  | _ => none }
def FnFamiliesWrongFalsely : Prop := fnFamiliesRow.holds Try.pinned (OpenSpec.ofChange fnFamiliesWrong)

/-- 'laws.FnFamiliesSign': WHATEVER THE INPUT: true; the input reads as it did. -/
def fnFamiliesSignSpec : ChangeSpec := { name := "fnFamiliesSign", fn := fun _ => fun
  | [d] => { results := [.lit (.bool true)], args := [d] }
  | _ => none }
def fnFamiliesSignRow : OpenClaim := { program := "ytbclpbgomkfabaa", sum := "90337e3c5e417475d2bfaac520addba76ecf4cb2bbebd8716455bf7cd6dafdde", func := "loop.example/tableminors/laws.FnFamiliesSign", spec := "fnFamiliesSign", unfollowed := true, recurses := true, apart := false }
def FnFamiliesSignSaid : Prop := fnFamiliesSignRow.holds Try.pinned (OpenSpec.ofChange fnFamiliesSignSpec)

/-- ITS FALSE NEIGHBOUR: 'it returns false'. Refute it at one input. -/
def fnFamiliesSignWrong : ChangeSpec := { name := "fnFamiliesSign", fn := fun _ => fun
  | [d] => { results := [.lit (.bool false)], args := [d] }
  | _ => none }
def FnFamiliesSignWrongFalsely : Prop := fnFamiliesSignRow.holds Try.pinned (OpenSpec.ofChange fnFamiliesSignWrong)

/-- 'laws.FnNetMost': WHATEVER THE INPUT: true; the input reads as it did. -/
def fnNetMostSpec : ChangeSpec := { name := "fnNetMost", fn := fun _ => fun
  | [d] => { results := [.lit (.bool true)], args := [d] }
  | _ => none }
def fnNetMostRow : OpenClaim := { program := "ytbclpbgomkfabaa", sum := "90337e3c5e417475d2bfaac520addba76ecf4cb2bbebd8716455bf7cd6dafdde", func := "loop.example/tableminors/laws.FnNetMost", spec := "fnNetMost", unfollowed := true, recurses := true, apart := false }
def FnNetMostSaid : Prop := fnNetMostRow.holds Try.pinned (OpenSpec.ofChange fnNetMostSpec)

/-- ITS FALSE NEIGHBOUR: 'it returns false'. Refute it at one input. -/
def fnNetMostWrong : ChangeSpec := { name := "fnNetMost", fn := fun _ => fun
  | [d] => { results := [.lit (.bool false)], args := [d] }
  | _ => none }
def FnNetMostWrongFalsely : Prop := fnNetMostRow.holds Try.pinned (OpenSpec.ofChange fnNetMostWrong)

/-- 'laws.FnFirstCount': WHATEVER THE INPUT: true; the input reads as it did. -/
def fnFirstCountSpec : ChangeSpec := { name := "fnFirstCount", fn := fun _ => fun
  | [d] => { results := [.lit (.bool true)], args := [d] }
  | _ => none }
def fnFirstCountRow : OpenClaim := { program := "ytbclpbgomkfabaa", sum := "90337e3c5e417475d2bfaac520addba76ecf4cb2bbebd8716455bf7cd6dafdde", func := "loop.example/tableminors/laws.FnFirstCount", spec := "fnFirstCount", unfollowed := true, recurses := true, apart := false }
def FnFirstCountSaid : Prop := fnFirstCountRow.holds Try.pinned (OpenSpec.ofChange fnFirstCountSpec)

/-- ITS FALSE NEIGHBOUR: 'it returns false'. Refute it at one input. -/
def fnFirstCountWrong : ChangeSpec := { name := "fnFirstCount", fn := fun _ => fun
  | [d] => { results := [.lit (.bool false)], args := [d] }
  | _ => none }
def FnFirstCountWrongFalsely : Prop := fnFirstCountRow.holds Try.pinned (OpenSpec.ofChange fnFirstCountWrong)

/-- 'laws.FnChanges': WHATEVER THE INPUT: true; the input reads as it did. -/
def fnChangesSpec : ChangeSpec := { name := "fnChanges", fn := fun _ => fun
  | [d] => { results := [.lit (.bool true)], args := [d] }
  | _ => none }
def fnChangesRow : OpenClaim := { program := "ytbclpbgomkfabaa", sum := "90337e3c5e417475d2bfaac520addba76ecf4cb2bbebd8716455bf7cd6dafdde", func := "loop.example/tableminors/laws.FnChanges", spec := "fnChanges", apart := false }
def FnChangesSaid : Prop := fnChangesRow.holds Try.pinned (OpenSpec.ofChange fnChangesSpec)

/-- ITS FALSE NEIGHBOUR: 'it returns false'. Refute it at one input. -/
def fnChangesWrong : ChangeSpec := { name := "fnChanges", fn := fun _ => fun
  | [d] => { results := [.lit (.bool false)], args := [d] }
  | _ => none }
def FnChangesWrongFalsely : Prop := fnChangesRow.holds Try.pinned (OpenSpec.ofChange fnChangesWrong)

/-- 'laws.FnNetLasting': WHATEVER THE INPUT: true; the input reads as it did. -/
def fnNetLastingSpec : ChangeSpec := { name := "fnNetLasting", fn := fun _ => fun
  | [d] => { results := [.lit (.bool true)], args := [d] }
  | _ => none }
def fnNetLastingRow : OpenClaim := { program := "ytbclpbgomkfabaa", sum := "90337e3c5e417475d2bfaac520addba76ecf4cb2bbebd8716455bf7cd6dafdde", func := "loop.example/tableminors/laws.FnNetLasting", spec := "fnNetLasting", unfollowed := true, recurses := true, apart := false }
def FnNetLastingSaid : Prop := fnNetLastingRow.holds Try.pinned (OpenSpec.ofChange fnNetLastingSpec)

/-- ITS FALSE NEIGHBOUR: 'it returns false'. Refute it at one input. -/
def fnNetLastingWrong : ChangeSpec := { name := "fnNetLasting", fn := fun _ => fun
  | [d] => { results := [.lit (.bool false)], args := [d] }
  | _ => none }
def FnNetLastingWrongFalsely : Prop := fnNetLastingRow.holds Try.pinned (OpenSpec.ofChange fnNetLastingWrong)

/-- 'laws.FnExactTableTurn': WHATEVER THE INPUT: true; the input reads as it did. -/
def fnExactTableTurnSpec : ChangeSpec := { name := "fnExactTableTurn", fn := fun _ => fun
  | [d] => { results := [.lit (.bool true)], args := [d] }
  | _ => none }
def fnExactTableTurnRow : OpenClaim := { program := "ytbclpbgomkfabaa", sum := "90337e3c5e417475d2bfaac520addba76ecf4cb2bbebd8716455bf7cd6dafdde", func := "loop.example/tableminors/laws.FnExactTableTurn", spec := "fnExactTableTurn", unfollowed := true, recurses := true, apart := false }
def FnExactTableTurnSaid : Prop := fnExactTableTurnRow.holds Try.pinned (OpenSpec.ofChange fnExactTableTurnSpec)

/-- ITS FALSE NEIGHBOUR: 'it returns false'. Refute it at one input. -/
def fnExactTableTurnWrong : ChangeSpec := { name := "fnExactTableTurn", fn := fun _ => fun
  | [d] => { results := [.lit (.bool false)], args := [d] }
  | _ => none }
def FnExactTableTurnWrongFalsely : Prop := fnExactTableTurnRow.holds Try.pinned (OpenSpec.ofChange fnExactTableTurnWrong)

/-- 'laws.FnExactTableUnit': WHATEVER THE INPUT: true; the input reads as it did. -/
def fnExactTableUnitSpec : ChangeSpec := { name := "fnExactTableUnit", fn := fun _ => fun
  | [d] => { results := [.lit (.bool true)], args := [d] }
  | _ => none }
def fnExactTableUnitRow : OpenClaim := { program := "ytbclpbgomkfabaa", sum := "90337e3c5e417475d2bfaac520addba76ecf4cb2bbebd8716455bf7cd6dafdde", func := "loop.example/tableminors/laws.FnExactTableUnit", spec := "fnExactTableUnit", unfollowed := true, recurses := true, apart := false }
def FnExactTableUnitSaid : Prop := fnExactTableUnitRow.holds Try.pinned (OpenSpec.ofChange fnExactTableUnitSpec)

/-- ITS FALSE NEIGHBOUR: 'it returns false'. Refute it at one input. -/
def fnExactTableUnitWrong : ChangeSpec := { name := "fnExactTableUnit", fn := fun _ => fun
  | [d] => { results := [.lit (.bool false)], args := [d] }
  | _ => none }
def FnExactTableUnitWrongFalsely : Prop := fnExactTableUnitRow.holds Try.pinned (OpenSpec.ofChange fnExactTableUnitWrong)

/- THE SECOND FORM. 'bulk': how many values and letters a reading holds, each counted each time it is reached (what is shared counts as often as it is met; a slice's spare places count too). A statement '..UptoSaid' is the law's where the arguments, and the package variables that the reading takes, are together of bulk at most 1048576: NARROWER than '..Said'. Prove '..Said' where nothing that the law and all that it calls make is longer than what came in: it says more and counts as full. Else prove '..UptoSaid'. A law counts once. -/
mutual
def uptoBulk {H : Type} : DataW H → Nat
  | .lit (.string bytes) => bytes.length + 1
  | .lit _ => 1
  | .nil => 1
  | .ptr d => uptoBulk d + 1
  | .slice elems spare => uptoBulkAll elems + uptoBulkAll spare + 1
  | .agg parts => uptoBulkAll parts + 1
  | .iface _ d => uptoBulk d + 1
  | .map entries => uptoBulkEntries entries + 1
  | .held _ => 1
def uptoBulkAll {H : Type} : List (DataW H) → Nat
  | [] => 0
  | d :: r => uptoBulk d + uptoBulkAll r
def uptoBulkEntries {H : Type} : List (Lit × DataW H) → Nat
  | [] => 0
  | x :: r => uptoBulkEntry x + uptoBulkEntries r
def uptoBulkEntry {H : Type} : Lit × DataW H → Nat
  | (.string bytes, d) => bytes.length + uptoBulk d + 1
  | (_, d) => uptoBulk d + 1
 end
def uptoSmall : (H : Type) → List (DataW H) → Bool := fun _ ds => decide (uptoBulkAll ds ≤ 1048576)
def OpenSpec.upto (s : _root_.Go.ChangeSpec) : _root_.Go.OpenSpec := { _root_.Go.OpenSpec.ofChange s with cond := some uptoSmall }

/-- 'laws.FnPaths', WHERE WHAT IT READS IS OF BULK AT MOST 1048576: true; the input reads as it did. -/
def fnPathsUptoRow : OpenClaim := { program := "ytbclpbgomkfabaa", sum := "90337e3c5e417475d2bfaac520addba76ecf4cb2bbebd8716455bf7cd6dafdde", func := "loop.example/tableminors/laws.FnPaths", spec := "fnPaths", unfollowed := true, recurses := true, apart := false, narrowed := true }
def FnPathsUptoSaid : Prop := fnPathsUptoRow.holds Try.pinned (OpenSpec.upto fnPathsSpec)

/-- 'laws.FnFamilies', WHERE WHAT IT READS IS OF BULK AT MOST 1048576: true; the input reads as it did. -/
def fnFamiliesUptoRow : OpenClaim := { program := "ytbclpbgomkfabaa", sum := "90337e3c5e417475d2bfaac520addba76ecf4cb2bbebd8716455bf7cd6dafdde", func := "loop.example/tableminors/laws.FnFamilies", spec := "fnFamilies", unfollowed := true, recurses := true, apart := false, narrowed := true }
def FnFamiliesUptoSaid : Prop := fnFamiliesUptoRow.holds Try.pinned (OpenSpec.upto fnFamiliesSpec)

/-- 'laws.FnFamiliesSign', WHERE WHAT IT READS IS OF BULK AT MOST 1048576: true; the input reads as it did. -/
def fnFamiliesSignUptoRow : OpenClaim := { program := "ytbclpbgomkfabaa", sum := "90337e3c5e417475d2bfaac520addba76ecf4cb2bbebd8716455bf7cd6dafdde", func := "loop.example/tableminors/laws.FnFamiliesSign", spec := "fnFamiliesSign", unfollowed := true, recurses := true, apart := false, narrowed := true }
def FnFamiliesSignUptoSaid : Prop := fnFamiliesSignUptoRow.holds Try.pinned (OpenSpec.upto fnFamiliesSignSpec)

/-- 'laws.FnNetMost', WHERE WHAT IT READS IS OF BULK AT MOST 1048576: true; the input reads as it did. -/
def fnNetMostUptoRow : OpenClaim := { program := "ytbclpbgomkfabaa", sum := "90337e3c5e417475d2bfaac520addba76ecf4cb2bbebd8716455bf7cd6dafdde", func := "loop.example/tableminors/laws.FnNetMost", spec := "fnNetMost", unfollowed := true, recurses := true, apart := false, narrowed := true }
def FnNetMostUptoSaid : Prop := fnNetMostUptoRow.holds Try.pinned (OpenSpec.upto fnNetMostSpec)

/-- 'laws.FnFirstCount', WHERE WHAT IT READS IS OF BULK AT MOST 1048576: true; the input reads as it did. -/
def fnFirstCountUptoRow : OpenClaim := { program := "ytbclpbgomkfabaa", sum := "90337e3c5e417475d2bfaac520addba76ecf4cb2bbebd8716455bf7cd6dafdde", func := "loop.example/tableminors/laws.FnFirstCount", spec := "fnFirstCount", unfollowed := true, recurses := true, apart := false, narrowed := true }
def FnFirstCountUptoSaid : Prop := fnFirstCountUptoRow.holds Try.pinned (OpenSpec.upto fnFirstCountSpec)

/-- 'laws.FnChanges', WHERE WHAT IT READS IS OF BULK AT MOST 1048576: true; the input reads as it did. -/
def fnChangesUptoRow : OpenClaim := { program := "ytbclpbgomkfabaa", sum := "90337e3c5e417475d2bfaac520addba76ecf4cb2bbebd8716455bf7cd6dafdde", func := "loop.example/tableminors/laws.FnChanges", spec := "fnChanges", apart := false, narrowed := true }
def FnChangesUptoSaid : Prop := fnChangesUptoRow.holds Try.pinned (OpenSpec.upto fnChangesSpec)

/-- 'laws.FnNetLasting', WHERE WHAT IT READS IS OF BULK AT MOST 1048576: true; the input reads as it did. -/
def fnNetLastingUptoRow : OpenClaim := { program := "ytbclpbgomkfabaa", sum := "90337e3c5e417475d2bfaac520addba76ecf4cb2bbebd8716455bf7cd6dafdde", func := "loop.example/tableminors/laws.FnNetLasting", spec := "fnNetLasting", unfollowed := true, recurses := true, apart := false, narrowed := true }
def FnNetLastingUptoSaid : Prop := fnNetLastingUptoRow.holds Try.pinned (OpenSpec.upto fnNetLastingSpec)

/-- 'laws.FnExactTableTurn', WHERE WHAT IT READS IS OF BULK AT MOST 1048576: true; the input reads as it did. -/
def fnExactTableTurnUptoRow : OpenClaim := { program := "ytbclpbgomkfabaa", sum := "90337e3c5e417475d2bfaac520addba76ecf4cb2bbebd8716455bf7cd6dafdde", func := "loop.example/tableminors/laws.FnExactTableTurn", spec := "fnExactTableTurn", unfollowed := true, recurses := true, apart := false, narrowed := true }
def FnExactTableTurnUptoSaid : Prop := fnExactTableTurnUptoRow.holds Try.pinned (OpenSpec.upto fnExactTableTurnSpec)

/-- 'laws.FnExactTableUnit', WHERE WHAT IT READS IS OF BULK AT MOST 1048576: true; the input reads as it did. -/
def fnExactTableUnitUptoRow : OpenClaim := { program := "ytbclpbgomkfabaa", sum := "90337e3c5e417475d2bfaac520addba76ecf4cb2bbebd8716455bf7cd6dafdde", func := "loop.example/tableminors/laws.FnExactTableUnit", spec := "fnExactTableUnit", unfollowed := true, recurses := true, apart := false, narrowed := true }
def FnExactTableUnitUptoSaid : Prop := fnExactTableUnitUptoRow.holds Try.pinned (OpenSpec.upto fnExactTableUnitSpec)

end Rows
end Go.Proofs.Ytbclpbgomkfabaa
