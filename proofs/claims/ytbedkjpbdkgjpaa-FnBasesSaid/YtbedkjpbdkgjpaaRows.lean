/-
  No cell of these rows narrows 'for every input' (looked for: loops, veiled, ifaces, maps, wideKeys, modest, calm, conditions, laid).
  DERIVED. THE GIVEN ROWS OF THIS SEAT. 12 by the template 'for every input the law returns true; each argument reads behind the call as it read before'; 0 by the template 'total and deterministic' (their statements: YtbedkjpbdkgjpaaTotals.lean).
  GIVEN WITH THE SEED: the statements are not yours to turn. If you find one false, say at which input.
  Laid BY PROGRAM, IN A SANDBOX (cutbox-rows.mjs): the forced cells as the released guide's own fill.sh prints them over the translation a835277f135a0a82… (all of the seat's roots in one cut). By AI agents, Wed Nov 11 2026. No macro, syntax, notation, axiom, sorry.
-/
import Derived.Test.YtbedkjpbdkgjpaaChecked
import GoSem.Claim
import GoSem.ClaimJoined
import GoSem.ClaimMapViews
import Derived.JoinedTies
import Derived.KernelRfl
namespace Go.Proofs.Ytbedkjpbdkgjpaa
/- THE CELL 'sum', in the pinned program and in every row, IS THE sha256 OF THE DUMP (.gsa) THAT YtbedkjpbdkgjpaaProg.lean LOADS. Nothing in Lean hashes anything: it is a label: what it is worth is what the hold of that sum in a sandbox is worth. -/
noncomputable def Try.pinned : Pinned := { name := "ytbedkjpbdkgjpaa", sum := "a835277f135a0a82a2c76ec6ac4f21dc9553371d1f5384d87f9288be26393beb", checked := Try.checked }
namespace Rows
def none {H : Type} : Left H := { results := [], args := [] }

/-- 'laws.FnExactPlaceIn': WHATEVER THE INPUT: true; the input reads as it did. -/
def fnExactPlaceInSpec : ChangeSpec := { name := "fnExactPlaceIn", fn := fun _ => fun
  | [d1, d2, d3] => { results := [.lit (.bool true)], args := [d1, d2, d3] }
  | _ => none }
def fnExactPlaceInRow : OpenClaim := { program := "ytbedkjpbdkgjpaa", sum := "a835277f135a0a82a2c76ec6ac4f21dc9553371d1f5384d87f9288be26393beb", func := "loop.example/tableminors/laws.FnExactPlaceIn", spec := "fnExactPlaceIn", unfollowed := true, recurses := true, apart := false }
def FnExactPlaceInSaid : Prop := fnExactPlaceInRow.holds Try.pinned (OpenSpec.ofChange fnExactPlaceInSpec)

/-- ITS FALSE NEIGHBOUR: 'it returns false'. Refute it at one input. -/
def fnExactPlaceInWrong : ChangeSpec := { name := "fnExactPlaceIn", fn := fun _ => fun
  | [d1, d2, d3] => { results := [.lit (.bool false)], args := [d1, d2, d3] }
  | _ => none }
def FnExactPlaceInWrongFalsely : Prop := fnExactPlaceInRow.holds Try.pinned (OpenSpec.ofChange fnExactPlaceInWrong)

/-- 'laws.FnExactPlaceRelated': WHATEVER THE INPUT: true; the input reads as it did. -/
def fnExactPlaceRelatedSpec : ChangeSpec := { name := "fnExactPlaceRelated", fn := fun _ => fun
  | [d1, d2, d3] => { results := [.lit (.bool true)], args := [d1, d2, d3] }
  | _ => none }
def fnExactPlaceRelatedRow : OpenClaim := { program := "ytbedkjpbdkgjpaa", sum := "a835277f135a0a82a2c76ec6ac4f21dc9553371d1f5384d87f9288be26393beb", func := "loop.example/tableminors/laws.FnExactPlaceRelated", spec := "fnExactPlaceRelated", unfollowed := true, recurses := true, apart := false }
def FnExactPlaceRelatedSaid : Prop := fnExactPlaceRelatedRow.holds Try.pinned (OpenSpec.ofChange fnExactPlaceRelatedSpec)

/-- ITS FALSE NEIGHBOUR: 'it returns false'. Refute it at one input. -/
def fnExactPlaceRelatedWrong : ChangeSpec := { name := "fnExactPlaceRelated", fn := fun _ => fun
  | [d1, d2, d3] => { results := [.lit (.bool false)], args := [d1, d2, d3] }
  | _ => none }
def FnExactPlaceRelatedWrongFalsely : Prop := fnExactPlaceRelatedRow.holds Try.pinned (OpenSpec.ofChange fnExactPlaceRelatedWrong)

/-- 'laws.FnExactPlaceOther': WHATEVER THE INPUT: true; the input reads as it did. -/
def fnExactPlaceOtherSpec : ChangeSpec := { name := "fnExactPlaceOther", fn := fun _ => fun
  | [d1, d2, d3] => { results := [.lit (.bool true)], args := [d1, d2, d3] }
  | _ => none }
def fnExactPlaceOtherRow : OpenClaim := { program := "ytbedkjpbdkgjpaa", sum := "a835277f135a0a82a2c76ec6ac4f21dc9553371d1f5384d87f9288be26393beb", func := "loop.example/tableminors/laws.FnExactPlaceOther", spec := "fnExactPlaceOther", unfollowed := true, recurses := true, apart := false }
def FnExactPlaceOtherSaid : Prop := fnExactPlaceOtherRow.holds Try.pinned (OpenSpec.ofChange fnExactPlaceOtherSpec)

/-- ITS FALSE NEIGHBOUR: 'it returns false'. Refute it at one input. -/
def fnExactPlaceOtherWrong : ChangeSpec := { name := "fnExactPlaceOther", fn := fun _ => fun
  | [d1, d2, d3] => { results := [.lit (.bool false)], args := [d1, d2, d3] }
  | _ => none }
def FnExactPlaceOtherWrongFalsely : Prop := fnExactPlaceOtherRow.holds Try.pinned (OpenSpec.ofChange fnExactPlaceOtherWrong)

/-- 'laws.FnExactPlaceSame': WHATEVER THE INPUT: true; the input reads as it did. -/
def fnExactPlaceSameSpec : ChangeSpec := { name := "fnExactPlaceSame", fn := fun _ => fun
  | [d1, d2, d3, d4] => { results := [.lit (.bool true)], args := [d1, d2, d3, d4] }
  | _ => none }
def fnExactPlaceSameRow : OpenClaim := { program := "ytbedkjpbdkgjpaa", sum := "a835277f135a0a82a2c76ec6ac4f21dc9553371d1f5384d87f9288be26393beb", func := "loop.example/tableminors/laws.FnExactPlaceSame", spec := "fnExactPlaceSame", unfollowed := true, recurses := true, apart := false }
def FnExactPlaceSameSaid : Prop := fnExactPlaceSameRow.holds Try.pinned (OpenSpec.ofChange fnExactPlaceSameSpec)

/-- ITS FALSE NEIGHBOUR: 'it returns false'. Refute it at one input. -/
def fnExactPlaceSameWrong : ChangeSpec := { name := "fnExactPlaceSame", fn := fun _ => fun
  | [d1, d2, d3, d4] => { results := [.lit (.bool false)], args := [d1, d2, d3, d4] }
  | _ => none }
def FnExactPlaceSameWrongFalsely : Prop := fnExactPlaceSameRow.holds Try.pinned (OpenSpec.ofChange fnExactPlaceSameWrong)

/-- 'laws.FnExactPlaceBases': WHATEVER THE INPUT: true; the input reads as it did. -/
def fnExactPlaceBasesSpec : ChangeSpec := { name := "fnExactPlaceBases", fn := fun _ => fun
  | [d1, d2, d3] => { results := [.lit (.bool true)], args := [d1, d2, d3] }
  | _ => none }
def fnExactPlaceBasesRow : OpenClaim := { program := "ytbedkjpbdkgjpaa", sum := "a835277f135a0a82a2c76ec6ac4f21dc9553371d1f5384d87f9288be26393beb", func := "loop.example/tableminors/laws.FnExactPlaceBases", spec := "fnExactPlaceBases", unfollowed := true, recurses := true, apart := false }
def FnExactPlaceBasesSaid : Prop := fnExactPlaceBasesRow.holds Try.pinned (OpenSpec.ofChange fnExactPlaceBasesSpec)

/-- ITS FALSE NEIGHBOUR: 'it returns false'. Refute it at one input. -/
def fnExactPlaceBasesWrong : ChangeSpec := { name := "fnExactPlaceBases", fn := fun _ => fun
  | [d1, d2, d3] => { results := [.lit (.bool false)], args := [d1, d2, d3] }
  | _ => none }
def FnExactPlaceBasesWrongFalsely : Prop := fnExactPlaceBasesRow.holds Try.pinned (OpenSpec.ofChange fnExactPlaceBasesWrong)

/-- 'laws.FnPlace': WHATEVER THE INPUT: true; the input reads as it did. -/
def fnPlaceSpec : ChangeSpec := { name := "fnPlace", fn := fun _ => fun
  | [d] => { results := [.lit (.bool true)], args := [d] }
  | _ => none }
def fnPlaceRow : OpenClaim := { program := "ytbedkjpbdkgjpaa", sum := "a835277f135a0a82a2c76ec6ac4f21dc9553371d1f5384d87f9288be26393beb", func := "loop.example/tableminors/laws.FnPlace", spec := "fnPlace", unfollowed := true, recurses := true, apart := false }
def FnPlaceSaid : Prop := fnPlaceRow.holds Try.pinned (OpenSpec.ofChange fnPlaceSpec)

/-- ITS FALSE NEIGHBOUR: 'it returns false'. Refute it at one input. -/
def fnPlaceWrong : ChangeSpec := { name := "fnPlace", fn := fun _ => fun
  | [d] => { results := [.lit (.bool false)], args := [d] }
  | _ => none }
def FnPlaceWrongFalsely : Prop := fnPlaceRow.holds Try.pinned (OpenSpec.ofChange fnPlaceWrong)

/-- 'laws.FnRelated': WHATEVER THE INPUT: true; the input reads as it did. -/
def fnRelatedSpec : ChangeSpec := { name := "fnRelated", fn := fun _ => fun
  | [d] => { results := [.lit (.bool true)], args := [d] }
  | _ => none }
def fnRelatedRow : OpenClaim := { program := "ytbedkjpbdkgjpaa", sum := "a835277f135a0a82a2c76ec6ac4f21dc9553371d1f5384d87f9288be26393beb", func := "loop.example/tableminors/laws.FnRelated", spec := "fnRelated", unfollowed := true, recurses := true, apart := false }
def FnRelatedSaid : Prop := fnRelatedRow.holds Try.pinned (OpenSpec.ofChange fnRelatedSpec)

/-- ITS FALSE NEIGHBOUR: 'it returns false'. Refute it at one input. -/
def fnRelatedWrong : ChangeSpec := { name := "fnRelated", fn := fun _ => fun
  | [d] => { results := [.lit (.bool false)], args := [d] }
  | _ => none }
def FnRelatedWrongFalsely : Prop := fnRelatedRow.holds Try.pinned (OpenSpec.ofChange fnRelatedWrong)

/-- 'laws.FnPlaceOther': WHATEVER THE INPUT: true; the input reads as it did. -/
def fnPlaceOtherSpec : ChangeSpec := { name := "fnPlaceOther", fn := fun _ => fun
  | [d] => { results := [.lit (.bool true)], args := [d] }
  | _ => none }
def fnPlaceOtherRow : OpenClaim := { program := "ytbedkjpbdkgjpaa", sum := "a835277f135a0a82a2c76ec6ac4f21dc9553371d1f5384d87f9288be26393beb", func := "loop.example/tableminors/laws.FnPlaceOther", spec := "fnPlaceOther", unfollowed := true, recurses := true, apart := false }
def FnPlaceOtherSaid : Prop := fnPlaceOtherRow.holds Try.pinned (OpenSpec.ofChange fnPlaceOtherSpec)

/-- ITS FALSE NEIGHBOUR: 'it returns false'. Refute it at one input. -/
def fnPlaceOtherWrong : ChangeSpec := { name := "fnPlaceOther", fn := fun _ => fun
  | [d] => { results := [.lit (.bool false)], args := [d] }
  | _ => none }
def FnPlaceOtherWrongFalsely : Prop := fnPlaceOtherRow.holds Try.pinned (OpenSpec.ofChange fnPlaceOtherWrong)

/-- 'laws.FnPlaceSame': WHATEVER THE INPUT: true; the input reads as it did. -/
def fnPlaceSameSpec : ChangeSpec := { name := "fnPlaceSame", fn := fun _ => fun
  | [d] => { results := [.lit (.bool true)], args := [d] }
  | _ => none }
def fnPlaceSameRow : OpenClaim := { program := "ytbedkjpbdkgjpaa", sum := "a835277f135a0a82a2c76ec6ac4f21dc9553371d1f5384d87f9288be26393beb", func := "loop.example/tableminors/laws.FnPlaceSame", spec := "fnPlaceSame", unfollowed := true, recurses := true, apart := false }
def FnPlaceSameSaid : Prop := fnPlaceSameRow.holds Try.pinned (OpenSpec.ofChange fnPlaceSameSpec)

/-- ITS FALSE NEIGHBOUR: 'it returns false'. Refute it at one input. -/
def fnPlaceSameWrong : ChangeSpec := { name := "fnPlaceSame", fn := fun _ => fun
  | [d] => { results := [.lit (.bool false)], args := [d] }
  | _ => none }
def FnPlaceSameWrongFalsely : Prop := fnPlaceSameRow.holds Try.pinned (OpenSpec.ofChange fnPlaceSameWrong)

/-- 'laws.FnBases': WHATEVER THE INPUT: true; the input reads as it did. -/
def fnBasesSpec : ChangeSpec := { name := "fnBases", fn := fun _ => fun
  | [d] => { results := [.lit (.bool true)], args := [d] }
  | _ => none }
def fnBasesRow : OpenClaim := { program := "ytbedkjpbdkgjpaa", sum := "a835277f135a0a82a2c76ec6ac4f21dc9553371d1f5384d87f9288be26393beb", func := "loop.example/tableminors/laws.FnBases", spec := "fnBases", unfollowed := true, recurses := true, apart := false }
def FnBasesSaid : Prop := fnBasesRow.holds Try.pinned (OpenSpec.ofChange fnBasesSpec)

/-- ITS FALSE NEIGHBOUR: 'it returns false'. Refute it at one input. -/
def fnBasesWrong : ChangeSpec := { name := "fnBases", fn := fun _ => fun
  | [d] => { results := [.lit (.bool false)], args := [d] }
  | _ => none }
def FnBasesWrongFalsely : Prop := fnBasesRow.holds Try.pinned (OpenSpec.ofChange fnBasesWrong)

/-- 'laws.FnExactTableTurn': WHATEVER THE INPUT: true; the input reads as it did. -/
def fnExactTableTurnSpec : ChangeSpec := { name := "fnExactTableTurn", fn := fun _ => fun
  | [d] => { results := [.lit (.bool true)], args := [d] }
  | _ => none }
def fnExactTableTurnRow : OpenClaim := { program := "ytbedkjpbdkgjpaa", sum := "a835277f135a0a82a2c76ec6ac4f21dc9553371d1f5384d87f9288be26393beb", func := "loop.example/tableminors/laws.FnExactTableTurn", spec := "fnExactTableTurn", unfollowed := true, recurses := true, apart := false }
def FnExactTableTurnSaid : Prop := fnExactTableTurnRow.holds Try.pinned (OpenSpec.ofChange fnExactTableTurnSpec)

/-- ITS FALSE NEIGHBOUR: 'it returns false'. Refute it at one input. -/
def fnExactTableTurnWrong : ChangeSpec := { name := "fnExactTableTurn", fn := fun _ => fun
  | [d] => { results := [.lit (.bool false)], args := [d] }
  | _ => none }
def FnExactTableTurnWrongFalsely : Prop := fnExactTableTurnRow.holds Try.pinned (OpenSpec.ofChange fnExactTableTurnWrong)

/-- 'laws.FnExactTableUnit': WHATEVER THE INPUT: true; the input reads as it did. -/
def fnExactTableUnitSpec : ChangeSpec := { name := "fnExactTableUnit", fn := fun _ => fun
  | [d] => { results := [.lit (.bool true)], args := [d] }
  | _ => none }
def fnExactTableUnitRow : OpenClaim := { program := "ytbedkjpbdkgjpaa", sum := "a835277f135a0a82a2c76ec6ac4f21dc9553371d1f5384d87f9288be26393beb", func := "loop.example/tableminors/laws.FnExactTableUnit", spec := "fnExactTableUnit", unfollowed := true, recurses := true, apart := false }
def FnExactTableUnitSaid : Prop := fnExactTableUnitRow.holds Try.pinned (OpenSpec.ofChange fnExactTableUnitSpec)

/-- ITS FALSE NEIGHBOUR: 'it returns false'. Refute it at one input. -/
def fnExactTableUnitWrong : ChangeSpec := { name := "fnExactTableUnit", fn := fun _ => fun
  | [d] => { results := [.lit (.bool false)], args := [d] }
  | _ => none }
def FnExactTableUnitWrongFalsely : Prop := fnExactTableUnitRow.holds Try.pinned (OpenSpec.ofChange fnExactTableUnitWrong)

/- THE SECOND FORM. 'bulk': how many values and letters a reading holds, each counted each time it is reached (what is shared counts as often as it is met; a slice's spare places count too). A statement '..UptoSaid' is the law's where the arguments, and the package variables that the reading takes, are together of bulk at most 1048576: NARROWER than '..Said'. Prove '..Said' where nothing that the law and all that it calls make is longer than what came in: it says more and counts as full. Else prove '..UptoSaid'. A law counts once. -/
mutual
def uptoBulk {H : Type} : DataW H → Nat
  | .lit (.string bytes) => bytes.length + 1
  | .lit _ => 1
  | .nil => 1
  | .ptr d => uptoBulk d + 1
  | .slice elems spare => uptoBulkAll elems + uptoBulkAll spare + 1
  | .agg parts => uptoBulkAll parts + 1
  | .iface _ d => uptoBulk d + 1
  | .map entries => uptoBulkEntries entries + 1
  | .held _ => 1
def uptoBulkAll {H : Type} : List (DataW H) → Nat
  | [] => 0
  | d :: r => uptoBulk d + uptoBulkAll r
def uptoBulkEntries {H : Type} : List (Lit × DataW H) → Nat
  | [] => 0
  | x :: r => uptoBulkEntry x + uptoBulkEntries r
def uptoBulkEntry {H : Type} : Lit × DataW H → Nat
  | (.string bytes, d) => bytes.length + uptoBulk d + 1
  | (_, d) => uptoBulk d + 1
 end
def uptoSmall : (H : Type) → List (DataW H) → Bool := fun _ ds => decide (uptoBulkAll ds ≤ 1048576)
def OpenSpec.upto (s : _root_.Go.ChangeSpec) : _root_.Go.OpenSpec := { _root_.Go.OpenSpec.ofChange s with cond := some uptoSmall }

/-- 'laws.FnExactPlaceIn', WHERE WHAT IT READS IS OF BULK AT MOST 1048576: true; the input reads as it did. -/
def fnExactPlaceInUptoRow : OpenClaim := { program := "ytbedkjpbdkgjpaa", sum := "a835277f135a0a82a2c76ec6ac4f21dc9553371d1f5384d87f9288be26393beb", func := "loop.example/tableminors/laws.FnExactPlaceIn", spec := "fnExactPlaceIn", unfollowed := true, recurses := true, apart := false, narrowed := true }
def FnExactPlaceInUptoSaid : Prop := fnExactPlaceInUptoRow.holds Try.pinned (OpenSpec.upto fnExactPlaceInSpec)

/-- 'laws.FnExactPlaceRelated', WHERE WHAT IT READS IS OF BULK AT MOST 1048576: true; the input reads as it did. -/
def fnExactPlaceRelatedUptoRow : OpenClaim := { program := "ytbedkjpbdkgjpaa", sum := "a835277f135a0a82a2c76ec6ac4f21dc9553371d1f5384d87f9288be26393beb", func := "loop.example/tableminors/laws.FnExactPlaceRelated", spec := "fnExactPlaceRelated", unfollowed := true, recurses := true, apart := false, narrowed := true }
def FnExactPlaceRelatedUptoSaid : Prop := fnExactPlaceRelatedUptoRow.holds Try.pinned (OpenSpec.upto fnExactPlaceRelatedSpec)

/-- 'laws.FnExactPlaceOther', WHERE WHAT IT READS IS OF BULK AT MOST 1048576: true; the input reads as it did. -/
def fnExactPlaceOtherUptoRow : OpenClaim := { program := "ytbedkjpbdkgjpaa", sum := "a835277f135a0a82a2c76ec6ac4f21dc9553371d1f5384d87f9288be26393beb", func := "loop.example/tableminors/laws.FnExactPlaceOther", spec := "fnExactPlaceOther", unfollowed := true, recurses := true, apart := false, narrowed := true }
def FnExactPlaceOtherUptoSaid : Prop := fnExactPlaceOtherUptoRow.holds Try.pinned (OpenSpec.upto fnExactPlaceOtherSpec)

/-- 'laws.FnExactPlaceSame', WHERE WHAT IT READS IS OF BULK AT MOST 1048576: true; the input reads as it did. -/
def fnExactPlaceSameUptoRow : OpenClaim := { program := "ytbedkjpbdkgjpaa", sum := "a835277f135a0a82a2c76ec6ac4f21dc9553371d1f5384d87f9288be26393beb", func := "loop.example/tableminors/laws.FnExactPlaceSame", spec := "fnExactPlaceSame", unfollowed := true, recurses := true, apart := false, narrowed := true }
def FnExactPlaceSameUptoSaid : Prop := fnExactPlaceSameUptoRow.holds Try.pinned (OpenSpec.upto fnExactPlaceSameSpec)

/-- 'laws.FnExactPlaceBases', WHERE WHAT IT READS IS OF BULK AT MOST 1048576: true; the input reads as it did. -/
def fnExactPlaceBasesUptoRow : OpenClaim := { program := "ytbedkjpbdkgjpaa", sum := "a835277f135a0a82a2c76ec6ac4f21dc9553371d1f5384d87f9288be26393beb", func := "loop.example/tableminors/laws.FnExactPlaceBases", spec := "fnExactPlaceBases", unfollowed := true, recurses := true, apart := false, narrowed := true }
def FnExactPlaceBasesUptoSaid : Prop := fnExactPlaceBasesUptoRow.holds Try.pinned (OpenSpec.upto fnExactPlaceBasesSpec)

/-- 'laws.FnPlace', WHERE WHAT IT READS IS OF BULK AT MOST 1048576: true; the input reads as it did. -/
def fnPlaceUptoRow : OpenClaim := { program := "ytbedkjpbdkgjpaa", sum := "a835277f135a0a82a2c76ec6ac4f21dc9553371d1f5384d87f9288be26393beb", func := "loop.example/tableminors/laws.FnPlace", spec := "fnPlace", unfollowed := true, recurses := true, apart := false, narrowed := true }
def FnPlaceUptoSaid : Prop := fnPlaceUptoRow.holds Try.pinned (OpenSpec.upto fnPlaceSpec)

/-- 'laws.FnRelated', WHERE WHAT IT READS IS OF BULK AT MOST 1048576: true; the input reads as it did. -/
def fnRelatedUptoRow : OpenClaim := { program := "ytbedkjpbdkgjpaa", sum := "a835277f135a0a82a2c76ec6ac4f21dc9553371d1f5384d87f9288be26393beb", func := "loop.example/tableminors/laws.FnRelated", spec := "fnRelated", unfollowed := true, recurses := true, apart := false, narrowed := true }
def FnRelatedUptoSaid : Prop := fnRelatedUptoRow.holds Try.pinned (OpenSpec.upto fnRelatedSpec)

/-- 'laws.FnPlaceOther', WHERE WHAT IT READS IS OF BULK AT MOST 1048576: true; the input reads as it did. -/
def fnPlaceOtherUptoRow : OpenClaim := { program := "ytbedkjpbdkgjpaa", sum := "a835277f135a0a82a2c76ec6ac4f21dc9553371d1f5384d87f9288be26393beb", func := "loop.example/tableminors/laws.FnPlaceOther", spec := "fnPlaceOther", unfollowed := true, recurses := true, apart := false, narrowed := true }
def FnPlaceOtherUptoSaid : Prop := fnPlaceOtherUptoRow.holds Try.pinned (OpenSpec.upto fnPlaceOtherSpec)

/-- 'laws.FnPlaceSame', WHERE WHAT IT READS IS OF BULK AT MOST 1048576: true; the input reads as it did. -/
def fnPlaceSameUptoRow : OpenClaim := { program := "ytbedkjpbdkgjpaa", sum := "a835277f135a0a82a2c76ec6ac4f21dc9553371d1f5384d87f9288be26393beb", func := "loop.example/tableminors/laws.FnPlaceSame", spec := "fnPlaceSame", unfollowed := true, recurses := true, apart := false, narrowed := true }
def FnPlaceSameUptoSaid : Prop := fnPlaceSameUptoRow.holds Try.pinned (OpenSpec.upto fnPlaceSameSpec)

/-- 'laws.FnBases', WHERE WHAT IT READS IS OF BULK AT MOST 1048576: true; the input reads as it did. -/
def fnBasesUptoRow : OpenClaim := { program := "ytbedkjpbdkgjpaa", sum := "a835277f135a0a82a2c76ec6ac4f21dc9553371d1f5384d87f9288be26393beb", func := "loop.example/tableminors/laws.FnBases", spec := "fnBases", unfollowed := true, recurses := true, apart := false, narrowed := true }
def FnBasesUptoSaid : Prop := fnBasesUptoRow.holds Try.pinned (OpenSpec.upto fnBasesSpec)

/-- 'laws.FnExactTableTurn', WHERE WHAT IT READS IS OF BULK AT MOST 1048576: true; the input reads as it did. -/
def fnExactTableTurnUptoRow : OpenClaim := { program := "ytbedkjpbdkgjpaa", sum := "a835277f135a0a82a2c76ec6ac4f21dc9553371d1f5384d87f9288be26393beb", func := "loop.example/tableminors/laws.FnExactTableTurn", spec := "fnExactTableTurn", unfollowed := true, recurses := true, apart := false, narrowed := true }
def FnExactTableTurnUptoSaid : Prop := fnExactTableTurnUptoRow.holds Try.pinned (OpenSpec.upto fnExactTableTurnSpec)

/-- 'laws.FnExactTableUnit', WHERE WHAT IT READS IS OF BULK AT MOST 1048576: true; the input reads as it did. -/
def fnExactTableUnitUptoRow : OpenClaim := { program := "ytbedkjpbdkgjpaa", sum := "a835277f135a0a82a2c76ec6ac4f21dc9553371d1f5384d87f9288be26393beb", func := "loop.example/tableminors/laws.FnExactTableUnit", spec := "fnExactTableUnit", unfollowed := true, recurses := true, apart := false, narrowed := true }
def FnExactTableUnitUptoSaid : Prop := fnExactTableUnitUptoRow.holds Try.pinned (OpenSpec.upto fnExactTableUnitSpec)

end Rows
end Go.Proofs.Ytbedkjpbdkgjpaa
