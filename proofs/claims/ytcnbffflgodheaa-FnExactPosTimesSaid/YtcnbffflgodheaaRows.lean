/-
  No cell of these rows narrows 'for every input' (looked for: loops, veiled, ifaces, maps, wideKeys, modest, calm, conditions, laid).
  DERIVED. THE GIVEN ROWS OF THIS SEAT. 12 by the template 'for every input the law returns true; each argument reads behind the call as it read before'; 0 by the template 'total and deterministic' (their statements: YtcnbffflgodheaaTotals.lean).
  GIVEN WITH THE SEED: the statements are not yours to turn. If you find one false, say at which input.
  Laid BY PROGRAM, IN A SANDBOX (cutbox-rows.mjs): the forced cells as the released guide's own fill.sh prints them over the translation c1ac2ab367fc099d… (all of the seat's roots in one cut). By AI agents, Wed Nov 11 2026. No macro, syntax, notation, axiom, sorry.
-/
import Derived.Test.YtcnbffflgodheaaChecked
import GoSem.Claim
import GoSem.ClaimJoined
import GoSem.ClaimMapViews
import Derived.JoinedTies
import Derived.KernelRfl
namespace Go.Proofs.Ytcnbffflgodheaa
/- THE CELL 'sum', in the pinned program and in every row, IS THE sha256 OF THE DUMP (.gsa) THAT YtcnbffflgodheaaProg.lean LOADS. Nothing in Lean hashes anything: it is a label: what it is worth is what the hold of that sum in a sandbox is worth. -/
noncomputable def Try.pinned : Pinned := { name := "ytcnbffflgodheaa", sum := "c1ac2ab367fc099d4fc8c1d599fdae5b5e9e4ec51019dfae7cb03fdad5454e59", checked := Try.checked }
namespace Rows
def none {H : Type} : Left H := { results := [], args := [] }

/-- 'laws.FnExactTableTurn': WHATEVER THE INPUT: true; the input reads as it did. -/
def fnExactTableTurnSpec : ChangeSpec := { name := "fnExactTableTurn", fn := fun _ => fun
  | [d] => { results := [.lit (.bool true)], args := [d] }
  | _ => none }
def fnExactTableTurnRow : OpenClaim := { program := "ytcnbffflgodheaa", sum := "c1ac2ab367fc099d4fc8c1d599fdae5b5e9e4ec51019dfae7cb03fdad5454e59", func := "loop.example/tableminors/laws.FnExactTableTurn", spec := "fnExactTableTurn", unfollowed := true, recurses := true, apart := false }
def FnExactTableTurnSaid : Prop := fnExactTableTurnRow.holds Try.pinned (OpenSpec.ofChange fnExactTableTurnSpec)

/-- ITS FALSE NEIGHBOUR: 'it returns false'. Refute it at one input. -/
def fnExactTableTurnWrong : ChangeSpec := { name := "fnExactTableTurn", fn := fun _ => fun
  | [d] => { results := [.lit (.bool false)], args := [d] }
  | _ => none }
def FnExactTableTurnWrongFalsely : Prop := fnExactTableTurnRow.holds Try.pinned (OpenSpec.ofChange fnExactTableTurnWrong)

/-- 'laws.FnExactTableUnit': WHATEVER THE INPUT: true; the input reads as it did. -/
def fnExactTableUnitSpec : ChangeSpec := { name := "fnExactTableUnit", fn := fun _ => fun
  | [d] => { results := [.lit (.bool true)], args := [d] }
  | _ => none }
def fnExactTableUnitRow : OpenClaim := { program := "ytcnbffflgodheaa", sum := "c1ac2ab367fc099d4fc8c1d599fdae5b5e9e4ec51019dfae7cb03fdad5454e59", func := "loop.example/tableminors/laws.FnExactTableUnit", spec := "fnExactTableUnit", unfollowed := true, recurses := true, apart := false }
def FnExactTableUnitSaid : Prop := fnExactTableUnitRow.holds Try.pinned (OpenSpec.ofChange fnExactTableUnitSpec)

/-- ITS FALSE NEIGHBOUR: 'it returns false'. Refute it at one input. -/
def fnExactTableUnitWrong : ChangeSpec := { name := "fnExactTableUnit", fn := fun _ => fun
  | [d] => { results := [.lit (.bool false)], args := [d] }
  | _ => none }
def FnExactTableUnitWrongFalsely : Prop := fnExactTableUnitRow.holds Try.pinned (OpenSpec.ofChange fnExactTableUnitWrong)

/-- 'laws.FnExactValueMinor': WHATEVER THE INPUT: true; the input reads as it did. -/
def fnExactValueMinorSpec : ChangeSpec := { name := "fnExactValueMinor", fn := fun _ => fun
  | [d1, d2, d3] => { results := [.lit (.bool true)], args := [d1, d2, d3] }
  | _ => none }
def fnExactValueMinorRow : OpenClaim := { program := "ytcnbffflgodheaa", sum := "c1ac2ab367fc099d4fc8c1d599fdae5b5e9e4ec51019dfae7cb03fdad5454e59", func := "loop.example/tableminors/laws.FnExactValueMinor", spec := "fnExactValueMinor", unfollowed := true, recurses := true, apart := false }
def FnExactValueMinorSaid : Prop := fnExactValueMinorRow.holds Try.pinned (OpenSpec.ofChange fnExactValueMinorSpec)

/-- ITS FALSE NEIGHBOUR: 'it returns false'. Refute it at one input. -/
def fnExactValueMinorWrong : ChangeSpec := { name := "fnExactValueMinor", fn := fun _ => fun
  | [d1, d2, d3] => { results := [.lit (.bool false)], args := [d1, d2, d3] }
  | _ => none }
def FnExactValueMinorWrongFalsely : Prop := fnExactValueMinorRow.holds Try.pinned (OpenSpec.ofChange fnExactValueMinorWrong)

/-- 'laws.FnExactValueRank': WHATEVER THE INPUT: true; the input reads as it did. -/
def fnExactValueRankSpec : ChangeSpec := { name := "fnExactValueRank", fn := fun _ => fun
  | [d] => { results := [.lit (.bool true)], args := [d] }
  | _ => none }
def fnExactValueRankRow : OpenClaim := { program := "ytcnbffflgodheaa", sum := "c1ac2ab367fc099d4fc8c1d599fdae5b5e9e4ec51019dfae7cb03fdad5454e59", func := "loop.example/tableminors/laws.FnExactValueRank", spec := "fnExactValueRank", unfollowed := true, recurses := true, apart := false }
def FnExactValueRankSaid : Prop := fnExactValueRankRow.holds Try.pinned (OpenSpec.ofChange fnExactValueRankSpec)

/-- ITS FALSE NEIGHBOUR: 'it returns false'. Refute it at one input. -/
def fnExactValueRankWrong : ChangeSpec := { name := "fnExactValueRank", fn := fun _ => fun
  | [d] => { results := [.lit (.bool false)], args := [d] }
  | _ => none }
def FnExactValueRankWrongFalsely : Prop := fnExactValueRankRow.holds Try.pinned (OpenSpec.ofChange fnExactValueRankWrong)

/-- 'laws.FnExactNetMost': WHATEVER THE INPUT: true; the input reads as it did. -/
def fnExactNetMostSpec : ChangeSpec := { name := "fnExactNetMost", fn := fun _ => fun
  | [d1, d2] => { results := [.lit (.bool true)], args := [d1, d2] }
  | _ => none }
def fnExactNetMostRow : OpenClaim := { program := "ytcnbffflgodheaa", sum := "c1ac2ab367fc099d4fc8c1d599fdae5b5e9e4ec51019dfae7cb03fdad5454e59", func := "loop.example/tableminors/laws.FnExactNetMost", spec := "fnExactNetMost", unfollowed := true, recurses := true, apart := false }
def FnExactNetMostSaid : Prop := fnExactNetMostRow.holds Try.pinned (OpenSpec.ofChange fnExactNetMostSpec)

/-- ITS FALSE NEIGHBOUR: 'it returns false'. Refute it at one input. -/
def fnExactNetMostWrong : ChangeSpec := { name := "fnExactNetMost", fn := fun _ => fun
  | [d1, d2] => { results := [.lit (.bool false)], args := [d1, d2] }
  | _ => none }
def FnExactNetMostWrongFalsely : Prop := fnExactNetMostRow.holds Try.pinned (OpenSpec.ofChange fnExactNetMostWrong)

/-- 'laws.FnExactPosLasting': WHATEVER THE INPUT: true; the input reads as it did. -/
def fnExactPosLastingSpec : ChangeSpec := { name := "fnExactPosLasting", fn := fun _ => fun
  | [d] => { results := [.lit (.bool true)], args := [d] }
  | _ => none }
def fnExactPosLastingRow : OpenClaim := { program := "ytcnbffflgodheaa", sum := "c1ac2ab367fc099d4fc8c1d599fdae5b5e9e4ec51019dfae7cb03fdad5454e59", func := "loop.example/tableminors/laws.FnExactPosLasting", spec := "fnExactPosLasting", unfollowed := true, recurses := true, apart := false }
def FnExactPosLastingSaid : Prop := fnExactPosLastingRow.holds Try.pinned (OpenSpec.ofChange fnExactPosLastingSpec)

/-- ITS FALSE NEIGHBOUR: 'it returns false'. Refute it at one input. -/
def fnExactPosLastingWrong : ChangeSpec := { name := "fnExactPosLasting", fn := fun _ => fun
  | [d] => { results := [.lit (.bool false)], args := [d] }
  | _ => none }
def FnExactPosLastingWrongFalsely : Prop := fnExactPosLastingRow.holds Try.pinned (OpenSpec.ofChange fnExactPosLastingWrong)

/-- 'laws.FnExactPosStrict': WHATEVER THE INPUT: true; the input reads as it did. -/
def fnExactPosStrictSpec : ChangeSpec := { name := "fnExactPosStrict", fn := fun _ => fun
  | [d] => { results := [.lit (.bool true)], args := [d] }
  | _ => none }
def fnExactPosStrictRow : OpenClaim := { program := "ytcnbffflgodheaa", sum := "c1ac2ab367fc099d4fc8c1d599fdae5b5e9e4ec51019dfae7cb03fdad5454e59", func := "loop.example/tableminors/laws.FnExactPosStrict", spec := "fnExactPosStrict", unfollowed := true, recurses := true, apart := false }
def FnExactPosStrictSaid : Prop := fnExactPosStrictRow.holds Try.pinned (OpenSpec.ofChange fnExactPosStrictSpec)

/-- ITS FALSE NEIGHBOUR: 'it returns false'. Refute it at one input. -/
def fnExactPosStrictWrong : ChangeSpec := { name := "fnExactPosStrict", fn := fun _ => fun
  | [d] => { results := [.lit (.bool false)], args := [d] }
  | _ => none }
def FnExactPosStrictWrongFalsely : Prop := fnExactPosStrictRow.holds Try.pinned (OpenSpec.ofChange fnExactPosStrictWrong)

/-- 'laws.FnExactPosFirst': WHATEVER THE INPUT: true; the input reads as it did. -/
def fnExactPosFirstSpec : ChangeSpec := { name := "fnExactPosFirst", fn := fun _ => fun
  | [d] => { results := [.lit (.bool true)], args := [d] }
  | _ => none }
def fnExactPosFirstRow : OpenClaim := { program := "ytcnbffflgodheaa", sum := "c1ac2ab367fc099d4fc8c1d599fdae5b5e9e4ec51019dfae7cb03fdad5454e59", func := "loop.example/tableminors/laws.FnExactPosFirst", spec := "fnExactPosFirst", unfollowed := true, recurses := true, apart := false }
def FnExactPosFirstSaid : Prop := fnExactPosFirstRow.holds Try.pinned (OpenSpec.ofChange fnExactPosFirstSpec)

/-- ITS FALSE NEIGHBOUR: 'it returns false'. Refute it at one input. -/
def fnExactPosFirstWrong : ChangeSpec := { name := "fnExactPosFirst", fn := fun _ => fun
  | [d] => { results := [.lit (.bool false)], args := [d] }
  | _ => none }
def FnExactPosFirstWrongFalsely : Prop := fnExactPosFirstRow.holds Try.pinned (OpenSpec.ofChange fnExactPosFirstWrong)

/-- 'laws.FnExactPosFirstCount': WHATEVER THE INPUT: true; the input reads as it did. -/
def fnExactPosFirstCountSpec : ChangeSpec := { name := "fnExactPosFirstCount", fn := fun _ => fun
  | [d] => { results := [.lit (.bool true)], args := [d] }
  | _ => none }
def fnExactPosFirstCountRow : OpenClaim := { program := "ytcnbffflgodheaa", sum := "c1ac2ab367fc099d4fc8c1d599fdae5b5e9e4ec51019dfae7cb03fdad5454e59", func := "loop.example/tableminors/laws.FnExactPosFirstCount", spec := "fnExactPosFirstCount", unfollowed := true, recurses := true, apart := false }
def FnExactPosFirstCountSaid : Prop := fnExactPosFirstCountRow.holds Try.pinned (OpenSpec.ofChange fnExactPosFirstCountSpec)

/-- ITS FALSE NEIGHBOUR: 'it returns false'. Refute it at one input. -/
def fnExactPosFirstCountWrong : ChangeSpec := { name := "fnExactPosFirstCount", fn := fun _ => fun
  | [d] => { results := [.lit (.bool false)], args := [d] }
  | _ => none }
def FnExactPosFirstCountWrongFalsely : Prop := fnExactPosFirstCountRow.holds Try.pinned (OpenSpec.ofChange fnExactPosFirstCountWrong)

/-- 'laws.FnExactPosChanges': WHATEVER THE INPUT: true; the input reads as it did. -/
def fnExactPosChangesSpec : ChangeSpec := { name := "fnExactPosChanges", fn := fun _ => fun
  | [d] => { results := [.lit (.bool true)], args := [d] }
  | _ => none }
def fnExactPosChangesRow : OpenClaim := { program := "ytcnbffflgodheaa", sum := "c1ac2ab367fc099d4fc8c1d599fdae5b5e9e4ec51019dfae7cb03fdad5454e59", func := "loop.example/tableminors/laws.FnExactPosChanges", spec := "fnExactPosChanges", apart := false }
def FnExactPosChangesSaid : Prop := fnExactPosChangesRow.holds Try.pinned (OpenSpec.ofChange fnExactPosChangesSpec)

/-- ITS FALSE NEIGHBOUR: 'it returns false'. Refute it at one input. -/
def fnExactPosChangesWrong : ChangeSpec := { name := "fnExactPosChanges", fn := fun _ => fun
  | [d] => { results := [.lit (.bool false)], args := [d] }
  | _ => none }
def FnExactPosChangesWrongFalsely : Prop := fnExactPosChangesRow.holds Try.pinned (OpenSpec.ofChange fnExactPosChangesWrong)

/-- 'laws.FnExactPosTimes': WHATEVER THE INPUT: true; the input reads as it did. -/
def fnExactPosTimesSpec : ChangeSpec := { name := "fnExactPosTimes", fn := fun _ => fun
  | [d1, d2] => { results := [.lit (.bool true)], args := [d1, d2] }
  | _ => none }
def fnExactPosTimesRow : OpenClaim := { program := "ytcnbffflgodheaa", sum := "c1ac2ab367fc099d4fc8c1d599fdae5b5e9e4ec51019dfae7cb03fdad5454e59", func := "loop.example/tableminors/laws.FnExactPosTimes", spec := "fnExactPosTimes", unfollowed := true, recurses := true, apart := false }
def FnExactPosTimesSaid : Prop := fnExactPosTimesRow.holds Try.pinned (OpenSpec.ofChange fnExactPosTimesSpec)

/-- ITS FALSE NEIGHBOUR: 'it returns false'. Refute it at one input. -/
def fnExactPosTimesWrong : ChangeSpec := { name := "fnExactPosTimes", fn := fun _ => fun
  | [d1, d2] => { results := [.lit (.bool false)], args := [d1, d2] }
  | _ => none }
def FnExactPosTimesWrongFalsely : Prop := fnExactPosTimesRow.holds Try.pinned (OpenSpec.ofChange fnExactPosTimesWrong)

/-- 'laws.FnExactPosWorst': WHATEVER THE INPUT: true; the input reads as it did. -/
def fnExactPosWorstSpec : ChangeSpec := { name := "fnExactPosWorst", fn := fun _ => fun
  | [d] => { results := [.lit (.bool true)], args := [d] }
  | _ => none }
def fnExactPosWorstRow : OpenClaim := { program := "ytcnbffflgodheaa", sum := "c1ac2ab367fc099d4fc8c1d599fdae5b5e9e4ec51019dfae7cb03fdad5454e59", func := "loop.example/tableminors/laws.FnExactPosWorst", spec := "fnExactPosWorst", unfollowed := true, recurses := true, apart := false }
def FnExactPosWorstSaid : Prop := fnExactPosWorstRow.holds Try.pinned (OpenSpec.ofChange fnExactPosWorstSpec)

/-- ITS FALSE NEIGHBOUR: 'it returns false'. Refute it at one input. -/
def fnExactPosWorstWrong : ChangeSpec := { name := "fnExactPosWorst", fn := fun _ => fun
  | [d] => { results := [.lit (.bool false)], args := [d] }
  | _ => none }
def FnExactPosWorstWrongFalsely : Prop := fnExactPosWorstRow.holds Try.pinned (OpenSpec.ofChange fnExactPosWorstWrong)

/- THE SECOND FORM. 'bulk': how many values and letters a reading holds, each counted each time it is reached (what is shared counts as often as it is met; a slice's spare places count too). A statement '..UptoSaid' is the law's where the arguments, and the package variables that the reading takes, are together of bulk at most 1048576: NARROWER than '..Said'. Prove '..Said' where nothing that the law and all that it calls make is longer than what came in: it says more and counts as full. Else prove '..UptoSaid'. A law counts once. -/
mutual
def uptoBulk {H : Type} : DataW H → Nat
  | .lit (.string bytes) => bytes.length + 1
  | .lit _ => 1
  | .nil => 1
  | .ptr d => uptoBulk d + 1
  | .slice elems spare => uptoBulkAll elems + uptoBulkAll spare + 1
  | .agg parts => uptoBulkAll parts + 1
  | .iface _ d => uptoBulk d + 1
  | .map entries => uptoBulkEntries entries + 1
  | .held _ => 1
def uptoBulkAll {H : Type} : List (DataW H) → Nat
  | [] => 0
  | d :: r => uptoBulk d + uptoBulkAll r
def uptoBulkEntries {H : Type} : List (Lit × DataW H) → Nat
  | [] => 0
  | x :: r => uptoBulkEntry x + uptoBulkEntries r
def uptoBulkEntry {H : Type} : Lit × DataW H → Nat
  | (.string bytes, d) => bytes.length + uptoBulk d + 1
  | (_, d) => uptoBulk d + 1
 end
def uptoSmall : (H : Type) → List (DataW H) → Bool := fun _ ds => decide (uptoBulkAll ds ≤ 1048576)
def OpenSpec.upto (s : _root_.Go.ChangeSpec) : _root_.Go.OpenSpec := { _root_.Go.OpenSpec.ofChange s with cond := some uptoSmall }

/-- 'laws.FnExactTableTurn', WHERE WHAT IT READS IS OF BULK AT MOST 1048576: true; the input reads as it did. -/
def fnExactTableTurnUptoRow : OpenClaim := { program := "ytcnbffflgodheaa", sum := "c1ac2ab367fc099d4fc8c1d599fdae5b5e9e4ec51019dfae7cb03fdad5454e59", func := "loop.example/tableminors/laws.FnExactTableTurn", spec := "fnExactTableTurn", unfollowed := true, recurses := true, apart := false, narrowed := true }
def FnExactTableTurnUptoSaid : Prop := fnExactTableTurnUptoRow.holds Try.pinned (OpenSpec.upto fnExactTableTurnSpec)

/-- 'laws.FnExactTableUnit', WHERE WHAT IT READS IS OF BULK AT MOST 1048576: true; the input reads as it did. -/
def fnExactTableUnitUptoRow : OpenClaim := { program := "ytcnbffflgodheaa", sum := "c1ac2ab367fc099d4fc8c1d599fdae5b5e9e4ec51019dfae7cb03fdad5454e59", func := "loop.example/tableminors/laws.FnExactTableUnit", spec := "fnExactTableUnit", unfollowed := true, recurses := true, apart := false, narrowed := true }
def FnExactTableUnitUptoSaid : Prop := fnExactTableUnitUptoRow.holds Try.pinned (OpenSpec.upto fnExactTableUnitSpec)

/-- 'laws.FnExactValueMinor', WHERE WHAT IT READS IS OF BULK AT MOST 1048576: true; the input reads as it did. -/
def fnExactValueMinorUptoRow : OpenClaim := { program := "ytcnbffflgodheaa", sum := "c1ac2ab367fc099d4fc8c1d599fdae5b5e9e4ec51019dfae7cb03fdad5454e59", func := "loop.example/tableminors/laws.FnExactValueMinor", spec := "fnExactValueMinor", unfollowed := true, recurses := true, apart := false, narrowed := true }
def FnExactValueMinorUptoSaid : Prop := fnExactValueMinorUptoRow.holds Try.pinned (OpenSpec.upto fnExactValueMinorSpec)

/-- 'laws.FnExactValueRank', WHERE WHAT IT READS IS OF BULK AT MOST 1048576: true; the input reads as it did. -/
def fnExactValueRankUptoRow : OpenClaim := { program := "ytcnbffflgodheaa", sum := "c1ac2ab367fc099d4fc8c1d599fdae5b5e9e4ec51019dfae7cb03fdad5454e59", func := "loop.example/tableminors/laws.FnExactValueRank", spec := "fnExactValueRank", unfollowed := true, recurses := true, apart := false, narrowed := true }
def FnExactValueRankUptoSaid : Prop := fnExactValueRankUptoRow.holds Try.pinned (OpenSpec.upto fnExactValueRankSpec)

/-- 'laws.FnExactNetMost', WHERE WHAT IT READS IS OF BULK AT MOST 1048576: true; the input reads as it did. -/
def fnExactNetMostUptoRow : OpenClaim := { program := "ytcnbffflgodheaa", sum := "c1ac2ab367fc099d4fc8c1d599fdae5b5e9e4ec51019dfae7cb03fdad5454e59", func := "loop.example/tableminors/laws.FnExactNetMost", spec := "fnExactNetMost", unfollowed := true, recurses := true, apart := false, narrowed := true }
def FnExactNetMostUptoSaid : Prop := fnExactNetMostUptoRow.holds Try.pinned (OpenSpec.upto fnExactNetMostSpec)

/-- 'laws.FnExactPosLasting', WHERE WHAT IT READS IS OF BULK AT MOST 1048576: true; the input reads as it did. -/
def fnExactPosLastingUptoRow : OpenClaim := { program := "ytcnbffflgodheaa", sum := "c1ac2ab367fc099d4fc8c1d599fdae5b5e9e4ec51019dfae7cb03fdad5454e59", func := "loop.example/tableminors/laws.FnExactPosLasting", spec := "fnExactPosLasting", unfollowed := true, recurses := true, apart := false, narrowed := true }
def FnExactPosLastingUptoSaid : Prop := fnExactPosLastingUptoRow.holds Try.pinned (OpenSpec.upto fnExactPosLastingSpec)

/-- 'laws.FnExactPosStrict', WHERE WHAT IT READS IS OF BULK AT MOST 1048576: true; the input reads as it did. -/
def fnExactPosStrictUptoRow : OpenClaim := { program := "ytcnbffflgodheaa", sum := "c1ac2ab367fc099d4fc8c1d599fdae5b5e9e4ec51019dfae7cb03fdad5454e59", func := "loop.example/tableminors/laws.FnExactPosStrict", spec := "fnExactPosStrict", unfollowed := true, recurses := true, apart := false, narrowed := true }
def FnExactPosStrictUptoSaid : Prop := fnExactPosStrictUptoRow.holds Try.pinned (OpenSpec.upto fnExactPosStrictSpec)

/-- 'laws.FnExactPosFirst', WHERE WHAT IT READS IS OF BULK AT MOST 1048576: true; the input reads as it did. -/
def fnExactPosFirstUptoRow : OpenClaim := { program := "ytcnbffflgodheaa", sum := "c1ac2ab367fc099d4fc8c1d599fdae5b5e9e4ec51019dfae7cb03fdad5454e59", func := "loop.example/tableminors/laws.FnExactPosFirst", spec := "fnExactPosFirst", unfollowed := true, recurses := true, apart := false, narrowed := true }
def FnExactPosFirstUptoSaid : Prop := fnExactPosFirstUptoRow.holds Try.pinned (OpenSpec.upto fnExactPosFirstSpec)

/-- 'laws.FnExactPosFirstCount', WHERE WHAT IT READS IS OF BULK AT MOST 1048576: true; the input reads as it did. -/
def fnExactPosFirstCountUptoRow : OpenClaim := { program := "ytcnbffflgodheaa", sum := "c1ac2ab367fc099d4fc8c1d599fdae5b5e9e4ec51019dfae7cb03fdad5454e59", func := "loop.example/tableminors/laws.FnExactPosFirstCount", spec := "fnExactPosFirstCount", unfollowed := true, recurses := true, apart := false, narrowed := true }
def FnExactPosFirstCountUptoSaid : Prop := fnExactPosFirstCountUptoRow.holds Try.pinned (OpenSpec.upto fnExactPosFirstCountSpec)

/-- 'laws.FnExactPosChanges', WHERE WHAT IT READS IS OF BULK AT MOST 1048576: true; the input reads as it did. -/
def fnExactPosChangesUptoRow : OpenClaim := { program := "ytcnbffflgodheaa", sum := "c1ac2ab367fc099d4fc8c1d599fdae5b5e9e4ec51019dfae7cb03fdad5454e59", func := "loop.example/tableminors/laws.FnExactPosChanges", spec := "fnExactPosChanges", apart := false, narrowed := true }
def FnExactPosChangesUptoSaid : Prop := fnExactPosChangesUptoRow.holds Try.pinned (OpenSpec.upto fnExactPosChangesSpec)

/-- 'laws.FnExactPosTimes', WHERE WHAT IT READS IS OF BULK AT MOST 1048576: true; the input reads as it did. -/
def fnExactPosTimesUptoRow : OpenClaim := { program := "ytcnbffflgodheaa", sum := "c1ac2ab367fc099d4fc8c1d599fdae5b5e9e4ec51019dfae7cb03fdad5454e59", func := "loop.example/tableminors/laws.FnExactPosTimes", spec := "fnExactPosTimes", unfollowed := true, recurses := true, apart := false, narrowed := true }
def FnExactPosTimesUptoSaid : Prop := fnExactPosTimesUptoRow.holds Try.pinned (OpenSpec.upto fnExactPosTimesSpec)

/-- 'laws.FnExactPosWorst', WHERE WHAT IT READS IS OF BULK AT MOST 1048576: true; the input reads as it did. -/
def fnExactPosWorstUptoRow : OpenClaim := { program := "ytcnbffflgodheaa", sum := "c1ac2ab367fc099d4fc8c1d599fdae5b5e9e4ec51019dfae7cb03fdad5454e59", func := "loop.example/tableminors/laws.FnExactPosWorst", spec := "fnExactPosWorst", unfollowed := true, recurses := true, apart := false, narrowed := true }
def FnExactPosWorstUptoSaid : Prop := fnExactPosWorstUptoRow.holds Try.pinned (OpenSpec.upto fnExactPosWorstSpec)

end Rows
end Go.Proofs.Ytcnbffflgodheaa
