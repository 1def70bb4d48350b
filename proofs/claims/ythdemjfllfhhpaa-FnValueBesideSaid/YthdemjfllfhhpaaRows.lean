/-
  No cell of these rows narrows 'for every input' (looked for: loops, veiled, ifaces, maps, wideKeys, modest, calm, conditions, laid).
  DERIVED. THE GIVEN ROWS OF THIS SEAT. 9 by the template 'for every input the law returns true; each argument reads behind the call as it read before'; 0 by the template 'total and deterministic' (their statements: YthdemjfllfhhpaaTotals.lean).
  GIVEN WITH THE SEED: the statements are not yours to turn. If you find one false, say at which input.
  Laid BY PROGRAM, IN A SANDBOX (cutbox-rows.mjs): the forced cells as the released guide's own fill.sh prints them over the translation 8c27ba34c47e4a3a… (all of the seat's roots in one cut). By AI agents, Wed Nov 11 2026. No macro, syntax, notation, axiom, sorry.
-/
import Derived.Test.YthdemjfllfhhpaaChecked
import GoSem.Claim
import GoSem.ClaimJoined
import GoSem.ClaimMapViews
import Derived.JoinedTies
import Derived.KernelRfl
namespace Go.Proofs.Ythdemjfllfhhpaa
/- THE CELL 'sum', in the pinned program and in every row, IS THE sha256 OF THE DUMP (.gsa) THAT YthdemjfllfhhpaaProg.lean LOADS. Nothing in Lean hashes anything: it is a label: what it is worth is what the hold of that sum in a sandbox is worth. -/
noncomputable def Try.pinned : Pinned := { name := "ythdemjfllfhhpaa", sum := "8c27ba34c47e4a3a5480b8930d62c6f2130eec2bfddd187281ad3d1ac74908e8", checked := Try.checked }
namespace Rows
def none {H : Type} : Left H := { results := [], args := [] }

/-- 'laws.FnSame': WHATEVER THE INPUT: true; the input reads as it did. -/
def fnSameSpec : ChangeSpec := { name := "fnSame", fn := fun _ => fun
  | [d] => { results := [.lit (.bool true)], args := [d] }
  | _ => none }
def fnSameRow : OpenClaim := { program := "ythdemjfllfhhpaa", sum := "8c27ba34c47e4a3a5480b8930d62c6f2130eec2bfddd187281ad3d1ac74908e8", func := "loop.example/tableminors/laws.FnSame", spec := "fnSame", unfollowed := true, recurses := true, apart := false }
def FnSameSaid : Prop := fnSameRow.holds Try.pinned (OpenSpec.ofChange fnSameSpec)

/-- ITS FALSE NEIGHBOUR: 'it returns false'. Refute it at one input. -/
def fnSameWrong : ChangeSpec := { name := "fnSame", fn := fun _ => fun
  | [d] => { results := [.lit (.bool false)], args := [d] }
  | _ => none }
def FnSameWrongFalsely : Prop := fnSameRow.holds Try.pinned (OpenSpec.ofChange fnSameWrong)

/-- 'laws.FnMinor': WHATEVER THE INPUT: true; the input reads as it did. -/
def fnMinorSpec : ChangeSpec := { name := "fnMinor", fn := fun _ => fun
  | [d] => { results := [.lit (.bool true)], args := [d] }
  | _ => none }
def fnMinorRow : OpenClaim := { program := "ythdemjfllfhhpaa", sum := "8c27ba34c47e4a3a5480b8930d62c6f2130eec2bfddd187281ad3d1ac74908e8", func := "loop.example/tableminors/laws.FnMinor", spec := "fnMinor", unfollowed := true, recurses := true, apart := false }
def FnMinorSaid : Prop := fnMinorRow.holds Try.pinned (OpenSpec.ofChange fnMinorSpec)

/-- ITS FALSE NEIGHBOUR: 'it returns false'. Refute it at one input. -/
def fnMinorWrong : ChangeSpec := { name := "fnMinor", fn := fun _ => fun
  | [d] => { results := [.lit (.bool false)], args := [d] }
  | _ => none }
def FnMinorWrongFalsely : Prop := fnMinorRow.holds Try.pinned (OpenSpec.ofChange fnMinorWrong)

/-- 'laws.FnRank': WHATEVER THE INPUT: true; the input reads as it did. -/
def fnRankSpec : ChangeSpec := { name := "fnRank", fn := fun _ => fun
  | [d] => { results := [.lit (.bool true)], args := [d] }
  | _ => none }
def fnRankRow : OpenClaim := { program := "ythdemjfllfhhpaa", sum := "8c27ba34c47e4a3a5480b8930d62c6f2130eec2bfddd187281ad3d1ac74908e8", func := "loop.example/tableminors/laws.FnRank", spec := "fnRank", unfollowed := true, recurses := true, apart := false }
def FnRankSaid : Prop := fnRankRow.holds Try.pinned (OpenSpec.ofChange fnRankSpec)

/-- ITS FALSE NEIGHBOUR: 'it returns false'. Refute it at one input. -/
def fnRankWrong : ChangeSpec := { name := "fnRank", fn := fun _ => fun
  | [d] => { results := [.lit (.bool false)], args := [d] }
  | _ => none }
def FnRankWrongFalsely : Prop := fnRankRow.holds Try.pinned (OpenSpec.ofChange fnRankWrong)

/-- 'laws.FnRankMake': WHATEVER THE INPUT: true; the input reads as it did. -/
def fnRankMakeSpec : ChangeSpec := { name := "fnRankMake", fn := fun _ => fun
  | [d] => { results := [.lit (.bool true)], args := [d] }
  | _ => none }
def fnRankMakeRow : OpenClaim := { program := "ythdemjfllfhhpaa", sum := "8c27ba34c47e4a3a5480b8930d62c6f2130eec2bfddd187281ad3d1ac74908e8", func := "loop.example/tableminors/laws.FnRankMake", spec := "fnRankMake", unfollowed := true, recurses := true, apart := false }
def FnRankMakeSaid : Prop := fnRankMakeRow.holds Try.pinned (OpenSpec.ofChange fnRankMakeSpec)

/-- ITS FALSE NEIGHBOUR: 'it returns false'. Refute it at one input. -/
def fnRankMakeWrong : ChangeSpec := { name := "fnRankMake", fn := fun _ => fun
  | [d] => { results := [.lit (.bool false)], args := [d] }
  | _ => none }
def FnRankMakeWrongFalsely : Prop := fnRankMakeRow.holds Try.pinned (OpenSpec.ofChange fnRankMakeWrong)

/-- 'laws.FnValueBeside': WHATEVER THE INPUT: true; the input reads as it did. -/
def fnValueBesideSpec : ChangeSpec := { name := "fnValueBeside", fn := fun _ => fun
  | [d] => { results := [.lit (.bool true)], args := [d] }
  | _ => none }
def fnValueBesideRow : OpenClaim := { program := "ythdemjfllfhhpaa", sum := "8c27ba34c47e4a3a5480b8930d62c6f2130eec2bfddd187281ad3d1ac74908e8", func := "loop.example/tableminors/laws.FnValueBeside", spec := "fnValueBeside", unfollowed := true, recurses := true, apart := false }
def FnValueBesideSaid : Prop := fnValueBesideRow.holds Try.pinned (OpenSpec.ofChange fnValueBesideSpec)

/-- ITS FALSE NEIGHBOUR: 'it returns false'. Refute it at one input. -/
def fnValueBesideWrong : ChangeSpec := { name := "fnValueBeside", fn := fun _ => fun
  | [d] => { results := [.lit (.bool false)], args := [d] }
  | _ => none }
def FnValueBesideWrongFalsely : Prop := fnValueBesideRow.holds Try.pinned (OpenSpec.ofChange fnValueBesideWrong)

/-- 'laws.FnJacobi': WHATEVER THE INPUT: true; the input reads as it did. -/
def fnJacobiSpec : ChangeSpec := { name := "fnJacobi", fn := fun _ => fun
  | [d] => { results := [.lit (.bool true)], args := [d] }
  | _ => none }
def fnJacobiRow : OpenClaim := { program := "ythdemjfllfhhpaa", sum := "8c27ba34c47e4a3a5480b8930d62c6f2130eec2bfddd187281ad3d1ac74908e8", func := "loop.example/tableminors/laws.FnJacobi", spec := "fnJacobi", unfollowed := true, recurses := true, apart := false }
def FnJacobiSaid : Prop := fnJacobiRow.holds Try.pinned (OpenSpec.ofChange fnJacobiSpec)

/-- ITS FALSE NEIGHBOUR: 'it returns false'. Refute it at one input. -/
def fnJacobiWrong : ChangeSpec := { name := "fnJacobi", fn := fun _ => fun
  | [d] => { results := [.lit (.bool false)], args := [d] }
  | _ => none }
def FnJacobiWrongFalsely : Prop := fnJacobiRow.holds Try.pinned (OpenSpec.ofChange fnJacobiWrong)

/-- 'laws.FnPair': WHATEVER THE INPUT: true; the input reads as it did. -/
def fnPairSpec : ChangeSpec := { name := "fnPair", fn := fun _ => fun
  | [d] => { results := [.lit (.bool true)], args := [d] }
  | _ => none }
def fnPairRow : OpenClaim := { program := "ythdemjfllfhhpaa", sum := "8c27ba34c47e4a3a5480b8930d62c6f2130eec2bfddd187281ad3d1ac74908e8", func := "loop.example/tableminors/laws.FnPair", spec := "fnPair", unfollowed := true, recurses := true, apart := false }
def FnPairSaid : Prop := fnPairRow.holds Try.pinned (OpenSpec.ofChange fnPairSpec)

/-- ITS FALSE NEIGHBOUR: 'it returns false'. Refute it at one input. -/
def fnPairWrong : ChangeSpec := { name := "fnPair", fn := fun _ => fun
  | [d] => { results := [.lit (.bool false)], args := [d] }
  | _ => none }
def FnPairWrongFalsely : Prop := fnPairRow.holds Try.pinned (OpenSpec.ofChange fnPairWrong)

/-- 'laws.FnExactTableTurn': WHATEVER THE INPUT: true; the input reads as it did. -/
def fnExactTableTurnSpec : ChangeSpec := { name := "fnExactTableTurn", fn := fun _ => fun
  | [d] => { results := [.lit (.bool true)], args := [d] }
  | _ => none }
def fnExactTableTurnRow : OpenClaim := { program := "ythdemjfllfhhpaa", sum := "8c27ba34c47e4a3a5480b8930d62c6f2130eec2bfddd187281ad3d1ac74908e8", func := "loop.example/tableminors/laws.FnExactTableTurn", spec := "fnExactTableTurn", unfollowed := true, recurses := true, apart := false }
def FnExactTableTurnSaid : Prop := fnExactTableTurnRow.holds Try.pinned (OpenSpec.ofChange fnExactTableTurnSpec)

/-- ITS FALSE NEIGHBOUR: 'it returns false'. Refute it at one input. -/
def fnExactTableTurnWrong : ChangeSpec := { name := "fnExactTableTurn", fn := fun _ => fun
  | [d] => { results := [.lit (.bool false)], args := [d] }
  | _ => none }
def FnExactTableTurnWrongFalsely : Prop := fnExactTableTurnRow.holds Try.pinned (OpenSpec.ofChange fnExactTableTurnWrong)

/-- 'laws.FnExactTableUnit': WHATEVER THE INPUT: true; the input reads as it did. -/
def fnExactTableUnitSpec : ChangeSpec := { name := "fnExactTableUnit", fn := fun _ => fun
  | [d] => { results := [.lit (.bool true)], args := [d] }
  | _ => none }
def fnExactTableUnitRow : OpenClaim := { program := "ythdemjfllfhhpaa", sum := "8c27ba34c47e4a3a5480b8930d62c6f2130eec2bfddd187281ad3d1ac74908e8", func := "loop.example/tableminors/laws.FnExactTableUnit", spec := "fnExactTableUnit", unfollowed := true, recurses := true, apart := false }
def FnExactTableUnitSaid : Prop := fnExactTableUnitRow.holds Try.pinned (OpenSpec.ofChange fnExactTableUnitSpec)

/-- ITS FALSE NEIGHBOUR: 'it returns false'. Refute it at one input. -/
def fnExactTableUnitWrong : ChangeSpec := { name := "fnExactTableUnit", fn := fun _ => fun
  | [d] => { results := [.lit (.bool false)], args := [d] }
  | _ => none }
def FnExactTableUnitWrongFalsely : Prop := fnExactTableUnitRow.holds Try.pinned (OpenSpec.ofChange fnExactTableUnitWrong)

/- THE SECOND FORM. 'bulk': how many values and letters a reading holds, each counted each time it is reached (what is shared counts as often as it is met; a slice's spare places count too). A statement '..UptoSaid' is the law's where the arguments, and the package variables that the reading takes, are together of bulk at most 1048576: NARROWER than '..Said'. Prove '..Said' where nothing that the law and all that it calls make is longer than what came in: it says more and counts as full. Else prove '..UptoSaid'. A law counts once. -/
mutual
def uptoBulk {H : Type} : DataW H → Nat
  | .lit (.string bytes) => bytes.length + 1
  | .lit _ => 1
  | .nil => 1
  | .ptr d => uptoBulk d + 1
  | .slice elems spare => uptoBulkAll elems + uptoBulkAll spare + 1
  | .agg parts => uptoBulkAll parts + 1
  | .iface _ d => uptoBulk d + 1
  | .map entries => uptoBulkEntries entries + 1
  | .held _ => 1
def uptoBulkAll {H : Type} : List (DataW H) → Nat
  | [] => 0
  | d :: r => uptoBulk d + uptoBulkAll r
def uptoBulkEntries {H : Type} : List (Lit × DataW H) → Nat
  | [] => 0
  | x :: r => uptoBulkEntry x + uptoBulkEntries r
def uptoBulkEntry {H : Type} : Lit × DataW H → Nat
  | (.string bytes, d) => bytes.length + uptoBulk d + 1
  | (_, d) => uptoBulk d + 1
 end
def uptoSmall : (H : Type) → List (DataW H) → Bool := fun _ ds => decide (uptoBulkAll ds ≤ 1048576)
def OpenSpec.upto (s : _root_.Go.ChangeSpec) : _root_.Go.OpenSpec := { _root_.Go.OpenSpec.ofChange s with cond := some uptoSmall }

/-- 'laws.FnSame', WHERE WHAT IT READS IS OF BULK AT MOST 1048576: true; the input reads as it did. -/
def fnSameUptoRow : OpenClaim := { program := "ythdemjfllfhhpaa", sum := "8c27ba34c47e4a3a5480b8930d62c6f2130eec2bfddd187281ad3d1ac74908e8", func := "loop.example/tableminors/laws.FnSame", spec := "fnSame", unfollowed := true, recurses := true, apart := false, narrowed := true }
def FnSameUptoSaid : Prop := fnSameUptoRow.holds Try.pinned (OpenSpec.upto fnSameSpec)

/-- 'laws.FnMinor', WHERE WHAT IT READS IS OF BULK AT MOST 1048576: true; the input reads as it did. -/
def fnMinorUptoRow : OpenClaim := { program := "ythdemjfllfhhpaa", sum := "8c27ba34c47e4a3a5480b8930d62c6f2130eec2bfddd187281ad3d1ac74908e8", func := "loop.example/tableminors/laws.FnMinor", spec := "fnMinor", unfollowed := true, recurses := true, apart := false, narrowed := true }
def FnMinorUptoSaid : Prop := fnMinorUptoRow.holds Try.pinned (OpenSpec.upto fnMinorSpec)

/-- 'laws.FnRank', WHERE WHAT IT READS IS OF BULK AT MOST 1048576: true; the input reads as it did. -/
def fnRankUptoRow : OpenClaim := { program := "ythdemjfllfhhpaa", sum := "8c27ba34c47e4a3a5480b8930d62c6f2130eec2bfddd187281ad3d1ac74908e8", func := "loop.example/tableminors/laws.FnRank", spec := "fnRank", unfollowed := true, recurses := true, apart := false, narrowed := true }
def FnRankUptoSaid : Prop := fnRankUptoRow.holds Try.pinned (OpenSpec.upto fnRankSpec)

/-- 'laws.FnRankMake', WHERE WHAT IT READS IS OF BULK AT MOST 1048576: true; the input reads as it did. -/
def fnRankMakeUptoRow : OpenClaim := { program := "ythdemjfllfhhpaa", sum := "8c27ba34c47e4a3a5480b8930d62c6f2130eec2bfddd187281ad3d1ac74908e8", func := "loop.example/tableminors/laws.FnRankMake", spec := "fnRankMake", unfollowed := true, recurses := true, apart := false, narrowed := true }
def FnRankMakeUptoSaid : Prop := fnRankMakeUptoRow.holds Try.pinned (OpenSpec.upto fnRankMakeSpec)

/-- 'laws.FnValueBeside', WHERE WHAT IT READS IS OF BULK AT MOST 1048576: true; the input reads as it did. -/
def fnValueBesideUptoRow : OpenClaim := { program := "ythdemjfllfhhpaa", sum := "8c27ba34c47e4a3a5480b8930d62c6f2130eec2bfddd187281ad3d1ac74908e8", func := "loop.example/tableminors/laws.FnValueBeside", spec := "fnValueBeside", unfollowed := true, recurses := true, apart := false, narrowed := true }
def FnValueBesideUptoSaid : Prop := fnValueBesideUptoRow.holds Try.pinned (OpenSpec.upto fnValueBesideSpec)

/-- 'laws.FnJacobi', WHERE WHAT IT READS IS OF BULK AT MOST 1048576: true; the input reads as it did. -/
def fnJacobiUptoRow : OpenClaim := { program := "ythdemjfllfhhpaa", sum := "8c27ba34c47e4a3a5480b8930d62c6f2130eec2bfddd187281ad3d1ac74908e8", func := "loop.example/tableminors/laws.FnJacobi", spec := "fnJacobi", unfollowed := true, recurses := true, apart := false, narrowed := true }
def FnJacobiUptoSaid : Prop := fnJacobiUptoRow.holds Try.pinned (OpenSpec.upto fnJacobiSpec)

/-- 'laws.FnPair', WHERE WHAT IT READS IS OF BULK AT MOST 1048576: true; the input reads as it did. -/
def fnPairUptoRow : OpenClaim := { program := "ythdemjfllfhhpaa", sum := "8c27ba34c47e4a3a5480b8930d62c6f2130eec2bfddd187281ad3d1ac74908e8", func := "loop.example/tableminors/laws.FnPair", spec := "fnPair", unfollowed := true, recurses := true, apart := false, narrowed := true }
def FnPairUptoSaid : Prop := fnPairUptoRow.holds Try.pinned (OpenSpec.upto fnPairSpec)

/-- 'laws.FnExactTableTurn', WHERE WHAT IT READS IS OF BULK AT MOST 1048576: true; the input reads as it did. -/
def fnExactTableTurnUptoRow : OpenClaim := { program := "ythdemjfllfhhpaa", sum := "8c27ba34c47e4a3a5480b8930d62c6f2130eec2bfddd187281ad3d1ac74908e8", func := "loop.example/tableminors/laws.FnExactTableTurn", spec := "fnExactTableTurn", unfollowed := true, recurses := true, apart := false, narrowed := true }
def FnExactTableTurnUptoSaid : Prop := fnExactTableTurnUptoRow.holds Try.pinned (OpenSpec.upto fnExactTableTurnSpec)

/-- 'laws.FnExactTableUnit', WHERE WHAT IT READS IS OF BULK AT MOST 1048576: true; the input reads as it did. -/
def fnExactTableUnitUptoRow : OpenClaim := { program := "ythdemjfllfhhpaa", sum := "8c27ba34c47e4a3a5480b8930d62c6f2130eec2bfddd187281ad3d1ac74908e8", func := "loop.example/tableminors/laws.FnExactTableUnit", spec := "fnExactTableUnit", unfollowed := true, recurses := true, apart := false, narrowed := true }
def FnExactTableUnitUptoSaid : Prop := fnExactTableUnitUptoRow.holds Try.pinned (OpenSpec.upto fnExactTableUnitSpec)

end Rows
end Go.Proofs.Ythdemjfllfhhpaa
