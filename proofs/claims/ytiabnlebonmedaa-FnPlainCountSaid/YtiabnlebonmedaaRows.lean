/-
  No cell of these rows narrows 'for every input' (looked for: loops, veiled, ifaces, maps, wideKeys, modest, calm, conditions, laid).
  DERIVED. THE GIVEN ROWS OF THIS SEAT. 10 by the template 'for every input the law returns true; each argument reads behind the call as it read before'; 0 by the template 'total and deterministic' (their statements: YtiabnlebonmedaaTotals.lean).
  GIVEN WITH THE SEED: the statements are not yours to turn. If you find one false, say at which input.
  Laid BY PROGRAM, IN A SANDBOX (cutbox-rows.mjs): the forced cells as the released guide's own fill.sh prints them over the translation 20ce2f8aa2ed5cbc… (all of the seat's roots in one cut). By AI agents, Wed Nov 11 2026. No macro, syntax, notation, axiom, sorry.
-/
import Derived.Test.YtiabnlebonmedaaChecked
import GoSem.Claim
import GoSem.ClaimJoined
import GoSem.ClaimMapViews
import Derived.JoinedTies
import Derived.KernelRfl
namespace Go.Proofs.Ytiabnlebonmedaa
/- THE CELL 'sum', in the pinned program and in every row, IS THE sha256 OF THE DUMP (.gsa) THAT YtiabnlebonmedaaProg.lean LOADS. Nothing in Lean hashes anything: it is a label: what it is worth is what the hold of that sum in a sandbox is worth. -/
noncomputable def Try.pinned : Pinned := { name := "ytiabnlebonmedaa", sum := "20ce2f8aa2ed5cbcc9ab812e65fd2507d616f30878f180ad12711b4d800079af", checked := Try.checked }
namespace Rows
def none {H : Type} : Left H := { results := [], args := [] }

/-- 'laws.FnPlain': WHATEVER THE INPUT: true; the input reads as it did. -/
def fnPlainSpec : ChangeSpec := { name := "fnPlain", fn := fun _ => fun
  | [d] => { results := [.lit (.bool true)], args := [d] }
  | _ => none }
def fnPlainRow : OpenClaim := { program := "ytiabnlebonmedaa", sum := "20ce2f8aa2ed5cbcc9ab812e65fd2507d616f30878f180ad12711b4d800079af", func := "loop.example/tableminors/laws.FnPlain", spec := "fnPlain", unfollowed := true, recurses := true, apart := false }
def FnPlainSaid : Prop := fnPlainRow.holds Try.pinned (OpenSpec.ofChange fnPlainSpec)

/-- ITS FALSE NEIGHBOUR: 'it returns false'. Refute it at one input. -/
def fnPlainWrong : ChangeSpec := { name := "fnPlain", fn := fun _ => fun
  | [d] => { results := [.lit (.bool false)], args := [d] }
  | _ => none }
def FnPlainWrongFalsely : Prop := fnPlainRow.holds Try.pinned (OpenSpec.ofChange fnPlainWrong)

/-- 'laws.FnPlainSums': WHATEVER THE INPUT: true; the input reads as it did. -/
def fnPlainSumsSpec : ChangeSpec := { name := "fnPlainSums", fn := fun _ => fun
  | [d] => { results := [.lit (.bool true)], args := [d] }
  | _ => none }
def fnPlainSumsRow : OpenClaim := { program := "ytiabnlebonmedaa", sum := "20ce2f8aa2ed5cbcc9ab812e65fd2507d616f30878f180ad12711b4d800079af", func := "loop.example/tableminors/laws.FnPlainSums", spec := "fnPlainSums", unfollowed := true, recurses := true, apart := false }
def FnPlainSumsSaid : Prop := fnPlainSumsRow.holds Try.pinned (OpenSpec.ofChange fnPlainSumsSpec)

/-- ITS FALSE NEIGHBOUR: 'it returns false'. Refute it at one input. -/
def fnPlainSumsWrong : ChangeSpec := { name := "fnPlainSums", fn := fun _ => fun
  | [d] => { results := [.lit (.bool false)], args := [d] }
  | _ => none }
def FnPlainSumsWrongFalsely : Prop := fnPlainSumsRow.holds Try.pinned (OpenSpec.ofChange fnPlainSumsWrong)

/-- 'laws.FnPlainCount': WHATEVER THE INPUT: true; the input reads as it did. -/
def fnPlainCountSpec : ChangeSpec := { name := "fnPlainCount", fn := fun _ => fun
  | [d] => { results := [.lit (.bool true)], args := [d] }
  | _ => none }
def fnPlainCountRow : OpenClaim := { program := "ytiabnlebonmedaa", sum := "20ce2f8aa2ed5cbcc9ab812e65fd2507d616f30878f180ad12711b4d800079af", func := "loop.example/tableminors/laws.FnPlainCount", spec := "fnPlainCount", unfollowed := true, recurses := true, apart := false }
def FnPlainCountSaid : Prop := fnPlainCountRow.holds Try.pinned (OpenSpec.ofChange fnPlainCountSpec)

/-- ITS FALSE NEIGHBOUR: 'it returns false'. Refute it at one input. -/
def fnPlainCountWrong : ChangeSpec := { name := "fnPlainCount", fn := fun _ => fun
  | [d] => { results := [.lit (.bool false)], args := [d] }
  | _ => none }
def FnPlainCountWrongFalsely : Prop := fnPlainCountRow.holds Try.pinned (OpenSpec.ofChange fnPlainCountWrong)

/-- 'laws.FnExactPlainOrders': WHATEVER THE INPUT: true; the input reads as it did. -/
def fnExactPlainOrdersSpec : ChangeSpec := { name := "fnExactPlainOrders", fn := fun _ => fun
  | [d] => { results := [.lit (.bool true)], args := [d] }
  | _ => none }
def fnExactPlainOrdersRow : OpenClaim := { program := "ytiabnlebonmedaa", sum := "20ce2f8aa2ed5cbcc9ab812e65fd2507d616f30878f180ad12711b4d800079af", func := "loop.example/tableminors/laws.FnExactPlainOrders", spec := "fnExactPlainOrders", unfollowed := true, recurses := true, apart := false }
def FnExactPlainOrdersSaid : Prop := fnExactPlainOrdersRow.holds Try.pinned (OpenSpec.ofChange fnExactPlainOrdersSpec)

/-- ITS FALSE NEIGHBOUR: 'it returns false'. Refute it at one input. -/
def fnExactPlainOrdersWrong : ChangeSpec := { name := "fnExactPlainOrders", fn := fun _ => fun
  | [d] => { results := [.lit (.bool false)], args := [d] }
  | _ => none }
def FnExactPlainOrdersWrongFalsely : Prop := fnExactPlainOrdersRow.holds Try.pinned (OpenSpec.ofChange fnExactPlainOrdersWrong)

/-- 'laws.FnExactPlainSums': WHATEVER THE INPUT: true; the input reads as it did. -/
def fnExactPlainSumsSpec : ChangeSpec := { name := "fnExactPlainSums", fn := fun _ => fun
  | [d] => { results := [.lit (.bool true)], args := [d] }
  | _ => none }
def fnExactPlainSumsRow : OpenClaim := { program := "ytiabnlebonmedaa", sum := "20ce2f8aa2ed5cbcc9ab812e65fd2507d616f30878f180ad12711b4d800079af", func := "loop.example/tableminors/laws.FnExactPlainSums", spec := "fnExactPlainSums", unfollowed := true, recurses := true, apart := false }
def FnExactPlainSumsSaid : Prop := fnExactPlainSumsRow.holds Try.pinned (OpenSpec.ofChange fnExactPlainSumsSpec)

/-- ITS FALSE NEIGHBOUR: 'it returns false'. Refute it at one input. -/
def fnExactPlainSumsWrong : ChangeSpec := { name := "fnExactPlainSums", fn := fun _ => fun
  | [d] => { results := [.lit (.bool false)], args := [d] }
  | _ => none }
def FnExactPlainSumsWrongFalsely : Prop := fnExactPlainSumsRow.holds Try.pinned (OpenSpec.ofChange fnExactPlainSumsWrong)

/-- 'laws.FnExactPlainCount': WHATEVER THE INPUT: true; the input reads as it did. -/
def fnExactPlainCountSpec : ChangeSpec := { name := "fnExactPlainCount", fn := fun _ => fun
  | [d] => { results := [.lit (.bool true)], args := [d] }
  | _ => none }
def fnExactPlainCountRow : OpenClaim := { program := "ytiabnlebonmedaa", sum := "20ce2f8aa2ed5cbcc9ab812e65fd2507d616f30878f180ad12711b4d800079af", func := "loop.example/tableminors/laws.FnExactPlainCount", spec := "fnExactPlainCount", unfollowed := true, recurses := true, apart := false }
def FnExactPlainCountSaid : Prop := fnExactPlainCountRow.holds Try.pinned (OpenSpec.ofChange fnExactPlainCountSpec)

/-- ITS FALSE NEIGHBOUR: 'it returns false'. Refute it at one input. -/
def fnExactPlainCountWrong : ChangeSpec := { name := "fnExactPlainCount", fn := fun _ => fun
  | [d] => { results := [.lit (.bool false)], args := [d] }
  | _ => none }
def FnExactPlainCountWrongFalsely : Prop := fnExactPlainCountRow.holds Try.pinned (OpenSpec.ofChange fnExactPlainCountWrong)

/-- 'laws.FnExactValueOrders': WHATEVER THE INPUT: true; the input reads as it did. -/
def fnExactValueOrdersSpec : ChangeSpec := { name := "fnExactValueOrders", fn := fun _ => fun
  | [d] => { results := [.lit (.bool true)], args := [d] }
  | _ => none }
def fnExactValueOrdersRow : OpenClaim := { program := "ytiabnlebonmedaa", sum := "20ce2f8aa2ed5cbcc9ab812e65fd2507d616f30878f180ad12711b4d800079af", func := "loop.example/tableminors/laws.FnExactValueOrders", spec := "fnExactValueOrders", unfollowed := true, recurses := true, apart := false }
def FnExactValueOrdersSaid : Prop := fnExactValueOrdersRow.holds Try.pinned (OpenSpec.ofChange fnExactValueOrdersSpec)

/-- ITS FALSE NEIGHBOUR: 'it returns false'. Refute it at one input. -/
def fnExactValueOrdersWrong : ChangeSpec := { name := "fnExactValueOrders", fn := fun _ => fun
  | [d] => { results := [.lit (.bool false)], args := [d] }
  | _ => none }
def FnExactValueOrdersWrongFalsely : Prop := fnExactValueOrdersRow.holds Try.pinned (OpenSpec.ofChange fnExactValueOrdersWrong)

/-- 'laws.FnByRows': WHATEVER THE INPUT: true; the input reads as it did. -/
def fnByRowsSpec : ChangeSpec := { name := "fnByRows", fn := fun _ => fun
  | [d] => { results := [.lit (.bool true)], args := [d] }
  | _ => none }
def fnByRowsRow : OpenClaim := { program := "ytiabnlebonmedaa", sum := "20ce2f8aa2ed5cbcc9ab812e65fd2507d616f30878f180ad12711b4d800079af", func := "loop.example/tableminors/laws.FnByRows", spec := "fnByRows", unfollowed := true, recurses := true, apart := false }
def FnByRowsSaid : Prop := fnByRowsRow.holds Try.pinned (OpenSpec.ofChange fnByRowsSpec)

/-- ITS FALSE NEIGHBOUR: 'it returns false'. Refute it at one input. -/
def fnByRowsWrong : ChangeSpec := { name := "fnByRows", fn := fun _ => fun
  | [d] => { results := [.lit (.bool false)], args := [d] }
  | _ => none }
def FnByRowsWrongFalsely : Prop := fnByRowsRow.holds Try.pinned (OpenSpec.ofChange fnByRowsWrong)

/-- 'laws.FnExactTableTurn': WHATEVER THE INPUT: true; the input reads as it did. -/
def fnExactTableTurnSpec : ChangeSpec := { name := "fnExactTableTurn", fn := fun _ => fun
  | [d] => { results := [.lit (.bool true)], args := [d] }
  | _ => none }
def fnExactTableTurnRow : OpenClaim := { program := "ytiabnlebonmedaa", sum := "20ce2f8aa2ed5cbcc9ab812e65fd2507d616f30878f180ad12711b4d800079af", func := "loop.example/tableminors/laws.FnExactTableTurn", spec := "fnExactTableTurn", unfollowed := true, recurses := true, apart := false }
def FnExactTableTurnSaid : Prop := fnExactTableTurnRow.holds Try.pinned (OpenSpec.ofChange fnExactTableTurnSpec)

/-- ITS FALSE NEIGHBOUR: 'it returns false'. Refute it at one input. -/
def fnExactTableTurnWrong : ChangeSpec := { name := "fnExactTableTurn", fn := fun _ => fun
  | [d] => { results := [.lit (.bool false)], args := [d] }
  | _ => none }
def FnExactTableTurnWrongFalsely : Prop := fnExactTableTurnRow.holds Try.pinned (OpenSpec.ofChange fnExactTableTurnWrong)

/-- 'laws.FnExactTableUnit': WHATEVER THE INPUT: true; the input reads as it did. -/
def fnExactTableUnitSpec : ChangeSpec := { name := "fnExactTableUnit", fn := fun _ => fun
  | [d] => { results := [.lit (.bool true)], args := [d] }
  | _ => none }
def fnExactTableUnitRow : OpenClaim := { program := "ytiabnlebonmedaa", sum := "20ce2f8aa2ed5cbcc9ab812e65fd2507d616f30878f180ad12711b4d800079af", func := "loop.example/tableminors/laws.FnExactTableUnit", spec := "fnExactTableUnit", unfollowed := true, recurses := true, apart := false }
def FnExactTableUnitSaid : Prop := fnExactTableUnitRow.holds Try.pinned (OpenSpec.ofChange fnExactTableUnitSpec)

/-- ITS FALSE NEIGHBOUR: 'it returns false'. Refute it at one input. -/
def fnExactTableUnitWrong : ChangeSpec := { name := "fnExactTableUnit", fn := fun _ => fun
  | [d] => { results := [.lit (.bool false)], args := [d] }
  | _ => none }
def FnExactTableUnitWrongFalsely : Prop := fnExactTableUnitRow.holds Try.pinned (OpenSpec.ofChange fnExactTableUnitWrong)

/- THE SECOND FORM. 'bulk': how many values and letters a reading holds, each counted each time it is reached (what is shared counts as often as it is met; a slice's spare places count too). A statement '..UptoSaid' is the law's where the arguments, and the package variables that the reading takes, are together of bulk at most 1048576: NARROWER than '..Said'. Prove '..Said' where nothing that the law and all that it calls make is longer than what came in: it says more and counts as full. Else prove '..UptoSaid'. A law counts once. -/
mutual
def uptoBulk {H : Type} : DataW H → Nat
  | .lit (.string bytes) => bytes.length + 1
  | .lit _ => 1
  | .nil => 1
  | .ptr d => uptoBulk d + 1
  | .slice elems spare => uptoBulkAll elems + uptoBulkAll spare + 1
  | .agg parts => uptoBulkAll parts + 1
  | .iface _ d => uptoBulk d + 1
  | .map entries => uptoBulkEntries entries + 1
  | .held _ => 1
def uptoBulkAll {H : Type} : List (DataW H) → Nat
  | [] => 0
  | d :: r => uptoBulk d + uptoBulkAll r
def uptoBulkEntries {H : Type} : List (Lit × DataW H) → Nat
  | [] => 0
  | x :: r => uptoBulkEntry x + uptoBulkEntries r
def uptoBulkEntry {H : Type} : Lit × DataW H → Nat
  | (.string bytes, d) => bytes.length + uptoBulk d + 1
  | (_, d) => uptoBulk d + 1
 end
def uptoSmall : (H : Type) → List (DataW H) → Bool := fun _ ds => decide (uptoBulkAll ds ≤ 1048576)
def OpenSpec.upto (s : _root_.Go.ChangeSpec) : _root_.Go.OpenSpec := { _root_.Go.OpenSpec.ofChange s with cond := some uptoSmall }

/-- 'laws.FnPlain', WHERE WHAT IT READS IS OF BULK AT MOST 1048576: true; the input reads as it did. -/
def fnPlainUptoRow : OpenClaim := { program := "ytiabnlebonmedaa", sum := "20ce2f8aa2ed5cbcc9ab812e65fd2507d616f30878f180ad12711b4d800079af", func := "loop.example/tableminors/laws.FnPlain", spec := "fnPlain", unfollowed := true, recurses := true, apart := false, narrowed := true }
def FnPlainUptoSaid : Prop := fnPlainUptoRow.holds Try.pinned (OpenSpec.upto fnPlainSpec)

/-- 'laws.FnPlainSums', WHERE WHAT IT READS IS OF BULK AT MOST 1048576: true; the input reads as it did. -/
def fnPlainSumsUptoRow : OpenClaim := { program := "ytiabnlebonmedaa", sum := "20ce2f8aa2ed5cbcc9ab812e65fd2507d616f30878f180ad12711b4d800079af", func := "loop.example/tableminors/laws.FnPlainSums", spec := "fnPlainSums", unfollowed := true, recurses := true, apart := false, narrowed := true }
def FnPlainSumsUptoSaid : Prop := fnPlainSumsUptoRow.holds Try.pinned (OpenSpec.upto fnPlainSumsSpec)

/-- 'laws.FnPlainCount', WHERE WHAT IT READS IS OF BULK AT MOST 1048576: true; the input reads as it did. -/
def fnPlainCountUptoRow : OpenClaim := { program := "ytiabnlebonmedaa", sum := "20ce2f8aa2ed5cbcc9ab812e65fd2507d616f30878f180ad12711b4d800079af", func := "loop.example/tableminors/laws.FnPlainCount", spec := "fnPlainCount", unfollowed := true, recurses := true, apart := false, narrowed := true }
def FnPlainCountUptoSaid : Prop := fnPlainCountUptoRow.holds Try.pinned (OpenSpec.upto fnPlainCountSpec)

/-- 'laws.FnExactPlainOrders', WHERE WHAT IT READS IS OF BULK AT MOST 1048576: true; the input reads as it did. -/
def fnExactPlainOrdersUptoRow : OpenClaim := { program := "ytiabnlebonmedaa", sum := "20ce2f8aa2ed5cbcc9ab812e65fd2507d616f30878f180ad12711b4d800079af", func := "loop.example/tableminors/laws.FnExactPlainOrders", spec := "fnExactPlainOrders", unfollowed := true, recurses := true, apart := false, narrowed := true }
def FnExactPlainOrdersUptoSaid : Prop := fnExactPlainOrdersUptoRow.holds Try.pinned (OpenSpec.upto fnExactPlainOrdersSpec)

/-- 'laws.FnExactPlainSums', WHERE WHAT IT READS IS OF BULK AT MOST 1048576: true; the input reads as it did. -/
def fnExactPlainSumsUptoRow : OpenClaim := { program := "ytiabnlebonmedaa", sum := "20ce2f8aa2ed5cbcc9ab812e65fd2507d616f30878f180ad12711b4d800079af", func := "loop.example/tableminors/laws.FnExactPlainSums", spec := "fnExactPlainSums", unfollowed := true, recurses := true, apart := false, narrowed := true }
def FnExactPlainSumsUptoSaid : Prop := fnExactPlainSumsUptoRow.holds Try.pinned (OpenSpec.upto fnExactPlainSumsSpec)

/-- 'laws.FnExactPlainCount', WHERE WHAT IT READS IS OF BULK AT MOST 1048576: true; the input reads as it did. -/
def fnExactPlainCountUptoRow : OpenClaim := { program := "ytiabnlebonmedaa", sum := "20ce2f8aa2ed5cbcc9ab812e65fd2507d616f30878f180ad12711b4d800079af", func := "loop.example/tableminors/laws.FnExactPlainCount", spec := "fnExactPlainCount", unfollowed := true, recurses := true, apart := false, narrowed := true }
def FnExactPlainCountUptoSaid : Prop := fnExactPlainCountUptoRow.holds Try.pinned (OpenSpec.upto fnExactPlainCountSpec)

/-- 'laws.FnExactValueOrders', WHERE WHAT IT READS IS OF BULK AT MOST 1048576: true; the input reads as it did. -/
def fnExactValueOrdersUptoRow : OpenClaim := { program := "ytiabnlebonmedaa", sum := "20ce2f8aa2ed5cbcc9ab812e65fd2507d616f30878f180ad12711b4d800079af", func := "loop.example/tableminors/laws.FnExactValueOrders", spec := "fnExactValueOrders", unfollowed := true, recurses := true, apart := false, narrowed := true }
def FnExactValueOrdersUptoSaid : Prop := fnExactValueOrdersUptoRow.holds Try.pinned (OpenSpec.upto fnExactValueOrdersSpec)

/-- 'laws.FnByRows', WHERE WHAT IT READS IS OF BULK AT MOST 1048576: true; the input reads as it did. -/
def fnByRowsUptoRow : OpenClaim := { program := "ytiabnlebonmedaa", sum := "20ce2f8aa2ed5cbcc9ab812e65fd2507d616f30878f180ad12711b4d800079af", func := "loop.example/tableminors/laws.FnByRows", spec := "fnByRows", unfollowed := true, recurses := true, apart := false, narrowed := true }
def FnByRowsUptoSaid : Prop := fnByRowsUptoRow.holds Try.pinned (OpenSpec.upto fnByRowsSpec)

/-- 'laws.FnExactTableTurn', WHERE WHAT IT READS IS OF BULK AT MOST 1048576: true; the input reads as it did. -/
def fnExactTableTurnUptoRow : OpenClaim := { program := "ytiabnlebonmedaa", sum := "20ce2f8aa2ed5cbcc9ab812e65fd2507d616f30878f180ad12711b4d800079af", func := "loop.example/tableminors/laws.FnExactTableTurn", spec := "fnExactTableTurn", unfollowed := true, recurses := true, apart := false, narrowed := true }
def FnExactTableTurnUptoSaid : Prop := fnExactTableTurnUptoRow.holds Try.pinned (OpenSpec.upto fnExactTableTurnSpec)

/-- 'laws.FnExactTableUnit', WHERE WHAT IT READS IS OF BULK AT MOST 1048576: true; the input reads as it did. -/
def fnExactTableUnitUptoRow : OpenClaim := { program := "ytiabnlebonmedaa", sum := "20ce2f8aa2ed5cbcc9ab812e65fd2507d616f30878f180ad12711b4d800079af", func := "loop.example/tableminors/laws.FnExactTableUnit", spec := "fnExactTableUnit", unfollowed := true, recurses := true, apart := false, narrowed := true }
def FnExactTableUnitUptoSaid : Prop := fnExactTableUnitUptoRow.holds Try.pinned (OpenSpec.upto fnExactTableUnitSpec)

end Rows
end Go.Proofs.Ytiabnlebonmedaa
