/-
  NARROWER THAN 'FOR EVERY INPUT', by the rows' own cells (each row's printed sentence says how): FnHalf: laid · FnHalfRows: laid · FnPairCount: laid · FnPairMake: laid · FnExactPairHalf: laid · FnExactPairCount: laid.
  DERIVED. THE GIVEN ROWS OF THIS SEAT. 6 by the template 'for every input the law returns true; each argument reads behind the call as it read before'; 0 by the template 'total and deterministic' (their statements: YtpimdgijjljejaaDoorTotals.lean).
  GIVEN WITH THE SEED: the statements are not yours to turn. If you find one false, say at which input.
  Laid BY PROGRAM, IN A SANDBOX (cutbox-rows.mjs): the forced cells as the released guide's own fill.sh prints them over the translation 71f103f4014eb0b8… (all of the seat's roots in one cut). By AI agents, Wed Nov 11 2026. No macro, syntax, notation, axiom, sorry.
-/
import Derived.Test.YtpimdgijjljejaaDoorChecked
import GoSem.Claim
import GoSem.ClaimJoined
import GoSem.ClaimMapViews
import Derived.JoinedTies
import Derived.KernelRfl
namespace Go.Proofs.YtpimdgijjljejaaDoor
/- THE CELL 'sum', in the pinned program and in every row, IS THE sha256 OF THE DUMP (.gsa) THAT YtpimdgijjljejaaDoorProg.lean LOADS. Nothing in Lean hashes anything: it is a label: what it is worth is what the hold of that sum in a sandbox is worth. -/
noncomputable def Tryd.pinned : Pinned := { name := "ytpimdgijjljejaadoor", sum := "71f103f4014eb0b8bc465cefeff886cf6ed9f9ba8bc3a876778aafc75031efe6", checked := Tryd.checked }
namespace Rows
def none {H : Type} : Left H := { results := [], args := [] }

/- WHAT THE LISTED PACKAGE-LEVEL VARIABLES READ AS WHEN THE CALL BEGINS. Each datum BY PROGRAM (the guide's laid-datum.mjs) off the statement by which the dump's own 'gosem.cut.vars' lays the variable. In a bare row this is a premise. The card (YtpimdgijjljejaaDoorCards.lean) ties it to the program's text. -/
def laid_math_bits_deBruijn32tab {H : Type} : DataW H := .agg [.lit (.int .u8 0), .lit (.int .u8 1), .lit (.int .u8 28), .lit (.int .u8 2), .lit (.int .u8 29), .lit (.int .u8 14), .lit (.int .u8 24), .lit (.int .u8 3), .lit (.int .u8 30), .lit (.int .u8 22), .lit (.int .u8 20), .lit (.int .u8 15), .lit (.int .u8 25), .lit (.int .u8 17), .lit (.int .u8 4), .lit (.int .u8 8), .lit (.int .u8 31), .lit (.int .u8 27), .lit (.int .u8 13), .lit (.int .u8 23), .lit (.int .u8 21), .lit (.int .u8 19), .lit (.int .u8 16), .lit (.int .u8 7), .lit (.int .u8 26), .lit (.int .u8 12), .lit (.int .u8 18), .lit (.int .u8 6), .lit (.int .u8 11), .lit (.int .u8 5), .lit (.int .u8 10), .lit (.int .u8 9)]
def laid_math_bits_deBruijn64tab {H : Type} : DataW H := .agg [.lit (.int .u8 0), .lit (.int .u8 1), .lit (.int .u8 56), .lit (.int .u8 2), .lit (.int .u8 57), .lit (.int .u8 49), .lit (.int .u8 28), .lit (.int .u8 3), .lit (.int .u8 61), .lit (.int .u8 58), .lit (.int .u8 42), .lit (.int .u8 50), .lit (.int .u8 38), .lit (.int .u8 29), .lit (.int .u8 17), .lit (.int .u8 4), .lit (.int .u8 62), .lit (.int .u8 47), .lit (.int .u8 59), .lit (.int .u8 36), .lit (.int .u8 45), .lit (.int .u8 43), .lit (.int .u8 51), .lit (.int .u8 22), .lit (.int .u8 53), .lit (.int .u8 39), .lit (.int .u8 33), .lit (.int .u8 30), .lit (.int .u8 24), .lit (.int .u8 18), .lit (.int .u8 12), .lit (.int .u8 5), .lit (.int .u8 63), .lit (.int .u8 55), .lit (.int .u8 48), .lit (.int .u8 27), .lit (.int .u8 60), .lit (.int .u8 41), .lit (.int .u8 37), .lit (.int .u8 16), .lit (.int .u8 46), .lit (.int .u8 35), .lit (.int .u8 44), .lit (.int .u8 21), .lit (.int .u8 52), .lit (.int .u8 32), .lit (.int .u8 23), .lit (.int .u8 11), .lit (.int .u8 54), .lit (.int .u8 26), .lit (.int .u8 40), .lit (.int .u8 15), .lit (.int .u8 34), .lit (.int .u8 20), .lit (.int .u8 31), .lit (.int .u8 10), .lit (.int .u8 25), .lit (.int .u8 14), .lit (.int .u8 19), .lit (.int .u8 9), .lit (.int .u8 13), .lit (.int .u8 8), .lit (.int .u8 7), .lit (.int .u8 6)]

/-- 'laws.FnHalf': WHATEVER THE INPUT: true; the input reads as it did. -/
def fnHalfSpec : ChangeSpec := { name := "fnHalf", fn := fun _ => fun
  | [d] => { results := [.lit (.bool true)], args := [d] }
  | _ => none }
def fnHalfRow : OpenClaim := { program := "ytpimdgijjljejaadoor", sum := "71f103f4014eb0b8bc465cefeff886cf6ed9f9ba8bc3a876778aafc75031efe6", func := "loop.example/tableminors/laws.FnHalf", spec := "fnHalf", unfollowed := true, recurses := true, named := ["math/bits.deBruijn32tab", "math/bits.deBruijn64tab"], apart := false, laid := [("math/bits.deBruijn32tab", laid_math_bits_deBruijn32tab), ("math/bits.deBruijn64tab", laid_math_bits_deBruijn64tab)] }
def FnHalfSaid : Prop := fnHalfRow.holds Tryd.pinned (OpenSpec.ofChange fnHalfSpec)

/-- ITS FALSE NEIGHBOUR: 'it returns false'. Refute it at one input. -/
def fnHalfWrong : ChangeSpec := { name := "fnHalf", fn := fun _ => fun
  | [d] => { results := [.lit (.bool false)], args := [d] }
  | _ => none }
def FnHalfWrongFalsely : Prop := fnHalfRow.holds Tryd.pinned (OpenSpec.ofChange fnHalfWrong)

/-- 'laws.FnHalfRows': WHATEVER THE INPUT: true; the input reads as it did. -/
def fnHalfRowsSpec : ChangeSpec := { name := "fnHalfRows", fn := fun _ => fun
  | [d] => { results := [.lit (.bool true)], args := [d] }
  | _ => none }
def fnHalfRowsRow : OpenClaim := { program := "ytpimdgijjljejaadoor", sum := "71f103f4014eb0b8bc465cefeff886cf6ed9f9ba8bc3a876778aafc75031efe6", func := "loop.example/tableminors/laws.FnHalfRows", spec := "fnHalfRows", unfollowed := true, recurses := true, named := ["math/bits.deBruijn32tab", "math/bits.deBruijn64tab"], apart := false, laid := [("math/bits.deBruijn32tab", laid_math_bits_deBruijn32tab), ("math/bits.deBruijn64tab", laid_math_bits_deBruijn64tab)] }
def FnHalfRowsSaid : Prop := fnHalfRowsRow.holds Tryd.pinned (OpenSpec.ofChange fnHalfRowsSpec)

/-- ITS FALSE NEIGHBOUR: 'it returns false'. Refute it at one input. -/
def fnHalfRowsWrong : ChangeSpec := { name := "fnHalfRows", fn := fun _ => fun
  | [d] => { results := [.lit (.bool false)], args := [d] }
  | _ => none }
def FnHalfRowsWrongFalsely : Prop := fnHalfRowsRow.holds Tryd.pinned (OpenSpec.ofChange fnHalfRowsWrong)

/-- 'laws.FnPairCount': WHATEVER THE INPUT: true; the input reads as it did. -/
def fnPairCountSpec : ChangeSpec := { name := "fnPairCount", fn := fun _ => fun
  | [d] => { results := [.lit (.bool true)], args := [d] }
  | _ => none }
def fnPairCountRow : OpenClaim := { program := "ytpimdgijjljejaadoor", sum := "71f103f4014eb0b8bc465cefeff886cf6ed9f9ba8bc3a876778aafc75031efe6", func := "loop.example/tableminors/laws.FnPairCount", spec := "fnPairCount", unfollowed := true, recurses := true, named := ["math/bits.deBruijn32tab", "math/bits.deBruijn64tab"], apart := false, laid := [("math/bits.deBruijn32tab", laid_math_bits_deBruijn32tab), ("math/bits.deBruijn64tab", laid_math_bits_deBruijn64tab)] }
def FnPairCountSaid : Prop := fnPairCountRow.holds Tryd.pinned (OpenSpec.ofChange fnPairCountSpec)

/-- ITS FALSE NEIGHBOUR: 'it returns false'. Refute it at one input. -/
def fnPairCountWrong : ChangeSpec := { name := "fnPairCount", fn := fun _ => fun
  | [d] => { results := [.lit (.bool false)], args := [d] }
  | _ => none }
def FnPairCountWrongFalsely : Prop := fnPairCountRow.holds Tryd.pinned (OpenSpec.ofChange fnPairCountWrong)

/-- 'laws.FnPairMake': WHATEVER THE INPUT: true; the input reads as it did. -/
def fnPairMakeSpec : ChangeSpec := { name := "fnPairMake", fn := fun _ => fun
  | [d] => { results := [.lit (.bool true)], args := [d] }
  | _ => none }
def fnPairMakeRow : OpenClaim := { program := "ytpimdgijjljejaadoor", sum := "71f103f4014eb0b8bc465cefeff886cf6ed9f9ba8bc3a876778aafc75031efe6", func := "loop.example/tableminors/laws.FnPairMake", spec := "fnPairMake", unfollowed := true, recurses := true, named := ["math/bits.deBruijn32tab", "math/bits.deBruijn64tab"], apart := false, laid := [("math/bits.deBruijn32tab", laid_math_bits_deBruijn32tab), ("math/bits.deBruijn64tab", laid_math_bits_deBruijn64tab)] }
def FnPairMakeSaid : Prop := fnPairMakeRow.holds Tryd.pinned (OpenSpec.ofChange fnPairMakeSpec)

/-- ITS FALSE NEIGHBOUR: 'it returns false'. Refute it at one input. -/
def fnPairMakeWrong : ChangeSpec := { name := "fnPairMake", fn := fun _ => fun
  | [d] => { results := [.lit (.bool false)], args := [d] }
  | _ => none }
def FnPairMakeWrongFalsely : Prop := fnPairMakeRow.holds Tryd.pinned (OpenSpec.ofChange fnPairMakeWrong)

/-- 'laws.FnExactPairHalf': WHATEVER THE INPUT: true; the input reads as it did. -/
def fnExactPairHalfSpec : ChangeSpec := { name := "fnExactPairHalf", fn := fun _ => fun
  | [d] => { results := [.lit (.bool true)], args := [d] }
  | _ => none }
def fnExactPairHalfRow : OpenClaim := { program := "ytpimdgijjljejaadoor", sum := "71f103f4014eb0b8bc465cefeff886cf6ed9f9ba8bc3a876778aafc75031efe6", func := "loop.example/tableminors/laws.FnExactPairHalf", spec := "fnExactPairHalf", unfollowed := true, recurses := true, named := ["math/bits.deBruijn32tab", "math/bits.deBruijn64tab"], apart := false, laid := [("math/bits.deBruijn32tab", laid_math_bits_deBruijn32tab), ("math/bits.deBruijn64tab", laid_math_bits_deBruijn64tab)] }
def FnExactPairHalfSaid : Prop := fnExactPairHalfRow.holds Tryd.pinned (OpenSpec.ofChange fnExactPairHalfSpec)

/-- ITS FALSE NEIGHBOUR: 'it returns false'. Refute it at one input. -/
def fnExactPairHalfWrong : ChangeSpec := { name := "fnExactPairHalf", fn := fun _ => fun
  | [d] => { results := [.lit (.bool false)], args := [d] }
  | _ => none }
def FnExactPairHalfWrongFalsely : Prop := fnExactPairHalfRow.holds Tryd.pinned (OpenSpec.ofChange fnExactPairHalfWrong)

/-- 'laws.FnExactPairCount': WHATEVER THE INPUT: true; the input reads as it did. -/
def fnExactPairCountSpec : ChangeSpec := { name := "fnExactPairCount", fn := fun _ => fun
  | [d] => { results := [.lit (.bool true)], args := [d] }
  | _ => none }
def fnExactPairCountRow : OpenClaim := { program := "ytpimdgijjljejaadoor", sum := "71f103f4014eb0b8bc465cefeff886cf6ed9f9ba8bc3a876778aafc75031efe6", func := "loop.example/tableminors/laws.FnExactPairCount", spec := "fnExactPairCount", unfollowed := true, recurses := true, named := ["math/bits.deBruijn32tab", "math/bits.deBruijn64tab"], apart := false, laid := [("math/bits.deBruijn32tab", laid_math_bits_deBruijn32tab), ("math/bits.deBruijn64tab", laid_math_bits_deBruijn64tab)] }
def FnExactPairCountSaid : Prop := fnExactPairCountRow.holds Tryd.pinned (OpenSpec.ofChange fnExactPairCountSpec)

/-- ITS FALSE NEIGHBOUR: 'it returns false'. Refute it at one input. -/
def fnExactPairCountWrong : ChangeSpec := { name := "fnExactPairCount", fn := fun _ => fun
  | [d] => { results := [.lit (.bool false)], args := [d] }
  | _ => none }
def FnExactPairCountWrongFalsely : Prop := fnExactPairCountRow.holds Tryd.pinned (OpenSpec.ofChange fnExactPairCountWrong)

/- THE SECOND FORM. 'bulk': how many values and letters a reading holds, each counted each time it is reached (what is shared counts as often as it is met; a slice's spare places count too). A statement '..UptoSaid' is the law's where the arguments, and the package variables that the reading takes, are together of bulk at most 1048576: NARROWER than '..Said'. Prove '..Said' where nothing that the law and all that it calls make is longer than what came in: it says more and counts as full. Else prove '..UptoSaid'. A law counts once. -/
mutual
def uptoBulk {H : Type} : DataW H → Nat
  | .lit (.string bytes) => bytes.length + 1
  | .lit _ => 1
  | .nil => 1
  | .ptr d => uptoBulk d + 1
  | .slice elems spare => uptoBulkAll elems + uptoBulkAll spare + 1
  | .agg parts => uptoBulkAll parts + 1
  | .iface _ d => uptoBulk d + 1
  | .map entries => uptoBulkEntries entries + 1
  | .held _ => 1
def uptoBulkAll {H : Type} : List (DataW H) → Nat
  | [] => 0
  | d :: r => uptoBulk d + uptoBulkAll r
def uptoBulkEntries {H : Type} : List (Lit × DataW H) → Nat
  | [] => 0
  | x :: r => uptoBulkEntry x + uptoBulkEntries r
def uptoBulkEntry {H : Type} : Lit × DataW H → Nat
  | (.string bytes, d) => bytes.length + uptoBulk d + 1
  | (_, d) => uptoBulk d + 1
 end
def uptoSmall : (H : Type) → List (DataW H) → Bool := fun _ ds => decide (uptoBulkAll ds ≤ 1048576)
def OpenSpec.upto (s : _root_.Go.ChangeSpec) : _root_.Go.OpenSpec := { _root_.Go.OpenSpec.ofChange s with cond := some uptoSmall }

/-- 'laws.FnHalf', WHERE WHAT IT READS IS OF BULK AT MOST 1048576: true; the input reads as it did. -/
def fnHalfUptoRow : OpenClaim := { program := "ytpimdgijjljejaadoor", sum := "71f103f4014eb0b8bc465cefeff886cf6ed9f9ba8bc3a876778aafc75031efe6", func := "loop.example/tableminors/laws.FnHalf", spec := "fnHalf", unfollowed := true, recurses := true, named := ["math/bits.deBruijn32tab", "math/bits.deBruijn64tab"], apart := false, laid := [("math/bits.deBruijn32tab", laid_math_bits_deBruijn32tab), ("math/bits.deBruijn64tab", laid_math_bits_deBruijn64tab)], narrowed := true }
def FnHalfUptoSaid : Prop := fnHalfUptoRow.holds Tryd.pinned (OpenSpec.upto fnHalfSpec)

/-- 'laws.FnHalfRows', WHERE WHAT IT READS IS OF BULK AT MOST 1048576: true; the input reads as it did. -/
def fnHalfRowsUptoRow : OpenClaim := { program := "ytpimdgijjljejaadoor", sum := "71f103f4014eb0b8bc465cefeff886cf6ed9f9ba8bc3a876778aafc75031efe6", func := "loop.example/tableminors/laws.FnHalfRows", spec := "fnHalfRows", unfollowed := true, recurses := true, named := ["math/bits.deBruijn32tab", "math/bits.deBruijn64tab"], apart := false, laid := [("math/bits.deBruijn32tab", laid_math_bits_deBruijn32tab), ("math/bits.deBruijn64tab", laid_math_bits_deBruijn64tab)], narrowed := true }
def FnHalfRowsUptoSaid : Prop := fnHalfRowsUptoRow.holds Tryd.pinned (OpenSpec.upto fnHalfRowsSpec)

/-- 'laws.FnPairCount', WHERE WHAT IT READS IS OF BULK AT MOST 1048576: true; the input reads as it did. -/
def fnPairCountUptoRow : OpenClaim := { program := "ytpimdgijjljejaadoor", sum := "71f103f4014eb0b8bc465cefeff886cf6ed9f9ba8bc3a876778aafc75031efe6", func := "loop.example/tableminors/laws.FnPairCount", spec := "fnPairCount", unfollowed := true, recurses := true, named := ["math/bits.deBruijn32tab", "math/bits.deBruijn64tab"], apart := false, laid := [("math/bits.deBruijn32tab", laid_math_bits_deBruijn32tab), ("math/bits.deBruijn64tab", laid_math_bits_deBruijn64tab)], narrowed := true }
def FnPairCountUptoSaid : Prop := fnPairCountUptoRow.holds Tryd.pinned (OpenSpec.upto fnPairCountSpec)

/-- 'laws.FnPairMake', WHERE WHAT IT READS IS OF BULK AT MOST 1048576: true; the input reads as it did. -/
def fnPairMakeUptoRow : OpenClaim := { program := "ytpimdgijjljejaadoor", sum := "71f103f4014eb0b8bc465cefeff886cf6ed9f9ba8bc3a876778aafc75031efe6", func := "loop.example/tableminors/laws.FnPairMake", spec := "fnPairMake", unfollowed := true, recurses := true, named := ["math/bits.deBruijn32tab", "math/bits.deBruijn64tab"], apart := false, laid := [("math/bits.deBruijn32tab", laid_math_bits_deBruijn32tab), ("math/bits.deBruijn64tab", laid_math_bits_deBruijn64tab)], narrowed := true }
def FnPairMakeUptoSaid : Prop := fnPairMakeUptoRow.holds Tryd.pinned (OpenSpec.upto fnPairMakeSpec)

/-- 'laws.FnExactPairHalf', WHERE WHAT IT READS IS OF BULK AT MOST 1048576: true; the input reads as it did. -/
def fnExactPairHalfUptoRow : OpenClaim := { program := "ytpimdgijjljejaadoor", sum := "71f103f4014eb0b8bc465cefeff886cf6ed9f9ba8bc3a876778aafc75031efe6", func := "loop.example/tableminors/laws.FnExactPairHalf", spec := "fnExactPairHalf", unfollowed := true, recurses := true, named := ["math/bits.deBruijn32tab", "math/bits.deBruijn64tab"], apart := false, laid := [("math/bits.deBruijn32tab", laid_math_bits_deBruijn32tab), ("math/bits.deBruijn64tab", laid_math_bits_deBruijn64tab)], narrowed := true }
def FnExactPairHalfUptoSaid : Prop := fnExactPairHalfUptoRow.holds Tryd.pinned (OpenSpec.upto fnExactPairHalfSpec)

/-- 'laws.FnExactPairCount', WHERE WHAT IT READS IS OF BULK AT MOST 1048576: true; the input reads as it did. -/
def fnExactPairCountUptoRow : OpenClaim := { program := "ytpimdgijjljejaadoor", sum := "71f103f4014eb0b8bc465cefeff886cf6ed9f9ba8bc3a876778aafc75031efe6", func := "loop.example/tableminors/laws.FnExactPairCount", spec := "fnExactPairCount", unfollowed := true, recurses := true, named := ["math/bits.deBruijn32tab", "math/bits.deBruijn64tab"], apart := false, laid := [("math/bits.deBruijn32tab", laid_math_bits_deBruijn32tab), ("math/bits.deBruijn64tab", laid_math_bits_deBruijn64tab)], narrowed := true }
def FnExactPairCountUptoSaid : Prop := fnExactPairCountUptoRow.holds Tryd.pinned (OpenSpec.upto fnExactPairCountSpec)

end Rows
end Go.Proofs.YtpimdgijjljejaaDoor
