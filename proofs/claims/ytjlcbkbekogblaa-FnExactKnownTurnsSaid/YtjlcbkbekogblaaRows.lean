/-
  No cell of these rows narrows 'for every input' (looked for: loops, veiled, ifaces, maps, wideKeys, modest, calm, conditions, laid).
  DERIVED. THE GIVEN ROWS OF THIS SEAT. 12 by the template 'for every input the law returns true; each argument reads behind the call as it read before'; 0 by the template 'total and deterministic' (their statements: YtjlcbkbekogblaaTotals.lean).
  GIVEN WITH THE SEED: the statements are not yours to turn. If you find one false, say at which input.
  Laid BY PROGRAM, IN A SANDBOX (cutbox-rows.mjs): the forced cells as the released guide's own fill.sh prints them over the translation 152d81fef0f88a60… (all of the seat's roots in one cut). By AI agents, Wed Nov 11 2026. No macro, syntax, notation, axiom, sorry.
-/
import Derived.Test.YtjlcbkbekogblaaChecked
import GoSem.Claim
import GoSem.ClaimJoined
import GoSem.ClaimMapViews
import Derived.JoinedTies
import Derived.KernelRfl
namespace Go.Proofs.Ytjlcbkbekogblaa
/- THE CELL 'sum', in the pinned program and in every row, IS THE sha256 OF THE DUMP (.gsa) THAT YtjlcbkbekogblaaProg.lean LOADS. Nothing in Lean hashes anything: it is a label: what it is worth is what the hold of that sum in a sandbox is worth. -/
noncomputable def Try.pinned : Pinned := { name := "ytjlcbkbekogblaa", sum := "152d81fef0f88a609a071f4e6abe1bfa8613a672ab33cdf2d49218109fd913fa", checked := Try.checked }
namespace Rows
def none {H : Type} : Left H := { results := [], args := [] }

/-- 'laws.FnExactTableTurn': WHATEVER THE INPUT: true; the input reads as it did. -/
def fnExactTableTurnSpec : ChangeSpec := { name := "fnExactTableTurn", fn := fun _ => fun
  | [d] => { results := [.lit (.bool true)], args := [d] }
  | _ => none }
def fnExactTableTurnRow : OpenClaim := { program := "ytjlcbkbekogblaa", sum := "152d81fef0f88a609a071f4e6abe1bfa8613a672ab33cdf2d49218109fd913fa", func := "loop.example/tableminors/laws.FnExactTableTurn", spec := "fnExactTableTurn", unfollowed := true, recurses := true, apart := false }
def FnExactTableTurnSaid : Prop := fnExactTableTurnRow.holds Try.pinned (OpenSpec.ofChange fnExactTableTurnSpec)

/-- ITS FALSE NEIGHBOUR: 'it returns false'. Refute it at one input. -/
def fnExactTableTurnWrong : ChangeSpec := { name := "fnExactTableTurn", fn := fun _ => fun
  | [d] => { results := [.lit (.bool false)], args := [d] }
  | _ => none }
def FnExactTableTurnWrongFalsely : Prop := fnExactTableTurnRow.holds Try.pinned (OpenSpec.ofChange fnExactTableTurnWrong)

/-- 'laws.FnExactTableUnit': WHATEVER THE INPUT: true; the input reads as it did. -/
def fnExactTableUnitSpec : ChangeSpec := { name := "fnExactTableUnit", fn := fun _ => fun
  | [d] => { results := [.lit (.bool true)], args := [d] }
  | _ => none }
def fnExactTableUnitRow : OpenClaim := { program := "ytjlcbkbekogblaa", sum := "152d81fef0f88a609a071f4e6abe1bfa8613a672ab33cdf2d49218109fd913fa", func := "loop.example/tableminors/laws.FnExactTableUnit", spec := "fnExactTableUnit", unfollowed := true, recurses := true, apart := false }
def FnExactTableUnitSaid : Prop := fnExactTableUnitRow.holds Try.pinned (OpenSpec.ofChange fnExactTableUnitSpec)

/-- ITS FALSE NEIGHBOUR: 'it returns false'. Refute it at one input. -/
def fnExactTableUnitWrong : ChangeSpec := { name := "fnExactTableUnit", fn := fun _ => fun
  | [d] => { results := [.lit (.bool false)], args := [d] }
  | _ => none }
def FnExactTableUnitWrongFalsely : Prop := fnExactTableUnitRow.holds Try.pinned (OpenSpec.ofChange fnExactTableUnitWrong)

/-- 'laws.FnExactKnownPowers': WHATEVER THE INPUT: true; the input reads as it did. -/
def fnExactKnownPowersSpec : ChangeSpec := { name := "fnExactKnownPowers", fn := fun _ => fun
  | [d] => { results := [.lit (.bool true)], args := [d] }
  | _ => none }
def fnExactKnownPowersRow : OpenClaim := { program := "ytjlcbkbekogblaa", sum := "152d81fef0f88a609a071f4e6abe1bfa8613a672ab33cdf2d49218109fd913fa", func := "loop.example/tableminors/laws.FnExactKnownPowers", spec := "fnExactKnownPowers", unfollowed := true, recurses := true, apart := false }
def FnExactKnownPowersSaid : Prop := fnExactKnownPowersRow.holds Try.pinned (OpenSpec.ofChange fnExactKnownPowersSpec)

/-- ITS FALSE NEIGHBOUR: 'it returns false'. Refute it at one input. -/
def fnExactKnownPowersWrong : ChangeSpec := { name := "fnExactKnownPowers", fn := fun _ => fun
  | [d] => { results := [.lit (.bool false)], args := [d] }
  | _ => none }
def FnExactKnownPowersWrongFalsely : Prop := fnExactKnownPowersRow.holds Try.pinned (OpenSpec.ofChange fnExactKnownPowersWrong)

/-- 'laws.FnExactKnownPowersValue': WHATEVER THE INPUT: true; the input reads as it did. -/
def fnExactKnownPowersValueSpec : ChangeSpec := { name := "fnExactKnownPowersValue", fn := fun _ => fun
  | [d] => { results := [.lit (.bool true)], args := [d] }
  | _ => none }
def fnExactKnownPowersValueRow : OpenClaim := { program := "ytjlcbkbekogblaa", sum := "152d81fef0f88a609a071f4e6abe1bfa8613a672ab33cdf2d49218109fd913fa", func := "loop.example/tableminors/laws.FnExactKnownPowersValue", spec := "fnExactKnownPowersValue", apart := false }
def FnExactKnownPowersValueSaid : Prop := fnExactKnownPowersValueRow.holds Try.pinned (OpenSpec.ofChange fnExactKnownPowersValueSpec)

/-- ITS FALSE NEIGHBOUR: 'it returns false'. Refute it at one input. -/
def fnExactKnownPowersValueWrong : ChangeSpec := { name := "fnExactKnownPowersValue", fn := fun _ => fun
  | [d] => { results := [.lit (.bool false)], args := [d] }
  | _ => none }
def FnExactKnownPowersValueWrongFalsely : Prop := fnExactKnownPowersValueRow.holds Try.pinned (OpenSpec.ofChange fnExactKnownPowersValueWrong)

/-- 'laws.FnExactKnownOnes': WHATEVER THE INPUT: true; the input reads as it did. -/
def fnExactKnownOnesSpec : ChangeSpec := { name := "fnExactKnownOnes", fn := fun _ => fun
  | [d1, d2, d3] => { results := [.lit (.bool true)], args := [d1, d2, d3] }
  | _ => none }
def fnExactKnownOnesRow : OpenClaim := { program := "ytjlcbkbekogblaa", sum := "152d81fef0f88a609a071f4e6abe1bfa8613a672ab33cdf2d49218109fd913fa", func := "loop.example/tableminors/laws.FnExactKnownOnes", spec := "fnExactKnownOnes", unfollowed := true, recurses := true, apart := false }
def FnExactKnownOnesSaid : Prop := fnExactKnownOnesRow.holds Try.pinned (OpenSpec.ofChange fnExactKnownOnesSpec)

/-- ITS FALSE NEIGHBOUR: 'it returns false'. Refute it at one input. -/
def fnExactKnownOnesWrong : ChangeSpec := { name := "fnExactKnownOnes", fn := fun _ => fun
  | [d1, d2, d3] => { results := [.lit (.bool false)], args := [d1, d2, d3] }
  | _ => none }
def FnExactKnownOnesWrongFalsely : Prop := fnExactKnownOnesRow.holds Try.pinned (OpenSpec.ofChange fnExactKnownOnesWrong)

/-- 'laws.FnExactKnownOnesValue': WHATEVER THE INPUT: true; the input reads as it did. -/
def fnExactKnownOnesValueSpec : ChangeSpec := { name := "fnExactKnownOnesValue", fn := fun _ => fun
  | [d1, d2, d3] => { results := [.lit (.bool true)], args := [d1, d2, d3] }
  | _ => none }
def fnExactKnownOnesValueRow : OpenClaim := { program := "ytjlcbkbekogblaa", sum := "152d81fef0f88a609a071f4e6abe1bfa8613a672ab33cdf2d49218109fd913fa", func := "loop.example/tableminors/laws.FnExactKnownOnesValue", spec := "fnExactKnownOnesValue", apart := false }
def FnExactKnownOnesValueSaid : Prop := fnExactKnownOnesValueRow.holds Try.pinned (OpenSpec.ofChange fnExactKnownOnesValueSpec)

/-- ITS FALSE NEIGHBOUR: 'it returns false'. Refute it at one input. -/
def fnExactKnownOnesValueWrong : ChangeSpec := { name := "fnExactKnownOnesValue", fn := fun _ => fun
  | [d1, d2, d3] => { results := [.lit (.bool false)], args := [d1, d2, d3] }
  | _ => none }
def FnExactKnownOnesValueWrongFalsely : Prop := fnExactKnownOnesValueRow.holds Try.pinned (OpenSpec.ofChange fnExactKnownOnesValueWrong)

/-- 'laws.FnExactKnownDivisors': WHATEVER THE INPUT: true; the input reads as it did. -/
def fnExactKnownDivisorsSpec : ChangeSpec := { name := "fnExactKnownDivisors", fn := fun _ => fun
  | [d] => { results := [.lit (.bool true)], args := [d] }
  | _ => none }
def fnExactKnownDivisorsRow : OpenClaim := { program := "ytjlcbkbekogblaa", sum := "152d81fef0f88a609a071f4e6abe1bfa8613a672ab33cdf2d49218109fd913fa", func := "loop.example/tableminors/laws.FnExactKnownDivisors", spec := "fnExactKnownDivisors", unfollowed := true, recurses := true, apart := false }
def FnExactKnownDivisorsSaid : Prop := fnExactKnownDivisorsRow.holds Try.pinned (OpenSpec.ofChange fnExactKnownDivisorsSpec)

/-- ITS FALSE NEIGHBOUR: 'it returns false'. Refute it at one input. -/
def fnExactKnownDivisorsWrong : ChangeSpec := { name := "fnExactKnownDivisors", fn := fun _ => fun
  | [d] => { results := [.lit (.bool false)], args := [d] }
  | _ => none }
def FnExactKnownDivisorsWrongFalsely : Prop := fnExactKnownDivisorsRow.holds Try.pinned (OpenSpec.ofChange fnExactKnownDivisorsWrong)

/-- 'laws.FnExactKnownDivisorsValue': WHATEVER THE INPUT: true; the input reads as it did. -/
def fnExactKnownDivisorsValueSpec : ChangeSpec := { name := "fnExactKnownDivisorsValue", fn := fun _ => fun
  | [d] => { results := [.lit (.bool true)], args := [d] }
  | _ => none }
def fnExactKnownDivisorsValueRow : OpenClaim := { program := "ytjlcbkbekogblaa", sum := "152d81fef0f88a609a071f4e6abe1bfa8613a672ab33cdf2d49218109fd913fa", func := "loop.example/tableminors/laws.FnExactKnownDivisorsValue", spec := "fnExactKnownDivisorsValue", apart := false }
def FnExactKnownDivisorsValueSaid : Prop := fnExactKnownDivisorsValueRow.holds Try.pinned (OpenSpec.ofChange fnExactKnownDivisorsValueSpec)

/-- ITS FALSE NEIGHBOUR: 'it returns false'. Refute it at one input. -/
def fnExactKnownDivisorsValueWrong : ChangeSpec := { name := "fnExactKnownDivisorsValue", fn := fun _ => fun
  | [d] => { results := [.lit (.bool false)], args := [d] }
  | _ => none }
def FnExactKnownDivisorsValueWrongFalsely : Prop := fnExactKnownDivisorsValueRow.holds Try.pinned (OpenSpec.ofChange fnExactKnownDivisorsValueWrong)

/-- 'laws.FnExactKnownLeast': WHATEVER THE INPUT: true; the input reads as it did. -/
def fnExactKnownLeastSpec : ChangeSpec := { name := "fnExactKnownLeast", fn := fun _ => fun
  | [d] => { results := [.lit (.bool true)], args := [d] }
  | _ => none }
def fnExactKnownLeastRow : OpenClaim := { program := "ytjlcbkbekogblaa", sum := "152d81fef0f88a609a071f4e6abe1bfa8613a672ab33cdf2d49218109fd913fa", func := "loop.example/tableminors/laws.FnExactKnownLeast", spec := "fnExactKnownLeast", unfollowed := true, recurses := true, apart := false }
def FnExactKnownLeastSaid : Prop := fnExactKnownLeastRow.holds Try.pinned (OpenSpec.ofChange fnExactKnownLeastSpec)

/-- ITS FALSE NEIGHBOUR: 'it returns false'. Refute it at one input. -/
def fnExactKnownLeastWrong : ChangeSpec := { name := "fnExactKnownLeast", fn := fun _ => fun
  | [d] => { results := [.lit (.bool false)], args := [d] }
  | _ => none }
def FnExactKnownLeastWrongFalsely : Prop := fnExactKnownLeastRow.holds Try.pinned (OpenSpec.ofChange fnExactKnownLeastWrong)

/-- 'laws.FnExactKnownSums': WHATEVER THE INPUT: true; the input reads as it did. -/
def fnExactKnownSumsSpec : ChangeSpec := { name := "fnExactKnownSums", fn := fun _ => fun
  | [d1, d2] => { results := [.lit (.bool true)], args := [d1, d2] }
  | _ => none }
def fnExactKnownSumsRow : OpenClaim := { program := "ytjlcbkbekogblaa", sum := "152d81fef0f88a609a071f4e6abe1bfa8613a672ab33cdf2d49218109fd913fa", func := "loop.example/tableminors/laws.FnExactKnownSums", spec := "fnExactKnownSums", unfollowed := true, recurses := true, apart := false }
def FnExactKnownSumsSaid : Prop := fnExactKnownSumsRow.holds Try.pinned (OpenSpec.ofChange fnExactKnownSumsSpec)

/-- ITS FALSE NEIGHBOUR: 'it returns false'. Refute it at one input. -/
def fnExactKnownSumsWrong : ChangeSpec := { name := "fnExactKnownSums", fn := fun _ => fun
  | [d1, d2] => { results := [.lit (.bool false)], args := [d1, d2] }
  | _ => none }
def FnExactKnownSumsWrongFalsely : Prop := fnExactKnownSumsRow.holds Try.pinned (OpenSpec.ofChange fnExactKnownSumsWrong)

/-- 'laws.FnExactKnownTurns': WHATEVER THE INPUT: true; the input reads as it did. -/
def fnExactKnownTurnsSpec : ChangeSpec := { name := "fnExactKnownTurns", fn := fun _ => fun
  | [d] => { results := [.lit (.bool true)], args := [d] }
  | _ => none }
def fnExactKnownTurnsRow : OpenClaim := { program := "ytjlcbkbekogblaa", sum := "152d81fef0f88a609a071f4e6abe1bfa8613a672ab33cdf2d49218109fd913fa", func := "loop.example/tableminors/laws.FnExactKnownTurns", spec := "fnExactKnownTurns", unfollowed := true, recurses := true, apart := false }
def FnExactKnownTurnsSaid : Prop := fnExactKnownTurnsRow.holds Try.pinned (OpenSpec.ofChange fnExactKnownTurnsSpec)

/-- ITS FALSE NEIGHBOUR: 'it returns false'. Refute it at one input. -/
def fnExactKnownTurnsWrong : ChangeSpec := { name := "fnExactKnownTurns", fn := fun _ => fun
  | [d] => { results := [.lit (.bool false)], args := [d] }
  | _ => none }
def FnExactKnownTurnsWrongFalsely : Prop := fnExactKnownTurnsRow.holds Try.pinned (OpenSpec.ofChange fnExactKnownTurnsWrong)

/-- 'laws.FnExactKnownTurnsSum': WHATEVER THE INPUT: true; the input reads as it did. -/
def fnExactKnownTurnsSumSpec : ChangeSpec := { name := "fnExactKnownTurnsSum", fn := fun _ => fun
  | [d] => { results := [.lit (.bool true)], args := [d] }
  | _ => none }
def fnExactKnownTurnsSumRow : OpenClaim := { program := "ytjlcbkbekogblaa", sum := "152d81fef0f88a609a071f4e6abe1bfa8613a672ab33cdf2d49218109fd913fa", func := "loop.example/tableminors/laws.FnExactKnownTurnsSum", spec := "fnExactKnownTurnsSum", apart := false }
def FnExactKnownTurnsSumSaid : Prop := fnExactKnownTurnsSumRow.holds Try.pinned (OpenSpec.ofChange fnExactKnownTurnsSumSpec)

/-- ITS FALSE NEIGHBOUR: 'it returns false'. Refute it at one input. -/
def fnExactKnownTurnsSumWrong : ChangeSpec := { name := "fnExactKnownTurnsSum", fn := fun _ => fun
  | [d] => { results := [.lit (.bool false)], args := [d] }
  | _ => none }
def FnExactKnownTurnsSumWrongFalsely : Prop := fnExactKnownTurnsSumRow.holds Try.pinned (OpenSpec.ofChange fnExactKnownTurnsSumWrong)

/- THE SECOND FORM. 'bulk': how many values and letters a reading holds, each counted each time it is reached (what is shared counts as often as it is met; a slice's spare places count too). A statement '..UptoSaid' is the law's where the arguments, and the package variables that the reading takes, are together of bulk at most 1048576: NARROWER than '..Said'. Prove '..Said' where nothing that the law and all that it calls make is longer than what came in: it says more and counts as full. Else prove '..UptoSaid'. A law counts once. -/
mutual
def uptoBulk {H : Type} : DataW H → Nat
  | .lit (.string bytes) => bytes.length + 1
  | .lit _ => 1
  | .nil => 1
  | .ptr d => uptoBulk d + 1
  | .slice elems spare => uptoBulkAll elems + uptoBulkAll spare + 1
  | .agg parts => uptoBulkAll parts + 1
  | .iface _ d => uptoBulk d + 1
  | .map entries => uptoBulkEntries entries + 1
  | .held _ => 1
def uptoBulkAll {H : Type} : List (DataW H) → Nat
  | [] => 0
  | d :: r => uptoBulk d + uptoBulkAll r
def uptoBulkEntries {H : Type} : List (Lit × DataW H) → Nat
  | [] => 0
  | x :: r => uptoBulkEntry x + uptoBulkEntries r
def uptoBulkEntry {H : Type} : Lit × DataW H → Nat
  | (.string bytes, d) => bytes.length + uptoBulk d + 1
  | (_, d) => uptoBulk d + 1
 end
def uptoSmall : (H : Type) → List (DataW H) → Bool := fun _ ds => decide (uptoBulkAll ds ≤ 1048576)
def OpenSpec.upto (s : _root_.Go.ChangeSpec) : _root_.Go.OpenSpec := { _root_.Go.OpenSpec.ofChange s with cond := some uptoSmall }

/-- 'laws.FnExactTableTurn', WHERE WHAT IT READS IS OF BULK AT MOST 1048576: true; the input reads as it did. -/
def fnExactTableTurnUptoRow : OpenClaim := { program := "ytjlcbkbekogblaa", sum := "152d81fef0f88a609a071f4e6abe1bfa8613a672ab33cdf2d49218109fd913fa", func := "loop.example/tableminors/laws.FnExactTableTurn", spec := "fnExactTableTurn", unfollowed := true, recurses := true, apart := false, narrowed := true }
def FnExactTableTurnUptoSaid : Prop := fnExactTableTurnUptoRow.holds Try.pinned (OpenSpec.upto fnExactTableTurnSpec)

/-- 'laws.FnExactTableUnit', WHERE WHAT IT READS IS OF BULK AT MOST 1048576: true; the input reads as it did. -/
def fnExactTableUnitUptoRow : OpenClaim := { program := "ytjlcbkbekogblaa", sum := "152d81fef0f88a609a071f4e6abe1bfa8613a672ab33cdf2d49218109fd913fa", func := "loop.example/tableminors/laws.FnExactTableUnit", spec := "fnExactTableUnit", unfollowed := true, recurses := true, apart := false, narrowed := true }
def FnExactTableUnitUptoSaid : Prop := fnExactTableUnitUptoRow.holds Try.pinned (OpenSpec.upto fnExactTableUnitSpec)

/-- 'laws.FnExactKnownPowers', WHERE WHAT IT READS IS OF BULK AT MOST 1048576: true; the input reads as it did. -/
def fnExactKnownPowersUptoRow : OpenClaim := { program := "ytjlcbkbekogblaa", sum := "152d81fef0f88a609a071f4e6abe1bfa8613a672ab33cdf2d49218109fd913fa", func := "loop.example/tableminors/laws.FnExactKnownPowers", spec := "fnExactKnownPowers", unfollowed := true, recurses := true, apart := false, narrowed := true }
def FnExactKnownPowersUptoSaid : Prop := fnExactKnownPowersUptoRow.holds Try.pinned (OpenSpec.upto fnExactKnownPowersSpec)

/-- 'laws.FnExactKnownPowersValue', WHERE WHAT IT READS IS OF BULK AT MOST 1048576: true; the input reads as it did. -/
def fnExactKnownPowersValueUptoRow : OpenClaim := { program := "ytjlcbkbekogblaa", sum := "152d81fef0f88a609a071f4e6abe1bfa8613a672ab33cdf2d49218109fd913fa", func := "loop.example/tableminors/laws.FnExactKnownPowersValue", spec := "fnExactKnownPowersValue", apart := false, narrowed := true }
def FnExactKnownPowersValueUptoSaid : Prop := fnExactKnownPowersValueUptoRow.holds Try.pinned (OpenSpec.upto fnExactKnownPowersValueSpec)

/-- 'laws.FnExactKnownOnes', WHERE WHAT IT READS IS OF BULK AT MOST 1048576: true; the input reads as it did. -/
def fnExactKnownOnesUptoRow : OpenClaim := { program := "ytjlcbkbekogblaa", sum := "152d81fef0f88a609a071f4e6abe1bfa8613a672ab33cdf2d49218109fd913fa", func := "loop.example/tableminors/laws.FnExactKnownOnes", spec := "fnExactKnownOnes", unfollowed := true, recurses := true, apart := false, narrowed := true }
def FnExactKnownOnesUptoSaid : Prop := fnExactKnownOnesUptoRow.holds Try.pinned (OpenSpec.upto fnExactKnownOnesSpec)

/-- 'laws.FnExactKnownOnesValue', WHERE WHAT IT READS IS OF BULK AT MOST 1048576: true; the input reads as it did. -/
def fnExactKnownOnesValueUptoRow : OpenClaim := { program := "ytjlcbkbekogblaa", sum := "152d81fef0f88a609a071f4e6abe1bfa8613a672ab33cdf2d49218109fd913fa", func := "loop.example/tableminors/laws.FnExactKnownOnesValue", spec := "fnExactKnownOnesValue", apart := false, narrowed := true }
def FnExactKnownOnesValueUptoSaid : Prop := fnExactKnownOnesValueUptoRow.holds Try.pinned (OpenSpec.upto fnExactKnownOnesValueSpec)

/-- 'laws.FnExactKnownDivisors', WHERE WHAT IT READS IS OF BULK AT MOST 1048576: true; the input reads as it did. -/
def fnExactKnownDivisorsUptoRow : OpenClaim := { program := "ytjlcbkbekogblaa", sum := "152d81fef0f88a609a071f4e6abe1bfa8613a672ab33cdf2d49218109fd913fa", func := "loop.example/tableminors/laws.FnExactKnownDivisors", spec := "fnExactKnownDivisors", unfollowed := true, recurses := true, apart := false, narrowed := true }
def FnExactKnownDivisorsUptoSaid : Prop := fnExactKnownDivisorsUptoRow.holds Try.pinned (OpenSpec.upto fnExactKnownDivisorsSpec)

/-- 'laws.FnExactKnownDivisorsValue', WHERE WHAT IT READS IS OF BULK AT MOST 1048576: true; the input reads as it did. -/
def fnExactKnownDivisorsValueUptoRow : OpenClaim := { program := "ytjlcbkbekogblaa", sum := "152d81fef0f88a609a071f4e6abe1bfa8613a672ab33cdf2d49218109fd913fa", func := "loop.example/tableminors/laws.FnExactKnownDivisorsValue", spec := "fnExactKnownDivisorsValue", apart := false, narrowed := true }
def FnExactKnownDivisorsValueUptoSaid : Prop := fnExactKnownDivisorsValueUptoRow.holds Try.pinned (OpenSpec.upto fnExactKnownDivisorsValueSpec)

/-- 'laws.FnExactKnownLeast', WHERE WHAT IT READS IS OF BULK AT MOST 1048576: true; the input reads as it did. -/
def fnExactKnownLeastUptoRow : OpenClaim := { program := "ytjlcbkbekogblaa", sum := "152d81fef0f88a609a071f4e6abe1bfa8613a672ab33cdf2d49218109fd913fa", func := "loop.example/tableminors/laws.FnExactKnownLeast", spec := "fnExactKnownLeast", unfollowed := true, recurses := true, apart := false, narrowed := true }
def FnExactKnownLeastUptoSaid : Prop := fnExactKnownLeastUptoRow.holds Try.pinned (OpenSpec.upto fnExactKnownLeastSpec)

/-- 'laws.FnExactKnownSums', WHERE WHAT IT READS IS OF BULK AT MOST 1048576: true; the input reads as it did. -/
def fnExactKnownSumsUptoRow : OpenClaim := { program := "ytjlcbkbekogblaa", sum := "152d81fef0f88a609a071f4e6abe1bfa8613a672ab33cdf2d49218109fd913fa", func := "loop.example/tableminors/laws.FnExactKnownSums", spec := "fnExactKnownSums", unfollowed := true, recurses := true, apart := false, narrowed := true }
def FnExactKnownSumsUptoSaid : Prop := fnExactKnownSumsUptoRow.holds Try.pinned (OpenSpec.upto fnExactKnownSumsSpec)

/-- 'laws.FnExactKnownTurns', WHERE WHAT IT READS IS OF BULK AT MOST 1048576: true; the input reads as it did. -/
def fnExactKnownTurnsUptoRow : OpenClaim := { program := "ytjlcbkbekogblaa", sum := "152d81fef0f88a609a071f4e6abe1bfa8613a672ab33cdf2d49218109fd913fa", func := "loop.example/tableminors/laws.FnExactKnownTurns", spec := "fnExactKnownTurns", unfollowed := true, recurses := true, apart := false, narrowed := true }
def FnExactKnownTurnsUptoSaid : Prop := fnExactKnownTurnsUptoRow.holds Try.pinned (OpenSpec.upto fnExactKnownTurnsSpec)

/-- 'laws.FnExactKnownTurnsSum', WHERE WHAT IT READS IS OF BULK AT MOST 1048576: true; the input reads as it did. -/
def fnExactKnownTurnsSumUptoRow : OpenClaim := { program := "ytjlcbkbekogblaa", sum := "152d81fef0f88a609a071f4e6abe1bfa8613a672ab33cdf2d49218109fd913fa", func := "loop.example/tableminors/laws.FnExactKnownTurnsSum", spec := "fnExactKnownTurnsSum", apart := false, narrowed := true }
def FnExactKnownTurnsSumUptoSaid : Prop := fnExactKnownTurnsSumUptoRow.holds Try.pinned (OpenSpec.upto fnExactKnownTurnsSumSpec)

end Rows
end Go.Proofs.Ytjlcbkbekogblaa
