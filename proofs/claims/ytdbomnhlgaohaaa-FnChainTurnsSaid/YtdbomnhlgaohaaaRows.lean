/-
  No cell of these rows narrows 'for every input' (looked for: loops, veiled, ifaces, maps, wideKeys, modest, calm, conditions, laid).
  DERIVED. THE GIVEN ROWS OF THIS SEAT. 12 by the template 'for every input the law returns true; each argument reads behind the call as it read before'; 0 by the template 'total and deterministic' (their statements: YtdbomnhlgaohaaaTotals.lean).
  GIVEN WITH THE SEED: the statements are not yours to turn. If you find one false, say at which input.
  Laid BY PROGRAM, IN A SANDBOX (cutbox-rows.mjs): the forced cells as the released guide's own fill.sh prints them over the translation 70ba077776ba286a… (all of the seat's roots in one cut). By AI agents, Wed Nov 11 2026. No macro, syntax, notation, axiom, sorry.
-/
import Derived.Test.YtdbomnhlgaohaaaChecked
import GoSem.Claim
import GoSem.ClaimJoined
import GoSem.ClaimMapViews
import Derived.JoinedTies
import Derived.KernelRfl
namespace Go.Proofs.Ytdbomnhlgaohaaa
/- THE CELL 'sum', in the pinned program and in every row, IS THE sha256 OF THE DUMP (.gsa) THAT YtdbomnhlgaohaaaProg.lean LOADS. Nothing in Lean hashes anything: it is a label: what it is worth is what the hold of that sum in a sandbox is worth. -/
noncomputable def Try.pinned : Pinned := { name := "ytdbomnhlgaohaaa", sum := "70ba077776ba286a5e41ce2a8d39cfe0de9f41d428bf66e0e5f9d35188673260", checked := Try.checked }
namespace Rows
def none {H : Type} : Left H := { results := [], args := [] }

/-- 'laws.FnChain': WHATEVER THE INPUT: true; the input reads as it did. -/
def fnChainSpec : ChangeSpec := { name := "fnChain", fn := fun _ => fun
  | [d] => { results := [.lit (.bool true)], args := [d] }
  | _ => none }
def fnChainRow : OpenClaim := { program := "ytdbomnhlgaohaaa", sum := "70ba077776ba286a5e41ce2a8d39cfe0de9f41d428bf66e0e5f9d35188673260", func := "loop.example/tableminors/laws.FnChain", spec := "fnChain", recurses := true, apart := false }
def FnChainSaid : Prop := fnChainRow.holds Try.pinned (OpenSpec.ofChange fnChainSpec)

/-- ITS FALSE NEIGHBOUR: 'it returns false'. Refute it at one input. -/
def fnChainWrong : ChangeSpec := { name := "fnChain", fn := fun _ => fun
  | [d] => { results := [.lit (.bool false)], args := [d] }
  | _ => none }
def FnChainWrongFalsely : Prop := fnChainRow.holds Try.pinned (OpenSpec.ofChange fnChainWrong)

/-- 'laws.FnChainTable': WHATEVER THE INPUT: true; the input reads as it did. -/
def fnChainTableSpec : ChangeSpec := { name := "fnChainTable", fn := fun _ => fun
  | [d] => { results := [.lit (.bool true)], args := [d] }
  | _ => none }
def fnChainTableRow : OpenClaim := { program := "ytdbomnhlgaohaaa", sum := "70ba077776ba286a5e41ce2a8d39cfe0de9f41d428bf66e0e5f9d35188673260", func := "loop.example/tableminors/laws.FnChainTable", spec := "fnChainTable", unfollowed := true, recurses := true, apart := false }
def FnChainTableSaid : Prop := fnChainTableRow.holds Try.pinned (OpenSpec.ofChange fnChainTableSpec)

/-- ITS FALSE NEIGHBOUR: 'it returns false'. Refute it at one input. -/
def fnChainTableWrong : ChangeSpec := { name := "fnChainTable", fn := fun _ => fun
  | [d] => { results := [.lit (.bool false)], args := [d] }
  | _ => none }
def FnChainTableWrongFalsely : Prop := fnChainTableRow.holds Try.pinned (OpenSpec.ofChange fnChainTableWrong)

/-- 'laws.FnChainPairs': WHATEVER THE INPUT: true; the input reads as it did. -/
def fnChainPairsSpec : ChangeSpec := { name := "fnChainPairs", fn := fun _ => fun
  | [d] => { results := [.lit (.bool true)], args := [d] }
  | _ => none }
def fnChainPairsRow : OpenClaim := { program := "ytdbomnhlgaohaaa", sum := "70ba077776ba286a5e41ce2a8d39cfe0de9f41d428bf66e0e5f9d35188673260", func := "loop.example/tableminors/laws.FnChainPairs", spec := "fnChainPairs", recurses := true, apart := false }
def FnChainPairsSaid : Prop := fnChainPairsRow.holds Try.pinned (OpenSpec.ofChange fnChainPairsSpec)

/-- ITS FALSE NEIGHBOUR: 'it returns false'. Refute it at one input. -/
def fnChainPairsWrong : ChangeSpec := { name := "fnChainPairs", fn := fun _ => fun
  | [d] => { results := [.lit (.bool false)], args := [d] }
  | _ => none }
def FnChainPairsWrongFalsely : Prop := fnChainPairsRow.holds Try.pinned (OpenSpec.ofChange fnChainPairsWrong)

/-- 'laws.FnChainParts': WHATEVER THE INPUT: true; the input reads as it did. -/
def fnChainPartsSpec : ChangeSpec := { name := "fnChainParts", fn := fun _ => fun
  | [d] => { results := [.lit (.bool true)], args := [d] }
  | _ => none }
def fnChainPartsRow : OpenClaim := { program := "ytdbomnhlgaohaaa", sum := "70ba077776ba286a5e41ce2a8d39cfe0de9f41d428bf66e0e5f9d35188673260", func := "loop.example/tableminors/laws.FnChainParts", spec := "fnChainParts", recurses := true, apart := false }
def FnChainPartsSaid : Prop := fnChainPartsRow.holds Try.pinned (OpenSpec.ofChange fnChainPartsSpec)

/-- ITS FALSE NEIGHBOUR: 'it returns false'. Refute it at one input. -/
def fnChainPartsWrong : ChangeSpec := { name := "fnChainParts", fn := fun _ => fun
  | [d] => { results := [.lit (.bool false)], args := [d] }
  | _ => none }
def FnChainPartsWrongFalsely : Prop := fnChainPartsRow.holds Try.pinned (OpenSpec.ofChange fnChainPartsWrong)

/-- 'laws.FnChainTurns': WHATEVER THE INPUT: true; the input reads as it did. -/
def fnChainTurnsSpec : ChangeSpec := { name := "fnChainTurns", fn := fun _ => fun
  | [d] => { results := [.lit (.bool true)], args := [d] }
  | _ => none }
def fnChainTurnsRow : OpenClaim := { program := "ytdbomnhlgaohaaa", sum := "70ba077776ba286a5e41ce2a8d39cfe0de9f41d428bf66e0e5f9d35188673260", func := "loop.example/tableminors/laws.FnChainTurns", spec := "fnChainTurns", unfollowed := true, recurses := true, apart := false }
def FnChainTurnsSaid : Prop := fnChainTurnsRow.holds Try.pinned (OpenSpec.ofChange fnChainTurnsSpec)

/-- ITS FALSE NEIGHBOUR: 'it returns false'. Refute it at one input. -/
def fnChainTurnsWrong : ChangeSpec := { name := "fnChainTurns", fn := fun _ => fun
  | [d] => { results := [.lit (.bool false)], args := [d] }
  | _ => none }
def FnChainTurnsWrongFalsely : Prop := fnChainTurnsRow.holds Try.pinned (OpenSpec.ofChange fnChainTurnsWrong)

/-- 'laws.FnExactChainValue': WHATEVER THE INPUT: true; the input reads as it did. -/
def fnExactChainValueSpec : ChangeSpec := { name := "fnExactChainValue", fn := fun _ => fun
  | [d] => { results := [.lit (.bool true)], args := [d] }
  | _ => none }
def fnExactChainValueRow : OpenClaim := { program := "ytdbomnhlgaohaaa", sum := "70ba077776ba286a5e41ce2a8d39cfe0de9f41d428bf66e0e5f9d35188673260", func := "loop.example/tableminors/laws.FnExactChainValue", spec := "fnExactChainValue", recurses := true, apart := false }
def FnExactChainValueSaid : Prop := fnExactChainValueRow.holds Try.pinned (OpenSpec.ofChange fnExactChainValueSpec)

/-- ITS FALSE NEIGHBOUR: 'it returns false'. Refute it at one input. -/
def fnExactChainValueWrong : ChangeSpec := { name := "fnExactChainValue", fn := fun _ => fun
  | [d] => { results := [.lit (.bool false)], args := [d] }
  | _ => none }
def FnExactChainValueWrongFalsely : Prop := fnExactChainValueRow.holds Try.pinned (OpenSpec.ofChange fnExactChainValueWrong)

/-- 'laws.FnExactChainTable': WHATEVER THE INPUT: true; the input reads as it did. -/
def fnExactChainTableSpec : ChangeSpec := { name := "fnExactChainTable", fn := fun _ => fun
  | [d] => { results := [.lit (.bool true)], args := [d] }
  | _ => none }
def fnExactChainTableRow : OpenClaim := { program := "ytdbomnhlgaohaaa", sum := "70ba077776ba286a5e41ce2a8d39cfe0de9f41d428bf66e0e5f9d35188673260", func := "loop.example/tableminors/laws.FnExactChainTable", spec := "fnExactChainTable", unfollowed := true, recurses := true, apart := false }
def FnExactChainTableSaid : Prop := fnExactChainTableRow.holds Try.pinned (OpenSpec.ofChange fnExactChainTableSpec)

/-- ITS FALSE NEIGHBOUR: 'it returns false'. Refute it at one input. -/
def fnExactChainTableWrong : ChangeSpec := { name := "fnExactChainTable", fn := fun _ => fun
  | [d] => { results := [.lit (.bool false)], args := [d] }
  | _ => none }
def FnExactChainTableWrongFalsely : Prop := fnExactChainTableRow.holds Try.pinned (OpenSpec.ofChange fnExactChainTableWrong)

/-- 'laws.FnExactChainPairs': WHATEVER THE INPUT: true; the input reads as it did. -/
def fnExactChainPairsSpec : ChangeSpec := { name := "fnExactChainPairs", fn := fun _ => fun
  | [d] => { results := [.lit (.bool true)], args := [d] }
  | _ => none }
def fnExactChainPairsRow : OpenClaim := { program := "ytdbomnhlgaohaaa", sum := "70ba077776ba286a5e41ce2a8d39cfe0de9f41d428bf66e0e5f9d35188673260", func := "loop.example/tableminors/laws.FnExactChainPairs", spec := "fnExactChainPairs", recurses := true, apart := false }
def FnExactChainPairsSaid : Prop := fnExactChainPairsRow.holds Try.pinned (OpenSpec.ofChange fnExactChainPairsSpec)

/-- ITS FALSE NEIGHBOUR: 'it returns false'. Refute it at one input. -/
def fnExactChainPairsWrong : ChangeSpec := { name := "fnExactChainPairs", fn := fun _ => fun
  | [d] => { results := [.lit (.bool false)], args := [d] }
  | _ => none }
def FnExactChainPairsWrongFalsely : Prop := fnExactChainPairsRow.holds Try.pinned (OpenSpec.ofChange fnExactChainPairsWrong)

/-- 'laws.FnExactChainParts': WHATEVER THE INPUT: true; the input reads as it did. -/
def fnExactChainPartsSpec : ChangeSpec := { name := "fnExactChainParts", fn := fun _ => fun
  | [d] => { results := [.lit (.bool true)], args := [d] }
  | _ => none }
def fnExactChainPartsRow : OpenClaim := { program := "ytdbomnhlgaohaaa", sum := "70ba077776ba286a5e41ce2a8d39cfe0de9f41d428bf66e0e5f9d35188673260", func := "loop.example/tableminors/laws.FnExactChainParts", spec := "fnExactChainParts", recurses := true, apart := false }
def FnExactChainPartsSaid : Prop := fnExactChainPartsRow.holds Try.pinned (OpenSpec.ofChange fnExactChainPartsSpec)

/-- ITS FALSE NEIGHBOUR: 'it returns false'. Refute it at one input. -/
def fnExactChainPartsWrong : ChangeSpec := { name := "fnExactChainParts", fn := fun _ => fun
  | [d] => { results := [.lit (.bool false)], args := [d] }
  | _ => none }
def FnExactChainPartsWrongFalsely : Prop := fnExactChainPartsRow.holds Try.pinned (OpenSpec.ofChange fnExactChainPartsWrong)

/-- 'laws.FnExactChainTurns': WHATEVER THE INPUT: true; the input reads as it did. -/
def fnExactChainTurnsSpec : ChangeSpec := { name := "fnExactChainTurns", fn := fun _ => fun
  | [d] => { results := [.lit (.bool true)], args := [d] }
  | _ => none }
def fnExactChainTurnsRow : OpenClaim := { program := "ytdbomnhlgaohaaa", sum := "70ba077776ba286a5e41ce2a8d39cfe0de9f41d428bf66e0e5f9d35188673260", func := "loop.example/tableminors/laws.FnExactChainTurns", spec := "fnExactChainTurns", unfollowed := true, recurses := true, apart := false }
def FnExactChainTurnsSaid : Prop := fnExactChainTurnsRow.holds Try.pinned (OpenSpec.ofChange fnExactChainTurnsSpec)

/-- ITS FALSE NEIGHBOUR: 'it returns false'. Refute it at one input. -/
def fnExactChainTurnsWrong : ChangeSpec := { name := "fnExactChainTurns", fn := fun _ => fun
  | [d] => { results := [.lit (.bool false)], args := [d] }
  | _ => none }
def FnExactChainTurnsWrongFalsely : Prop := fnExactChainTurnsRow.holds Try.pinned (OpenSpec.ofChange fnExactChainTurnsWrong)

/-- 'laws.FnExactTableTurn': WHATEVER THE INPUT: true; the input reads as it did. -/
def fnExactTableTurnSpec : ChangeSpec := { name := "fnExactTableTurn", fn := fun _ => fun
  | [d] => { results := [.lit (.bool true)], args := [d] }
  | _ => none }
def fnExactTableTurnRow : OpenClaim := { program := "ytdbomnhlgaohaaa", sum := "70ba077776ba286a5e41ce2a8d39cfe0de9f41d428bf66e0e5f9d35188673260", func := "loop.example/tableminors/laws.FnExactTableTurn", spec := "fnExactTableTurn", unfollowed := true, recurses := true, apart := false }
def FnExactTableTurnSaid : Prop := fnExactTableTurnRow.holds Try.pinned (OpenSpec.ofChange fnExactTableTurnSpec)

/-- ITS FALSE NEIGHBOUR: 'it returns false'. Refute it at one input. -/
def fnExactTableTurnWrong : ChangeSpec := { name := "fnExactTableTurn", fn := fun _ => fun
  | [d] => { results := [.lit (.bool false)], args := [d] }
  | _ => none }
def FnExactTableTurnWrongFalsely : Prop := fnExactTableTurnRow.holds Try.pinned (OpenSpec.ofChange fnExactTableTurnWrong)

/-- 'laws.FnExactTableUnit': WHATEVER THE INPUT: true; the input reads as it did. -/
def fnExactTableUnitSpec : ChangeSpec := { name := "fnExactTableUnit", fn := fun _ => fun
  | [d] => { results := [.lit (.bool true)], args := [d] }
  | _ => none }
def fnExactTableUnitRow : OpenClaim := { program := "ytdbomnhlgaohaaa", sum := "70ba077776ba286a5e41ce2a8d39cfe0de9f41d428bf66e0e5f9d35188673260", func := "loop.example/tableminors/laws.FnExactTableUnit", spec := "fnExactTableUnit", unfollowed := true, recurses := true, apart := false }
def FnExactTableUnitSaid : Prop := fnExactTableUnitRow.holds Try.pinned (OpenSpec.ofChange fnExactTableUnitSpec)

/-- ITS FALSE NEIGHBOUR: 'it returns false'. Refute it at one input. -/
def fnExactTableUnitWrong : ChangeSpec := { name := "fnExactTableUnit", fn := fun _ => fun
  | [d] => { results := [.lit (.bool false)], args := [d] }
  | _ => none }
def FnExactTableUnitWrongFalsely : Prop := fnExactTableUnitRow.holds Try.pinned (OpenSpec.ofChange fnExactTableUnitWrong)

/- THE SECOND FORM. 'bulk': how many values and letters a reading holds, each counted each time it is reached (what is shared counts as often as it is met; a slice's spare places count too). A statement '..UptoSaid' is the law's where the arguments, and the package variables that the reading takes, are together of bulk at most 1048576: NARROWER than '..Said'. Prove '..Said' where nothing that the law and all that it calls make is longer than what came in: it says more and counts as full. Else prove '..UptoSaid'. A law counts once. -/
mutual
def uptoBulk {H : Type} : DataW H → Nat
  | .lit (.string bytes) => bytes.length + 1
  | .lit _ => 1
  | .nil => 1
  | .ptr d => uptoBulk d + 1
  | .slice elems spare => uptoBulkAll elems + uptoBulkAll spare + 1
  | .agg parts => uptoBulkAll parts + 1
  | .iface _ d => uptoBulk d + 1
  | .map entries => uptoBulkEntries entries + 1
  | .held _ => 1
def uptoBulkAll {H : Type} : List (DataW H) → Nat
  | [] => 0
  | d :: r => uptoBulk d + uptoBulkAll r
def uptoBulkEntries {H : Type} : List (Lit × DataW H) → Nat
  | [] => 0
  | x :: r => uptoBulkEntry x + uptoBulkEntries r
def uptoBulkEntry {H : Type} : Lit × DataW H → Nat
  | (.string bytes, d) => bytes.length + uptoBulk d + 1
  | (_, d) => uptoBulk d + 1
 end
def uptoSmall : (H : Type) → List (DataW H) → Bool := fun _ ds => decide (uptoBulkAll ds ≤ 1048576)
def OpenSpec.upto (s : _root_.Go.ChangeSpec) : _root_.Go.OpenSpec := { _root_.Go.OpenSpec.ofChange s with cond := some uptoSmall }

/-- 'laws.FnChain', WHERE WHAT IT READS IS OF BULK AT MOST 1048576: true; the input reads as it did. -/
def fnChainUptoRow : OpenClaim := { program := "ytdbomnhlgaohaaa", sum := "70ba077776ba286a5e41ce2a8d39cfe0de9f41d428bf66e0e5f9d35188673260", func := "loop.example/tableminors/laws.FnChain", spec := "fnChain", recurses := true, apart := false, narrowed := true }
def FnChainUptoSaid : Prop := fnChainUptoRow.holds Try.pinned (OpenSpec.upto fnChainSpec)

/-- 'laws.FnChainTable', WHERE WHAT IT READS IS OF BULK AT MOST 1048576: true; the input reads as it did. -/
def fnChainTableUptoRow : OpenClaim := { program := "ytdbomnhlgaohaaa", sum := "70ba077776ba286a5e41ce2a8d39cfe0de9f41d428bf66e0e5f9d35188673260", func := "loop.example/tableminors/laws.FnChainTable", spec := "fnChainTable", unfollowed := true, recurses := true, apart := false, narrowed := true }
def FnChainTableUptoSaid : Prop := fnChainTableUptoRow.holds Try.pinned (OpenSpec.upto fnChainTableSpec)

/-- 'laws.FnChainPairs', WHERE WHAT IT READS IS OF BULK AT MOST 1048576: true; the input reads as it did. -/
def fnChainPairsUptoRow : OpenClaim := { program := "ytdbomnhlgaohaaa", sum := "70ba077776ba286a5e41ce2a8d39cfe0de9f41d428bf66e0e5f9d35188673260", func := "loop.example/tableminors/laws.FnChainPairs", spec := "fnChainPairs", recurses := true, apart := false, narrowed := true }
def FnChainPairsUptoSaid : Prop := fnChainPairsUptoRow.holds Try.pinned (OpenSpec.upto fnChainPairsSpec)

/-- 'laws.FnChainParts', WHERE WHAT IT READS IS OF BULK AT MOST 1048576: true; the input reads as it did. -/
def fnChainPartsUptoRow : OpenClaim := { program := "ytdbomnhlgaohaaa", sum := "70ba077776ba286a5e41ce2a8d39cfe0de9f41d428bf66e0e5f9d35188673260", func := "loop.example/tableminors/laws.FnChainParts", spec := "fnChainParts", recurses := true, apart := false, narrowed := true }
def FnChainPartsUptoSaid : Prop := fnChainPartsUptoRow.holds Try.pinned (OpenSpec.upto fnChainPartsSpec)

/-- 'laws.FnChainTurns', WHERE WHAT IT READS IS OF BULK AT MOST 1048576: true; the input reads as it did. -/
def fnChainTurnsUptoRow : OpenClaim := { program := "ytdbomnhlgaohaaa", sum := "70ba077776ba286a5e41ce2a8d39cfe0de9f41d428bf66e0e5f9d35188673260", func := "loop.example/tableminors/laws.FnChainTurns", spec := "fnChainTurns", unfollowed := true, recurses := true, apart := false, narrowed := true }
def FnChainTurnsUptoSaid : Prop := fnChainTurnsUptoRow.holds Try.pinned (OpenSpec.upto fnChainTurnsSpec)

/-- 'laws.FnExactChainValue', WHERE WHAT IT READS IS OF BULK AT MOST 1048576: true; the input reads as it did. -/
def fnExactChainValueUptoRow : OpenClaim := { program := "ytdbomnhlgaohaaa", sum := "70ba077776ba286a5e41ce2a8d39cfe0de9f41d428bf66e0e5f9d35188673260", func := "loop.example/tableminors/laws.FnExactChainValue", spec := "fnExactChainValue", recurses := true, apart := false, narrowed := true }
def FnExactChainValueUptoSaid : Prop := fnExactChainValueUptoRow.holds Try.pinned (OpenSpec.upto fnExactChainValueSpec)

/-- 'laws.FnExactChainTable', WHERE WHAT IT READS IS OF BULK AT MOST 1048576: true; the input reads as it did. -/
def fnExactChainTableUptoRow : OpenClaim := { program := "ytdbomnhlgaohaaa", sum := "70ba077776ba286a5e41ce2a8d39cfe0de9f41d428bf66e0e5f9d35188673260", func := "loop.example/tableminors/laws.FnExactChainTable", spec := "fnExactChainTable", unfollowed := true, recurses := true, apart := false, narrowed := true }
def FnExactChainTableUptoSaid : Prop := fnExactChainTableUptoRow.holds Try.pinned (OpenSpec.upto fnExactChainTableSpec)

/-- 'laws.FnExactChainPairs', WHERE WHAT IT READS IS OF BULK AT MOST 1048576: true; the input reads as it did. -/
def fnExactChainPairsUptoRow : OpenClaim := { program := "ytdbomnhlgaohaaa", sum := "70ba077776ba286a5e41ce2a8d39cfe0de9f41d428bf66e0e5f9d35188673260", func := "loop.example/tableminors/laws.FnExactChainPairs", spec := "fnExactChainPairs", recurses := true, apart := false, narrowed := true }
def FnExactChainPairsUptoSaid : Prop := fnExactChainPairsUptoRow.holds Try.pinned (OpenSpec.upto fnExactChainPairsSpec)

/-- 'laws.FnExactChainParts', WHERE WHAT IT READS IS OF BULK AT MOST 1048576: true; the input reads as it did. -/
def fnExactChainPartsUptoRow : OpenClaim := { program := "ytdbomnhlgaohaaa", sum := "70ba077776ba286a5e41ce2a8d39cfe0de9f41d428bf66e0e5f9d35188673260", func := "loop.example/tableminors/laws.FnExactChainParts", spec := "fnExactChainParts", recurses := true, apart := false, narrowed := true }
def FnExactChainPartsUptoSaid : Prop := fnExactChainPartsUptoRow.holds Try.pinned (OpenSpec.upto fnExactChainPartsSpec)

/-- 'laws.FnExactChainTurns', WHERE WHAT IT READS IS OF BULK AT MOST 1048576: true; the input reads as it did. -/
def fnExactChainTurnsUptoRow : OpenClaim := { program := "ytdbomnhlgaohaaa", sum := "70ba077776ba286a5e41ce2a8d39cfe0de9f41d428bf66e0e5f9d35188673260", func := "loop.example/tableminors/laws.FnExactChainTurns", spec := "fnExactChainTurns", unfollowed := true, recurses := true, apart := false, narrowed := true }
def FnExactChainTurnsUptoSaid : Prop := fnExactChainTurnsUptoRow.holds Try.pinned (OpenSpec.upto fnExactChainTurnsSpec)

/-- 'laws.FnExactTableTurn', WHERE WHAT IT READS IS OF BULK AT MOST 1048576: true; the input reads as it did. -/
def fnExactTableTurnUptoRow : OpenClaim := { program := "ytdbomnhlgaohaaa", sum := "70ba077776ba286a5e41ce2a8d39cfe0de9f41d428bf66e0e5f9d35188673260", func := "loop.example/tableminors/laws.FnExactTableTurn", spec := "fnExactTableTurn", unfollowed := true, recurses := true, apart := false, narrowed := true }
def FnExactTableTurnUptoSaid : Prop := fnExactTableTurnUptoRow.holds Try.pinned (OpenSpec.upto fnExactTableTurnSpec)

/-- 'laws.FnExactTableUnit', WHERE WHAT IT READS IS OF BULK AT MOST 1048576: true; the input reads as it did. -/
def fnExactTableUnitUptoRow : OpenClaim := { program := "ytdbomnhlgaohaaa", sum := "70ba077776ba286a5e41ce2a8d39cfe0de9f41d428bf66e0e5f9d35188673260", func := "loop.example/tableminors/laws.FnExactTableUnit", spec := "fnExactTableUnit", unfollowed := true, recurses := true, apart := false, narrowed := true }
def FnExactTableUnitUptoSaid : Prop := fnExactTableUnitUptoRow.holds Try.pinned (OpenSpec.upto fnExactTableUnitSpec)

end Rows
end Go.Proofs.Ytdbomnhlgaohaaa
