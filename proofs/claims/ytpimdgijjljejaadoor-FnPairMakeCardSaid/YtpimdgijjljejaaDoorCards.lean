/-
  DERIVED. GIVEN WITH THE SEED: THE CARDS: each row of YtpimdgijjljejaaDoorRows.lean that lists a variable, with what it lists TIED to the program's text (the seventh form; the later family's looks); each row that meets fmt, with fmt's text TOLD by the authors' own Lean function (tested against real Go, not proved from fmt's source: count such statements apart). THE CARD IS WHAT COUNTS. Prove the row's statement (the work); the ties are given (YtpimdgijjljejaaDoorTie.lean); close each card by the builder's one call (the guide's Derived/Test/ToyasCard.lean, 'card_holds'). Laid BY PROGRAM, IN A SANDBOX (cutbox-door.mjs). By AI agents, Wed Nov 11 2026. No macro, syntax, notation, axiom, sorry.
-/
import Derived.Test.YtpimdgijjljejaaDoorRows
import GoSem.ClaimSeven
namespace Go.Proofs.YtpimdgijjljejaaDoor
namespace Rows

/-- THE TIED CARD OF 'laws.FnHalf'. -/
def fnHalfCard : Claim7 := { stood := { row := fnHalfRow, standIns := [], harness := (true, "d3b0142cd6a9acccb218762374900c17860f305bc42aaa171f300eb8fcf88183"), looks := false }, kinds := [], alts := [], laidByText := true, laidKinds := [.data, .data], laidTests := true, laidLooks := .later }
def FnHalfCardSaid : Prop := Claim7.holds Tryd.pinned (.plain (OpenSpec.ofChange fnHalfSpec)) fnHalfCard

/-- THE TIED CARD OF 'laws.FnHalfRows'. -/
def fnHalfRowsCard : Claim7 := { stood := { row := fnHalfRowsRow, standIns := [], harness := (true, "d3b0142cd6a9acccb218762374900c17860f305bc42aaa171f300eb8fcf88183"), looks := false }, kinds := [], alts := [], laidByText := true, laidKinds := [.data, .data], laidTests := true, laidLooks := .later }
def FnHalfRowsCardSaid : Prop := Claim7.holds Tryd.pinned (.plain (OpenSpec.ofChange fnHalfRowsSpec)) fnHalfRowsCard

/-- THE TIED CARD OF 'laws.FnPairCount'. -/
def fnPairCountCard : Claim7 := { stood := { row := fnPairCountRow, standIns := [], harness := (true, "d3b0142cd6a9acccb218762374900c17860f305bc42aaa171f300eb8fcf88183"), looks := false }, kinds := [], alts := [], laidByText := true, laidKinds := [.data, .data], laidTests := true, laidLooks := .later }
def FnPairCountCardSaid : Prop := Claim7.holds Tryd.pinned (.plain (OpenSpec.ofChange fnPairCountSpec)) fnPairCountCard

/-- THE TIED CARD OF 'laws.FnPairMake'. -/
def fnPairMakeCard : Claim7 := { stood := { row := fnPairMakeRow, standIns := [], harness := (true, "d3b0142cd6a9acccb218762374900c17860f305bc42aaa171f300eb8fcf88183"), looks := false }, kinds := [], alts := [], laidByText := true, laidKinds := [.data, .data], laidTests := true, laidLooks := .later }
def FnPairMakeCardSaid : Prop := Claim7.holds Tryd.pinned (.plain (OpenSpec.ofChange fnPairMakeSpec)) fnPairMakeCard

/-- THE TIED CARD OF 'laws.FnExactPairHalf'. -/
def fnExactPairHalfCard : Claim7 := { stood := { row := fnExactPairHalfRow, standIns := [], harness := (true, "d3b0142cd6a9acccb218762374900c17860f305bc42aaa171f300eb8fcf88183"), looks := false }, kinds := [], alts := [], laidByText := true, laidKinds := [.data, .data], laidTests := true, laidLooks := .later }
def FnExactPairHalfCardSaid : Prop := Claim7.holds Tryd.pinned (.plain (OpenSpec.ofChange fnExactPairHalfSpec)) fnExactPairHalfCard

/-- THE TIED CARD OF 'laws.FnExactPairCount'. -/
def fnExactPairCountCard : Claim7 := { stood := { row := fnExactPairCountRow, standIns := [], harness := (true, "d3b0142cd6a9acccb218762374900c17860f305bc42aaa171f300eb8fcf88183"), looks := false }, kinds := [], alts := [], laidByText := true, laidKinds := [.data, .data], laidTests := true, laidLooks := .later }
def FnExactPairCountCardSaid : Prop := Claim7.holds Tryd.pinned (.plain (OpenSpec.ofChange fnExactPairCountSpec)) fnExactPairCountCard

/-- THE SECOND FORM's CARD OF 'laws.FnHalf'. -/
def fnHalfUptoCard : Claim7 := { stood := { row := fnHalfUptoRow, standIns := [], harness := (true, "d3b0142cd6a9acccb218762374900c17860f305bc42aaa171f300eb8fcf88183"), looks := false }, kinds := [], alts := [], laidByText := true, laidKinds := [.data, .data], laidTests := true, laidLooks := .later }
def FnHalfUptoCardSaid : Prop := Claim7.holds Tryd.pinned (.plain (OpenSpec.upto fnHalfSpec)) fnHalfUptoCard

/-- THE SECOND FORM's CARD OF 'laws.FnHalfRows'. -/
def fnHalfRowsUptoCard : Claim7 := { stood := { row := fnHalfRowsUptoRow, standIns := [], harness := (true, "d3b0142cd6a9acccb218762374900c17860f305bc42aaa171f300eb8fcf88183"), looks := false }, kinds := [], alts := [], laidByText := true, laidKinds := [.data, .data], laidTests := true, laidLooks := .later }
def FnHalfRowsUptoCardSaid : Prop := Claim7.holds Tryd.pinned (.plain (OpenSpec.upto fnHalfRowsSpec)) fnHalfRowsUptoCard

/-- THE SECOND FORM's CARD OF 'laws.FnPairCount'. -/
def fnPairCountUptoCard : Claim7 := { stood := { row := fnPairCountUptoRow, standIns := [], harness := (true, "d3b0142cd6a9acccb218762374900c17860f305bc42aaa171f300eb8fcf88183"), looks := false }, kinds := [], alts := [], laidByText := true, laidKinds := [.data, .data], laidTests := true, laidLooks := .later }
def FnPairCountUptoCardSaid : Prop := Claim7.holds Tryd.pinned (.plain (OpenSpec.upto fnPairCountSpec)) fnPairCountUptoCard

/-- THE SECOND FORM's CARD OF 'laws.FnPairMake'. -/
def fnPairMakeUptoCard : Claim7 := { stood := { row := fnPairMakeUptoRow, standIns := [], harness := (true, "d3b0142cd6a9acccb218762374900c17860f305bc42aaa171f300eb8fcf88183"), looks := false }, kinds := [], alts := [], laidByText := true, laidKinds := [.data, .data], laidTests := true, laidLooks := .later }
def FnPairMakeUptoCardSaid : Prop := Claim7.holds Tryd.pinned (.plain (OpenSpec.upto fnPairMakeSpec)) fnPairMakeUptoCard

/-- THE SECOND FORM's CARD OF 'laws.FnExactPairHalf'. -/
def fnExactPairHalfUptoCard : Claim7 := { stood := { row := fnExactPairHalfUptoRow, standIns := [], harness := (true, "d3b0142cd6a9acccb218762374900c17860f305bc42aaa171f300eb8fcf88183"), looks := false }, kinds := [], alts := [], laidByText := true, laidKinds := [.data, .data], laidTests := true, laidLooks := .later }
def FnExactPairHalfUptoCardSaid : Prop := Claim7.holds Tryd.pinned (.plain (OpenSpec.upto fnExactPairHalfSpec)) fnExactPairHalfUptoCard

/-- THE SECOND FORM's CARD OF 'laws.FnExactPairCount'. -/
def fnExactPairCountUptoCard : Claim7 := { stood := { row := fnExactPairCountUptoRow, standIns := [], harness := (true, "d3b0142cd6a9acccb218762374900c17860f305bc42aaa171f300eb8fcf88183"), looks := false }, kinds := [], alts := [], laidByText := true, laidKinds := [.data, .data], laidTests := true, laidLooks := .later }
def FnExactPairCountUptoCardSaid : Prop := Claim7.holds Tryd.pinned (.plain (OpenSpec.upto fnExactPairCountSpec)) fnExactPairCountUptoCard
end Rows
end Go.Proofs.YtpimdgijjljejaaDoor
