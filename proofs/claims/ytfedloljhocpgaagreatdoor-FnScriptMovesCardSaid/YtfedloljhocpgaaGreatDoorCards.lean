/-
  DERIVED. GIVEN WITH THE SEED: THE CARDS: each row of YtfedloljhocpgaaGreatDoorRows.lean that lists a variable, with what it lists TIED to the program's text (the seventh form; the later family's looks); each row that meets fmt, with fmt's text TOLD by the authors' own Lean function (tested against real Go, not proved from fmt's source: count such statements apart). THE CARD IS WHAT COUNTS. Prove the row's statement (the work); the ties are given (YtfedloljhocpgaaGreatDoorTie.lean); close each card by the builder's one call (the guide's Derived/Test/ToyasCard.lean, 'card_holds'). Laid BY PROGRAM, IN A SANDBOX (cutbox-door.mjs). By AI agents, Wed Nov 11 2026. No macro, syntax, notation, axiom, sorry.
-/
import Derived.Test.YtfedloljhocpgaaGreatDoorRows
import GoSem.ClaimSeven
namespace Go.Proofs.YtfedloljhocpgaaGreatDoor
namespace Rows

/-- THE TIED CARD OF 'laws.FnScriptMoves'. -/
def fnScriptMovesCard : Claim7 := { stood := { row := fnScriptMovesRow, standIns := [], harness := (true, "0d1b129385750fbba90c792786726f1c610045f1c72d2586c12911a3b5d666b4"), looks := true }, kinds := [], alts := [], goes := true, laidByText := true, laidKinds := [.data, .data, .data, .data, .handle, .sentinel, .sentinel, .data, .pinned], laidTests := true, laidLooks := .later }
def FnScriptMovesCardSaid : Prop := Claim7.holds Tryz.pinned (.plain (OpenSpec.ofChange fnScriptMovesSpec)) fnScriptMovesCard

/-- THE TIED CARD OF 'laws.FnScriptSteps'. -/
def fnScriptStepsCard : Claim7 := { stood := { row := fnScriptStepsRow, standIns := [], harness := (true, "0d1b129385750fbba90c792786726f1c610045f1c72d2586c12911a3b5d666b4"), looks := true }, kinds := [], alts := [], goes := true, laidByText := true, laidKinds := [.data, .data, .data, .data, .handle, .sentinel, .sentinel, .data, .pinned], laidTests := true, laidLooks := .later }
def FnScriptStepsCardSaid : Prop := Claim7.holds Tryz.pinned (.plain (OpenSpec.ofChange fnScriptStepsSpec)) fnScriptStepsCard

/-- THE SECOND FORM's CARD OF 'laws.FnScriptMoves'. -/
def fnScriptMovesUptoCard : Claim7 := { stood := { row := fnScriptMovesUptoRow, standIns := [], harness := (true, "0d1b129385750fbba90c792786726f1c610045f1c72d2586c12911a3b5d666b4"), looks := true }, kinds := [], alts := [], goes := true, laidByText := true, laidKinds := [.data, .data, .data, .data, .handle, .sentinel, .sentinel, .data, .pinned], laidTests := true, laidLooks := .later }
def FnScriptMovesUptoCardSaid : Prop := Claim7.holds Tryz.pinned (.plain (OpenSpec.upto fnScriptMovesSpec)) fnScriptMovesUptoCard

/-- THE SECOND FORM's CARD OF 'laws.FnScriptSteps'. -/
def fnScriptStepsUptoCard : Claim7 := { stood := { row := fnScriptStepsUptoRow, standIns := [], harness := (true, "0d1b129385750fbba90c792786726f1c610045f1c72d2586c12911a3b5d666b4"), looks := true }, kinds := [], alts := [], goes := true, laidByText := true, laidKinds := [.data, .data, .data, .data, .handle, .sentinel, .sentinel, .data, .pinned], laidTests := true, laidLooks := .later }
def FnScriptStepsUptoCardSaid : Prop := Claim7.holds Tryz.pinned (.plain (OpenSpec.upto fnScriptStepsSpec)) fnScriptStepsUptoCard
end Rows
end Go.Proofs.YtfedloljhocpgaaGreatDoor
