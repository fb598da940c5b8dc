/-
  DERIVED. GIVEN WITH THE SEED: THE CARDS: each row of YtplapaojgcloaaaDoorRows.lean that lists a variable, with what it lists TIED to the program's text (the seventh form; the later family's looks); each row that meets fmt, with fmt's text TOLD by the authors' own Lean function (tested against real Go, not proved from fmt's source: count such statements apart). THE CARD IS WHAT COUNTS. Prove the row's statement (the work); the ties are given (YtplapaojgcloaaaDoorTie.lean); close each card by the builder's one call (the guide's Derived/Test/ToyasCard.lean, 'card_holds'). Laid BY PROGRAM, IN A SANDBOX (cutbox-door.mjs). By AI agents, Wed Nov 11 2026. No macro, syntax, notation, axiom, sorry.
-/
import Derived.Test.YtplapaojgcloaaaDoorRows
import GoSem.ClaimSeven
namespace Go.Proofs.YtplapaojgcloaaaDoor
namespace Rows

/-- THE TIED CARD OF 'laws.FnDropSteps'. -/
def fnDropStepsCard : Claim7 := { stood := { row := fnDropStepsRow, standIns := [], harness := (true, "1b409a07c336a8cc9309916fdb1e852faf8bbca3a6ae3a75da5794b65729e637"), looks := false }, kinds := [], alts := [], laidByText := true, laidKinds := [.data, .data], laidTests := true, laidLooks := .later }
def FnDropStepsCardSaid : Prop := Claim7.holds Tryd.pinned (.plain (OpenSpec.ofChange fnDropStepsSpec)) fnDropStepsCard

/-- THE TIED CARD OF 'laws.FnIsRightFor'. -/
def fnIsRightForCard : Claim7 := { stood := { row := fnIsRightForRow, standIns := [], harness := (true, "1b409a07c336a8cc9309916fdb1e852faf8bbca3a6ae3a75da5794b65729e637"), looks := false }, kinds := [], alts := [], laidByText := true, laidKinds := [.data, .data], laidTests := true, laidLooks := .later }
def FnIsRightForCardSaid : Prop := Claim7.holds Tryd.pinned (.plain (OpenSpec.ofChange fnIsRightForSpec)) fnIsRightForCard

/-- THE TIED CARD OF 'laws.FnExactWantedValid'. -/
def fnExactWantedValidCard : Claim7 := { stood := { row := fnExactWantedValidRow, standIns := [], harness := (true, "1b409a07c336a8cc9309916fdb1e852faf8bbca3a6ae3a75da5794b65729e637"), looks := false }, kinds := [], alts := [], laidByText := true, laidKinds := [.data, .data], laidTests := true, laidLooks := .later }
def FnExactWantedValidCardSaid : Prop := Claim7.holds Tryd.pinned (.plain (OpenSpec.ofChange fnExactWantedValidSpec)) fnExactWantedValidCard

/-- THE TIED CARD OF 'laws.FnExactKeepWanted'. -/
def fnExactKeepWantedCard : Claim7 := { stood := { row := fnExactKeepWantedRow, standIns := [], harness := (true, "1b409a07c336a8cc9309916fdb1e852faf8bbca3a6ae3a75da5794b65729e637"), looks := false }, kinds := [], alts := [], laidByText := true, laidKinds := [.data, .data], laidTests := true, laidLooks := .later }
def FnExactKeepWantedCardSaid : Prop := Claim7.holds Tryd.pinned (.plain (OpenSpec.ofChange fnExactKeepWantedSpec)) fnExactKeepWantedCard

/-- THE TIED CARD OF 'laws.FnExactNeededBy'. -/
def fnExactNeededByCard : Claim7 := { stood := { row := fnExactNeededByRow, standIns := [], harness := (true, "1b409a07c336a8cc9309916fdb1e852faf8bbca3a6ae3a75da5794b65729e637"), looks := false }, kinds := [], alts := [], laidByText := true, laidKinds := [.data, .data], laidTests := true, laidLooks := .later }
def FnExactNeededByCardSaid : Prop := Claim7.holds Tryd.pinned (.plain (OpenSpec.ofChange fnExactNeededBySpec)) fnExactNeededByCard

/-- THE TIED CARD OF 'laws.FnExactSpareFor'. -/
def fnExactSpareForCard : Claim7 := { stood := { row := fnExactSpareForRow, standIns := [], harness := (true, "1b409a07c336a8cc9309916fdb1e852faf8bbca3a6ae3a75da5794b65729e637"), looks := false }, kinds := [], alts := [], laidByText := true, laidKinds := [.data, .data], laidTests := true, laidLooks := .later }
def FnExactSpareForCardSaid : Prop := Claim7.holds Tryd.pinned (.plain (OpenSpec.ofChange fnExactSpareForSpec)) fnExactSpareForCard

/-- THE TIED CARD OF 'laws.FnExactOrderWanted'. -/
def fnExactOrderWantedCard : Claim7 := { stood := { row := fnExactOrderWantedRow, standIns := [], harness := (true, "1b409a07c336a8cc9309916fdb1e852faf8bbca3a6ae3a75da5794b65729e637"), looks := false }, kinds := [], alts := [], laidByText := true, laidKinds := [.data, .data], laidTests := true, laidLooks := .later }
def FnExactOrderWantedCardSaid : Prop := Claim7.holds Tryd.pinned (.plain (OpenSpec.ofChange fnExactOrderWantedSpec)) fnExactOrderWantedCard

/-- THE TIED CARD OF 'laws.FnExactIsRightFor'. -/
def fnExactIsRightForCard : Claim7 := { stood := { row := fnExactIsRightForRow, standIns := [], harness := (true, "1b409a07c336a8cc9309916fdb1e852faf8bbca3a6ae3a75da5794b65729e637"), looks := false }, kinds := [], alts := [], laidByText := true, laidKinds := [.data, .data], laidTests := true, laidLooks := .later }
def FnExactIsRightForCardSaid : Prop := Claim7.holds Tryd.pinned (.plain (OpenSpec.ofChange fnExactIsRightForSpec)) fnExactIsRightForCard

/-- THE TIED CARD OF 'laws.FnExactDropSteps'. -/
def fnExactDropStepsCard : Claim7 := { stood := { row := fnExactDropStepsRow, standIns := [], harness := (true, "1b409a07c336a8cc9309916fdb1e852faf8bbca3a6ae3a75da5794b65729e637"), looks := false }, kinds := [], alts := [], laidByText := true, laidKinds := [.data, .data], laidTests := true, laidLooks := .later }
def FnExactDropStepsCardSaid : Prop := Claim7.holds Tryd.pinned (.plain (OpenSpec.ofChange fnExactDropStepsSpec)) fnExactDropStepsCard

/-- THE TIED CARD OF 'laws.FnExactNeededAhead'. -/
def fnExactNeededAheadCard : Claim7 := { stood := { row := fnExactNeededAheadRow, standIns := [], harness := (true, "1b409a07c336a8cc9309916fdb1e852faf8bbca3a6ae3a75da5794b65729e637"), looks := false }, kinds := [], alts := [], laidByText := true, laidKinds := [.data, .data], laidTests := true, laidLooks := .later }
def FnExactNeededAheadCardSaid : Prop := Claim7.holds Tryd.pinned (.plain (OpenSpec.ofChange fnExactNeededAheadSpec)) fnExactNeededAheadCard

/-- THE SECOND FORM's CARD OF 'laws.FnDropSteps'. -/
def fnDropStepsUptoCard : Claim7 := { stood := { row := fnDropStepsUptoRow, standIns := [], harness := (true, "1b409a07c336a8cc9309916fdb1e852faf8bbca3a6ae3a75da5794b65729e637"), looks := false }, kinds := [], alts := [], laidByText := true, laidKinds := [.data, .data], laidTests := true, laidLooks := .later }
def FnDropStepsUptoCardSaid : Prop := Claim7.holds Tryd.pinned (.plain (OpenSpec.upto fnDropStepsSpec)) fnDropStepsUptoCard

/-- THE SECOND FORM's CARD OF 'laws.FnIsRightFor'. -/
def fnIsRightForUptoCard : Claim7 := { stood := { row := fnIsRightForUptoRow, standIns := [], harness := (true, "1b409a07c336a8cc9309916fdb1e852faf8bbca3a6ae3a75da5794b65729e637"), looks := false }, kinds := [], alts := [], laidByText := true, laidKinds := [.data, .data], laidTests := true, laidLooks := .later }
def FnIsRightForUptoCardSaid : Prop := Claim7.holds Tryd.pinned (.plain (OpenSpec.upto fnIsRightForSpec)) fnIsRightForUptoCard

/-- THE SECOND FORM's CARD OF 'laws.FnExactWantedValid'. -/
def fnExactWantedValidUptoCard : Claim7 := { stood := { row := fnExactWantedValidUptoRow, standIns := [], harness := (true, "1b409a07c336a8cc9309916fdb1e852faf8bbca3a6ae3a75da5794b65729e637"), looks := false }, kinds := [], alts := [], laidByText := true, laidKinds := [.data, .data], laidTests := true, laidLooks := .later }
def FnExactWantedValidUptoCardSaid : Prop := Claim7.holds Tryd.pinned (.plain (OpenSpec.upto fnExactWantedValidSpec)) fnExactWantedValidUptoCard

/-- THE SECOND FORM's CARD OF 'laws.FnExactKeepWanted'. -/
def fnExactKeepWantedUptoCard : Claim7 := { stood := { row := fnExactKeepWantedUptoRow, standIns := [], harness := (true, "1b409a07c336a8cc9309916fdb1e852faf8bbca3a6ae3a75da5794b65729e637"), looks := false }, kinds := [], alts := [], laidByText := true, laidKinds := [.data, .data], laidTests := true, laidLooks := .later }
def FnExactKeepWantedUptoCardSaid : Prop := Claim7.holds Tryd.pinned (.plain (OpenSpec.upto fnExactKeepWantedSpec)) fnExactKeepWantedUptoCard

/-- THE SECOND FORM's CARD OF 'laws.FnExactNeededBy'. -/
def fnExactNeededByUptoCard : Claim7 := { stood := { row := fnExactNeededByUptoRow, standIns := [], harness := (true, "1b409a07c336a8cc9309916fdb1e852faf8bbca3a6ae3a75da5794b65729e637"), looks := false }, kinds := [], alts := [], laidByText := true, laidKinds := [.data, .data], laidTests := true, laidLooks := .later }
def FnExactNeededByUptoCardSaid : Prop := Claim7.holds Tryd.pinned (.plain (OpenSpec.upto fnExactNeededBySpec)) fnExactNeededByUptoCard

/-- THE SECOND FORM's CARD OF 'laws.FnExactSpareFor'. -/
def fnExactSpareForUptoCard : Claim7 := { stood := { row := fnExactSpareForUptoRow, standIns := [], harness := (true, "1b409a07c336a8cc9309916fdb1e852faf8bbca3a6ae3a75da5794b65729e637"), looks := false }, kinds := [], alts := [], laidByText := true, laidKinds := [.data, .data], laidTests := true, laidLooks := .later }
def FnExactSpareForUptoCardSaid : Prop := Claim7.holds Tryd.pinned (.plain (OpenSpec.upto fnExactSpareForSpec)) fnExactSpareForUptoCard

/-- THE SECOND FORM's CARD OF 'laws.FnExactOrderWanted'. -/
def fnExactOrderWantedUptoCard : Claim7 := { stood := { row := fnExactOrderWantedUptoRow, standIns := [], harness := (true, "1b409a07c336a8cc9309916fdb1e852faf8bbca3a6ae3a75da5794b65729e637"), looks := false }, kinds := [], alts := [], laidByText := true, laidKinds := [.data, .data], laidTests := true, laidLooks := .later }
def FnExactOrderWantedUptoCardSaid : Prop := Claim7.holds Tryd.pinned (.plain (OpenSpec.upto fnExactOrderWantedSpec)) fnExactOrderWantedUptoCard

/-- THE SECOND FORM's CARD OF 'laws.FnExactIsRightFor'. -/
def fnExactIsRightForUptoCard : Claim7 := { stood := { row := fnExactIsRightForUptoRow, standIns := [], harness := (true, "1b409a07c336a8cc9309916fdb1e852faf8bbca3a6ae3a75da5794b65729e637"), looks := false }, kinds := [], alts := [], laidByText := true, laidKinds := [.data, .data], laidTests := true, laidLooks := .later }
def FnExactIsRightForUptoCardSaid : Prop := Claim7.holds Tryd.pinned (.plain (OpenSpec.upto fnExactIsRightForSpec)) fnExactIsRightForUptoCard

/-- THE SECOND FORM's CARD OF 'laws.FnExactDropSteps'. -/
def fnExactDropStepsUptoCard : Claim7 := { stood := { row := fnExactDropStepsUptoRow, standIns := [], harness := (true, "1b409a07c336a8cc9309916fdb1e852faf8bbca3a6ae3a75da5794b65729e637"), looks := false }, kinds := [], alts := [], laidByText := true, laidKinds := [.data, .data], laidTests := true, laidLooks := .later }
def FnExactDropStepsUptoCardSaid : Prop := Claim7.holds Tryd.pinned (.plain (OpenSpec.upto fnExactDropStepsSpec)) fnExactDropStepsUptoCard

/-- THE SECOND FORM's CARD OF 'laws.FnExactNeededAhead'. -/
def fnExactNeededAheadUptoCard : Claim7 := { stood := { row := fnExactNeededAheadUptoRow, standIns := [], harness := (true, "1b409a07c336a8cc9309916fdb1e852faf8bbca3a6ae3a75da5794b65729e637"), looks := false }, kinds := [], alts := [], laidByText := true, laidKinds := [.data, .data], laidTests := true, laidLooks := .later }
def FnExactNeededAheadUptoCardSaid : Prop := Claim7.holds Tryd.pinned (.plain (OpenSpec.upto fnExactNeededAheadSpec)) fnExactNeededAheadUptoCard
end Rows
end Go.Proofs.YtplapaojgcloaaaDoor
