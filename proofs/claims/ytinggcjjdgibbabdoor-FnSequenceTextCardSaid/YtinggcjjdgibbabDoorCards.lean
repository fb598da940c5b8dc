/-
  DERIVED. GIVEN WITH THE SEED: THE CARDS: each row of YtinggcjjdgibbabDoorRows.lean that lists a variable, with what it lists TIED to the program's text (the seventh form; the later family's looks); each row that meets fmt, with fmt's text TOLD by the authors' own Lean function (tested against real Go, not proved from fmt's source: count such statements apart). THE CARD IS WHAT COUNTS. Prove the row's statement (the work); the ties are given (YtinggcjjdgibbabDoorTie.lean); close each card by the builder's one call (the guide's Derived/Test/ToyasCard.lean, 'card_holds'). Laid BY PROGRAM, IN A SANDBOX (cutbox-door.mjs). By AI agents, Wed Nov 11 2026. No macro, syntax, notation, axiom, sorry.
-/
import Derived.Test.YtinggcjjdgibbabDoorRows
import GoSem.ClaimSeven
namespace Go.Proofs.YtinggcjjdgibbabDoor
namespace Rows

/-- THE TIED CARD OF 'laws.FnSequenceText'. -/
def fnSequenceTextCard : Claim7 := { stood := { row := fnSequenceTextRow, standIns := [], harness := (true, "c57850289ac3ebc255bfb5508e26ae5cbf074dcf620f23c18870f23bd4038cb6"), looks := false }, kinds := [], alts := [], laidByText := true, laidKinds := [.data], laidTests := true, laidLooks := .later }
def FnSequenceTextCardSaid : Prop := Claim7.holds Tryd.pinned (.plain (OpenSpec.ofChange fnSequenceTextSpec)) fnSequenceTextCard

/-- THE TIED CARD OF 'laws.FnExactFormatSequence'. -/
def fnExactFormatSequenceCard : Claim7 := { stood := { row := fnExactFormatSequenceRow, standIns := [], harness := (true, "c57850289ac3ebc255bfb5508e26ae5cbf074dcf620f23c18870f23bd4038cb6"), looks := false }, kinds := [], alts := [], laidByText := true, laidKinds := [.data], laidTests := true, laidLooks := .later }
def FnExactFormatSequenceCardSaid : Prop := Claim7.holds Tryd.pinned (.plain (OpenSpec.ofChange fnExactFormatSequenceSpec)) fnExactFormatSequenceCard

/-- THE TIED CARD OF 'laws.FnExactParseSequence'. -/
def fnExactParseSequenceCard : Claim7 := { stood := { row := fnExactParseSequenceRow, standIns := [], harness := (true, "c57850289ac3ebc255bfb5508e26ae5cbf074dcf620f23c18870f23bd4038cb6"), looks := false }, kinds := [], alts := [], laidByText := true, laidKinds := [.data], laidTests := true, laidLooks := .later }
def FnExactParseSequenceCardSaid : Prop := Claim7.holds Tryd.pinned (.plain (OpenSpec.ofChange fnExactParseSequenceSpec)) fnExactParseSequenceCard

/-- THE SECOND FORM's CARD OF 'laws.FnSequenceText'. -/
def fnSequenceTextUptoCard : Claim7 := { stood := { row := fnSequenceTextUptoRow, standIns := [], harness := (true, "c57850289ac3ebc255bfb5508e26ae5cbf074dcf620f23c18870f23bd4038cb6"), looks := false }, kinds := [], alts := [], laidByText := true, laidKinds := [.data], laidTests := true, laidLooks := .later }
def FnSequenceTextUptoCardSaid : Prop := Claim7.holds Tryd.pinned (.plain (OpenSpec.upto fnSequenceTextSpec)) fnSequenceTextUptoCard

/-- THE SECOND FORM's CARD OF 'laws.FnExactFormatSequence'. -/
def fnExactFormatSequenceUptoCard : Claim7 := { stood := { row := fnExactFormatSequenceUptoRow, standIns := [], harness := (true, "c57850289ac3ebc255bfb5508e26ae5cbf074dcf620f23c18870f23bd4038cb6"), looks := false }, kinds := [], alts := [], laidByText := true, laidKinds := [.data], laidTests := true, laidLooks := .later }
def FnExactFormatSequenceUptoCardSaid : Prop := Claim7.holds Tryd.pinned (.plain (OpenSpec.upto fnExactFormatSequenceSpec)) fnExactFormatSequenceUptoCard

/-- THE SECOND FORM's CARD OF 'laws.FnExactParseSequence'. -/
def fnExactParseSequenceUptoCard : Claim7 := { stood := { row := fnExactParseSequenceUptoRow, standIns := [], harness := (true, "c57850289ac3ebc255bfb5508e26ae5cbf074dcf620f23c18870f23bd4038cb6"), looks := false }, kinds := [], alts := [], laidByText := true, laidKinds := [.data], laidTests := true, laidLooks := .later }
def FnExactParseSequenceUptoCardSaid : Prop := Claim7.holds Tryd.pinned (.plain (OpenSpec.upto fnExactParseSequenceSpec)) fnExactParseSequenceUptoCard
end Rows
end Go.Proofs.YtinggcjjdgibbabDoor
