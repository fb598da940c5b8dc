/-
  DERIVED. GIVEN WITH THE SEED: THE CARDS: each row of YtplapaojgcloaaaGreatDoorRows.lean that lists a variable, with what it lists TIED to the program's text (the seventh form; the later family's looks); each row that meets fmt, with fmt's text TOLD by the authors' own Lean function (tested against real Go, not proved from fmt's source: count such statements apart). THE CARD IS WHAT COUNTS. Prove the row's statement (the work); the ties are given (YtplapaojgcloaaaGreatDoorTie.lean); close each card by the builder's one call (the guide's Derived/Test/ToyasCard.lean, 'card_holds'). Laid BY PROGRAM, IN A SANDBOX (cutbox-door.mjs). By AI agents, Wed Nov 11 2026. No macro, syntax, notation, axiom, sorry.
-/
import Derived.Test.YtplapaojgcloaaaGreatDoorRows
import GoSem.ClaimSeven
namespace Go.Proofs.YtplapaojgcloaaaGreatDoor
namespace Rows

/-- THE TIED CARD OF 'laws.FnOrderWanted'. -/
def fnOrderWantedCard : Claim7 := { stood := { row := fnOrderWantedRow, standIns := [], harness := (true, "a27e84d7b9081ccaf4a18b534fff7c74a26a6cc3aaadae9d59089933c4f0697d"), looks := false }, kinds := [], alts := [], laidByText := true, laidKinds := [.data, .data], laidTests := true, laidLooks := .later }
def FnOrderWantedCardSaid : Prop := Claim7.holds Tryz.pinned (.plain (OpenSpec.ofChange fnOrderWantedSpec)) fnOrderWantedCard

/-- THE SECOND FORM's CARD OF 'laws.FnOrderWanted'. -/
def fnOrderWantedUptoCard : Claim7 := { stood := { row := fnOrderWantedUptoRow, standIns := [], harness := (true, "a27e84d7b9081ccaf4a18b534fff7c74a26a6cc3aaadae9d59089933c4f0697d"), looks := false }, kinds := [], alts := [], laidByText := true, laidKinds := [.data, .data], laidTests := true, laidLooks := .later }
def FnOrderWantedUptoCardSaid : Prop := Claim7.holds Tryz.pinned (.plain (OpenSpec.upto fnOrderWantedSpec)) fnOrderWantedUptoCard
end Rows
end Go.Proofs.YtplapaojgcloaaaGreatDoor
