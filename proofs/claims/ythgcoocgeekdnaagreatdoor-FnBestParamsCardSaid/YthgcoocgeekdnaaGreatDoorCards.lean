/-
  DERIVED. GIVEN WITH THE SEED: THE CARDS: each row of YthgcoocgeekdnaaGreatDoorRows.lean that lists a variable, with what it lists TIED to the program's text (the seventh form; the later family's looks); each row that meets fmt, with fmt's text TOLD by the authors' own Lean function (tested against real Go, not proved from fmt's source: count such statements apart). THE CARD IS WHAT COUNTS. Prove the row's statement (the work); the ties are given (YthgcoocgeekdnaaGreatDoorTie.lean); close each card by the builder's one call (the guide's Derived/Test/ToyasCard.lean, 'card_holds'). Laid BY PROGRAM, IN A SANDBOX (cutbox-door.mjs). By AI agents, Wed Nov 11 2026. No macro, syntax, notation, axiom, sorry.
-/
import Derived.Test.YthgcoocgeekdnaaGreatDoorRows
import GoSem.ClaimSeven
namespace Go.Proofs.YthgcoocgeekdnaaGreatDoor
namespace Rows

/-- THE TIED CARD OF 'laws.FnBestParams'. -/
def fnBestParamsCard : Claim7 := { stood := { row := fnBestParamsRow, standIns := [], harness := (true, "7f03cbaf1bc1e27a1b6a686ccac25369588cc6ade656312cf0a7b01e4124ec60"), looks := false }, kinds := [], alts := [], laidByText := true, laidKinds := [.data, .pinned], laidTests := true, laidLooks := .later }
def FnBestParamsCardSaid : Prop := Claim7.holds Tryz.pinned (.plain (OpenSpec.ofChange fnBestParamsSpec)) fnBestParamsCard

/-- THE SECOND FORM's CARD OF 'laws.FnBestParams'. -/
def fnBestParamsUptoCard : Claim7 := { stood := { row := fnBestParamsUptoRow, standIns := [], harness := (true, "7f03cbaf1bc1e27a1b6a686ccac25369588cc6ade656312cf0a7b01e4124ec60"), looks := false }, kinds := [], alts := [], laidByText := true, laidKinds := [.data, .pinned], laidTests := true, laidLooks := .later }
def FnBestParamsUptoCardSaid : Prop := Claim7.holds Tryz.pinned (.plain (OpenSpec.upto fnBestParamsSpec)) fnBestParamsUptoCard
end Rows
end Go.Proofs.YthgcoocgeekdnaaGreatDoor
