/-
  DERIVED. GIVEN WITH THE SEED: THE CARDS: each row of YthgcoocgeekdnaaDoorRows.lean that lists a variable, with what it lists TIED to the program's text (the seventh form; the later family's looks); each row that meets fmt, with fmt's text TOLD by the authors' own Lean function (tested against real Go, not proved from fmt's source: count such statements apart). THE CARD IS WHAT COUNTS. Prove the row's statement (the work); the ties are given (YthgcoocgeekdnaaDoorTie.lean); close each card by the builder's one call (the guide's Derived/Test/ToyasCard.lean, 'card_holds'). Laid BY PROGRAM, IN A SANDBOX (cutbox-door.mjs). By AI agents, Wed Nov 11 2026. No macro, syntax, notation, axiom, sorry.
-/
import Derived.Test.YthgcoocgeekdnaaDoorRows
import GoSem.ClaimSeven
namespace Go.Proofs.YthgcoocgeekdnaaDoor
namespace Rows

/-- THE TIED CARD OF 'laws.FnTotalCost'. -/
def fnTotalCostCard : Claim7 := { stood := { row := fnTotalCostRow, standIns := [], harness := (true, "f5a8e592109a916dcf1c00150a60e8ca7ceb42dd45434bdff1198f00023813ba"), looks := false }, kinds := [], alts := [], laidByText := true, laidKinds := [.data, .pinned], laidTests := true, laidLooks := .later }
def FnTotalCostCardSaid : Prop := Claim7.holds Tryd.pinned (.plain (OpenSpec.ofChange fnTotalCostSpec)) fnTotalCostCard

/-- THE TIED CARD OF 'laws.FnExactCallsValid'. -/
def fnExactCallsValidCard : Claim7 := { stood := { row := fnExactCallsValidRow, standIns := [], harness := (true, "f5a8e592109a916dcf1c00150a60e8ca7ceb42dd45434bdff1198f00023813ba"), looks := false }, kinds := [], alts := [], laidByText := true, laidKinds := [.data, .pinned], laidTests := true, laidLooks := .later }
def FnExactCallsValidCardSaid : Prop := Claim7.holds Tryd.pinned (.plain (OpenSpec.ofChange fnExactCallsValidSpec)) fnExactCallsValidCard

/-- THE TIED CARD OF 'laws.FnExactTotalCost'. -/
def fnExactTotalCostCard : Claim7 := { stood := { row := fnExactTotalCostRow, standIns := [], harness := (true, "f5a8e592109a916dcf1c00150a60e8ca7ceb42dd45434bdff1198f00023813ba"), looks := false }, kinds := [], alts := [], laidByText := true, laidKinds := [.data, .pinned], laidTests := true, laidLooks := .later }
def FnExactTotalCostCardSaid : Prop := Claim7.holds Tryd.pinned (.plain (OpenSpec.ofChange fnExactTotalCostSpec)) fnExactTotalCostCard

/-- THE TIED CARD OF 'laws.FnExactBestParams'. -/
def fnExactBestParamsCard : Claim7 := { stood := { row := fnExactBestParamsRow, standIns := [], harness := (true, "f5a8e592109a916dcf1c00150a60e8ca7ceb42dd45434bdff1198f00023813ba"), looks := false }, kinds := [], alts := [], laidByText := true, laidKinds := [.data, .pinned], laidTests := true, laidLooks := .later }
def FnExactBestParamsCardSaid : Prop := Claim7.holds Tryd.pinned (.plain (OpenSpec.ofChange fnExactBestParamsSpec)) fnExactBestParamsCard

/-- THE TIED CARD OF 'laws.FnExactLeastCost'. -/
def fnExactLeastCostCard : Claim7 := { stood := { row := fnExactLeastCostRow, standIns := [], harness := (true, "f5a8e592109a916dcf1c00150a60e8ca7ceb42dd45434bdff1198f00023813ba"), looks := false }, kinds := [], alts := [], laidByText := true, laidKinds := [.data, .pinned], laidTests := true, laidLooks := .later }
def FnExactLeastCostCardSaid : Prop := Claim7.holds Tryd.pinned (.plain (OpenSpec.ofChange fnExactLeastCostSpec)) fnExactLeastCostCard

/-- THE TIED CARD OF 'laws.FnExactGreedyParams'. -/
def fnExactGreedyParamsCard : Claim7 := { stood := { row := fnExactGreedyParamsRow, standIns := [], harness := (true, "f5a8e592109a916dcf1c00150a60e8ca7ceb42dd45434bdff1198f00023813ba"), looks := false }, kinds := [], alts := [], laidByText := true, laidKinds := [.data, .pinned], laidTests := true, laidLooks := .later }
def FnExactGreedyParamsCardSaid : Prop := Claim7.holds Tryd.pinned (.plain (OpenSpec.ofChange fnExactGreedyParamsSpec)) fnExactGreedyParamsCard

/-- THE TIED CARD OF 'laws.FnExactCountBest'. -/
def fnExactCountBestCard : Claim7 := { stood := { row := fnExactCountBestRow, standIns := [], harness := (true, "f5a8e592109a916dcf1c00150a60e8ca7ceb42dd45434bdff1198f00023813ba"), looks := false }, kinds := [], alts := [], laidByText := true, laidKinds := [.data, .pinned], laidTests := true, laidLooks := .later }
def FnExactCountBestCardSaid : Prop := Claim7.holds Tryd.pinned (.plain (OpenSpec.ofChange fnExactCountBestSpec)) fnExactCountBestCard

/-- THE TIED CARD OF 'laws.FnExactIsBest'. -/
def fnExactIsBestCard : Claim7 := { stood := { row := fnExactIsBestRow, standIns := [], harness := (true, "f5a8e592109a916dcf1c00150a60e8ca7ceb42dd45434bdff1198f00023813ba"), looks := false }, kinds := [], alts := [], laidByText := true, laidKinds := [.data, .pinned], laidTests := true, laidLooks := .later }
def FnExactIsBestCardSaid : Prop := Claim7.holds Tryd.pinned (.plain (OpenSpec.ofChange fnExactIsBestSpec)) fnExactIsBestCard

/-- THE SECOND FORM's CARD OF 'laws.FnTotalCost'. -/
def fnTotalCostUptoCard : Claim7 := { stood := { row := fnTotalCostUptoRow, standIns := [], harness := (true, "f5a8e592109a916dcf1c00150a60e8ca7ceb42dd45434bdff1198f00023813ba"), looks := false }, kinds := [], alts := [], laidByText := true, laidKinds := [.data, .pinned], laidTests := true, laidLooks := .later }
def FnTotalCostUptoCardSaid : Prop := Claim7.holds Tryd.pinned (.plain (OpenSpec.upto fnTotalCostSpec)) fnTotalCostUptoCard

/-- THE SECOND FORM's CARD OF 'laws.FnExactCallsValid'. -/
def fnExactCallsValidUptoCard : Claim7 := { stood := { row := fnExactCallsValidUptoRow, standIns := [], harness := (true, "f5a8e592109a916dcf1c00150a60e8ca7ceb42dd45434bdff1198f00023813ba"), looks := false }, kinds := [], alts := [], laidByText := true, laidKinds := [.data, .pinned], laidTests := true, laidLooks := .later }
def FnExactCallsValidUptoCardSaid : Prop := Claim7.holds Tryd.pinned (.plain (OpenSpec.upto fnExactCallsValidSpec)) fnExactCallsValidUptoCard

/-- THE SECOND FORM's CARD OF 'laws.FnExactTotalCost'. -/
def fnExactTotalCostUptoCard : Claim7 := { stood := { row := fnExactTotalCostUptoRow, standIns := [], harness := (true, "f5a8e592109a916dcf1c00150a60e8ca7ceb42dd45434bdff1198f00023813ba"), looks := false }, kinds := [], alts := [], laidByText := true, laidKinds := [.data, .pinned], laidTests := true, laidLooks := .later }
def FnExactTotalCostUptoCardSaid : Prop := Claim7.holds Tryd.pinned (.plain (OpenSpec.upto fnExactTotalCostSpec)) fnExactTotalCostUptoCard

/-- THE SECOND FORM's CARD OF 'laws.FnExactBestParams'. -/
def fnExactBestParamsUptoCard : Claim7 := { stood := { row := fnExactBestParamsUptoRow, standIns := [], harness := (true, "f5a8e592109a916dcf1c00150a60e8ca7ceb42dd45434bdff1198f00023813ba"), looks := false }, kinds := [], alts := [], laidByText := true, laidKinds := [.data, .pinned], laidTests := true, laidLooks := .later }
def FnExactBestParamsUptoCardSaid : Prop := Claim7.holds Tryd.pinned (.plain (OpenSpec.upto fnExactBestParamsSpec)) fnExactBestParamsUptoCard

/-- THE SECOND FORM's CARD OF 'laws.FnExactLeastCost'. -/
def fnExactLeastCostUptoCard : Claim7 := { stood := { row := fnExactLeastCostUptoRow, standIns := [], harness := (true, "f5a8e592109a916dcf1c00150a60e8ca7ceb42dd45434bdff1198f00023813ba"), looks := false }, kinds := [], alts := [], laidByText := true, laidKinds := [.data, .pinned], laidTests := true, laidLooks := .later }
def FnExactLeastCostUptoCardSaid : Prop := Claim7.holds Tryd.pinned (.plain (OpenSpec.upto fnExactLeastCostSpec)) fnExactLeastCostUptoCard

/-- THE SECOND FORM's CARD OF 'laws.FnExactGreedyParams'. -/
def fnExactGreedyParamsUptoCard : Claim7 := { stood := { row := fnExactGreedyParamsUptoRow, standIns := [], harness := (true, "f5a8e592109a916dcf1c00150a60e8ca7ceb42dd45434bdff1198f00023813ba"), looks := false }, kinds := [], alts := [], laidByText := true, laidKinds := [.data, .pinned], laidTests := true, laidLooks := .later }
def FnExactGreedyParamsUptoCardSaid : Prop := Claim7.holds Tryd.pinned (.plain (OpenSpec.upto fnExactGreedyParamsSpec)) fnExactGreedyParamsUptoCard

/-- THE SECOND FORM's CARD OF 'laws.FnExactCountBest'. -/
def fnExactCountBestUptoCard : Claim7 := { stood := { row := fnExactCountBestUptoRow, standIns := [], harness := (true, "f5a8e592109a916dcf1c00150a60e8ca7ceb42dd45434bdff1198f00023813ba"), looks := false }, kinds := [], alts := [], laidByText := true, laidKinds := [.data, .pinned], laidTests := true, laidLooks := .later }
def FnExactCountBestUptoCardSaid : Prop := Claim7.holds Tryd.pinned (.plain (OpenSpec.upto fnExactCountBestSpec)) fnExactCountBestUptoCard

/-- THE SECOND FORM's CARD OF 'laws.FnExactIsBest'. -/
def fnExactIsBestUptoCard : Claim7 := { stood := { row := fnExactIsBestUptoRow, standIns := [], harness := (true, "f5a8e592109a916dcf1c00150a60e8ca7ceb42dd45434bdff1198f00023813ba"), looks := false }, kinds := [], alts := [], laidByText := true, laidKinds := [.data, .pinned], laidTests := true, laidLooks := .later }
def FnExactIsBestUptoCardSaid : Prop := Claim7.holds Tryd.pinned (.plain (OpenSpec.upto fnExactIsBestSpec)) fnExactIsBestUptoCard
end Rows
end Go.Proofs.YthgcoocgeekdnaaDoor
