/-
  DERIVED. GIVEN WITH THE SEED: THE CARDS: each row of YtcpibkffeenehaaDoorRows.lean that lists a variable, with what it lists TIED to the program's text (the seventh form; the later family's looks); each row that meets fmt, with fmt's text TOLD by the authors' own Lean function (tested against real Go, not proved from fmt's source: count such statements apart). THE CARD IS WHAT COUNTS. Prove the row's statement (the work); the ties are given (YtcpibkffeenehaaDoorTie.lean); close each card by the builder's one call (the guide's Derived/Test/ToyasCard.lean, 'card_holds'). Laid BY PROGRAM, IN A SANDBOX (cutbox-door.mjs). By AI agents, Wed Nov 11 2026. No macro, syntax, notation, axiom, sorry.
-/
import Derived.Test.YtcpibkffeenehaaDoorRows
import GoSem.ClaimSeven
namespace Go.Proofs.YtcpibkffeenehaaDoor
namespace Rows

/-- THE TIED CARD OF 'laws.FnMovesFor'. -/
def fnMovesForCard : Claim7 := { stood := { row := fnMovesForRow, standIns := [], harness := (true, "479dfc4beda200a9a1f53566c89b464e4af035569aa0422e6b0163e1f5b06bca"), looks := false }, kinds := [], alts := [], laidByText := true, laidKinds := [.data, .pinned], laidTests := true, laidLooks := .later }
def FnMovesForCardSaid : Prop := Claim7.holds Tryd.pinned (.plain (OpenSpec.ofChange fnMovesForSpec)) fnMovesForCard

/-- THE TIED CARD OF 'laws.FnCallAfter'. -/
def fnCallAfterCard : Claim7 := { stood := { row := fnCallAfterRow, standIns := [], harness := (true, "479dfc4beda200a9a1f53566c89b464e4af035569aa0422e6b0163e1f5b06bca"), looks := false }, kinds := [], alts := [], laidByText := true, laidKinds := [.data, .pinned], laidTests := true, laidLooks := .later }
def FnCallAfterCardSaid : Prop := Claim7.holds Tryd.pinned (.plain (OpenSpec.ofChange fnCallAfterSpec)) fnCallAfterCard

/-- THE TIED CARD OF 'laws.FnArgsOf'. -/
def fnArgsOfCard : Claim7 := { stood := { row := fnArgsOfRow, standIns := [], harness := (true, "479dfc4beda200a9a1f53566c89b464e4af035569aa0422e6b0163e1f5b06bca"), looks := false }, kinds := [], alts := [], laidByText := true, laidKinds := [.data, .pinned], laidTests := true, laidLooks := .later }
def FnArgsOfCardSaid : Prop := Claim7.holds Tryd.pinned (.plain (OpenSpec.ofChange fnArgsOfSpec)) fnArgsOfCard

/-- THE TIED CARD OF 'laws.FnExactCallValid'. -/
def fnExactCallValidCard : Claim7 := { stood := { row := fnExactCallValidRow, standIns := [], harness := (true, "479dfc4beda200a9a1f53566c89b464e4af035569aa0422e6b0163e1f5b06bca"), looks := false }, kinds := [], alts := [], laidByText := true, laidKinds := [.data, .pinned], laidTests := true, laidLooks := .later }
def FnExactCallValidCardSaid : Prop := Claim7.holds Tryd.pinned (.plain (OpenSpec.ofChange fnExactCallValidSpec)) fnExactCallValidCard

/-- THE TIED CARD OF 'laws.FnExactMovesFor'. -/
def fnExactMovesForCard : Claim7 := { stood := { row := fnExactMovesForRow, standIns := [], harness := (true, "479dfc4beda200a9a1f53566c89b464e4af035569aa0422e6b0163e1f5b06bca"), looks := false }, kinds := [], alts := [], laidByText := true, laidKinds := [.data, .pinned], laidTests := true, laidLooks := .later }
def FnExactMovesForCardSaid : Prop := Claim7.holds Tryd.pinned (.plain (OpenSpec.ofChange fnExactMovesForSpec)) fnExactMovesForCard

/-- THE TIED CARD OF 'laws.FnExactCallCost'. -/
def fnExactCallCostCard : Claim7 := { stood := { row := fnExactCallCostRow, standIns := [], harness := (true, "479dfc4beda200a9a1f53566c89b464e4af035569aa0422e6b0163e1f5b06bca"), looks := false }, kinds := [], alts := [], laidByText := true, laidKinds := [.data, .pinned], laidTests := true, laidLooks := .later }
def FnExactCallCostCardSaid : Prop := Claim7.holds Tryd.pinned (.plain (OpenSpec.ofChange fnExactCallCostSpec)) fnExactCallCostCard

/-- THE TIED CARD OF 'laws.FnExactCallAfter'. -/
def fnExactCallAfterCard : Claim7 := { stood := { row := fnExactCallAfterRow, standIns := [], harness := (true, "479dfc4beda200a9a1f53566c89b464e4af035569aa0422e6b0163e1f5b06bca"), looks := false }, kinds := [], alts := [], laidByText := true, laidKinds := [.data, .pinned], laidTests := true, laidLooks := .later }
def FnExactCallAfterCardSaid : Prop := Claim7.holds Tryd.pinned (.plain (OpenSpec.ofChange fnExactCallAfterSpec)) fnExactCallAfterCard

/-- THE TIED CARD OF 'laws.FnExactLoopAfter'. -/
def fnExactLoopAfterCard : Claim7 := { stood := { row := fnExactLoopAfterRow, standIns := [], harness := (true, "479dfc4beda200a9a1f53566c89b464e4af035569aa0422e6b0163e1f5b06bca"), looks := false }, kinds := [], alts := [], laidByText := true, laidKinds := [.data, .pinned], laidTests := true, laidLooks := .later }
def FnExactLoopAfterCardSaid : Prop := Claim7.holds Tryd.pinned (.plain (OpenSpec.ofChange fnExactLoopAfterSpec)) fnExactLoopAfterCard

/-- THE TIED CARD OF 'laws.FnExactIsSteady'. -/
def fnExactIsSteadyCard : Claim7 := { stood := { row := fnExactIsSteadyRow, standIns := [], harness := (true, "479dfc4beda200a9a1f53566c89b464e4af035569aa0422e6b0163e1f5b06bca"), looks := false }, kinds := [], alts := [], laidByText := true, laidKinds := [.data, .pinned], laidTests := true, laidLooks := .later }
def FnExactIsSteadyCardSaid : Prop := Claim7.holds Tryd.pinned (.plain (OpenSpec.ofChange fnExactIsSteadySpec)) fnExactIsSteadyCard

/-- THE TIED CARD OF 'laws.FnExactSteadyParams'. -/
def fnExactSteadyParamsCard : Claim7 := { stood := { row := fnExactSteadyParamsRow, standIns := [], harness := (true, "479dfc4beda200a9a1f53566c89b464e4af035569aa0422e6b0163e1f5b06bca"), looks := false }, kinds := [], alts := [], laidByText := true, laidKinds := [.data, .pinned], laidTests := true, laidLooks := .later }
def FnExactSteadyParamsCardSaid : Prop := Claim7.holds Tryd.pinned (.plain (OpenSpec.ofChange fnExactSteadyParamsSpec)) fnExactSteadyParamsCard

/-- THE SECOND FORM's CARD OF 'laws.FnMovesFor'. -/
def fnMovesForUptoCard : Claim7 := { stood := { row := fnMovesForUptoRow, standIns := [], harness := (true, "479dfc4beda200a9a1f53566c89b464e4af035569aa0422e6b0163e1f5b06bca"), looks := false }, kinds := [], alts := [], laidByText := true, laidKinds := [.data, .pinned], laidTests := true, laidLooks := .later }
def FnMovesForUptoCardSaid : Prop := Claim7.holds Tryd.pinned (.plain (OpenSpec.upto fnMovesForSpec)) fnMovesForUptoCard

/-- THE SECOND FORM's CARD OF 'laws.FnCallAfter'. -/
def fnCallAfterUptoCard : Claim7 := { stood := { row := fnCallAfterUptoRow, standIns := [], harness := (true, "479dfc4beda200a9a1f53566c89b464e4af035569aa0422e6b0163e1f5b06bca"), looks := false }, kinds := [], alts := [], laidByText := true, laidKinds := [.data, .pinned], laidTests := true, laidLooks := .later }
def FnCallAfterUptoCardSaid : Prop := Claim7.holds Tryd.pinned (.plain (OpenSpec.upto fnCallAfterSpec)) fnCallAfterUptoCard

/-- THE SECOND FORM's CARD OF 'laws.FnArgsOf'. -/
def fnArgsOfUptoCard : Claim7 := { stood := { row := fnArgsOfUptoRow, standIns := [], harness := (true, "479dfc4beda200a9a1f53566c89b464e4af035569aa0422e6b0163e1f5b06bca"), looks := false }, kinds := [], alts := [], laidByText := true, laidKinds := [.data, .pinned], laidTests := true, laidLooks := .later }
def FnArgsOfUptoCardSaid : Prop := Claim7.holds Tryd.pinned (.plain (OpenSpec.upto fnArgsOfSpec)) fnArgsOfUptoCard

/-- THE SECOND FORM's CARD OF 'laws.FnExactCallValid'. -/
def fnExactCallValidUptoCard : Claim7 := { stood := { row := fnExactCallValidUptoRow, standIns := [], harness := (true, "479dfc4beda200a9a1f53566c89b464e4af035569aa0422e6b0163e1f5b06bca"), looks := false }, kinds := [], alts := [], laidByText := true, laidKinds := [.data, .pinned], laidTests := true, laidLooks := .later }
def FnExactCallValidUptoCardSaid : Prop := Claim7.holds Tryd.pinned (.plain (OpenSpec.upto fnExactCallValidSpec)) fnExactCallValidUptoCard

/-- THE SECOND FORM's CARD OF 'laws.FnExactMovesFor'. -/
def fnExactMovesForUptoCard : Claim7 := { stood := { row := fnExactMovesForUptoRow, standIns := [], harness := (true, "479dfc4beda200a9a1f53566c89b464e4af035569aa0422e6b0163e1f5b06bca"), looks := false }, kinds := [], alts := [], laidByText := true, laidKinds := [.data, .pinned], laidTests := true, laidLooks := .later }
def FnExactMovesForUptoCardSaid : Prop := Claim7.holds Tryd.pinned (.plain (OpenSpec.upto fnExactMovesForSpec)) fnExactMovesForUptoCard

/-- THE SECOND FORM's CARD OF 'laws.FnExactCallCost'. -/
def fnExactCallCostUptoCard : Claim7 := { stood := { row := fnExactCallCostUptoRow, standIns := [], harness := (true, "479dfc4beda200a9a1f53566c89b464e4af035569aa0422e6b0163e1f5b06bca"), looks := false }, kinds := [], alts := [], laidByText := true, laidKinds := [.data, .pinned], laidTests := true, laidLooks := .later }
def FnExactCallCostUptoCardSaid : Prop := Claim7.holds Tryd.pinned (.plain (OpenSpec.upto fnExactCallCostSpec)) fnExactCallCostUptoCard

/-- THE SECOND FORM's CARD OF 'laws.FnExactCallAfter'. -/
def fnExactCallAfterUptoCard : Claim7 := { stood := { row := fnExactCallAfterUptoRow, standIns := [], harness := (true, "479dfc4beda200a9a1f53566c89b464e4af035569aa0422e6b0163e1f5b06bca"), looks := false }, kinds := [], alts := [], laidByText := true, laidKinds := [.data, .pinned], laidTests := true, laidLooks := .later }
def FnExactCallAfterUptoCardSaid : Prop := Claim7.holds Tryd.pinned (.plain (OpenSpec.upto fnExactCallAfterSpec)) fnExactCallAfterUptoCard

/-- THE SECOND FORM's CARD OF 'laws.FnExactLoopAfter'. -/
def fnExactLoopAfterUptoCard : Claim7 := { stood := { row := fnExactLoopAfterUptoRow, standIns := [], harness := (true, "479dfc4beda200a9a1f53566c89b464e4af035569aa0422e6b0163e1f5b06bca"), looks := false }, kinds := [], alts := [], laidByText := true, laidKinds := [.data, .pinned], laidTests := true, laidLooks := .later }
def FnExactLoopAfterUptoCardSaid : Prop := Claim7.holds Tryd.pinned (.plain (OpenSpec.upto fnExactLoopAfterSpec)) fnExactLoopAfterUptoCard

/-- THE SECOND FORM's CARD OF 'laws.FnExactIsSteady'. -/
def fnExactIsSteadyUptoCard : Claim7 := { stood := { row := fnExactIsSteadyUptoRow, standIns := [], harness := (true, "479dfc4beda200a9a1f53566c89b464e4af035569aa0422e6b0163e1f5b06bca"), looks := false }, kinds := [], alts := [], laidByText := true, laidKinds := [.data, .pinned], laidTests := true, laidLooks := .later }
def FnExactIsSteadyUptoCardSaid : Prop := Claim7.holds Tryd.pinned (.plain (OpenSpec.upto fnExactIsSteadySpec)) fnExactIsSteadyUptoCard

/-- THE SECOND FORM's CARD OF 'laws.FnExactSteadyParams'. -/
def fnExactSteadyParamsUptoCard : Claim7 := { stood := { row := fnExactSteadyParamsUptoRow, standIns := [], harness := (true, "479dfc4beda200a9a1f53566c89b464e4af035569aa0422e6b0163e1f5b06bca"), looks := false }, kinds := [], alts := [], laidByText := true, laidKinds := [.data, .pinned], laidTests := true, laidLooks := .later }
def FnExactSteadyParamsUptoCardSaid : Prop := Claim7.holds Tryd.pinned (.plain (OpenSpec.upto fnExactSteadyParamsSpec)) fnExactSteadyParamsUptoCard
end Rows
end Go.Proofs.YtcpibkffeenehaaDoor
