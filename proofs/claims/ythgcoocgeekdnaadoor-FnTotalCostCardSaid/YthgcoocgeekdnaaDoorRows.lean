/-
  NARROWER THAN 'FOR EVERY INPUT', by the rows' own cells (each row's printed sentence says how): FnTotalCost: laid · FnExactCallsValid: laid · FnExactTotalCost: laid · FnExactBestParams: laid · FnExactLeastCost: laid · FnExactGreedyParams: laid · FnExactCountBest: laid · FnExactIsBest: laid.
  DERIVED. THE GIVEN ROWS OF THIS SEAT. 8 by the template 'for every input the law returns true; each argument reads behind the call as it read before'; 0 by the template 'total and deterministic' (their statements: YthgcoocgeekdnaaDoorTotals.lean).
  GIVEN WITH THE SEED: the statements are not yours to turn. If you find one false, say at which input.
  Laid BY PROGRAM, IN A SANDBOX (cutbox-rows.mjs): the forced cells as the released guide's own fill.sh prints them over the translation 54890e91e1673bd4… (all of the seat's roots in one cut). By AI agents, Wed Nov 11 2026. No macro, syntax, notation, axiom, sorry.
-/
import Derived.Test.YthgcoocgeekdnaaDoorChecked
import GoSem.PinnedTables
import GoSem.Claim
import GoSem.ClaimJoined
import GoSem.ClaimMapViews
import Derived.JoinedTies
import Derived.KernelRfl
namespace Go.Proofs.YthgcoocgeekdnaaDoor
/- THE CELL 'sum', in the pinned program and in every row, IS THE sha256 OF THE DUMP (.gsa) THAT YthgcoocgeekdnaaDoorProg.lean LOADS. Nothing in Lean hashes anything: it is a label: what it is worth is what the hold of that sum in a sandbox is worth. -/
noncomputable def Tryd.pinned : Pinned := { name := "ythgcoocgeekdnaadoor", sum := "54890e91e1673bd4461590d3154db920f8a3cf861b1d0ebd35bf40c57dcd001a", checked := Tryd.checked }
namespace Rows
def none {H : Type} : Left H := { results := [], args := [] }

/- WHAT THE LISTED PACKAGE-LEVEL VARIABLES READ AS WHEN THE CALL BEGINS. Each datum BY PROGRAM (the guide's laid-datum.mjs) off the statement by which the dump's own 'gosem.cut.vars' lays the variable. In a bare row this is a premise. The card (YthgcoocgeekdnaaDoorCards.lean) ties it to the program's text. -/
def laid_unicode_utf8_acceptRanges {H : Type} : DataW H := .agg [.agg [.lit (.int .u8 128), .lit (.int .u8 191)], .agg [.lit (.int .u8 160), .lit (.int .u8 191)], .agg [.lit (.int .u8 128), .lit (.int .u8 159)], .agg [.lit (.int .u8 144), .lit (.int .u8 191)], .agg [.lit (.int .u8 128), .lit (.int .u8 143)], .agg [.lit (.int .u8 0), .lit (.int .u8 0)], .agg [.lit (.int .u8 0), .lit (.int .u8 0)], .agg [.lit (.int .u8 0), .lit (.int .u8 0)], .agg [.lit (.int .u8 0), .lit (.int .u8 0)], .agg [.lit (.int .u8 0), .lit (.int .u8 0)], .agg [.lit (.int .u8 0), .lit (.int .u8 0)], .agg [.lit (.int .u8 0), .lit (.int .u8 0)], .agg [.lit (.int .u8 0), .lit (.int .u8 0)], .agg [.lit (.int .u8 0), .lit (.int .u8 0)], .agg [.lit (.int .u8 0), .lit (.int .u8 0)], .agg [.lit (.int .u8 0), .lit (.int .u8 0)]]
/-- One of Go's own tables, pinned by name: the form's constant. -/
def laid_unicode_utf8_first : DataW Unit := Go.Pinned.utf8First

/-- 'laws.FnTotalCost': WHATEVER THE INPUT: true; the input reads as it did. -/
def fnTotalCostSpec : ChangeSpec := { name := "fnTotalCost", fn := fun _ => fun
  | [d] => { results := [.lit (.bool true)], args := [d] }
  | _ => none }
def fnTotalCostRow : OpenClaim := { program := "ythgcoocgeekdnaadoor", sum := "54890e91e1673bd4461590d3154db920f8a3cf861b1d0ebd35bf40c57dcd001a", func := "loop.example/parallelmoves/laws.FnTotalCost", spec := "fnTotalCost", inPlace := ["internal/bytealg.IndexByteString", "internal/bytealg.IndexString", "internal/bytealg.CountString"], unfollowed := true, recurses := true, named := ["internal/bytealg.MaxLen", "unicode/utf8.first", "unicode/utf8.acceptRanges"], apart := false, laid := [("unicode/utf8.acceptRanges", laid_unicode_utf8_acceptRanges), ("unicode/utf8.first", laid_unicode_utf8_first)] }
def FnTotalCostSaid : Prop := fnTotalCostRow.holds Tryd.pinned (OpenSpec.ofChange fnTotalCostSpec)

/-- ITS FALSE NEIGHBOUR: 'it returns false'. Refute it at one input. -/
def fnTotalCostWrong : ChangeSpec := { name := "fnTotalCost", fn := fun _ => fun
  | [d] => { results := [.lit (.bool false)], args := [d] }
  | _ => none }
def FnTotalCostWrongFalsely : Prop := fnTotalCostRow.holds Tryd.pinned (OpenSpec.ofChange fnTotalCostWrong)

/-- 'laws.FnExactCallsValid': WHATEVER THE INPUT: true; the input reads as it did. -/
def fnExactCallsValidSpec : ChangeSpec := { name := "fnExactCallsValid", fn := fun _ => fun
  | [d1, d2] => { results := [.lit (.bool true)], args := [d1, d2] }
  | _ => none }
def fnExactCallsValidRow : OpenClaim := { program := "ythgcoocgeekdnaadoor", sum := "54890e91e1673bd4461590d3154db920f8a3cf861b1d0ebd35bf40c57dcd001a", func := "loop.example/parallelmoves/laws.FnExactCallsValid", spec := "fnExactCallsValid", inPlace := ["internal/bytealg.CountString", "internal/bytealg.IndexByteString", "internal/bytealg.IndexString"], named := ["unicode/utf8.first", "unicode/utf8.acceptRanges", "internal/bytealg.MaxLen"], apart := false, laid := [("unicode/utf8.acceptRanges", laid_unicode_utf8_acceptRanges), ("unicode/utf8.first", laid_unicode_utf8_first)] }
def FnExactCallsValidSaid : Prop := fnExactCallsValidRow.holds Tryd.pinned (OpenSpec.ofChange fnExactCallsValidSpec)

/-- ITS FALSE NEIGHBOUR: 'it returns false'. Refute it at one input. -/
def fnExactCallsValidWrong : ChangeSpec := { name := "fnExactCallsValid", fn := fun _ => fun
  | [d1, d2] => { results := [.lit (.bool false)], args := [d1, d2] }
  | _ => none }
def FnExactCallsValidWrongFalsely : Prop := fnExactCallsValidRow.holds Tryd.pinned (OpenSpec.ofChange fnExactCallsValidWrong)

/-- 'laws.FnExactTotalCost': WHATEVER THE INPUT: true; the input reads as it did. -/
def fnExactTotalCostSpec : ChangeSpec := { name := "fnExactTotalCost", fn := fun _ => fun
  | [d1, d2] => { results := [.lit (.bool true)], args := [d1, d2] }
  | _ => none }
def fnExactTotalCostRow : OpenClaim := { program := "ythgcoocgeekdnaadoor", sum := "54890e91e1673bd4461590d3154db920f8a3cf861b1d0ebd35bf40c57dcd001a", func := "loop.example/parallelmoves/laws.FnExactTotalCost", spec := "fnExactTotalCost", inPlace := ["internal/bytealg.IndexByteString", "internal/bytealg.IndexString", "internal/bytealg.CountString"], unfollowed := true, recurses := true, named := ["internal/bytealg.MaxLen", "unicode/utf8.first", "unicode/utf8.acceptRanges"], apart := false, laid := [("unicode/utf8.acceptRanges", laid_unicode_utf8_acceptRanges), ("unicode/utf8.first", laid_unicode_utf8_first)] }
def FnExactTotalCostSaid : Prop := fnExactTotalCostRow.holds Tryd.pinned (OpenSpec.ofChange fnExactTotalCostSpec)

/-- ITS FALSE NEIGHBOUR: 'it returns false'. Refute it at one input. -/
def fnExactTotalCostWrong : ChangeSpec := { name := "fnExactTotalCost", fn := fun _ => fun
  | [d1, d2] => { results := [.lit (.bool false)], args := [d1, d2] }
  | _ => none }
def FnExactTotalCostWrongFalsely : Prop := fnExactTotalCostRow.holds Tryd.pinned (OpenSpec.ofChange fnExactTotalCostWrong)

/-- 'laws.FnExactBestParams': WHATEVER THE INPUT: true; the input reads as it did. -/
def fnExactBestParamsSpec : ChangeSpec := { name := "fnExactBestParams", fn := fun _ => fun
  | [d1, d2] => { results := [.lit (.bool true)], args := [d1, d2] }
  | _ => none }
def fnExactBestParamsRow : OpenClaim := { program := "ythgcoocgeekdnaadoor", sum := "54890e91e1673bd4461590d3154db920f8a3cf861b1d0ebd35bf40c57dcd001a", func := "loop.example/parallelmoves/laws.FnExactBestParams", spec := "fnExactBestParams", inPlace := ["internal/bytealg.CountString", "internal/bytealg.IndexByteString", "internal/bytealg.IndexString"], unfollowed := true, recurses := true, named := ["unicode/utf8.first", "unicode/utf8.acceptRanges", "internal/bytealg.MaxLen"], apart := false, laid := [("unicode/utf8.acceptRanges", laid_unicode_utf8_acceptRanges), ("unicode/utf8.first", laid_unicode_utf8_first)] }
def FnExactBestParamsSaid : Prop := fnExactBestParamsRow.holds Tryd.pinned (OpenSpec.ofChange fnExactBestParamsSpec)

/-- ITS FALSE NEIGHBOUR: 'it returns false'. Refute it at one input. -/
def fnExactBestParamsWrong : ChangeSpec := { name := "fnExactBestParams", fn := fun _ => fun
  | [d1, d2] => { results := [.lit (.bool false)], args := [d1, d2] }
  | _ => none }
def FnExactBestParamsWrongFalsely : Prop := fnExactBestParamsRow.holds Tryd.pinned (OpenSpec.ofChange fnExactBestParamsWrong)

/-- 'laws.FnExactLeastCost': WHATEVER THE INPUT: true; the input reads as it did. -/
def fnExactLeastCostSpec : ChangeSpec := { name := "fnExactLeastCost", fn := fun _ => fun
  | [d1, d2] => { results := [.lit (.bool true)], args := [d1, d2] }
  | _ => none }
def fnExactLeastCostRow : OpenClaim := { program := "ythgcoocgeekdnaadoor", sum := "54890e91e1673bd4461590d3154db920f8a3cf861b1d0ebd35bf40c57dcd001a", func := "loop.example/parallelmoves/laws.FnExactLeastCost", spec := "fnExactLeastCost", inPlace := ["internal/bytealg.CountString", "internal/bytealg.IndexByteString", "internal/bytealg.IndexString"], unfollowed := true, recurses := true, named := ["unicode/utf8.first", "unicode/utf8.acceptRanges", "internal/bytealg.MaxLen"], apart := false, laid := [("unicode/utf8.acceptRanges", laid_unicode_utf8_acceptRanges), ("unicode/utf8.first", laid_unicode_utf8_first)] }
def FnExactLeastCostSaid : Prop := fnExactLeastCostRow.holds Tryd.pinned (OpenSpec.ofChange fnExactLeastCostSpec)

/-- ITS FALSE NEIGHBOUR: 'it returns false'. Refute it at one input. -/
def fnExactLeastCostWrong : ChangeSpec := { name := "fnExactLeastCost", fn := fun _ => fun
  | [d1, d2] => { results := [.lit (.bool false)], args := [d1, d2] }
  | _ => none }
def FnExactLeastCostWrongFalsely : Prop := fnExactLeastCostRow.holds Tryd.pinned (OpenSpec.ofChange fnExactLeastCostWrong)

/-- 'laws.FnExactGreedyParams': WHATEVER THE INPUT: true; the input reads as it did. -/
def fnExactGreedyParamsSpec : ChangeSpec := { name := "fnExactGreedyParams", fn := fun _ => fun
  | [d1, d2] => { results := [.lit (.bool true)], args := [d1, d2] }
  | _ => none }
def fnExactGreedyParamsRow : OpenClaim := { program := "ythgcoocgeekdnaadoor", sum := "54890e91e1673bd4461590d3154db920f8a3cf861b1d0ebd35bf40c57dcd001a", func := "loop.example/parallelmoves/laws.FnExactGreedyParams", spec := "fnExactGreedyParams", inPlace := ["internal/bytealg.CountString", "internal/bytealg.IndexByteString", "internal/bytealg.IndexString"], unfollowed := true, recurses := true, named := ["unicode/utf8.first", "unicode/utf8.acceptRanges", "internal/bytealg.MaxLen"], apart := false, laid := [("unicode/utf8.acceptRanges", laid_unicode_utf8_acceptRanges), ("unicode/utf8.first", laid_unicode_utf8_first)] }
def FnExactGreedyParamsSaid : Prop := fnExactGreedyParamsRow.holds Tryd.pinned (OpenSpec.ofChange fnExactGreedyParamsSpec)

/-- ITS FALSE NEIGHBOUR: 'it returns false'. Refute it at one input. -/
def fnExactGreedyParamsWrong : ChangeSpec := { name := "fnExactGreedyParams", fn := fun _ => fun
  | [d1, d2] => { results := [.lit (.bool false)], args := [d1, d2] }
  | _ => none }
def FnExactGreedyParamsWrongFalsely : Prop := fnExactGreedyParamsRow.holds Tryd.pinned (OpenSpec.ofChange fnExactGreedyParamsWrong)

/-- 'laws.FnExactCountBest': WHATEVER THE INPUT: true; the input reads as it did. -/
def fnExactCountBestSpec : ChangeSpec := { name := "fnExactCountBest", fn := fun _ => fun
  | [d1, d2] => { results := [.lit (.bool true)], args := [d1, d2] }
  | _ => none }
def fnExactCountBestRow : OpenClaim := { program := "ythgcoocgeekdnaadoor", sum := "54890e91e1673bd4461590d3154db920f8a3cf861b1d0ebd35bf40c57dcd001a", func := "loop.example/parallelmoves/laws.FnExactCountBest", spec := "fnExactCountBest", inPlace := ["internal/bytealg.CountString", "internal/bytealg.IndexByteString", "internal/bytealg.IndexString"], unfollowed := true, recurses := true, named := ["unicode/utf8.first", "unicode/utf8.acceptRanges", "internal/bytealg.MaxLen"], apart := false, laid := [("unicode/utf8.acceptRanges", laid_unicode_utf8_acceptRanges), ("unicode/utf8.first", laid_unicode_utf8_first)] }
def FnExactCountBestSaid : Prop := fnExactCountBestRow.holds Tryd.pinned (OpenSpec.ofChange fnExactCountBestSpec)

/-- ITS FALSE NEIGHBOUR: 'it returns false'. Refute it at one input. -/
def fnExactCountBestWrong : ChangeSpec := { name := "fnExactCountBest", fn := fun _ => fun
  | [d1, d2] => { results := [.lit (.bool false)], args := [d1, d2] }
  | _ => none }
def FnExactCountBestWrongFalsely : Prop := fnExactCountBestRow.holds Tryd.pinned (OpenSpec.ofChange fnExactCountBestWrong)

/-- 'laws.FnExactIsBest': WHATEVER THE INPUT: true; the input reads as it did. -/
def fnExactIsBestSpec : ChangeSpec := { name := "fnExactIsBest", fn := fun _ => fun
  | [d1, d2] => { results := [.lit (.bool true)], args := [d1, d2] }
  | _ => none }
def fnExactIsBestRow : OpenClaim := { program := "ythgcoocgeekdnaadoor", sum := "54890e91e1673bd4461590d3154db920f8a3cf861b1d0ebd35bf40c57dcd001a", func := "loop.example/parallelmoves/laws.FnExactIsBest", spec := "fnExactIsBest", inPlace := ["internal/bytealg.IndexByteString", "internal/bytealg.IndexString", "internal/bytealg.CountString"], unfollowed := true, recurses := true, named := ["internal/bytealg.MaxLen", "unicode/utf8.first", "unicode/utf8.acceptRanges"], apart := false, laid := [("unicode/utf8.acceptRanges", laid_unicode_utf8_acceptRanges), ("unicode/utf8.first", laid_unicode_utf8_first)] }
def FnExactIsBestSaid : Prop := fnExactIsBestRow.holds Tryd.pinned (OpenSpec.ofChange fnExactIsBestSpec)

/-- ITS FALSE NEIGHBOUR: 'it returns false'. Refute it at one input. -/
def fnExactIsBestWrong : ChangeSpec := { name := "fnExactIsBest", fn := fun _ => fun
  | [d1, d2] => { results := [.lit (.bool false)], args := [d1, d2] }
  | _ => none }
def FnExactIsBestWrongFalsely : Prop := fnExactIsBestRow.holds Tryd.pinned (OpenSpec.ofChange fnExactIsBestWrong)

/- THE SECOND FORM. 'bulk': how many values and letters a reading holds, each counted each time it is reached (what is shared counts as often as it is met; a slice's spare places count too). A statement '..UptoSaid' is the law's where the arguments, and the package variables that the reading takes, are together of bulk at most 1048576: NARROWER than '..Said'. Prove '..Said' where nothing that the law and all that it calls make is longer than what came in: it says more and counts as full. Else prove '..UptoSaid'. A law counts once. -/
mutual
def uptoBulk {H : Type} : DataW H → Nat
  | .lit (.string bytes) => bytes.length + 1
  | .lit _ => 1
  | .nil => 1
  | .ptr d => uptoBulk d + 1
  | .slice elems spare => uptoBulkAll elems + uptoBulkAll spare + 1
  | .agg parts => uptoBulkAll parts + 1
  | .iface _ d => uptoBulk d + 1
  | .map entries => uptoBulkEntries entries + 1
  | .held _ => 1
def uptoBulkAll {H : Type} : List (DataW H) → Nat
  | [] => 0
  | d :: r => uptoBulk d + uptoBulkAll r
def uptoBulkEntries {H : Type} : List (Lit × DataW H) → Nat
  | [] => 0
  | x :: r => uptoBulkEntry x + uptoBulkEntries r
def uptoBulkEntry {H : Type} : Lit × DataW H → Nat
  | (.string bytes, d) => bytes.length + uptoBulk d + 1
  | (_, d) => uptoBulk d + 1
 end
def uptoSmall : (H : Type) → List (DataW H) → Bool := fun _ ds => decide (uptoBulkAll ds ≤ 1048576)
def OpenSpec.upto (s : _root_.Go.ChangeSpec) : _root_.Go.OpenSpec := { _root_.Go.OpenSpec.ofChange s with cond := some uptoSmall }

/-- 'laws.FnTotalCost', WHERE WHAT IT READS IS OF BULK AT MOST 1048576: true; the input reads as it did. -/
def fnTotalCostUptoRow : OpenClaim := { program := "ythgcoocgeekdnaadoor", sum := "54890e91e1673bd4461590d3154db920f8a3cf861b1d0ebd35bf40c57dcd001a", func := "loop.example/parallelmoves/laws.FnTotalCost", spec := "fnTotalCost", inPlace := ["internal/bytealg.IndexByteString", "internal/bytealg.IndexString", "internal/bytealg.CountString"], unfollowed := true, recurses := true, named := ["internal/bytealg.MaxLen", "unicode/utf8.first", "unicode/utf8.acceptRanges"], apart := false, laid := [("unicode/utf8.acceptRanges", laid_unicode_utf8_acceptRanges), ("unicode/utf8.first", laid_unicode_utf8_first)], narrowed := true }
def FnTotalCostUptoSaid : Prop := fnTotalCostUptoRow.holds Tryd.pinned (OpenSpec.upto fnTotalCostSpec)

/-- 'laws.FnExactCallsValid', WHERE WHAT IT READS IS OF BULK AT MOST 1048576: true; the input reads as it did. -/
def fnExactCallsValidUptoRow : OpenClaim := { program := "ythgcoocgeekdnaadoor", sum := "54890e91e1673bd4461590d3154db920f8a3cf861b1d0ebd35bf40c57dcd001a", func := "loop.example/parallelmoves/laws.FnExactCallsValid", spec := "fnExactCallsValid", inPlace := ["internal/bytealg.CountString", "internal/bytealg.IndexByteString", "internal/bytealg.IndexString"], named := ["unicode/utf8.first", "unicode/utf8.acceptRanges", "internal/bytealg.MaxLen"], apart := false, laid := [("unicode/utf8.acceptRanges", laid_unicode_utf8_acceptRanges), ("unicode/utf8.first", laid_unicode_utf8_first)], narrowed := true }
def FnExactCallsValidUptoSaid : Prop := fnExactCallsValidUptoRow.holds Tryd.pinned (OpenSpec.upto fnExactCallsValidSpec)

/-- 'laws.FnExactTotalCost', WHERE WHAT IT READS IS OF BULK AT MOST 1048576: true; the input reads as it did. -/
def fnExactTotalCostUptoRow : OpenClaim := { program := "ythgcoocgeekdnaadoor", sum := "54890e91e1673bd4461590d3154db920f8a3cf861b1d0ebd35bf40c57dcd001a", func := "loop.example/parallelmoves/laws.FnExactTotalCost", spec := "fnExactTotalCost", inPlace := ["internal/bytealg.IndexByteString", "internal/bytealg.IndexString", "internal/bytealg.CountString"], unfollowed := true, recurses := true, named := ["internal/bytealg.MaxLen", "unicode/utf8.first", "unicode/utf8.acceptRanges"], apart := false, laid := [("unicode/utf8.acceptRanges", laid_unicode_utf8_acceptRanges), ("unicode/utf8.first", laid_unicode_utf8_first)], narrowed := true }
def FnExactTotalCostUptoSaid : Prop := fnExactTotalCostUptoRow.holds Tryd.pinned (OpenSpec.upto fnExactTotalCostSpec)

/-- 'laws.FnExactBestParams', WHERE WHAT IT READS IS OF BULK AT MOST 1048576: true; the input reads as it did. -/
def fnExactBestParamsUptoRow : OpenClaim := { program := "ythgcoocgeekdnaadoor", sum := "54890e91e1673bd4461590d3154db920f8a3cf861b1d0ebd35bf40c57dcd001a", func := "loop.example/parallelmoves/laws.FnExactBestParams", spec := "fnExactBestParams", inPlace := ["internal/bytealg.CountString", "internal/bytealg.IndexByteString", "internal/bytealg.IndexString"], unfollowed := true, recurses := true, named := ["unicode/utf8.first", "unicode/utf8.acceptRanges", "internal/bytealg.MaxLen"], apart := false, laid := [("unicode/utf8.acceptRanges", laid_unicode_utf8_acceptRanges), ("unicode/utf8.first", laid_unicode_utf8_first)], narrowed := true }
def FnExactBestParamsUptoSaid : Prop := fnExactBestParamsUptoRow.holds Tryd.pinned (OpenSpec.upto fnExactBestParamsSpec)

/-- 'laws.FnExactLeastCost', WHERE WHAT IT READS IS OF BULK AT MOST 1048576: true; the input reads as it did. -/
def fnExactLeastCostUptoRow : OpenClaim := { program := "ythgcoocgeekdnaadoor", sum := "54890e91e1673bd4461590d3154db920f8a3cf861b1d0ebd35bf40c57dcd001a", func := "loop.example/parallelmoves/laws.FnExactLeastCost", spec := "fnExactLeastCost", inPlace := ["internal/bytealg.CountString", "internal/bytealg.IndexByteString", "internal/bytealg.IndexString"], unfollowed := true, recurses := true, named := ["unicode/utf8.first", "unicode/utf8.acceptRanges", "internal/bytealg.MaxLen"], apart := false, laid := [("unicode/utf8.acceptRanges", laid_unicode_utf8_acceptRanges), ("unicode/utf8.first", laid_unicode_utf8_first)], narrowed := true }
def FnExactLeastCostUptoSaid : Prop := fnExactLeastCostUptoRow.holds Tryd.pinned (OpenSpec.upto fnExactLeastCostSpec)

/-- 'laws.FnExactGreedyParams', WHERE WHAT IT READS IS OF BULK AT MOST 1048576: true; the input reads as it did. -/
def fnExactGreedyParamsUptoRow : OpenClaim := { program := "ythgcoocgeekdnaadoor", sum := "54890e91e1673bd4461590d3154db920f8a3cf861b1d0ebd35bf40c57dcd001a", func := "loop.example/parallelmoves/laws.FnExactGreedyParams", spec := "fnExactGreedyParams", inPlace := ["internal/bytealg.CountString", "internal/bytealg.IndexByteString", "internal/bytealg.IndexString"], unfollowed := true, recurses := true, named := ["unicode/utf8.first", "unicode/utf8.acceptRanges", "internal/bytealg.MaxLen"], apart := false, laid := [("unicode/utf8.acceptRanges", laid_unicode_utf8_acceptRanges), ("unicode/utf8.first", laid_unicode_utf8_first)], narrowed := true }
def FnExactGreedyParamsUptoSaid : Prop := fnExactGreedyParamsUptoRow.holds Tryd.pinned (OpenSpec.upto fnExactGreedyParamsSpec)

/-- 'laws.FnExactCountBest', WHERE WHAT IT READS IS OF BULK AT MOST 1048576: true; the input reads as it did. -/
def fnExactCountBestUptoRow : OpenClaim := { program := "ythgcoocgeekdnaadoor", sum := "54890e91e1673bd4461590d3154db920f8a3cf861b1d0ebd35bf40c57dcd001a", func := "loop.example/parallelmoves/laws.FnExactCountBest", spec := "fnExactCountBest", inPlace := ["internal/bytealg.CountString", "internal/bytealg.IndexByteString", "internal/bytealg.IndexString"], unfollowed := true, recurses := true, named := ["unicode/utf8.first", "unicode/utf8.acceptRanges", "internal/bytealg.MaxLen"], apart := false, laid := [("unicode/utf8.acceptRanges", laid_unicode_utf8_acceptRanges), ("unicode/utf8.first", laid_unicode_utf8_first)], narrowed := true }
def FnExactCountBestUptoSaid : Prop := fnExactCountBestUptoRow.holds Tryd.pinned (OpenSpec.upto fnExactCountBestSpec)

/-- 'laws.FnExactIsBest', WHERE WHAT IT READS IS OF BULK AT MOST 1048576: true; the input reads as it did. -/
def fnExactIsBestUptoRow : OpenClaim := { program := "ythgcoocgeekdnaadoor", sum := "54890e91e1673bd4461590d3154db920f8a3cf861b1d0ebd35bf40c57dcd001a", func := "loop.example/parallelmoves/laws.FnExactIsBest", spec := "fnExactIsBest", inPlace := ["internal/bytealg.IndexByteString", "internal/bytealg.IndexString", "internal/bytealg.CountString"], unfollowed := true, recurses := true, named := ["internal/bytealg.MaxLen", "unicode/utf8.first", "unicode/utf8.acceptRanges"], apart := false, laid := [("unicode/utf8.acceptRanges", laid_unicode_utf8_acceptRanges), ("unicode/utf8.first", laid_unicode_utf8_first)], narrowed := true }
def FnExactIsBestUptoSaid : Prop := fnExactIsBestUptoRow.holds Tryd.pinned (OpenSpec.upto fnExactIsBestSpec)

end Rows
end Go.Proofs.YthgcoocgeekdnaaDoor
