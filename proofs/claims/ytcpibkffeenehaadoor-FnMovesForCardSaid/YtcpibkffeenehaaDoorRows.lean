/-
  NARROWER THAN 'FOR EVERY INPUT', by the rows' own cells (each row's printed sentence says how): FnMovesFor: laid · FnCallAfter: laid · FnArgsOf: laid · FnExactCallValid: laid · FnExactMovesFor: laid · FnExactCallCost: laid · FnExactCallAfter: laid · FnExactLoopAfter: laid · FnExactIsSteady: laid · FnExactSteadyParams: laid.
  DERIVED. THE GIVEN ROWS OF THIS SEAT. 10 by the template 'for every input the law returns true; each argument reads behind the call as it read before'; 0 by the template 'total and deterministic' (their statements: YtcpibkffeenehaaDoorTotals.lean).
  GIVEN WITH THE SEED: the statements are not yours to turn. If you find one false, say at which input.
  Laid BY PROGRAM, IN A SANDBOX (cutbox-rows.mjs): the forced cells as the released guide's own fill.sh prints them over the translation cdfc50b5abdc6c6e… (all of the seat's roots in one cut). By AI agents, Wed Nov 11 2026. No macro, syntax, notation, axiom, sorry.
-/
import Derived.Test.YtcpibkffeenehaaDoorChecked
import GoSem.PinnedTables
import GoSem.Claim
import GoSem.ClaimJoined
import GoSem.ClaimMapViews
import Derived.JoinedTies
import Derived.KernelRfl
namespace Go.Proofs.YtcpibkffeenehaaDoor
/- THE CELL 'sum', in the pinned program and in every row, IS THE sha256 OF THE DUMP (.gsa) THAT YtcpibkffeenehaaDoorProg.lean LOADS. Nothing in Lean hashes anything: it is a label: what it is worth is what the hold of that sum in a sandbox is worth. -/
noncomputable def Tryd.pinned : Pinned := { name := "ytcpibkffeenehaadoor", sum := "cdfc50b5abdc6c6ebefcdaf0b68a2560bf85e930db4e8dd4704a463b39e8b4f8", checked := Tryd.checked }
namespace Rows
def none {H : Type} : Left H := { results := [], args := [] }

/- WHAT THE LISTED PACKAGE-LEVEL VARIABLES READ AS WHEN THE CALL BEGINS. Each datum BY PROGRAM (the guide's laid-datum.mjs) off the statement by which the dump's own 'gosem.cut.vars' lays the variable. In a bare row this is a premise. The card (YtcpibkffeenehaaDoorCards.lean) ties it to the program's text. -/
def laid_unicode_utf8_acceptRanges {H : Type} : DataW H := .agg [.agg [.lit (.int .u8 128), .lit (.int .u8 191)], .agg [.lit (.int .u8 160), .lit (.int .u8 191)], .agg [.lit (.int .u8 128), .lit (.int .u8 159)], .agg [.lit (.int .u8 144), .lit (.int .u8 191)], .agg [.lit (.int .u8 128), .lit (.int .u8 143)], .agg [.lit (.int .u8 0), .lit (.int .u8 0)], .agg [.lit (.int .u8 0), .lit (.int .u8 0)], .agg [.lit (.int .u8 0), .lit (.int .u8 0)], .agg [.lit (.int .u8 0), .lit (.int .u8 0)], .agg [.lit (.int .u8 0), .lit (.int .u8 0)], .agg [.lit (.int .u8 0), .lit (.int .u8 0)], .agg [.lit (.int .u8 0), .lit (.int .u8 0)], .agg [.lit (.int .u8 0), .lit (.int .u8 0)], .agg [.lit (.int .u8 0), .lit (.int .u8 0)], .agg [.lit (.int .u8 0), .lit (.int .u8 0)], .agg [.lit (.int .u8 0), .lit (.int .u8 0)]]
/-- One of Go's own tables, pinned by name: the form's constant. -/
def laid_unicode_utf8_first : DataW Unit := Go.Pinned.utf8First

/-- 'laws.FnMovesFor': WHATEVER THE INPUT: true; the input reads as it did. -/
def fnMovesForSpec : ChangeSpec := { name := "fnMovesFor", fn := fun _ => fun
  | [d] => { results := [.lit (.bool true)], args := [d] }
  | _ => none }
def fnMovesForRow : OpenClaim := { program := "ytcpibkffeenehaadoor", sum := "cdfc50b5abdc6c6ebefcdaf0b68a2560bf85e930db4e8dd4704a463b39e8b4f8", func := "loop.example/parallelmoves/laws.FnMovesFor", spec := "fnMovesFor", inPlace := ["internal/bytealg.CountString", "internal/bytealg.IndexByteString", "internal/bytealg.IndexString"], unfollowed := true, recurses := true, named := ["unicode/utf8.first", "unicode/utf8.acceptRanges", "internal/bytealg.MaxLen"], apart := false, laid := [("unicode/utf8.acceptRanges", laid_unicode_utf8_acceptRanges), ("unicode/utf8.first", laid_unicode_utf8_first)] }
def FnMovesForSaid : Prop := fnMovesForRow.holds Tryd.pinned (OpenSpec.ofChange fnMovesForSpec)

/-- ITS FALSE NEIGHBOUR: 'it returns false'. Refute it at one input. -/
def fnMovesForWrong : ChangeSpec := { name := "fnMovesFor", fn := fun _ => fun
  | [d] => { results := [.lit (.bool false)], args := [d] }
  | _ => none }
def FnMovesForWrongFalsely : Prop := fnMovesForRow.holds Tryd.pinned (OpenSpec.ofChange fnMovesForWrong)

/-- 'laws.FnCallAfter': WHATEVER THE INPUT: true; the input reads as it did. -/
def fnCallAfterSpec : ChangeSpec := { name := "fnCallAfter", fn := fun _ => fun
  | [d1, d2] => { results := [.lit (.bool true)], args := [d1, d2] }
  | _ => none }
def fnCallAfterRow : OpenClaim := { program := "ytcpibkffeenehaadoor", sum := "cdfc50b5abdc6c6ebefcdaf0b68a2560bf85e930db4e8dd4704a463b39e8b4f8", func := "loop.example/parallelmoves/laws.FnCallAfter", spec := "fnCallAfter", inPlace := ["internal/bytealg.CountString", "internal/bytealg.IndexByteString", "internal/bytealg.IndexString"], unfollowed := true, recurses := true, named := ["unicode/utf8.first", "unicode/utf8.acceptRanges", "internal/bytealg.MaxLen"], apart := false, laid := [("unicode/utf8.acceptRanges", laid_unicode_utf8_acceptRanges), ("unicode/utf8.first", laid_unicode_utf8_first)] }
def FnCallAfterSaid : Prop := fnCallAfterRow.holds Tryd.pinned (OpenSpec.ofChange fnCallAfterSpec)

/-- ITS FALSE NEIGHBOUR: 'it returns false'. Refute it at one input. -/
def fnCallAfterWrong : ChangeSpec := { name := "fnCallAfter", fn := fun _ => fun
  | [d1, d2] => { results := [.lit (.bool false)], args := [d1, d2] }
  | _ => none }
def FnCallAfterWrongFalsely : Prop := fnCallAfterRow.holds Tryd.pinned (OpenSpec.ofChange fnCallAfterWrong)

/-- 'laws.FnArgsOf': WHATEVER THE INPUT: true; the input reads as it did. -/
def fnArgsOfSpec : ChangeSpec := { name := "fnArgsOf", fn := fun _ => fun
  | [d] => { results := [.lit (.bool true)], args := [d] }
  | _ => none }
def fnArgsOfRow : OpenClaim := { program := "ytcpibkffeenehaadoor", sum := "cdfc50b5abdc6c6ebefcdaf0b68a2560bf85e930db4e8dd4704a463b39e8b4f8", func := "loop.example/parallelmoves/laws.FnArgsOf", spec := "fnArgsOf", inPlace := ["internal/bytealg.IndexByteString", "internal/bytealg.IndexString", "internal/bytealg.CountString"], unfollowed := true, recurses := true, named := ["internal/bytealg.MaxLen", "unicode/utf8.first", "unicode/utf8.acceptRanges"], apart := false, laid := [("unicode/utf8.acceptRanges", laid_unicode_utf8_acceptRanges), ("unicode/utf8.first", laid_unicode_utf8_first)] }
def FnArgsOfSaid : Prop := fnArgsOfRow.holds Tryd.pinned (OpenSpec.ofChange fnArgsOfSpec)

/-- ITS FALSE NEIGHBOUR: 'it returns false'. Refute it at one input. -/
def fnArgsOfWrong : ChangeSpec := { name := "fnArgsOf", fn := fun _ => fun
  | [d] => { results := [.lit (.bool false)], args := [d] }
  | _ => none }
def FnArgsOfWrongFalsely : Prop := fnArgsOfRow.holds Tryd.pinned (OpenSpec.ofChange fnArgsOfWrong)

/-- 'laws.FnExactCallValid': WHATEVER THE INPUT: true; the input reads as it did. -/
def fnExactCallValidSpec : ChangeSpec := { name := "fnExactCallValid", fn := fun _ => fun
  | [d1, d2] => { results := [.lit (.bool true)], args := [d1, d2] }
  | _ => none }
def fnExactCallValidRow : OpenClaim := { program := "ytcpibkffeenehaadoor", sum := "cdfc50b5abdc6c6ebefcdaf0b68a2560bf85e930db4e8dd4704a463b39e8b4f8", func := "loop.example/parallelmoves/laws.FnExactCallValid", spec := "fnExactCallValid", inPlace := ["internal/bytealg.CountString", "internal/bytealg.IndexByteString", "internal/bytealg.IndexString"], named := ["unicode/utf8.first", "unicode/utf8.acceptRanges", "internal/bytealg.MaxLen"], apart := false, laid := [("unicode/utf8.acceptRanges", laid_unicode_utf8_acceptRanges), ("unicode/utf8.first", laid_unicode_utf8_first)] }
def FnExactCallValidSaid : Prop := fnExactCallValidRow.holds Tryd.pinned (OpenSpec.ofChange fnExactCallValidSpec)

/-- ITS FALSE NEIGHBOUR: 'it returns false'. Refute it at one input. -/
def fnExactCallValidWrong : ChangeSpec := { name := "fnExactCallValid", fn := fun _ => fun
  | [d1, d2] => { results := [.lit (.bool false)], args := [d1, d2] }
  | _ => none }
def FnExactCallValidWrongFalsely : Prop := fnExactCallValidRow.holds Tryd.pinned (OpenSpec.ofChange fnExactCallValidWrong)

/-- 'laws.FnExactMovesFor': WHATEVER THE INPUT: true; the input reads as it did. -/
def fnExactMovesForSpec : ChangeSpec := { name := "fnExactMovesFor", fn := fun _ => fun
  | [d1, d2] => { results := [.lit (.bool true)], args := [d1, d2] }
  | _ => none }
def fnExactMovesForRow : OpenClaim := { program := "ytcpibkffeenehaadoor", sum := "cdfc50b5abdc6c6ebefcdaf0b68a2560bf85e930db4e8dd4704a463b39e8b4f8", func := "loop.example/parallelmoves/laws.FnExactMovesFor", spec := "fnExactMovesFor", inPlace := ["internal/bytealg.CountString", "internal/bytealg.IndexByteString", "internal/bytealg.IndexString"], named := ["unicode/utf8.first", "unicode/utf8.acceptRanges", "internal/bytealg.MaxLen"], apart := false, laid := [("unicode/utf8.acceptRanges", laid_unicode_utf8_acceptRanges), ("unicode/utf8.first", laid_unicode_utf8_first)] }
def FnExactMovesForSaid : Prop := fnExactMovesForRow.holds Tryd.pinned (OpenSpec.ofChange fnExactMovesForSpec)

/-- ITS FALSE NEIGHBOUR: 'it returns false'. Refute it at one input. -/
def fnExactMovesForWrong : ChangeSpec := { name := "fnExactMovesFor", fn := fun _ => fun
  | [d1, d2] => { results := [.lit (.bool false)], args := [d1, d2] }
  | _ => none }
def FnExactMovesForWrongFalsely : Prop := fnExactMovesForRow.holds Tryd.pinned (OpenSpec.ofChange fnExactMovesForWrong)

/-- 'laws.FnExactCallCost': WHATEVER THE INPUT: true; the input reads as it did. -/
def fnExactCallCostSpec : ChangeSpec := { name := "fnExactCallCost", fn := fun _ => fun
  | [d1, d2] => { results := [.lit (.bool true)], args := [d1, d2] }
  | _ => none }
def fnExactCallCostRow : OpenClaim := { program := "ytcpibkffeenehaadoor", sum := "cdfc50b5abdc6c6ebefcdaf0b68a2560bf85e930db4e8dd4704a463b39e8b4f8", func := "loop.example/parallelmoves/laws.FnExactCallCost", spec := "fnExactCallCost", inPlace := ["internal/bytealg.CountString", "internal/bytealg.IndexByteString", "internal/bytealg.IndexString"], unfollowed := true, recurses := true, named := ["unicode/utf8.first", "unicode/utf8.acceptRanges", "internal/bytealg.MaxLen"], apart := false, laid := [("unicode/utf8.acceptRanges", laid_unicode_utf8_acceptRanges), ("unicode/utf8.first", laid_unicode_utf8_first)] }
def FnExactCallCostSaid : Prop := fnExactCallCostRow.holds Tryd.pinned (OpenSpec.ofChange fnExactCallCostSpec)

/-- ITS FALSE NEIGHBOUR: 'it returns false'. Refute it at one input. -/
def fnExactCallCostWrong : ChangeSpec := { name := "fnExactCallCost", fn := fun _ => fun
  | [d1, d2] => { results := [.lit (.bool false)], args := [d1, d2] }
  | _ => none }
def FnExactCallCostWrongFalsely : Prop := fnExactCallCostRow.holds Tryd.pinned (OpenSpec.ofChange fnExactCallCostWrong)

/-- 'laws.FnExactCallAfter': WHATEVER THE INPUT: true; the input reads as it did. -/
def fnExactCallAfterSpec : ChangeSpec := { name := "fnExactCallAfter", fn := fun _ => fun
  | [d1, d2, d3] => { results := [.lit (.bool true)], args := [d1, d2, d3] }
  | _ => none }
def fnExactCallAfterRow : OpenClaim := { program := "ytcpibkffeenehaadoor", sum := "cdfc50b5abdc6c6ebefcdaf0b68a2560bf85e930db4e8dd4704a463b39e8b4f8", func := "loop.example/parallelmoves/laws.FnExactCallAfter", spec := "fnExactCallAfter", inPlace := ["internal/bytealg.CountString", "internal/bytealg.IndexByteString", "internal/bytealg.IndexString"], unfollowed := true, recurses := true, named := ["unicode/utf8.first", "unicode/utf8.acceptRanges", "internal/bytealg.MaxLen"], apart := false, laid := [("unicode/utf8.acceptRanges", laid_unicode_utf8_acceptRanges), ("unicode/utf8.first", laid_unicode_utf8_first)] }
def FnExactCallAfterSaid : Prop := fnExactCallAfterRow.holds Tryd.pinned (OpenSpec.ofChange fnExactCallAfterSpec)

/-- ITS FALSE NEIGHBOUR: 'it returns false'. Refute it at one input. -/
def fnExactCallAfterWrong : ChangeSpec := { name := "fnExactCallAfter", fn := fun _ => fun
  | [d1, d2, d3] => { results := [.lit (.bool false)], args := [d1, d2, d3] }
  | _ => none }
def FnExactCallAfterWrongFalsely : Prop := fnExactCallAfterRow.holds Tryd.pinned (OpenSpec.ofChange fnExactCallAfterWrong)

/-- 'laws.FnExactLoopAfter': WHATEVER THE INPUT: true; the input reads as it did. -/
def fnExactLoopAfterSpec : ChangeSpec := { name := "fnExactLoopAfter", fn := fun _ => fun
  | [d1, d2, d3] => { results := [.lit (.bool true)], args := [d1, d2, d3] }
  | _ => none }
def fnExactLoopAfterRow : OpenClaim := { program := "ytcpibkffeenehaadoor", sum := "cdfc50b5abdc6c6ebefcdaf0b68a2560bf85e930db4e8dd4704a463b39e8b4f8", func := "loop.example/parallelmoves/laws.FnExactLoopAfter", spec := "fnExactLoopAfter", inPlace := ["internal/bytealg.CountString", "internal/bytealg.IndexByteString", "internal/bytealg.IndexString"], unfollowed := true, recurses := true, named := ["unicode/utf8.first", "unicode/utf8.acceptRanges", "internal/bytealg.MaxLen"], apart := false, laid := [("unicode/utf8.acceptRanges", laid_unicode_utf8_acceptRanges), ("unicode/utf8.first", laid_unicode_utf8_first)] }
def FnExactLoopAfterSaid : Prop := fnExactLoopAfterRow.holds Tryd.pinned (OpenSpec.ofChange fnExactLoopAfterSpec)

/-- ITS FALSE NEIGHBOUR: 'it returns false'. Refute it at one input. -/
def fnExactLoopAfterWrong : ChangeSpec := { name := "fnExactLoopAfter", fn := fun _ => fun
  | [d1, d2, d3] => { results := [.lit (.bool false)], args := [d1, d2, d3] }
  | _ => none }
def FnExactLoopAfterWrongFalsely : Prop := fnExactLoopAfterRow.holds Tryd.pinned (OpenSpec.ofChange fnExactLoopAfterWrong)

/-- 'laws.FnExactIsSteady': WHATEVER THE INPUT: true; the input reads as it did. -/
def fnExactIsSteadySpec : ChangeSpec := { name := "fnExactIsSteady", fn := fun _ => fun
  | [d1, d2] => { results := [.lit (.bool true)], args := [d1, d2] }
  | _ => none }
def fnExactIsSteadyRow : OpenClaim := { program := "ytcpibkffeenehaadoor", sum := "cdfc50b5abdc6c6ebefcdaf0b68a2560bf85e930db4e8dd4704a463b39e8b4f8", func := "loop.example/parallelmoves/laws.FnExactIsSteady", spec := "fnExactIsSteady", inPlace := ["internal/bytealg.CountString", "internal/bytealg.IndexByteString", "internal/bytealg.IndexString"], named := ["unicode/utf8.first", "unicode/utf8.acceptRanges", "internal/bytealg.MaxLen"], apart := false, laid := [("unicode/utf8.acceptRanges", laid_unicode_utf8_acceptRanges), ("unicode/utf8.first", laid_unicode_utf8_first)] }
def FnExactIsSteadySaid : Prop := fnExactIsSteadyRow.holds Tryd.pinned (OpenSpec.ofChange fnExactIsSteadySpec)

/-- ITS FALSE NEIGHBOUR: 'it returns false'. Refute it at one input. -/
def fnExactIsSteadyWrong : ChangeSpec := { name := "fnExactIsSteady", fn := fun _ => fun
  | [d1, d2] => { results := [.lit (.bool false)], args := [d1, d2] }
  | _ => none }
def FnExactIsSteadyWrongFalsely : Prop := fnExactIsSteadyRow.holds Tryd.pinned (OpenSpec.ofChange fnExactIsSteadyWrong)

/-- 'laws.FnExactSteadyParams': WHATEVER THE INPUT: true; the input reads as it did. -/
def fnExactSteadyParamsSpec : ChangeSpec := { name := "fnExactSteadyParams", fn := fun _ => fun
  | [d1, d2] => { results := [.lit (.bool true)], args := [d1, d2] }
  | _ => none }
def fnExactSteadyParamsRow : OpenClaim := { program := "ytcpibkffeenehaadoor", sum := "cdfc50b5abdc6c6ebefcdaf0b68a2560bf85e930db4e8dd4704a463b39e8b4f8", func := "loop.example/parallelmoves/laws.FnExactSteadyParams", spec := "fnExactSteadyParams", inPlace := ["internal/bytealg.CountString", "internal/bytealg.IndexByteString", "internal/bytealg.IndexString"], named := ["unicode/utf8.first", "unicode/utf8.acceptRanges", "internal/bytealg.MaxLen"], apart := false, laid := [("unicode/utf8.acceptRanges", laid_unicode_utf8_acceptRanges), ("unicode/utf8.first", laid_unicode_utf8_first)] }
def FnExactSteadyParamsSaid : Prop := fnExactSteadyParamsRow.holds Tryd.pinned (OpenSpec.ofChange fnExactSteadyParamsSpec)

/-- ITS FALSE NEIGHBOUR: 'it returns false'. Refute it at one input. -/
def fnExactSteadyParamsWrong : ChangeSpec := { name := "fnExactSteadyParams", fn := fun _ => fun
  | [d1, d2] => { results := [.lit (.bool false)], args := [d1, d2] }
  | _ => none }
def FnExactSteadyParamsWrongFalsely : Prop := fnExactSteadyParamsRow.holds Tryd.pinned (OpenSpec.ofChange fnExactSteadyParamsWrong)

/- THE SECOND FORM. 'bulk': how many values and letters a reading holds, each counted each time it is reached (what is shared counts as often as it is met; a slice's spare places count too). A statement '..UptoSaid' is the law's where the arguments, and the package variables that the reading takes, are together of bulk at most 1048576: NARROWER than '..Said'. Prove '..Said' where nothing that the law and all that it calls make is longer than what came in: it says more and counts as full. Else prove '..UptoSaid'. A law counts once. -/
mutual
def uptoBulk {H : Type} : DataW H → Nat
  | .lit (.string bytes) => bytes.length + 1
  | .lit _ => 1
  | .nil => 1
  | .ptr d => uptoBulk d + 1
  | .slice elems spare => uptoBulkAll elems + uptoBulkAll spare + 1
  | .agg parts => uptoBulkAll parts + 1
  | .iface _ d => uptoBulk d + 1
  | .map entries => uptoBulkEntries entries + 1
  | .held _ => 1
def uptoBulkAll {H : Type} : List (DataW H) → Nat
  | [] => 0
  | d :: r => uptoBulk d + uptoBulkAll r
def uptoBulkEntries {H : Type} : List (Lit × DataW H) → Nat
  | [] => 0
  | x :: r => uptoBulkEntry x + uptoBulkEntries r
def uptoBulkEntry {H : Type} : Lit × DataW H → Nat
  | (.string bytes, d) => bytes.length + uptoBulk d + 1
  | (_, d) => uptoBulk d + 1
 end
def uptoSmall : (H : Type) → List (DataW H) → Bool := fun _ ds => decide (uptoBulkAll ds ≤ 1048576)
def OpenSpec.upto (s : _root_.Go.ChangeSpec) : _root_.Go.OpenSpec := { _root_.Go.OpenSpec.ofChange s with cond := some uptoSmall }

/-- 'laws.FnMovesFor', WHERE WHAT IT READS IS OF BULK AT MOST 1048576: true; the input reads as it did. -/
def fnMovesForUptoRow : OpenClaim := { program := "ytcpibkffeenehaadoor", sum := "cdfc50b5abdc6c6ebefcdaf0b68a2560bf85e930db4e8dd4704a463b39e8b4f8", func := "loop.example/parallelmoves/laws.FnMovesFor", spec := "fnMovesFor", inPlace := ["internal/bytealg.CountString", "internal/bytealg.IndexByteString", "internal/bytealg.IndexString"], unfollowed := true, recurses := true, named := ["unicode/utf8.first", "unicode/utf8.acceptRanges", "internal/bytealg.MaxLen"], apart := false, laid := [("unicode/utf8.acceptRanges", laid_unicode_utf8_acceptRanges), ("unicode/utf8.first", laid_unicode_utf8_first)], narrowed := true }
def FnMovesForUptoSaid : Prop := fnMovesForUptoRow.holds Tryd.pinned (OpenSpec.upto fnMovesForSpec)

/-- 'laws.FnCallAfter', WHERE WHAT IT READS IS OF BULK AT MOST 1048576: true; the input reads as it did. -/
def fnCallAfterUptoRow : OpenClaim := { program := "ytcpibkffeenehaadoor", sum := "cdfc50b5abdc6c6ebefcdaf0b68a2560bf85e930db4e8dd4704a463b39e8b4f8", func := "loop.example/parallelmoves/laws.FnCallAfter", spec := "fnCallAfter", inPlace := ["internal/bytealg.CountString", "internal/bytealg.IndexByteString", "internal/bytealg.IndexString"], unfollowed := true, recurses := true, named := ["unicode/utf8.first", "unicode/utf8.acceptRanges", "internal/bytealg.MaxLen"], apart := false, laid := [("unicode/utf8.acceptRanges", laid_unicode_utf8_acceptRanges), ("unicode/utf8.first", laid_unicode_utf8_first)], narrowed := true }
def FnCallAfterUptoSaid : Prop := fnCallAfterUptoRow.holds Tryd.pinned (OpenSpec.upto fnCallAfterSpec)

/-- 'laws.FnArgsOf', WHERE WHAT IT READS IS OF BULK AT MOST 1048576: true; the input reads as it did. -/
def fnArgsOfUptoRow : OpenClaim := { program := "ytcpibkffeenehaadoor", sum := "cdfc50b5abdc6c6ebefcdaf0b68a2560bf85e930db4e8dd4704a463b39e8b4f8", func := "loop.example/parallelmoves/laws.FnArgsOf", spec := "fnArgsOf", inPlace := ["internal/bytealg.IndexByteString", "internal/bytealg.IndexString", "internal/bytealg.CountString"], unfollowed := true, recurses := true, named := ["internal/bytealg.MaxLen", "unicode/utf8.first", "unicode/utf8.acceptRanges"], apart := false, laid := [("unicode/utf8.acceptRanges", laid_unicode_utf8_acceptRanges), ("unicode/utf8.first", laid_unicode_utf8_first)], narrowed := true }
def FnArgsOfUptoSaid : Prop := fnArgsOfUptoRow.holds Tryd.pinned (OpenSpec.upto fnArgsOfSpec)

/-- 'laws.FnExactCallValid', WHERE WHAT IT READS IS OF BULK AT MOST 1048576: true; the input reads as it did. -/
def fnExactCallValidUptoRow : OpenClaim := { program := "ytcpibkffeenehaadoor", sum := "cdfc50b5abdc6c6ebefcdaf0b68a2560bf85e930db4e8dd4704a463b39e8b4f8", func := "loop.example/parallelmoves/laws.FnExactCallValid", spec := "fnExactCallValid", inPlace := ["internal/bytealg.CountString", "internal/bytealg.IndexByteString", "internal/bytealg.IndexString"], named := ["unicode/utf8.first", "unicode/utf8.acceptRanges", "internal/bytealg.MaxLen"], apart := false, laid := [("unicode/utf8.acceptRanges", laid_unicode_utf8_acceptRanges), ("unicode/utf8.first", laid_unicode_utf8_first)], narrowed := true }
def FnExactCallValidUptoSaid : Prop := fnExactCallValidUptoRow.holds Tryd.pinned (OpenSpec.upto fnExactCallValidSpec)

/-- 'laws.FnExactMovesFor', WHERE WHAT IT READS IS OF BULK AT MOST 1048576: true; the input reads as it did. -/
def fnExactMovesForUptoRow : OpenClaim := { program := "ytcpibkffeenehaadoor", sum := "cdfc50b5abdc6c6ebefcdaf0b68a2560bf85e930db4e8dd4704a463b39e8b4f8", func := "loop.example/parallelmoves/laws.FnExactMovesFor", spec := "fnExactMovesFor", inPlace := ["internal/bytealg.CountString", "internal/bytealg.IndexByteString", "internal/bytealg.IndexString"], named := ["unicode/utf8.first", "unicode/utf8.acceptRanges", "internal/bytealg.MaxLen"], apart := false, laid := [("unicode/utf8.acceptRanges", laid_unicode_utf8_acceptRanges), ("unicode/utf8.first", laid_unicode_utf8_first)], narrowed := true }
def FnExactMovesForUptoSaid : Prop := fnExactMovesForUptoRow.holds Tryd.pinned (OpenSpec.upto fnExactMovesForSpec)

/-- 'laws.FnExactCallCost', WHERE WHAT IT READS IS OF BULK AT MOST 1048576: true; the input reads as it did. -/
def fnExactCallCostUptoRow : OpenClaim := { program := "ytcpibkffeenehaadoor", sum := "cdfc50b5abdc6c6ebefcdaf0b68a2560bf85e930db4e8dd4704a463b39e8b4f8", func := "loop.example/parallelmoves/laws.FnExactCallCost", spec := "fnExactCallCost", inPlace := ["internal/bytealg.CountString", "internal/bytealg.IndexByteString", "internal/bytealg.IndexString"], unfollowed := true, recurses := true, named := ["unicode/utf8.first", "unicode/utf8.acceptRanges", "internal/bytealg.MaxLen"], apart := false, laid := [("unicode/utf8.acceptRanges", laid_unicode_utf8_acceptRanges), ("unicode/utf8.first", laid_unicode_utf8_first)], narrowed := true }
def FnExactCallCostUptoSaid : Prop := fnExactCallCostUptoRow.holds Tryd.pinned (OpenSpec.upto fnExactCallCostSpec)

/-- 'laws.FnExactCallAfter', WHERE WHAT IT READS IS OF BULK AT MOST 1048576: true; the input reads as it did. -/
def fnExactCallAfterUptoRow : OpenClaim := { program := "ytcpibkffeenehaadoor", sum := "cdfc50b5abdc6c6ebefcdaf0b68a2560bf85e930db4e8dd4704a463b39e8b4f8", func := "loop.example/parallelmoves/laws.FnExactCallAfter", spec := "fnExactCallAfter", inPlace := ["internal/bytealg.CountString", "internal/bytealg.IndexByteString", "internal/bytealg.IndexString"], unfollowed := true, recurses := true, named := ["unicode/utf8.first", "unicode/utf8.acceptRanges", "internal/bytealg.MaxLen"], apart := false, laid := [("unicode/utf8.acceptRanges", laid_unicode_utf8_acceptRanges), ("unicode/utf8.first", laid_unicode_utf8_first)], narrowed := true }
def FnExactCallAfterUptoSaid : Prop := fnExactCallAfterUptoRow.holds Tryd.pinned (OpenSpec.upto fnExactCallAfterSpec)

/-- 'laws.FnExactLoopAfter', WHERE WHAT IT READS IS OF BULK AT MOST 1048576: true; the input reads as it did. -/
def fnExactLoopAfterUptoRow : OpenClaim := { program := "ytcpibkffeenehaadoor", sum := "cdfc50b5abdc6c6ebefcdaf0b68a2560bf85e930db4e8dd4704a463b39e8b4f8", func := "loop.example/parallelmoves/laws.FnExactLoopAfter", spec := "fnExactLoopAfter", inPlace := ["internal/bytealg.CountString", "internal/bytealg.IndexByteString", "internal/bytealg.IndexString"], unfollowed := true, recurses := true, named := ["unicode/utf8.first", "unicode/utf8.acceptRanges", "internal/bytealg.MaxLen"], apart := false, laid := [("unicode/utf8.acceptRanges", laid_unicode_utf8_acceptRanges), ("unicode/utf8.first", laid_unicode_utf8_first)], narrowed := true }
def FnExactLoopAfterUptoSaid : Prop := fnExactLoopAfterUptoRow.holds Tryd.pinned (OpenSpec.upto fnExactLoopAfterSpec)

/-- 'laws.FnExactIsSteady', WHERE WHAT IT READS IS OF BULK AT MOST 1048576: true; the input reads as it did. -/
def fnExactIsSteadyUptoRow : OpenClaim := { program := "ytcpibkffeenehaadoor", sum := "cdfc50b5abdc6c6ebefcdaf0b68a2560bf85e930db4e8dd4704a463b39e8b4f8", func := "loop.example/parallelmoves/laws.FnExactIsSteady", spec := "fnExactIsSteady", inPlace := ["internal/bytealg.CountString", "internal/bytealg.IndexByteString", "internal/bytealg.IndexString"], named := ["unicode/utf8.first", "unicode/utf8.acceptRanges", "internal/bytealg.MaxLen"], apart := false, laid := [("unicode/utf8.acceptRanges", laid_unicode_utf8_acceptRanges), ("unicode/utf8.first", laid_unicode_utf8_first)], narrowed := true }
def FnExactIsSteadyUptoSaid : Prop := fnExactIsSteadyUptoRow.holds Tryd.pinned (OpenSpec.upto fnExactIsSteadySpec)

/-- 'laws.FnExactSteadyParams', WHERE WHAT IT READS IS OF BULK AT MOST 1048576: true; the input reads as it did. -/
def fnExactSteadyParamsUptoRow : OpenClaim := { program := "ytcpibkffeenehaadoor", sum := "cdfc50b5abdc6c6ebefcdaf0b68a2560bf85e930db4e8dd4704a463b39e8b4f8", func := "loop.example/parallelmoves/laws.FnExactSteadyParams", spec := "fnExactSteadyParams", inPlace := ["internal/bytealg.CountString", "internal/bytealg.IndexByteString", "internal/bytealg.IndexString"], named := ["unicode/utf8.first", "unicode/utf8.acceptRanges", "internal/bytealg.MaxLen"], apart := false, laid := [("unicode/utf8.acceptRanges", laid_unicode_utf8_acceptRanges), ("unicode/utf8.first", laid_unicode_utf8_first)], narrowed := true }
def FnExactSteadyParamsUptoSaid : Prop := fnExactSteadyParamsUptoRow.holds Tryd.pinned (OpenSpec.upto fnExactSteadyParamsSpec)

end Rows
end Go.Proofs.YtcpibkffeenehaaDoor
