/-
  NARROWER THAN 'FOR EVERY INPUT', by the rows' own cells (each row's printed sentence says how): FnSequenceText: laid · FnExactFormatSequence: laid · FnExactParseSequence: laid.
  DERIVED. THE GIVEN ROWS OF THIS SEAT. 3 by the template 'for every input the law returns true; each argument reads behind the call as it read before'; 0 by the template 'total and deterministic' (their statements: YtinggcjjdgibbabDoorTotals.lean).
  GIVEN WITH THE SEED: the statements are not yours to turn. If you find one false, say at which input.
  Laid BY PROGRAM, IN A SANDBOX (cutbox-rows.mjs): the forced cells as the released guide's own fill.sh prints them over the translation 15e798b95c2886b6… (all of the seat's roots in one cut). By AI agents, Wed Nov 11 2026. No macro, syntax, notation, axiom, sorry.
-/
import Derived.Test.YtinggcjjdgibbabDoorChecked
import GoSem.Claim
import GoSem.ClaimJoined
import GoSem.ClaimMapViews
import Derived.JoinedTies
import Derived.KernelRfl
namespace Go.Proofs.YtinggcjjdgibbabDoor
/- THE CELL 'sum', in the pinned program and in every row, IS THE sha256 OF THE DUMP (.gsa) THAT YtinggcjjdgibbabDoorProg.lean LOADS. Nothing in Lean hashes anything: it is a label: what it is worth is what the hold of that sum in a sandbox is worth. -/
noncomputable def Tryd.pinned : Pinned := { name := "ytinggcjjdgibbabdoor", sum := "15e798b95c2886b6a8d66b31eedb3dfe7ac7dc5c1bb181ceaf10ede20617be39", checked := Tryd.checked }
namespace Rows
def none {H : Type} : Left H := { results := [], args := [] }

/- WHAT THE LISTED PACKAGE-LEVEL VARIABLES READ AS WHEN THE CALL BEGINS. Each datum BY PROGRAM (the guide's laid-datum.mjs) off the statement by which the dump's own 'gosem.cut.vars' lays the variable. In a bare row this is a premise. The card (YtinggcjjdgibbabDoorCards.lean) ties it to the program's text. -/
def laid_loop_example_parallelmoves_impl_stepSigns {H : Type} : DataW H := .agg [.lit (.string [61]), .lit (.string [126])]

/-- 'laws.FnSequenceText': WHATEVER THE INPUT: true; the input reads as it did. -/
def fnSequenceTextSpec : ChangeSpec := { name := "fnSequenceText", vars := ["loop.example/parallelmoves/impl.stepSigns"], fn := fun _ => fun
  | [d1, d2, g1] => { results := [.lit (.bool true)], args := [d1, d2], vars := [g1] }
  | _ => none }
def fnSequenceTextRow : OpenClaim := { program := "ytinggcjjdgibbabdoor", sum := "15e798b95c2886b6a8d66b31eedb3dfe7ac7dc5c1bb181ceaf10ede20617be39", func := "loop.example/parallelmoves/laws.FnSequenceText", spec := "fnSequenceText", inPlace := ["internal/bytealg.IndexByteString", "internal/bytealg.IndexString", "internal/abi.NoEscape", "internal/bytealg.MakeNoZero"], unfollowed := true, recurses := true, named := ["internal/bytealg.MaxLen", "loop.example/parallelmoves/impl.stepSigns"], apart := false, laid := [("loop.example/parallelmoves/impl.stepSigns", laid_loop_example_parallelmoves_impl_stepSigns)] }
def FnSequenceTextSaid : Prop := fnSequenceTextRow.holds Tryd.pinned (OpenSpec.ofChange fnSequenceTextSpec)

/-- ITS FALSE NEIGHBOUR: 'it returns false'. Refute it at one input. -/
def fnSequenceTextWrong : ChangeSpec := { name := "fnSequenceText", vars := ["loop.example/parallelmoves/impl.stepSigns"], fn := fun _ => fun
  | [d1, d2, g1] => { results := [.lit (.bool false)], args := [d1, d2], vars := [g1] }
  | _ => none }
def FnSequenceTextWrongFalsely : Prop := fnSequenceTextRow.holds Tryd.pinned (OpenSpec.ofChange fnSequenceTextWrong)

/-- 'laws.FnExactFormatSequence': WHATEVER THE INPUT: true; the input reads as it did. -/
def fnExactFormatSequenceSpec : ChangeSpec := { name := "fnExactFormatSequence", vars := ["loop.example/parallelmoves/impl.stepSigns"], fn := fun _ => fun
  | [d, g1] => { results := [.lit (.bool true)], args := [d], vars := [g1] }
  | _ => none }
def fnExactFormatSequenceRow : OpenClaim := { program := "ytinggcjjdgibbabdoor", sum := "15e798b95c2886b6a8d66b31eedb3dfe7ac7dc5c1bb181ceaf10ede20617be39", func := "loop.example/parallelmoves/laws.FnExactFormatSequence", spec := "fnExactFormatSequence", inPlace := ["internal/bytealg.IndexByteString", "internal/bytealg.IndexString", "internal/abi.NoEscape", "internal/bytealg.MakeNoZero"], named := ["internal/bytealg.MaxLen", "loop.example/parallelmoves/impl.stepSigns"], apart := false, laid := [("loop.example/parallelmoves/impl.stepSigns", laid_loop_example_parallelmoves_impl_stepSigns)] }
def FnExactFormatSequenceSaid : Prop := fnExactFormatSequenceRow.holds Tryd.pinned (OpenSpec.ofChange fnExactFormatSequenceSpec)

/-- ITS FALSE NEIGHBOUR: 'it returns false'. Refute it at one input. -/
def fnExactFormatSequenceWrong : ChangeSpec := { name := "fnExactFormatSequence", vars := ["loop.example/parallelmoves/impl.stepSigns"], fn := fun _ => fun
  | [d, g1] => { results := [.lit (.bool false)], args := [d], vars := [g1] }
  | _ => none }
def FnExactFormatSequenceWrongFalsely : Prop := fnExactFormatSequenceRow.holds Tryd.pinned (OpenSpec.ofChange fnExactFormatSequenceWrong)

/-- 'laws.FnExactParseSequence': WHATEVER THE INPUT: true; the input reads as it did. -/
def fnExactParseSequenceSpec : ChangeSpec := { name := "fnExactParseSequence", vars := ["loop.example/parallelmoves/impl.stepSigns"], fn := fun _ => fun
  | [d, g1] => { results := [.lit (.bool true)], args := [d], vars := [g1] }
  | _ => none }
def fnExactParseSequenceRow : OpenClaim := { program := "ytinggcjjdgibbabdoor", sum := "15e798b95c2886b6a8d66b31eedb3dfe7ac7dc5c1bb181ceaf10ede20617be39", func := "loop.example/parallelmoves/laws.FnExactParseSequence", spec := "fnExactParseSequence", inPlace := ["internal/bytealg.IndexByteString", "internal/bytealg.IndexString"], unfollowed := true, recurses := true, named := ["internal/bytealg.MaxLen", "loop.example/parallelmoves/impl.stepSigns"], apart := false, laid := [("loop.example/parallelmoves/impl.stepSigns", laid_loop_example_parallelmoves_impl_stepSigns)] }
def FnExactParseSequenceSaid : Prop := fnExactParseSequenceRow.holds Tryd.pinned (OpenSpec.ofChange fnExactParseSequenceSpec)

/-- ITS FALSE NEIGHBOUR: 'it returns false'. Refute it at one input. -/
def fnExactParseSequenceWrong : ChangeSpec := { name := "fnExactParseSequence", vars := ["loop.example/parallelmoves/impl.stepSigns"], fn := fun _ => fun
  | [d, g1] => { results := [.lit (.bool false)], args := [d], vars := [g1] }
  | _ => none }
def FnExactParseSequenceWrongFalsely : Prop := fnExactParseSequenceRow.holds Tryd.pinned (OpenSpec.ofChange fnExactParseSequenceWrong)

/- THE SECOND FORM. 'bulk': how many values and letters a reading holds, each counted each time it is reached (what is shared counts as often as it is met; a slice's spare places count too). A statement '..UptoSaid' is the law's where the arguments, and the package variables that the reading takes, are together of bulk at most 1048576: NARROWER than '..Said'. Prove '..Said' where nothing that the law and all that it calls make is longer than what came in: it says more and counts as full. Else prove '..UptoSaid'. A law counts once. -/
mutual
def uptoBulk {H : Type} : DataW H → Nat
  | .lit (.string bytes) => bytes.length + 1
  | .lit _ => 1
  | .nil => 1
  | .ptr d => uptoBulk d + 1
  | .slice elems spare => uptoBulkAll elems + uptoBulkAll spare + 1
  | .agg parts => uptoBulkAll parts + 1
  | .iface _ d => uptoBulk d + 1
  | .map entries => uptoBulkEntries entries + 1
  | .held _ => 1
def uptoBulkAll {H : Type} : List (DataW H) → Nat
  | [] => 0
  | d :: r => uptoBulk d + uptoBulkAll r
def uptoBulkEntries {H : Type} : List (Lit × DataW H) → Nat
  | [] => 0
  | x :: r => uptoBulkEntry x + uptoBulkEntries r
def uptoBulkEntry {H : Type} : Lit × DataW H → Nat
  | (.string bytes, d) => bytes.length + uptoBulk d + 1
  | (_, d) => uptoBulk d + 1
 end
def uptoSmall : (H : Type) → List (DataW H) → Bool := fun _ ds => decide (uptoBulkAll ds ≤ 1048576)
def OpenSpec.upto (s : _root_.Go.ChangeSpec) : _root_.Go.OpenSpec := { _root_.Go.OpenSpec.ofChange s with cond := some uptoSmall }

/-- 'laws.FnSequenceText', WHERE WHAT IT READS IS OF BULK AT MOST 1048576: true; the input reads as it did. -/
def fnSequenceTextUptoRow : OpenClaim := { program := "ytinggcjjdgibbabdoor", sum := "15e798b95c2886b6a8d66b31eedb3dfe7ac7dc5c1bb181ceaf10ede20617be39", func := "loop.example/parallelmoves/laws.FnSequenceText", spec := "fnSequenceText", inPlace := ["internal/bytealg.IndexByteString", "internal/bytealg.IndexString", "internal/abi.NoEscape", "internal/bytealg.MakeNoZero"], unfollowed := true, recurses := true, named := ["internal/bytealg.MaxLen", "loop.example/parallelmoves/impl.stepSigns"], apart := false, laid := [("loop.example/parallelmoves/impl.stepSigns", laid_loop_example_parallelmoves_impl_stepSigns)], narrowed := true }
def FnSequenceTextUptoSaid : Prop := fnSequenceTextUptoRow.holds Tryd.pinned (OpenSpec.upto fnSequenceTextSpec)

/-- 'laws.FnExactFormatSequence', WHERE WHAT IT READS IS OF BULK AT MOST 1048576: true; the input reads as it did. -/
def fnExactFormatSequenceUptoRow : OpenClaim := { program := "ytinggcjjdgibbabdoor", sum := "15e798b95c2886b6a8d66b31eedb3dfe7ac7dc5c1bb181ceaf10ede20617be39", func := "loop.example/parallelmoves/laws.FnExactFormatSequence", spec := "fnExactFormatSequence", inPlace := ["internal/bytealg.IndexByteString", "internal/bytealg.IndexString", "internal/abi.NoEscape", "internal/bytealg.MakeNoZero"], named := ["internal/bytealg.MaxLen", "loop.example/parallelmoves/impl.stepSigns"], apart := false, laid := [("loop.example/parallelmoves/impl.stepSigns", laid_loop_example_parallelmoves_impl_stepSigns)], narrowed := true }
def FnExactFormatSequenceUptoSaid : Prop := fnExactFormatSequenceUptoRow.holds Tryd.pinned (OpenSpec.upto fnExactFormatSequenceSpec)

/-- 'laws.FnExactParseSequence', WHERE WHAT IT READS IS OF BULK AT MOST 1048576: true; the input reads as it did. -/
def fnExactParseSequenceUptoRow : OpenClaim := { program := "ytinggcjjdgibbabdoor", sum := "15e798b95c2886b6a8d66b31eedb3dfe7ac7dc5c1bb181ceaf10ede20617be39", func := "loop.example/parallelmoves/laws.FnExactParseSequence", spec := "fnExactParseSequence", inPlace := ["internal/bytealg.IndexByteString", "internal/bytealg.IndexString"], unfollowed := true, recurses := true, named := ["internal/bytealg.MaxLen", "loop.example/parallelmoves/impl.stepSigns"], apart := false, laid := [("loop.example/parallelmoves/impl.stepSigns", laid_loop_example_parallelmoves_impl_stepSigns)], narrowed := true }
def FnExactParseSequenceUptoSaid : Prop := fnExactParseSequenceUptoRow.holds Tryd.pinned (OpenSpec.upto fnExactParseSequenceSpec)

end Rows
end Go.Proofs.YtinggcjjdgibbabDoor
