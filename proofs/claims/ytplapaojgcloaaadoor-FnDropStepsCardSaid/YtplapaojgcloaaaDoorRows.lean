/-
  NARROWER THAN 'FOR EVERY INPUT', by the rows' own cells (each row's printed sentence says how): FnDropSteps: laid · FnIsRightFor: laid · FnExactWantedValid: laid · FnExactKeepWanted: laid · FnExactNeededBy: laid · FnExactSpareFor: laid · FnExactOrderWanted: laid · FnExactIsRightFor: laid · FnExactDropSteps: laid · FnExactNeededAhead: laid.
  DERIVED. THE GIVEN ROWS OF THIS SEAT. 10 by the template 'for every input the law returns true; each argument reads behind the call as it read before'; 0 by the template 'total and deterministic' (their statements: YtplapaojgcloaaaDoorTotals.lean).
  GIVEN WITH THE SEED: the statements are not yours to turn. If you find one false, say at which input.
  Laid BY PROGRAM, IN A SANDBOX (cutbox-rows.mjs): the forced cells as the released guide's own fill.sh prints them over the translation ec3b795e36bfc1a1… (all of the seat's roots in one cut). By AI agents, Wed Nov 11 2026. No macro, syntax, notation, axiom, sorry.
-/
import Derived.Test.YtplapaojgcloaaaDoorChecked
import GoSem.Claim
import GoSem.ClaimJoined
import GoSem.ClaimMapViews
import Derived.JoinedTies
import Derived.KernelRfl
namespace Go.Proofs.YtplapaojgcloaaaDoor
/- THE CELL 'sum', in the pinned program and in every row, IS THE sha256 OF THE DUMP (.gsa) THAT YtplapaojgcloaaaDoorProg.lean LOADS. Nothing in Lean hashes anything: it is a label: what it is worth is what the hold of that sum in a sandbox is worth. -/
noncomputable def Tryd.pinned : Pinned := { name := "ytplapaojgcloaaadoor", sum := "ec3b795e36bfc1a1a1e4ec22ef67e15b714361de8ee463be2c2efc83115863bc", checked := Tryd.checked }
namespace Rows
def none {H : Type} : Left H := { results := [], args := [] }

/- WHAT THE LISTED PACKAGE-LEVEL VARIABLES READ AS WHEN THE CALL BEGINS. Each datum BY PROGRAM (the guide's laid-datum.mjs) off the statement by which the dump's own 'gosem.cut.vars' lays the variable. In a bare row this is a premise. The card (YtplapaojgcloaaaDoorCards.lean) ties it to the program's text. -/
def laid_math_bits_deBruijn32tab {H : Type} : DataW H := .agg [.lit (.int .u8 0), .lit (.int .u8 1), .lit (.int .u8 28), .lit (.int .u8 2), .lit (.int .u8 29), .lit (.int .u8 14), .lit (.int .u8 24), .lit (.int .u8 3), .lit (.int .u8 30), .lit (.int .u8 22), .lit (.int .u8 20), .lit (.int .u8 15), .lit (.int .u8 25), .lit (.int .u8 17), .lit (.int .u8 4), .lit (.int .u8 8), .lit (.int .u8 31), .lit (.int .u8 27), .lit (.int .u8 13), .lit (.int .u8 23), .lit (.int .u8 21), .lit (.int .u8 19), .lit (.int .u8 16), .lit (.int .u8 7), .lit (.int .u8 26), .lit (.int .u8 12), .lit (.int .u8 18), .lit (.int .u8 6), .lit (.int .u8 11), .lit (.int .u8 5), .lit (.int .u8 10), .lit (.int .u8 9)]
def laid_math_bits_deBruijn64tab {H : Type} : DataW H := .agg [.lit (.int .u8 0), .lit (.int .u8 1), .lit (.int .u8 56), .lit (.int .u8 2), .lit (.int .u8 57), .lit (.int .u8 49), .lit (.int .u8 28), .lit (.int .u8 3), .lit (.int .u8 61), .lit (.int .u8 58), .lit (.int .u8 42), .lit (.int .u8 50), .lit (.int .u8 38), .lit (.int .u8 29), .lit (.int .u8 17), .lit (.int .u8 4), .lit (.int .u8 62), .lit (.int .u8 47), .lit (.int .u8 59), .lit (.int .u8 36), .lit (.int .u8 45), .lit (.int .u8 43), .lit (.int .u8 51), .lit (.int .u8 22), .lit (.int .u8 53), .lit (.int .u8 39), .lit (.int .u8 33), .lit (.int .u8 30), .lit (.int .u8 24), .lit (.int .u8 18), .lit (.int .u8 12), .lit (.int .u8 5), .lit (.int .u8 63), .lit (.int .u8 55), .lit (.int .u8 48), .lit (.int .u8 27), .lit (.int .u8 60), .lit (.int .u8 41), .lit (.int .u8 37), .lit (.int .u8 16), .lit (.int .u8 46), .lit (.int .u8 35), .lit (.int .u8 44), .lit (.int .u8 21), .lit (.int .u8 52), .lit (.int .u8 32), .lit (.int .u8 23), .lit (.int .u8 11), .lit (.int .u8 54), .lit (.int .u8 26), .lit (.int .u8 40), .lit (.int .u8 15), .lit (.int .u8 34), .lit (.int .u8 20), .lit (.int .u8 31), .lit (.int .u8 10), .lit (.int .u8 25), .lit (.int .u8 14), .lit (.int .u8 19), .lit (.int .u8 9), .lit (.int .u8 13), .lit (.int .u8 8), .lit (.int .u8 7), .lit (.int .u8 6)]

/-- 'laws.FnDropSteps': WHATEVER THE INPUT: true; the input reads as it did. -/
def fnDropStepsSpec : ChangeSpec := { name := "fnDropSteps", fn := fun _ => fun
  | [d] => { results := [.lit (.bool true)], args := [d] }
  | _ => none }
def fnDropStepsRow : OpenClaim := { program := "ytplapaojgcloaaadoor", sum := "ec3b795e36bfc1a1a1e4ec22ef67e15b714361de8ee463be2c2efc83115863bc", func := "loop.example/parallelmoves/laws.FnDropSteps", spec := "fnDropSteps", inPlace := ["internal/bytealg.IndexByteString", "internal/bytealg.IndexString"], unfollowed := true, recurses := true, named := ["internal/bytealg.MaxLen", "math/bits.deBruijn32tab", "math/bits.deBruijn64tab"], apart := false, laid := [("math/bits.deBruijn32tab", laid_math_bits_deBruijn32tab), ("math/bits.deBruijn64tab", laid_math_bits_deBruijn64tab)] }
def FnDropStepsSaid : Prop := fnDropStepsRow.holds Tryd.pinned (OpenSpec.ofChange fnDropStepsSpec)

/-- ITS FALSE NEIGHBOUR: 'it returns false'. Refute it at one input. -/
def fnDropStepsWrong : ChangeSpec := { name := "fnDropSteps", fn := fun _ => fun
  | [d] => { results := [.lit (.bool false)], args := [d] }
  | _ => none }
def FnDropStepsWrongFalsely : Prop := fnDropStepsRow.holds Tryd.pinned (OpenSpec.ofChange fnDropStepsWrong)

/-- 'laws.FnIsRightFor': WHATEVER THE INPUT: true; the input reads as it did. -/
def fnIsRightForSpec : ChangeSpec := { name := "fnIsRightFor", fn := fun _ => fun
  | [d1, d2] => { results := [.lit (.bool true)], args := [d1, d2] }
  | _ => none }
def fnIsRightForRow : OpenClaim := { program := "ytplapaojgcloaaadoor", sum := "ec3b795e36bfc1a1a1e4ec22ef67e15b714361de8ee463be2c2efc83115863bc", func := "loop.example/parallelmoves/laws.FnIsRightFor", spec := "fnIsRightFor", inPlace := ["internal/bytealg.IndexByteString", "internal/bytealg.IndexString"], unfollowed := true, recurses := true, named := ["internal/bytealg.MaxLen", "math/bits.deBruijn32tab", "math/bits.deBruijn64tab"], apart := false, laid := [("math/bits.deBruijn32tab", laid_math_bits_deBruijn32tab), ("math/bits.deBruijn64tab", laid_math_bits_deBruijn64tab)] }
def FnIsRightForSaid : Prop := fnIsRightForRow.holds Tryd.pinned (OpenSpec.ofChange fnIsRightForSpec)

/-- ITS FALSE NEIGHBOUR: 'it returns false'. Refute it at one input. -/
def fnIsRightForWrong : ChangeSpec := { name := "fnIsRightFor", fn := fun _ => fun
  | [d1, d2] => { results := [.lit (.bool false)], args := [d1, d2] }
  | _ => none }
def FnIsRightForWrongFalsely : Prop := fnIsRightForRow.holds Tryd.pinned (OpenSpec.ofChange fnIsRightForWrong)

/-- 'laws.FnExactWantedValid': WHATEVER THE INPUT: true; the input reads as it did. -/
def fnExactWantedValidSpec : ChangeSpec := { name := "fnExactWantedValid", fn := fun _ => fun
  | [d] => { results := [.lit (.bool true)], args := [d] }
  | _ => none }
def fnExactWantedValidRow : OpenClaim := { program := "ytplapaojgcloaaadoor", sum := "ec3b795e36bfc1a1a1e4ec22ef67e15b714361de8ee463be2c2efc83115863bc", func := "loop.example/parallelmoves/laws.FnExactWantedValid", spec := "fnExactWantedValid", inPlace := ["internal/bytealg.IndexByteString", "internal/bytealg.IndexString"], unfollowed := true, recurses := true, named := ["internal/bytealg.MaxLen", "math/bits.deBruijn32tab", "math/bits.deBruijn64tab"], apart := false, laid := [("math/bits.deBruijn32tab", laid_math_bits_deBruijn32tab), ("math/bits.deBruijn64tab", laid_math_bits_deBruijn64tab)] }
def FnExactWantedValidSaid : Prop := fnExactWantedValidRow.holds Tryd.pinned (OpenSpec.ofChange fnExactWantedValidSpec)

/-- ITS FALSE NEIGHBOUR: 'it returns false'. Refute it at one input. -/
def fnExactWantedValidWrong : ChangeSpec := { name := "fnExactWantedValid", fn := fun _ => fun
  | [d] => { results := [.lit (.bool false)], args := [d] }
  | _ => none }
def FnExactWantedValidWrongFalsely : Prop := fnExactWantedValidRow.holds Tryd.pinned (OpenSpec.ofChange fnExactWantedValidWrong)

/-- 'laws.FnExactKeepWanted': WHATEVER THE INPUT: true; the input reads as it did. -/
def fnExactKeepWantedSpec : ChangeSpec := { name := "fnExactKeepWanted", fn := fun _ => fun
  | [d1, d2] => { results := [.lit (.bool true)], args := [d1, d2] }
  | _ => none }
def fnExactKeepWantedRow : OpenClaim := { program := "ytplapaojgcloaaadoor", sum := "ec3b795e36bfc1a1a1e4ec22ef67e15b714361de8ee463be2c2efc83115863bc", func := "loop.example/parallelmoves/laws.FnExactKeepWanted", spec := "fnExactKeepWanted", inPlace := ["internal/bytealg.IndexByteString", "internal/bytealg.IndexString"], unfollowed := true, recurses := true, named := ["internal/bytealg.MaxLen", "math/bits.deBruijn32tab", "math/bits.deBruijn64tab"], apart := false, laid := [("math/bits.deBruijn32tab", laid_math_bits_deBruijn32tab), ("math/bits.deBruijn64tab", laid_math_bits_deBruijn64tab)] }
def FnExactKeepWantedSaid : Prop := fnExactKeepWantedRow.holds Tryd.pinned (OpenSpec.ofChange fnExactKeepWantedSpec)

/-- ITS FALSE NEIGHBOUR: 'it returns false'. Refute it at one input. -/
def fnExactKeepWantedWrong : ChangeSpec := { name := "fnExactKeepWanted", fn := fun _ => fun
  | [d1, d2] => { results := [.lit (.bool false)], args := [d1, d2] }
  | _ => none }
def FnExactKeepWantedWrongFalsely : Prop := fnExactKeepWantedRow.holds Tryd.pinned (OpenSpec.ofChange fnExactKeepWantedWrong)

/-- 'laws.FnExactNeededBy': WHATEVER THE INPUT: true; the input reads as it did. -/
def fnExactNeededBySpec : ChangeSpec := { name := "fnExactNeededBy", fn := fun _ => fun
  | [d1, d2] => { results := [.lit (.bool true)], args := [d1, d2] }
  | _ => none }
def fnExactNeededByRow : OpenClaim := { program := "ytplapaojgcloaaadoor", sum := "ec3b795e36bfc1a1a1e4ec22ef67e15b714361de8ee463be2c2efc83115863bc", func := "loop.example/parallelmoves/laws.FnExactNeededBy", spec := "fnExactNeededBy", inPlace := ["internal/bytealg.IndexByteString", "internal/bytealg.IndexString"], unfollowed := true, recurses := true, named := ["internal/bytealg.MaxLen", "math/bits.deBruijn32tab", "math/bits.deBruijn64tab"], apart := false, laid := [("math/bits.deBruijn32tab", laid_math_bits_deBruijn32tab), ("math/bits.deBruijn64tab", laid_math_bits_deBruijn64tab)] }
def FnExactNeededBySaid : Prop := fnExactNeededByRow.holds Tryd.pinned (OpenSpec.ofChange fnExactNeededBySpec)

/-- ITS FALSE NEIGHBOUR: 'it returns false'. Refute it at one input. -/
def fnExactNeededByWrong : ChangeSpec := { name := "fnExactNeededBy", fn := fun _ => fun
  | [d1, d2] => { results := [.lit (.bool false)], args := [d1, d2] }
  | _ => none }
def FnExactNeededByWrongFalsely : Prop := fnExactNeededByRow.holds Tryd.pinned (OpenSpec.ofChange fnExactNeededByWrong)

/-- 'laws.FnExactSpareFor': WHATEVER THE INPUT: true; the input reads as it did. -/
def fnExactSpareForSpec : ChangeSpec := { name := "fnExactSpareFor", fn := fun _ => fun
  | [d1, d2] => { results := [.lit (.bool true)], args := [d1, d2] }
  | _ => none }
def fnExactSpareForRow : OpenClaim := { program := "ytplapaojgcloaaadoor", sum := "ec3b795e36bfc1a1a1e4ec22ef67e15b714361de8ee463be2c2efc83115863bc", func := "loop.example/parallelmoves/laws.FnExactSpareFor", spec := "fnExactSpareFor", inPlace := ["internal/bytealg.IndexByteString", "internal/bytealg.IndexString"], unfollowed := true, recurses := true, named := ["internal/bytealg.MaxLen", "math/bits.deBruijn32tab", "math/bits.deBruijn64tab"], apart := false, laid := [("math/bits.deBruijn32tab", laid_math_bits_deBruijn32tab), ("math/bits.deBruijn64tab", laid_math_bits_deBruijn64tab)] }
def FnExactSpareForSaid : Prop := fnExactSpareForRow.holds Tryd.pinned (OpenSpec.ofChange fnExactSpareForSpec)

/-- ITS FALSE NEIGHBOUR: 'it returns false'. Refute it at one input. -/
def fnExactSpareForWrong : ChangeSpec := { name := "fnExactSpareFor", fn := fun _ => fun
  | [d1, d2] => { results := [.lit (.bool false)], args := [d1, d2] }
  | _ => none }
def FnExactSpareForWrongFalsely : Prop := fnExactSpareForRow.holds Tryd.pinned (OpenSpec.ofChange fnExactSpareForWrong)

/-- 'laws.FnExactOrderWanted': WHATEVER THE INPUT: true; the input reads as it did. -/
def fnExactOrderWantedSpec : ChangeSpec := { name := "fnExactOrderWanted", fn := fun _ => fun
  | [d1, d2] => { results := [.lit (.bool true)], args := [d1, d2] }
  | _ => none }
def fnExactOrderWantedRow : OpenClaim := { program := "ytplapaojgcloaaadoor", sum := "ec3b795e36bfc1a1a1e4ec22ef67e15b714361de8ee463be2c2efc83115863bc", func := "loop.example/parallelmoves/laws.FnExactOrderWanted", spec := "fnExactOrderWanted", inPlace := ["internal/bytealg.IndexByteString", "internal/bytealg.IndexString"], unfollowed := true, recurses := true, named := ["internal/bytealg.MaxLen", "math/bits.deBruijn32tab", "math/bits.deBruijn64tab"], apart := false, laid := [("math/bits.deBruijn32tab", laid_math_bits_deBruijn32tab), ("math/bits.deBruijn64tab", laid_math_bits_deBruijn64tab)] }
def FnExactOrderWantedSaid : Prop := fnExactOrderWantedRow.holds Tryd.pinned (OpenSpec.ofChange fnExactOrderWantedSpec)

/-- ITS FALSE NEIGHBOUR: 'it returns false'. Refute it at one input. -/
def fnExactOrderWantedWrong : ChangeSpec := { name := "fnExactOrderWanted", fn := fun _ => fun
  | [d1, d2] => { results := [.lit (.bool false)], args := [d1, d2] }
  | _ => none }
def FnExactOrderWantedWrongFalsely : Prop := fnExactOrderWantedRow.holds Tryd.pinned (OpenSpec.ofChange fnExactOrderWantedWrong)

/-- 'laws.FnExactIsRightFor': WHATEVER THE INPUT: true; the input reads as it did. -/
def fnExactIsRightForSpec : ChangeSpec := { name := "fnExactIsRightFor", fn := fun _ => fun
  | [d1, d2, d3] => { results := [.lit (.bool true)], args := [d1, d2, d3] }
  | _ => none }
def fnExactIsRightForRow : OpenClaim := { program := "ytplapaojgcloaaadoor", sum := "ec3b795e36bfc1a1a1e4ec22ef67e15b714361de8ee463be2c2efc83115863bc", func := "loop.example/parallelmoves/laws.FnExactIsRightFor", spec := "fnExactIsRightFor", inPlace := ["internal/bytealg.IndexByteString", "internal/bytealg.IndexString"], unfollowed := true, recurses := true, named := ["internal/bytealg.MaxLen", "math/bits.deBruijn32tab", "math/bits.deBruijn64tab"], apart := false, laid := [("math/bits.deBruijn32tab", laid_math_bits_deBruijn32tab), ("math/bits.deBruijn64tab", laid_math_bits_deBruijn64tab)] }
def FnExactIsRightForSaid : Prop := fnExactIsRightForRow.holds Tryd.pinned (OpenSpec.ofChange fnExactIsRightForSpec)

/-- ITS FALSE NEIGHBOUR: 'it returns false'. Refute it at one input. -/
def fnExactIsRightForWrong : ChangeSpec := { name := "fnExactIsRightFor", fn := fun _ => fun
  | [d1, d2, d3] => { results := [.lit (.bool false)], args := [d1, d2, d3] }
  | _ => none }
def FnExactIsRightForWrongFalsely : Prop := fnExactIsRightForRow.holds Tryd.pinned (OpenSpec.ofChange fnExactIsRightForWrong)

/-- 'laws.FnExactDropSteps': WHATEVER THE INPUT: true; the input reads as it did. -/
def fnExactDropStepsSpec : ChangeSpec := { name := "fnExactDropSteps", fn := fun _ => fun
  | [d1, d2] => { results := [.lit (.bool true)], args := [d1, d2] }
  | _ => none }
def fnExactDropStepsRow : OpenClaim := { program := "ytplapaojgcloaaadoor", sum := "ec3b795e36bfc1a1a1e4ec22ef67e15b714361de8ee463be2c2efc83115863bc", func := "loop.example/parallelmoves/laws.FnExactDropSteps", spec := "fnExactDropSteps", inPlace := ["internal/bytealg.IndexByteString", "internal/bytealg.IndexString"], unfollowed := true, recurses := true, named := ["internal/bytealg.MaxLen", "math/bits.deBruijn32tab", "math/bits.deBruijn64tab"], apart := false, laid := [("math/bits.deBruijn32tab", laid_math_bits_deBruijn32tab), ("math/bits.deBruijn64tab", laid_math_bits_deBruijn64tab)] }
def FnExactDropStepsSaid : Prop := fnExactDropStepsRow.holds Tryd.pinned (OpenSpec.ofChange fnExactDropStepsSpec)

/-- ITS FALSE NEIGHBOUR: 'it returns false'. Refute it at one input. -/
def fnExactDropStepsWrong : ChangeSpec := { name := "fnExactDropSteps", fn := fun _ => fun
  | [d1, d2] => { results := [.lit (.bool false)], args := [d1, d2] }
  | _ => none }
def FnExactDropStepsWrongFalsely : Prop := fnExactDropStepsRow.holds Tryd.pinned (OpenSpec.ofChange fnExactDropStepsWrong)

/-- 'laws.FnExactNeededAhead': WHATEVER THE INPUT: true; the input reads as it did. -/
def fnExactNeededAheadSpec : ChangeSpec := { name := "fnExactNeededAhead", fn := fun _ => fun
  | [d1, d2] => { results := [.lit (.bool true)], args := [d1, d2] }
  | _ => none }
def fnExactNeededAheadRow : OpenClaim := { program := "ytplapaojgcloaaadoor", sum := "ec3b795e36bfc1a1a1e4ec22ef67e15b714361de8ee463be2c2efc83115863bc", func := "loop.example/parallelmoves/laws.FnExactNeededAhead", spec := "fnExactNeededAhead", inPlace := ["internal/bytealg.IndexByteString", "internal/bytealg.IndexString"], unfollowed := true, recurses := true, named := ["internal/bytealg.MaxLen", "math/bits.deBruijn32tab", "math/bits.deBruijn64tab"], apart := false, laid := [("math/bits.deBruijn32tab", laid_math_bits_deBruijn32tab), ("math/bits.deBruijn64tab", laid_math_bits_deBruijn64tab)] }
def FnExactNeededAheadSaid : Prop := fnExactNeededAheadRow.holds Tryd.pinned (OpenSpec.ofChange fnExactNeededAheadSpec)

/-- ITS FALSE NEIGHBOUR: 'it returns false'. Refute it at one input. -/
def fnExactNeededAheadWrong : ChangeSpec := { name := "fnExactNeededAhead", fn := fun _ => fun
  | [d1, d2] => { results := [.lit (.bool false)], args := [d1, d2] }
  | _ => none }
def FnExactNeededAheadWrongFalsely : Prop := fnExactNeededAheadRow.holds Tryd.pinned (OpenSpec.ofChange fnExactNeededAheadWrong)

/- THE SECOND FORM. 'bulk': how many values and letters a reading holds, each counted each time it is reached (what is shared counts as often as it is met; a slice's spare places count too). A statement '..UptoSaid' is the law's where the arguments, and the package variables that the reading takes, are together of bulk at most 1048576: NARROWER than '..Said'. Prove '..Said' where nothing that the law and all that it calls make is longer than what came in: it says more and counts as full. Else prove '..UptoSaid'. A law counts once. -/
mutual
def uptoBulk {H : Type} : DataW H → Nat
  | .lit (.string bytes) => bytes.length + 1
  | .lit _ => 1
  | .nil => 1
  | .ptr d => uptoBulk d + 1
  | .slice elems spare => uptoBulkAll elems + uptoBulkAll spare + 1
  | .agg parts => uptoBulkAll parts + 1
  | .iface _ d => uptoBulk d + 1
  | .map entries => uptoBulkEntries entries + 1
  | .held _ => 1
def uptoBulkAll {H : Type} : List (DataW H) → Nat
  | [] => 0
  | d :: r => uptoBulk d + uptoBulkAll r
def uptoBulkEntries {H : Type} : List (Lit × DataW H) → Nat
  | [] => 0
  | x :: r => uptoBulkEntry x + uptoBulkEntries r
def uptoBulkEntry {H : Type} : Lit × DataW H → Nat
  | (.string bytes, d) => bytes.length + uptoBulk d + 1
  | (_, d) => uptoBulk d + 1
 end
def uptoSmall : (H : Type) → List (DataW H) → Bool := fun _ ds => decide (uptoBulkAll ds ≤ 1048576)
def OpenSpec.upto (s : _root_.Go.ChangeSpec) : _root_.Go.OpenSpec := { _root_.Go.OpenSpec.ofChange s with cond := some uptoSmall }

/-- 'laws.FnDropSteps', WHERE WHAT IT READS IS OF BULK AT MOST 1048576: true; the input reads as it did. -/
def fnDropStepsUptoRow : OpenClaim := { program := "ytplapaojgcloaaadoor", sum := "ec3b795e36bfc1a1a1e4ec22ef67e15b714361de8ee463be2c2efc83115863bc", func := "loop.example/parallelmoves/laws.FnDropSteps", spec := "fnDropSteps", inPlace := ["internal/bytealg.IndexByteString", "internal/bytealg.IndexString"], unfollowed := true, recurses := true, named := ["internal/bytealg.MaxLen", "math/bits.deBruijn32tab", "math/bits.deBruijn64tab"], apart := false, laid := [("math/bits.deBruijn32tab", laid_math_bits_deBruijn32tab), ("math/bits.deBruijn64tab", laid_math_bits_deBruijn64tab)], narrowed := true }
def FnDropStepsUptoSaid : Prop := fnDropStepsUptoRow.holds Tryd.pinned (OpenSpec.upto fnDropStepsSpec)

/-- 'laws.FnIsRightFor', WHERE WHAT IT READS IS OF BULK AT MOST 1048576: true; the input reads as it did. -/
def fnIsRightForUptoRow : OpenClaim := { program := "ytplapaojgcloaaadoor", sum := "ec3b795e36bfc1a1a1e4ec22ef67e15b714361de8ee463be2c2efc83115863bc", func := "loop.example/parallelmoves/laws.FnIsRightFor", spec := "fnIsRightFor", inPlace := ["internal/bytealg.IndexByteString", "internal/bytealg.IndexString"], unfollowed := true, recurses := true, named := ["internal/bytealg.MaxLen", "math/bits.deBruijn32tab", "math/bits.deBruijn64tab"], apart := false, laid := [("math/bits.deBruijn32tab", laid_math_bits_deBruijn32tab), ("math/bits.deBruijn64tab", laid_math_bits_deBruijn64tab)], narrowed := true }
def FnIsRightForUptoSaid : Prop := fnIsRightForUptoRow.holds Tryd.pinned (OpenSpec.upto fnIsRightForSpec)

/-- 'laws.FnExactWantedValid', WHERE WHAT IT READS IS OF BULK AT MOST 1048576: true; the input reads as it did. -/
def fnExactWantedValidUptoRow : OpenClaim := { program := "ytplapaojgcloaaadoor", sum := "ec3b795e36bfc1a1a1e4ec22ef67e15b714361de8ee463be2c2efc83115863bc", func := "loop.example/parallelmoves/laws.FnExactWantedValid", spec := "fnExactWantedValid", inPlace := ["internal/bytealg.IndexByteString", "internal/bytealg.IndexString"], unfollowed := true, recurses := true, named := ["internal/bytealg.MaxLen", "math/bits.deBruijn32tab", "math/bits.deBruijn64tab"], apart := false, laid := [("math/bits.deBruijn32tab", laid_math_bits_deBruijn32tab), ("math/bits.deBruijn64tab", laid_math_bits_deBruijn64tab)], narrowed := true }
def FnExactWantedValidUptoSaid : Prop := fnExactWantedValidUptoRow.holds Tryd.pinned (OpenSpec.upto fnExactWantedValidSpec)

/-- 'laws.FnExactKeepWanted', WHERE WHAT IT READS IS OF BULK AT MOST 1048576: true; the input reads as it did. -/
def fnExactKeepWantedUptoRow : OpenClaim := { program := "ytplapaojgcloaaadoor", sum := "ec3b795e36bfc1a1a1e4ec22ef67e15b714361de8ee463be2c2efc83115863bc", func := "loop.example/parallelmoves/laws.FnExactKeepWanted", spec := "fnExactKeepWanted", inPlace := ["internal/bytealg.IndexByteString", "internal/bytealg.IndexString"], unfollowed := true, recurses := true, named := ["internal/bytealg.MaxLen", "math/bits.deBruijn32tab", "math/bits.deBruijn64tab"], apart := false, laid := [("math/bits.deBruijn32tab", laid_math_bits_deBruijn32tab), ("math/bits.deBruijn64tab", laid_math_bits_deBruijn64tab)], narrowed := true }
def FnExactKeepWantedUptoSaid : Prop := fnExactKeepWantedUptoRow.holds Tryd.pinned (OpenSpec.upto fnExactKeepWantedSpec)

/-- 'laws.FnExactNeededBy', WHERE WHAT IT READS IS OF BULK AT MOST 1048576: true; the input reads as it did. -/
def fnExactNeededByUptoRow : OpenClaim := { program := "ytplapaojgcloaaadoor", sum := "ec3b795e36bfc1a1a1e4ec22ef67e15b714361de8ee463be2c2efc83115863bc", func := "loop.example/parallelmoves/laws.FnExactNeededBy", spec := "fnExactNeededBy", inPlace := ["internal/bytealg.IndexByteString", "internal/bytealg.IndexString"], unfollowed := true, recurses := true, named := ["internal/bytealg.MaxLen", "math/bits.deBruijn32tab", "math/bits.deBruijn64tab"], apart := false, laid := [("math/bits.deBruijn32tab", laid_math_bits_deBruijn32tab), ("math/bits.deBruijn64tab", laid_math_bits_deBruijn64tab)], narrowed := true }
def FnExactNeededByUptoSaid : Prop := fnExactNeededByUptoRow.holds Tryd.pinned (OpenSpec.upto fnExactNeededBySpec)

/-- 'laws.FnExactSpareFor', WHERE WHAT IT READS IS OF BULK AT MOST 1048576: true; the input reads as it did. -/
def fnExactSpareForUptoRow : OpenClaim := { program := "ytplapaojgcloaaadoor", sum := "ec3b795e36bfc1a1a1e4ec22ef67e15b714361de8ee463be2c2efc83115863bc", func := "loop.example/parallelmoves/laws.FnExactSpareFor", spec := "fnExactSpareFor", inPlace := ["internal/bytealg.IndexByteString", "internal/bytealg.IndexString"], unfollowed := true, recurses := true, named := ["internal/bytealg.MaxLen", "math/bits.deBruijn32tab", "math/bits.deBruijn64tab"], apart := false, laid := [("math/bits.deBruijn32tab", laid_math_bits_deBruijn32tab), ("math/bits.deBruijn64tab", laid_math_bits_deBruijn64tab)], narrowed := true }
def FnExactSpareForUptoSaid : Prop := fnExactSpareForUptoRow.holds Tryd.pinned (OpenSpec.upto fnExactSpareForSpec)

/-- 'laws.FnExactOrderWanted', WHERE WHAT IT READS IS OF BULK AT MOST 1048576: true; the input reads as it did. -/
def fnExactOrderWantedUptoRow : OpenClaim := { program := "ytplapaojgcloaaadoor", sum := "ec3b795e36bfc1a1a1e4ec22ef67e15b714361de8ee463be2c2efc83115863bc", func := "loop.example/parallelmoves/laws.FnExactOrderWanted", spec := "fnExactOrderWanted", inPlace := ["internal/bytealg.IndexByteString", "internal/bytealg.IndexString"], unfollowed := true, recurses := true, named := ["internal/bytealg.MaxLen", "math/bits.deBruijn32tab", "math/bits.deBruijn64tab"], apart := false, laid := [("math/bits.deBruijn32tab", laid_math_bits_deBruijn32tab), ("math/bits.deBruijn64tab", laid_math_bits_deBruijn64tab)], narrowed := true }
def FnExactOrderWantedUptoSaid : Prop := fnExactOrderWantedUptoRow.holds Tryd.pinned (OpenSpec.upto fnExactOrderWantedSpec)

/-- 'laws.FnExactIsRightFor', WHERE WHAT IT READS IS OF BULK AT MOST 1048576: true; the input reads as it did. -/
def fnExactIsRightForUptoRow : OpenClaim := { program := "ytplapaojgcloaaadoor", sum := "ec3b795e36bfc1a1a1e4ec22ef67e15b714361de8ee463be2c2efc83115863bc", func := "loop.example/parallelmoves/laws.FnExactIsRightFor", spec := "fnExactIsRightFor", inPlace := ["internal/bytealg.IndexByteString", "internal/bytealg.IndexString"], unfollowed := true, recurses := true, named := ["internal/bytealg.MaxLen", "math/bits.deBruijn32tab", "math/bits.deBruijn64tab"], apart := false, laid := [("math/bits.deBruijn32tab", laid_math_bits_deBruijn32tab), ("math/bits.deBruijn64tab", laid_math_bits_deBruijn64tab)], narrowed := true }
def FnExactIsRightForUptoSaid : Prop := fnExactIsRightForUptoRow.holds Tryd.pinned (OpenSpec.upto fnExactIsRightForSpec)

/-- 'laws.FnExactDropSteps', WHERE WHAT IT READS IS OF BULK AT MOST 1048576: true; the input reads as it did. -/
def fnExactDropStepsUptoRow : OpenClaim := { program := "ytplapaojgcloaaadoor", sum := "ec3b795e36bfc1a1a1e4ec22ef67e15b714361de8ee463be2c2efc83115863bc", func := "loop.example/parallelmoves/laws.FnExactDropSteps", spec := "fnExactDropSteps", inPlace := ["internal/bytealg.IndexByteString", "internal/bytealg.IndexString"], unfollowed := true, recurses := true, named := ["internal/bytealg.MaxLen", "math/bits.deBruijn32tab", "math/bits.deBruijn64tab"], apart := false, laid := [("math/bits.deBruijn32tab", laid_math_bits_deBruijn32tab), ("math/bits.deBruijn64tab", laid_math_bits_deBruijn64tab)], narrowed := true }
def FnExactDropStepsUptoSaid : Prop := fnExactDropStepsUptoRow.holds Tryd.pinned (OpenSpec.upto fnExactDropStepsSpec)

/-- 'laws.FnExactNeededAhead', WHERE WHAT IT READS IS OF BULK AT MOST 1048576: true; the input reads as it did. -/
def fnExactNeededAheadUptoRow : OpenClaim := { program := "ytplapaojgcloaaadoor", sum := "ec3b795e36bfc1a1a1e4ec22ef67e15b714361de8ee463be2c2efc83115863bc", func := "loop.example/parallelmoves/laws.FnExactNeededAhead", spec := "fnExactNeededAhead", inPlace := ["internal/bytealg.IndexByteString", "internal/bytealg.IndexString"], unfollowed := true, recurses := true, named := ["internal/bytealg.MaxLen", "math/bits.deBruijn32tab", "math/bits.deBruijn64tab"], apart := false, laid := [("math/bits.deBruijn32tab", laid_math_bits_deBruijn32tab), ("math/bits.deBruijn64tab", laid_math_bits_deBruijn64tab)], narrowed := true }
def FnExactNeededAheadUptoSaid : Prop := fnExactNeededAheadUptoRow.holds Tryd.pinned (OpenSpec.upto fnExactNeededAheadSpec)

end Rows
end Go.Proofs.YtplapaojgcloaaaDoor
