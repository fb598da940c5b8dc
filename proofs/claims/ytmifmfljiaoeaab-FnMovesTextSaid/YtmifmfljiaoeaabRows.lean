/-
  No cell of these rows narrows 'for every input' (looked for: loops, veiled, ifaces, maps, wideKeys, modest, calm, conditions, laid).
  DERIVED. THE GIVEN ROWS OF THIS SEAT. 6 by the template 'for every input the law returns true; each argument reads behind the call as it read before'; 0 by the template 'total and deterministic' (their statements: YtmifmfljiaoeaabTotals.lean).
  GIVEN WITH THE SEED: the statements are not yours to turn. If you find one false, say at which input.
  Laid BY PROGRAM, IN A SANDBOX (cutbox-rows.mjs): the forced cells as the released guide's own fill.sh prints them over the translation ddb37fb0c1951e53… (all of the seat's roots in one cut). By AI agents, Wed Nov 11 2026. No macro, syntax, notation, axiom, sorry.
-/
import Derived.Test.YtmifmfljiaoeaabChecked
import GoSem.Claim
import GoSem.ClaimJoined
import GoSem.ClaimMapViews
import Derived.JoinedTies
import Derived.KernelRfl
namespace Go.Proofs.Ytmifmfljiaoeaab
/- THE CELL 'sum', in the pinned program and in every row, IS THE sha256 OF THE DUMP (.gsa) THAT YtmifmfljiaoeaabProg.lean LOADS. Nothing in Lean hashes anything: it is a label: what it is worth is what the hold of that sum in a sandbox is worth. -/
noncomputable def Try.pinned : Pinned := { name := "ytmifmfljiaoeaab", sum := "ddb37fb0c1951e53aeec723e4962ad6851f77afff6f3fe28aceaf66b05a4ffe1", checked := Try.checked }
namespace Rows
def none {H : Type} : Left H := { results := [], args := [] }

/-- 'laws.FnMovesText': WHATEVER THE INPUT: true; the input reads as it did. -/
def fnMovesTextSpec : ChangeSpec := { name := "fnMovesText", fn := fun _ => fun
  | [d1, d2] => { results := [.lit (.bool true)], args := [d1, d2] }
  | _ => none }
def fnMovesTextRow : OpenClaim := { program := "ytmifmfljiaoeaab", sum := "ddb37fb0c1951e53aeec723e4962ad6851f77afff6f3fe28aceaf66b05a4ffe1", func := "loop.example/parallelmoves/laws.FnMovesText", spec := "fnMovesText", inPlace := ["internal/bytealg.IndexByteString", "internal/bytealg.IndexString", "internal/abi.NoEscape", "internal/bytealg.MakeNoZero"], unfollowed := true, recurses := true, named := ["internal/bytealg.MaxLen"], apart := false }
def FnMovesTextSaid : Prop := fnMovesTextRow.holds Try.pinned (OpenSpec.ofChange fnMovesTextSpec)

/-- ITS FALSE NEIGHBOUR: 'it returns false'. Refute it at one input. -/
def fnMovesTextWrong : ChangeSpec := { name := "fnMovesText", fn := fun _ => fun
  | [d1, d2] => { results := [.lit (.bool false)], args := [d1, d2] }
  | _ => none }
def FnMovesTextWrongFalsely : Prop := fnMovesTextRow.holds Try.pinned (OpenSpec.ofChange fnMovesTextWrong)

/-- 'laws.FnSame': WHATEVER THE INPUT: true; the input reads as it did. -/
def fnSameSpec : ChangeSpec := { name := "fnSame", fn := fun _ => fun
  | [d1, d2] => { results := [.lit (.bool true)], args := [d1, d2] }
  | _ => none }
def fnSameRow : OpenClaim := { program := "ytmifmfljiaoeaab", sum := "ddb37fb0c1951e53aeec723e4962ad6851f77afff6f3fe28aceaf66b05a4ffe1", func := "loop.example/parallelmoves/laws.FnSame", spec := "fnSame", inPlace := ["internal/bytealg.IndexByteString", "internal/bytealg.IndexString"], unfollowed := true, recurses := true, named := ["internal/bytealg.MaxLen"], apart := false }
def FnSameSaid : Prop := fnSameRow.holds Try.pinned (OpenSpec.ofChange fnSameSpec)

/-- ITS FALSE NEIGHBOUR: 'it returns false'. Refute it at one input. -/
def fnSameWrong : ChangeSpec := { name := "fnSame", fn := fun _ => fun
  | [d1, d2] => { results := [.lit (.bool false)], args := [d1, d2] }
  | _ => none }
def FnSameWrongFalsely : Prop := fnSameRow.holds Try.pinned (OpenSpec.ofChange fnSameWrong)

/-- 'laws.FnExactSortMoves': WHATEVER THE INPUT: true; the input reads as it did. -/
def fnExactSortMovesSpec : ChangeSpec := { name := "fnExactSortMoves", fn := fun _ => fun
  | [d] => { results := [.lit (.bool true)], args := [d] }
  | _ => none }
def fnExactSortMovesRow : OpenClaim := { program := "ytmifmfljiaoeaab", sum := "ddb37fb0c1951e53aeec723e4962ad6851f77afff6f3fe28aceaf66b05a4ffe1", func := "loop.example/parallelmoves/laws.FnExactSortMoves", spec := "fnExactSortMoves", inPlace := ["internal/bytealg.IndexByteString", "internal/bytealg.IndexString"], unfollowed := true, recurses := true, named := ["internal/bytealg.MaxLen"], apart := false }
def FnExactSortMovesSaid : Prop := fnExactSortMovesRow.holds Try.pinned (OpenSpec.ofChange fnExactSortMovesSpec)

/-- ITS FALSE NEIGHBOUR: 'it returns false'. Refute it at one input. -/
def fnExactSortMovesWrong : ChangeSpec := { name := "fnExactSortMoves", fn := fun _ => fun
  | [d] => { results := [.lit (.bool false)], args := [d] }
  | _ => none }
def FnExactSortMovesWrongFalsely : Prop := fnExactSortMovesRow.holds Try.pinned (OpenSpec.ofChange fnExactSortMovesWrong)

/-- 'laws.FnExactSameMoves': WHATEVER THE INPUT: true; the input reads as it did. -/
def fnExactSameMovesSpec : ChangeSpec := { name := "fnExactSameMoves", fn := fun _ => fun
  | [d1, d2] => { results := [.lit (.bool true)], args := [d1, d2] }
  | _ => none }
def fnExactSameMovesRow : OpenClaim := { program := "ytmifmfljiaoeaab", sum := "ddb37fb0c1951e53aeec723e4962ad6851f77afff6f3fe28aceaf66b05a4ffe1", func := "loop.example/parallelmoves/laws.FnExactSameMoves", spec := "fnExactSameMoves", inPlace := ["internal/bytealg.IndexByteString", "internal/bytealg.IndexString"], unfollowed := true, recurses := true, named := ["internal/bytealg.MaxLen"], apart := false }
def FnExactSameMovesSaid : Prop := fnExactSameMovesRow.holds Try.pinned (OpenSpec.ofChange fnExactSameMovesSpec)

/-- ITS FALSE NEIGHBOUR: 'it returns false'. Refute it at one input. -/
def fnExactSameMovesWrong : ChangeSpec := { name := "fnExactSameMoves", fn := fun _ => fun
  | [d1, d2] => { results := [.lit (.bool false)], args := [d1, d2] }
  | _ => none }
def FnExactSameMovesWrongFalsely : Prop := fnExactSameMovesRow.holds Try.pinned (OpenSpec.ofChange fnExactSameMovesWrong)

/-- 'laws.FnWheels': WHATEVER THE INPUT: true; the input reads as it did. -/
def fnWheelsSpec : ChangeSpec := { name := "fnWheels", fn := fun _ => fun
  | [d] => { results := [.lit (.bool true)], args := [d] }
  | _ => none }
def fnWheelsRow : OpenClaim := { program := "ytmifmfljiaoeaab", sum := "ddb37fb0c1951e53aeec723e4962ad6851f77afff6f3fe28aceaf66b05a4ffe1", func := "loop.example/parallelmoves/laws.FnWheels", spec := "fnWheels", inPlace := ["internal/bytealg.IndexByteString", "internal/bytealg.IndexString"], unfollowed := true, recurses := true, named := ["internal/bytealg.MaxLen"], apart := false }
def FnWheelsSaid : Prop := fnWheelsRow.holds Try.pinned (OpenSpec.ofChange fnWheelsSpec)

/-- ITS FALSE NEIGHBOUR: 'it returns false'. Refute it at one input. -/
def fnWheelsWrong : ChangeSpec := { name := "fnWheels", fn := fun _ => fun
  | [d] => { results := [.lit (.bool false)], args := [d] }
  | _ => none }
def FnWheelsWrongFalsely : Prop := fnWheelsRow.holds Try.pinned (OpenSpec.ofChange fnWheelsWrong)

/-- 'laws.FnEffect': WHATEVER THE INPUT: true; the input reads as it did. -/
def fnEffectSpec : ChangeSpec := { name := "fnEffect", fn := fun _ => fun
  | [d] => { results := [.lit (.bool true)], args := [d] }
  | _ => none }
def fnEffectRow : OpenClaim := { program := "ytmifmfljiaoeaab", sum := "ddb37fb0c1951e53aeec723e4962ad6851f77afff6f3fe28aceaf66b05a4ffe1", func := "loop.example/parallelmoves/laws.FnEffect", spec := "fnEffect", inPlace := ["internal/bytealg.IndexByteString", "internal/bytealg.IndexString"], unfollowed := true, recurses := true, named := ["internal/bytealg.MaxLen"], apart := false }
def FnEffectSaid : Prop := fnEffectRow.holds Try.pinned (OpenSpec.ofChange fnEffectSpec)

/-- ITS FALSE NEIGHBOUR: 'it returns false'. Refute it at one input. -/
def fnEffectWrong : ChangeSpec := { name := "fnEffect", fn := fun _ => fun
  | [d] => { results := [.lit (.bool false)], args := [d] }
  | _ => none }
def FnEffectWrongFalsely : Prop := fnEffectRow.holds Try.pinned (OpenSpec.ofChange fnEffectWrong)

/- THE SECOND FORM. 'bulk': how many values and letters a reading holds, each counted each time it is reached (what is shared counts as often as it is met; a slice's spare places count too). A statement '..UptoSaid' is the law's where the arguments, and the package variables that the reading takes, are together of bulk at most 1048576: NARROWER than '..Said'. Prove '..Said' where nothing that the law and all that it calls make is longer than what came in: it says more and counts as full. Else prove '..UptoSaid'. A law counts once. -/
mutual
def uptoBulk {H : Type} : DataW H → Nat
  | .lit (.string bytes) => bytes.length + 1
  | .lit _ => 1
  | .nil => 1
  | .ptr d => uptoBulk d + 1
  | .slice elems spare => uptoBulkAll elems + uptoBulkAll spare + 1
  | .agg parts => uptoBulkAll parts + 1
  | .iface _ d => uptoBulk d + 1
  | .map entries => uptoBulkEntries entries + 1
  | .held _ => 1
def uptoBulkAll {H : Type} : List (DataW H) → Nat
  | [] => 0
  | d :: r => uptoBulk d + uptoBulkAll r
def uptoBulkEntries {H : Type} : List (Lit × DataW H) → Nat
  | [] => 0
  | x :: r => uptoBulkEntry x + uptoBulkEntries r
def uptoBulkEntry {H : Type} : Lit × DataW H → Nat
  | (.string bytes, d) => bytes.length + uptoBulk d + 1
  | (_, d) => uptoBulk d + 1
 end
def uptoSmall : (H : Type) → List (DataW H) → Bool := fun _ ds => decide (uptoBulkAll ds ≤ 1048576)
def OpenSpec.upto (s : _root_.Go.ChangeSpec) : _root_.Go.OpenSpec := { _root_.Go.OpenSpec.ofChange s with cond := some uptoSmall }

/-- 'laws.FnMovesText', WHERE WHAT IT READS IS OF BULK AT MOST 1048576: true; the input reads as it did. -/
def fnMovesTextUptoRow : OpenClaim := { program := "ytmifmfljiaoeaab", sum := "ddb37fb0c1951e53aeec723e4962ad6851f77afff6f3fe28aceaf66b05a4ffe1", func := "loop.example/parallelmoves/laws.FnMovesText", spec := "fnMovesText", inPlace := ["internal/bytealg.IndexByteString", "internal/bytealg.IndexString", "internal/abi.NoEscape", "internal/bytealg.MakeNoZero"], unfollowed := true, recurses := true, named := ["internal/bytealg.MaxLen"], apart := false, narrowed := true }
def FnMovesTextUptoSaid : Prop := fnMovesTextUptoRow.holds Try.pinned (OpenSpec.upto fnMovesTextSpec)

/-- 'laws.FnSame', WHERE WHAT IT READS IS OF BULK AT MOST 1048576: true; the input reads as it did. -/
def fnSameUptoRow : OpenClaim := { program := "ytmifmfljiaoeaab", sum := "ddb37fb0c1951e53aeec723e4962ad6851f77afff6f3fe28aceaf66b05a4ffe1", func := "loop.example/parallelmoves/laws.FnSame", spec := "fnSame", inPlace := ["internal/bytealg.IndexByteString", "internal/bytealg.IndexString"], unfollowed := true, recurses := true, named := ["internal/bytealg.MaxLen"], apart := false, narrowed := true }
def FnSameUptoSaid : Prop := fnSameUptoRow.holds Try.pinned (OpenSpec.upto fnSameSpec)

/-- 'laws.FnExactSortMoves', WHERE WHAT IT READS IS OF BULK AT MOST 1048576: true; the input reads as it did. -/
def fnExactSortMovesUptoRow : OpenClaim := { program := "ytmifmfljiaoeaab", sum := "ddb37fb0c1951e53aeec723e4962ad6851f77afff6f3fe28aceaf66b05a4ffe1", func := "loop.example/parallelmoves/laws.FnExactSortMoves", spec := "fnExactSortMoves", inPlace := ["internal/bytealg.IndexByteString", "internal/bytealg.IndexString"], unfollowed := true, recurses := true, named := ["internal/bytealg.MaxLen"], apart := false, narrowed := true }
def FnExactSortMovesUptoSaid : Prop := fnExactSortMovesUptoRow.holds Try.pinned (OpenSpec.upto fnExactSortMovesSpec)

/-- 'laws.FnExactSameMoves', WHERE WHAT IT READS IS OF BULK AT MOST 1048576: true; the input reads as it did. -/
def fnExactSameMovesUptoRow : OpenClaim := { program := "ytmifmfljiaoeaab", sum := "ddb37fb0c1951e53aeec723e4962ad6851f77afff6f3fe28aceaf66b05a4ffe1", func := "loop.example/parallelmoves/laws.FnExactSameMoves", spec := "fnExactSameMoves", inPlace := ["internal/bytealg.IndexByteString", "internal/bytealg.IndexString"], unfollowed := true, recurses := true, named := ["internal/bytealg.MaxLen"], apart := false, narrowed := true }
def FnExactSameMovesUptoSaid : Prop := fnExactSameMovesUptoRow.holds Try.pinned (OpenSpec.upto fnExactSameMovesSpec)

/-- 'laws.FnWheels', WHERE WHAT IT READS IS OF BULK AT MOST 1048576: true; the input reads as it did. -/
def fnWheelsUptoRow : OpenClaim := { program := "ytmifmfljiaoeaab", sum := "ddb37fb0c1951e53aeec723e4962ad6851f77afff6f3fe28aceaf66b05a4ffe1", func := "loop.example/parallelmoves/laws.FnWheels", spec := "fnWheels", inPlace := ["internal/bytealg.IndexByteString", "internal/bytealg.IndexString"], unfollowed := true, recurses := true, named := ["internal/bytealg.MaxLen"], apart := false, narrowed := true }
def FnWheelsUptoSaid : Prop := fnWheelsUptoRow.holds Try.pinned (OpenSpec.upto fnWheelsSpec)

/-- 'laws.FnEffect', WHERE WHAT IT READS IS OF BULK AT MOST 1048576: true; the input reads as it did. -/
def fnEffectUptoRow : OpenClaim := { program := "ytmifmfljiaoeaab", sum := "ddb37fb0c1951e53aeec723e4962ad6851f77afff6f3fe28aceaf66b05a4ffe1", func := "loop.example/parallelmoves/laws.FnEffect", spec := "fnEffect", inPlace := ["internal/bytealg.IndexByteString", "internal/bytealg.IndexString"], unfollowed := true, recurses := true, named := ["internal/bytealg.MaxLen"], apart := false, narrowed := true }
def FnEffectUptoSaid : Prop := fnEffectUptoRow.holds Try.pinned (OpenSpec.upto fnEffectSpec)

end Rows
end Go.Proofs.Ytmifmfljiaoeaab
