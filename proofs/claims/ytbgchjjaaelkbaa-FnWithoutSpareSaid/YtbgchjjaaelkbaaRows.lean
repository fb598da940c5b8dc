/-
  No cell of these rows narrows 'for every input' (looked for: loops, veiled, ifaces, maps, wideKeys, modest, calm, conditions, laid).
  DERIVED. THE GIVEN ROWS OF THIS SEAT. 11 by the template 'for every input the law returns true; each argument reads behind the call as it read before'; 0 by the template 'total and deterministic' (their statements: YtbgchjjaaelkbaaTotals.lean).
  GIVEN WITH THE SEED: the statements are not yours to turn. If you find one false, say at which input.
  Laid BY PROGRAM, IN A SANDBOX (cutbox-rows.mjs): the forced cells as the released guide's own fill.sh prints them over the translation 3b37f1a2b04e979c… (all of the seat's roots in one cut). By AI agents, Wed Nov 11 2026. No macro, syntax, notation, axiom, sorry.
-/
import Derived.Test.YtbgchjjaaelkbaaChecked
import GoSem.Claim
import GoSem.ClaimJoined
import GoSem.ClaimMapViews
import Derived.JoinedTies
import Derived.KernelRfl
namespace Go.Proofs.Ytbgchjjaaelkbaa
/- THE CELL 'sum', in the pinned program and in every row, IS THE sha256 OF THE DUMP (.gsa) THAT YtbgchjjaaelkbaaProg.lean LOADS. Nothing in Lean hashes anything: it is a label: what it is worth is what the hold of that sum in a sandbox is worth. -/
noncomputable def Try.pinned : Pinned := { name := "ytbgchjjaaelkbaa", sum := "3b37f1a2b04e979c70317eb938c8758e895290f72c9ad50c8d8056c4186a01eb", checked := Try.checked }
namespace Rows
def none {H : Type} : Left H := { results := [], args := [] }

/-- 'laws.FnSame': WHATEVER THE INPUT: true; the input reads as it did. -/
def fnSameSpec : ChangeSpec := { name := "fnSame", fn := fun _ => fun
  | [d1, d2] => { results := [.lit (.bool true)], args := [d1, d2] }
  | _ => none }
def fnSameRow : OpenClaim := { program := "ytbgchjjaaelkbaa", sum := "3b37f1a2b04e979c70317eb938c8758e895290f72c9ad50c8d8056c4186a01eb", func := "loop.example/parallelmoves/laws.FnSame", spec := "fnSame", inPlace := ["internal/bytealg.IndexByteString", "internal/bytealg.IndexString"], unfollowed := true, recurses := true, named := ["internal/bytealg.MaxLen"], apart := false }
def FnSameSaid : Prop := fnSameRow.holds Try.pinned (OpenSpec.ofChange fnSameSpec)

/-- ITS FALSE NEIGHBOUR: 'it returns false'. Refute it at one input. -/
def fnSameWrong : ChangeSpec := { name := "fnSame", fn := fun _ => fun
  | [d1, d2] => { results := [.lit (.bool false)], args := [d1, d2] }
  | _ => none }
def FnSameWrongFalsely : Prop := fnSameRow.holds Try.pinned (OpenSpec.ofChange fnSameWrong)

/-- 'laws.FnRings': WHATEVER THE INPUT: true; the input reads as it did. -/
def fnRingsSpec : ChangeSpec := { name := "fnRings", fn := fun _ => fun
  | [d] => { results := [.lit (.bool true)], args := [d] }
  | _ => none }
def fnRingsRow : OpenClaim := { program := "ytbgchjjaaelkbaa", sum := "3b37f1a2b04e979c70317eb938c8758e895290f72c9ad50c8d8056c4186a01eb", func := "loop.example/parallelmoves/laws.FnRings", spec := "fnRings", inPlace := ["internal/bytealg.IndexByteString", "internal/bytealg.IndexString"], unfollowed := true, recurses := true, named := ["internal/bytealg.MaxLen"], apart := false }
def FnRingsSaid : Prop := fnRingsRow.holds Try.pinned (OpenSpec.ofChange fnRingsSpec)

/-- ITS FALSE NEIGHBOUR: 'it returns false'. Refute it at one input. -/
def fnRingsWrong : ChangeSpec := { name := "fnRings", fn := fun _ => fun
  | [d] => { results := [.lit (.bool false)], args := [d] }
  | _ => none }
def FnRingsWrongFalsely : Prop := fnRingsRow.holds Try.pinned (OpenSpec.ofChange fnRingsWrong)

/-- 'laws.FnRestBehind': WHATEVER THE INPUT: true; the input reads as it did. -/
def fnRestBehindSpec : ChangeSpec := { name := "fnRestBehind", fn := fun _ => fun
  | [d] => { results := [.lit (.bool true)], args := [d] }
  | _ => none }
def fnRestBehindRow : OpenClaim := { program := "ytbgchjjaaelkbaa", sum := "3b37f1a2b04e979c70317eb938c8758e895290f72c9ad50c8d8056c4186a01eb", func := "loop.example/parallelmoves/laws.FnRestBehind", spec := "fnRestBehind", inPlace := ["internal/bytealg.IndexByteString", "internal/bytealg.IndexString"], unfollowed := true, recurses := true, named := ["internal/bytealg.MaxLen"], apart := false }
def FnRestBehindSaid : Prop := fnRestBehindRow.holds Try.pinned (OpenSpec.ofChange fnRestBehindSpec)

/-- ITS FALSE NEIGHBOUR: 'it returns false'. Refute it at one input. -/
def fnRestBehindWrong : ChangeSpec := { name := "fnRestBehind", fn := fun _ => fun
  | [d] => { results := [.lit (.bool false)], args := [d] }
  | _ => none }
def FnRestBehindWrongFalsely : Prop := fnRestBehindRow.holds Try.pinned (OpenSpec.ofChange fnRestBehindWrong)

/-- 'laws.FnWithoutSpare': WHATEVER THE INPUT: true; the input reads as it did. -/
def fnWithoutSpareSpec : ChangeSpec := { name := "fnWithoutSpare", fn := fun _ => fun
  | [d1, d2] => { results := [.lit (.bool true)], args := [d1, d2] }
  | _ => none }
def fnWithoutSpareRow : OpenClaim := { program := "ytbgchjjaaelkbaa", sum := "3b37f1a2b04e979c70317eb938c8758e895290f72c9ad50c8d8056c4186a01eb", func := "loop.example/parallelmoves/laws.FnWithoutSpare", spec := "fnWithoutSpare", inPlace := ["internal/bytealg.IndexByteString", "internal/bytealg.IndexString"], unfollowed := true, recurses := true, named := ["internal/bytealg.MaxLen"], apart := false }
def FnWithoutSpareSaid : Prop := fnWithoutSpareRow.holds Try.pinned (OpenSpec.ofChange fnWithoutSpareSpec)

/-- ITS FALSE NEIGHBOUR: 'it returns false'. Refute it at one input. -/
def fnWithoutSpareWrong : ChangeSpec := { name := "fnWithoutSpare", fn := fun _ => fun
  | [d1, d2] => { results := [.lit (.bool false)], args := [d1, d2] }
  | _ => none }
def FnWithoutSpareWrongFalsely : Prop := fnWithoutSpareRow.holds Try.pinned (OpenSpec.ofChange fnWithoutSpareWrong)

/-- 'laws.FnExactOrderMoves': WHATEVER THE INPUT: true; the input reads as it did. -/
def fnExactOrderMovesSpec : ChangeSpec := { name := "fnExactOrderMoves", fn := fun _ => fun
  | [d] => { results := [.lit (.bool true)], args := [d] }
  | _ => none }
def fnExactOrderMovesRow : OpenClaim := { program := "ytbgchjjaaelkbaa", sum := "3b37f1a2b04e979c70317eb938c8758e895290f72c9ad50c8d8056c4186a01eb", func := "loop.example/parallelmoves/laws.FnExactOrderMoves", spec := "fnExactOrderMoves", inPlace := ["internal/bytealg.IndexByteString", "internal/bytealg.IndexString"], unfollowed := true, recurses := true, named := ["internal/bytealg.MaxLen"], apart := false }
def FnExactOrderMovesSaid : Prop := fnExactOrderMovesRow.holds Try.pinned (OpenSpec.ofChange fnExactOrderMovesSpec)

/-- ITS FALSE NEIGHBOUR: 'it returns false'. Refute it at one input. -/
def fnExactOrderMovesWrong : ChangeSpec := { name := "fnExactOrderMoves", fn := fun _ => fun
  | [d] => { results := [.lit (.bool false)], args := [d] }
  | _ => none }
def FnExactOrderMovesWrongFalsely : Prop := fnExactOrderMovesRow.holds Try.pinned (OpenSpec.ofChange fnExactOrderMovesWrong)

/-- 'laws.FnExactNeedsSpare': WHATEVER THE INPUT: true; the input reads as it did. -/
def fnExactNeedsSpareSpec : ChangeSpec := { name := "fnExactNeedsSpare", fn := fun _ => fun
  | [d] => { results := [.lit (.bool true)], args := [d] }
  | _ => none }
def fnExactNeedsSpareRow : OpenClaim := { program := "ytbgchjjaaelkbaa", sum := "3b37f1a2b04e979c70317eb938c8758e895290f72c9ad50c8d8056c4186a01eb", func := "loop.example/parallelmoves/laws.FnExactNeedsSpare", spec := "fnExactNeedsSpare", inPlace := ["internal/bytealg.IndexByteString", "internal/bytealg.IndexString"], unfollowed := true, recurses := true, named := ["internal/bytealg.MaxLen"], apart := false }
def FnExactNeedsSpareSaid : Prop := fnExactNeedsSpareRow.holds Try.pinned (OpenSpec.ofChange fnExactNeedsSpareSpec)

/-- ITS FALSE NEIGHBOUR: 'it returns false'. Refute it at one input. -/
def fnExactNeedsSpareWrong : ChangeSpec := { name := "fnExactNeedsSpare", fn := fun _ => fun
  | [d] => { results := [.lit (.bool false)], args := [d] }
  | _ => none }
def FnExactNeedsSpareWrongFalsely : Prop := fnExactNeedsSpareRow.holds Try.pinned (OpenSpec.ofChange fnExactNeedsSpareWrong)

/-- 'laws.FnExactCountInOrder': WHATEVER THE INPUT: true; the input reads as it did. -/
def fnExactCountInOrderSpec : ChangeSpec := { name := "fnExactCountInOrder", fn := fun _ => fun
  | [d] => { results := [.lit (.bool true)], args := [d] }
  | _ => none }
def fnExactCountInOrderRow : OpenClaim := { program := "ytbgchjjaaelkbaa", sum := "3b37f1a2b04e979c70317eb938c8758e895290f72c9ad50c8d8056c4186a01eb", func := "loop.example/parallelmoves/laws.FnExactCountInOrder", spec := "fnExactCountInOrder", inPlace := ["internal/bytealg.IndexByteString", "internal/bytealg.IndexString"], unfollowed := true, recurses := true, named := ["internal/bytealg.MaxLen"], apart := false }
def FnExactCountInOrderSaid : Prop := fnExactCountInOrderRow.holds Try.pinned (OpenSpec.ofChange fnExactCountInOrderSpec)

/-- ITS FALSE NEIGHBOUR: 'it returns false'. Refute it at one input. -/
def fnExactCountInOrderWrong : ChangeSpec := { name := "fnExactCountInOrder", fn := fun _ => fun
  | [d] => { results := [.lit (.bool false)], args := [d] }
  | _ => none }
def FnExactCountInOrderWrongFalsely : Prop := fnExactCountInOrderRow.holds Try.pinned (OpenSpec.ofChange fnExactCountInOrderWrong)

/-- 'laws.FnExactNextMove': WHATEVER THE INPUT: true; the input reads as it did. -/
def fnExactNextMoveSpec : ChangeSpec := { name := "fnExactNextMove", fn := fun _ => fun
  | [d] => { results := [.lit (.bool true)], args := [d] }
  | _ => none }
def fnExactNextMoveRow : OpenClaim := { program := "ytbgchjjaaelkbaa", sum := "3b37f1a2b04e979c70317eb938c8758e895290f72c9ad50c8d8056c4186a01eb", func := "loop.example/parallelmoves/laws.FnExactNextMove", spec := "fnExactNextMove", inPlace := ["internal/bytealg.IndexByteString", "internal/bytealg.IndexString"], unfollowed := true, recurses := true, named := ["internal/bytealg.MaxLen"], apart := false }
def FnExactNextMoveSaid : Prop := fnExactNextMoveRow.holds Try.pinned (OpenSpec.ofChange fnExactNextMoveSpec)

/-- ITS FALSE NEIGHBOUR: 'it returns false'. Refute it at one input. -/
def fnExactNextMoveWrong : ChangeSpec := { name := "fnExactNextMove", fn := fun _ => fun
  | [d] => { results := [.lit (.bool false)], args := [d] }
  | _ => none }
def FnExactNextMoveWrongFalsely : Prop := fnExactNextMoveRow.holds Try.pinned (OpenSpec.ofChange fnExactNextMoveWrong)

/-- 'laws.FnExactRestBehind': WHATEVER THE INPUT: true; the input reads as it did. -/
def fnExactRestBehindSpec : ChangeSpec := { name := "fnExactRestBehind", fn := fun _ => fun
  | [d1, d2] => { results := [.lit (.bool true)], args := [d1, d2] }
  | _ => none }
def fnExactRestBehindRow : OpenClaim := { program := "ytbgchjjaaelkbaa", sum := "3b37f1a2b04e979c70317eb938c8758e895290f72c9ad50c8d8056c4186a01eb", func := "loop.example/parallelmoves/laws.FnExactRestBehind", spec := "fnExactRestBehind", inPlace := ["internal/bytealg.IndexByteString", "internal/bytealg.IndexString"], named := ["internal/bytealg.MaxLen"], apart := false }
def FnExactRestBehindSaid : Prop := fnExactRestBehindRow.holds Try.pinned (OpenSpec.ofChange fnExactRestBehindSpec)

/-- ITS FALSE NEIGHBOUR: 'it returns false'. Refute it at one input. -/
def fnExactRestBehindWrong : ChangeSpec := { name := "fnExactRestBehind", fn := fun _ => fun
  | [d1, d2] => { results := [.lit (.bool false)], args := [d1, d2] }
  | _ => none }
def FnExactRestBehindWrongFalsely : Prop := fnExactRestBehindRow.holds Try.pinned (OpenSpec.ofChange fnExactRestBehindWrong)

/-- 'laws.FnExactIsOrdered': WHATEVER THE INPUT: true; the input reads as it did. -/
def fnExactIsOrderedSpec : ChangeSpec := { name := "fnExactIsOrdered", fn := fun _ => fun
  | [d] => { results := [.lit (.bool true)], args := [d] }
  | _ => none }
def fnExactIsOrderedRow : OpenClaim := { program := "ytbgchjjaaelkbaa", sum := "3b37f1a2b04e979c70317eb938c8758e895290f72c9ad50c8d8056c4186a01eb", func := "loop.example/parallelmoves/laws.FnExactIsOrdered", spec := "fnExactIsOrdered", inPlace := ["internal/bytealg.IndexByteString", "internal/bytealg.IndexString"], named := ["internal/bytealg.MaxLen"], apart := false }
def FnExactIsOrderedSaid : Prop := fnExactIsOrderedRow.holds Try.pinned (OpenSpec.ofChange fnExactIsOrderedSpec)

/-- ITS FALSE NEIGHBOUR: 'it returns false'. Refute it at one input. -/
def fnExactIsOrderedWrong : ChangeSpec := { name := "fnExactIsOrdered", fn := fun _ => fun
  | [d] => { results := [.lit (.bool false)], args := [d] }
  | _ => none }
def FnExactIsOrderedWrongFalsely : Prop := fnExactIsOrderedRow.holds Try.pinned (OpenSpec.ofChange fnExactIsOrderedWrong)

/-- 'laws.FnExactWithoutSpare': WHATEVER THE INPUT: true; the input reads as it did. -/
def fnExactWithoutSpareSpec : ChangeSpec := { name := "fnExactWithoutSpare", fn := fun _ => fun
  | [d] => { results := [.lit (.bool true)], args := [d] }
  | _ => none }
def fnExactWithoutSpareRow : OpenClaim := { program := "ytbgchjjaaelkbaa", sum := "3b37f1a2b04e979c70317eb938c8758e895290f72c9ad50c8d8056c4186a01eb", func := "loop.example/parallelmoves/laws.FnExactWithoutSpare", spec := "fnExactWithoutSpare", inPlace := ["internal/bytealg.IndexByteString", "internal/bytealg.IndexString"], unfollowed := true, recurses := true, named := ["internal/bytealg.MaxLen"], apart := false }
def FnExactWithoutSpareSaid : Prop := fnExactWithoutSpareRow.holds Try.pinned (OpenSpec.ofChange fnExactWithoutSpareSpec)

/-- ITS FALSE NEIGHBOUR: 'it returns false'. Refute it at one input. -/
def fnExactWithoutSpareWrong : ChangeSpec := { name := "fnExactWithoutSpare", fn := fun _ => fun
  | [d] => { results := [.lit (.bool false)], args := [d] }
  | _ => none }
def FnExactWithoutSpareWrongFalsely : Prop := fnExactWithoutSpareRow.holds Try.pinned (OpenSpec.ofChange fnExactWithoutSpareWrong)

/- THE SECOND FORM. 'bulk': how many values and letters a reading holds, each counted each time it is reached (what is shared counts as often as it is met; a slice's spare places count too). A statement '..UptoSaid' is the law's where the arguments, and the package variables that the reading takes, are together of bulk at most 1048576: NARROWER than '..Said'. Prove '..Said' where nothing that the law and all that it calls make is longer than what came in: it says more and counts as full. Else prove '..UptoSaid'. A law counts once. -/
mutual
def uptoBulk {H : Type} : DataW H → Nat
  | .lit (.string bytes) => bytes.length + 1
  | .lit _ => 1
  | .nil => 1
  | .ptr d => uptoBulk d + 1
  | .slice elems spare => uptoBulkAll elems + uptoBulkAll spare + 1
  | .agg parts => uptoBulkAll parts + 1
  | .iface _ d => uptoBulk d + 1
  | .map entries => uptoBulkEntries entries + 1
  | .held _ => 1
def uptoBulkAll {H : Type} : List (DataW H) → Nat
  | [] => 0
  | d :: r => uptoBulk d + uptoBulkAll r
def uptoBulkEntries {H : Type} : List (Lit × DataW H) → Nat
  | [] => 0
  | x :: r => uptoBulkEntry x + uptoBulkEntries r
def uptoBulkEntry {H : Type} : Lit × DataW H → Nat
  | (.string bytes, d) => bytes.length + uptoBulk d + 1
  | (_, d) => uptoBulk d + 1
 end
def uptoSmall : (H : Type) → List (DataW H) → Bool := fun _ ds => decide (uptoBulkAll ds ≤ 1048576)
def OpenSpec.upto (s : _root_.Go.ChangeSpec) : _root_.Go.OpenSpec := { _root_.Go.OpenSpec.ofChange s with cond := some uptoSmall }

/-- 'laws.FnSame', WHERE WHAT IT READS IS OF BULK AT MOST 1048576: true; the input reads as it did. -/
def fnSameUptoRow : OpenClaim := { program := "ytbgchjjaaelkbaa", sum := "3b37f1a2b04e979c70317eb938c8758e895290f72c9ad50c8d8056c4186a01eb", func := "loop.example/parallelmoves/laws.FnSame", spec := "fnSame", inPlace := ["internal/bytealg.IndexByteString", "internal/bytealg.IndexString"], unfollowed := true, recurses := true, named := ["internal/bytealg.MaxLen"], apart := false, narrowed := true }
def FnSameUptoSaid : Prop := fnSameUptoRow.holds Try.pinned (OpenSpec.upto fnSameSpec)

/-- 'laws.FnRings', WHERE WHAT IT READS IS OF BULK AT MOST 1048576: true; the input reads as it did. -/
def fnRingsUptoRow : OpenClaim := { program := "ytbgchjjaaelkbaa", sum := "3b37f1a2b04e979c70317eb938c8758e895290f72c9ad50c8d8056c4186a01eb", func := "loop.example/parallelmoves/laws.FnRings", spec := "fnRings", inPlace := ["internal/bytealg.IndexByteString", "internal/bytealg.IndexString"], unfollowed := true, recurses := true, named := ["internal/bytealg.MaxLen"], apart := false, narrowed := true }
def FnRingsUptoSaid : Prop := fnRingsUptoRow.holds Try.pinned (OpenSpec.upto fnRingsSpec)

/-- 'laws.FnRestBehind', WHERE WHAT IT READS IS OF BULK AT MOST 1048576: true; the input reads as it did. -/
def fnRestBehindUptoRow : OpenClaim := { program := "ytbgchjjaaelkbaa", sum := "3b37f1a2b04e979c70317eb938c8758e895290f72c9ad50c8d8056c4186a01eb", func := "loop.example/parallelmoves/laws.FnRestBehind", spec := "fnRestBehind", inPlace := ["internal/bytealg.IndexByteString", "internal/bytealg.IndexString"], unfollowed := true, recurses := true, named := ["internal/bytealg.MaxLen"], apart := false, narrowed := true }
def FnRestBehindUptoSaid : Prop := fnRestBehindUptoRow.holds Try.pinned (OpenSpec.upto fnRestBehindSpec)

/-- 'laws.FnWithoutSpare', WHERE WHAT IT READS IS OF BULK AT MOST 1048576: true; the input reads as it did. -/
def fnWithoutSpareUptoRow : OpenClaim := { program := "ytbgchjjaaelkbaa", sum := "3b37f1a2b04e979c70317eb938c8758e895290f72c9ad50c8d8056c4186a01eb", func := "loop.example/parallelmoves/laws.FnWithoutSpare", spec := "fnWithoutSpare", inPlace := ["internal/bytealg.IndexByteString", "internal/bytealg.IndexString"], unfollowed := true, recurses := true, named := ["internal/bytealg.MaxLen"], apart := false, narrowed := true }
def FnWithoutSpareUptoSaid : Prop := fnWithoutSpareUptoRow.holds Try.pinned (OpenSpec.upto fnWithoutSpareSpec)

/-- 'laws.FnExactOrderMoves', WHERE WHAT IT READS IS OF BULK AT MOST 1048576: true; the input reads as it did. -/
def fnExactOrderMovesUptoRow : OpenClaim := { program := "ytbgchjjaaelkbaa", sum := "3b37f1a2b04e979c70317eb938c8758e895290f72c9ad50c8d8056c4186a01eb", func := "loop.example/parallelmoves/laws.FnExactOrderMoves", spec := "fnExactOrderMoves", inPlace := ["internal/bytealg.IndexByteString", "internal/bytealg.IndexString"], unfollowed := true, recurses := true, named := ["internal/bytealg.MaxLen"], apart := false, narrowed := true }
def FnExactOrderMovesUptoSaid : Prop := fnExactOrderMovesUptoRow.holds Try.pinned (OpenSpec.upto fnExactOrderMovesSpec)

/-- 'laws.FnExactNeedsSpare', WHERE WHAT IT READS IS OF BULK AT MOST 1048576: true; the input reads as it did. -/
def fnExactNeedsSpareUptoRow : OpenClaim := { program := "ytbgchjjaaelkbaa", sum := "3b37f1a2b04e979c70317eb938c8758e895290f72c9ad50c8d8056c4186a01eb", func := "loop.example/parallelmoves/laws.FnExactNeedsSpare", spec := "fnExactNeedsSpare", inPlace := ["internal/bytealg.IndexByteString", "internal/bytealg.IndexString"], unfollowed := true, recurses := true, named := ["internal/bytealg.MaxLen"], apart := false, narrowed := true }
def FnExactNeedsSpareUptoSaid : Prop := fnExactNeedsSpareUptoRow.holds Try.pinned (OpenSpec.upto fnExactNeedsSpareSpec)

/-- 'laws.FnExactCountInOrder', WHERE WHAT IT READS IS OF BULK AT MOST 1048576: true; the input reads as it did. -/
def fnExactCountInOrderUptoRow : OpenClaim := { program := "ytbgchjjaaelkbaa", sum := "3b37f1a2b04e979c70317eb938c8758e895290f72c9ad50c8d8056c4186a01eb", func := "loop.example/parallelmoves/laws.FnExactCountInOrder", spec := "fnExactCountInOrder", inPlace := ["internal/bytealg.IndexByteString", "internal/bytealg.IndexString"], unfollowed := true, recurses := true, named := ["internal/bytealg.MaxLen"], apart := false, narrowed := true }
def FnExactCountInOrderUptoSaid : Prop := fnExactCountInOrderUptoRow.holds Try.pinned (OpenSpec.upto fnExactCountInOrderSpec)

/-- 'laws.FnExactNextMove', WHERE WHAT IT READS IS OF BULK AT MOST 1048576: true; the input reads as it did. -/
def fnExactNextMoveUptoRow : OpenClaim := { program := "ytbgchjjaaelkbaa", sum := "3b37f1a2b04e979c70317eb938c8758e895290f72c9ad50c8d8056c4186a01eb", func := "loop.example/parallelmoves/laws.FnExactNextMove", spec := "fnExactNextMove", inPlace := ["internal/bytealg.IndexByteString", "internal/bytealg.IndexString"], unfollowed := true, recurses := true, named := ["internal/bytealg.MaxLen"], apart := false, narrowed := true }
def FnExactNextMoveUptoSaid : Prop := fnExactNextMoveUptoRow.holds Try.pinned (OpenSpec.upto fnExactNextMoveSpec)

/-- 'laws.FnExactRestBehind', WHERE WHAT IT READS IS OF BULK AT MOST 1048576: true; the input reads as it did. -/
def fnExactRestBehindUptoRow : OpenClaim := { program := "ytbgchjjaaelkbaa", sum := "3b37f1a2b04e979c70317eb938c8758e895290f72c9ad50c8d8056c4186a01eb", func := "loop.example/parallelmoves/laws.FnExactRestBehind", spec := "fnExactRestBehind", inPlace := ["internal/bytealg.IndexByteString", "internal/bytealg.IndexString"], named := ["internal/bytealg.MaxLen"], apart := false, narrowed := true }
def FnExactRestBehindUptoSaid : Prop := fnExactRestBehindUptoRow.holds Try.pinned (OpenSpec.upto fnExactRestBehindSpec)

/-- 'laws.FnExactIsOrdered', WHERE WHAT IT READS IS OF BULK AT MOST 1048576: true; the input reads as it did. -/
def fnExactIsOrderedUptoRow : OpenClaim := { program := "ytbgchjjaaelkbaa", sum := "3b37f1a2b04e979c70317eb938c8758e895290f72c9ad50c8d8056c4186a01eb", func := "loop.example/parallelmoves/laws.FnExactIsOrdered", spec := "fnExactIsOrdered", inPlace := ["internal/bytealg.IndexByteString", "internal/bytealg.IndexString"], named := ["internal/bytealg.MaxLen"], apart := false, narrowed := true }
def FnExactIsOrderedUptoSaid : Prop := fnExactIsOrderedUptoRow.holds Try.pinned (OpenSpec.upto fnExactIsOrderedSpec)

/-- 'laws.FnExactWithoutSpare', WHERE WHAT IT READS IS OF BULK AT MOST 1048576: true; the input reads as it did. -/
def fnExactWithoutSpareUptoRow : OpenClaim := { program := "ytbgchjjaaelkbaa", sum := "3b37f1a2b04e979c70317eb938c8758e895290f72c9ad50c8d8056c4186a01eb", func := "loop.example/parallelmoves/laws.FnExactWithoutSpare", spec := "fnExactWithoutSpare", inPlace := ["internal/bytealg.IndexByteString", "internal/bytealg.IndexString"], unfollowed := true, recurses := true, named := ["internal/bytealg.MaxLen"], apart := false, narrowed := true }
def FnExactWithoutSpareUptoSaid : Prop := fnExactWithoutSpareUptoRow.holds Try.pinned (OpenSpec.upto fnExactWithoutSpareSpec)

end Rows
end Go.Proofs.Ytbgchjjaaelkbaa
