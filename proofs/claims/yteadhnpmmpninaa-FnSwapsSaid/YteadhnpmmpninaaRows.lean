/-
  No cell of these rows narrows 'for every input' (looked for: loops, veiled, ifaces, maps, wideKeys, modest, calm, conditions, laid).
  DERIVED. THE GIVEN ROWS OF THIS SEAT. 9 by the template 'for every input the law returns true; each argument reads behind the call as it read before'; 0 by the template 'total and deterministic' (their statements: YteadhnpmmpninaaTotals.lean).
  GIVEN WITH THE SEED: the statements are not yours to turn. If you find one false, say at which input.
  Laid BY PROGRAM, IN A SANDBOX (cutbox-rows.mjs): the forced cells as the released guide's own fill.sh prints them over the translation 952e78d2cf2a9246… (all of the seat's roots in one cut). By AI agents, Wed Nov 11 2026. No macro, syntax, notation, axiom, sorry.
-/
import Derived.Test.YteadhnpmmpninaaChecked
import GoSem.Claim
import GoSem.ClaimJoined
import GoSem.ClaimMapViews
import Derived.JoinedTies
import Derived.KernelRfl
namespace Go.Proofs.Yteadhnpmmpninaa
/- THE CELL 'sum', in the pinned program and in every row, IS THE sha256 OF THE DUMP (.gsa) THAT YteadhnpmmpninaaProg.lean LOADS. Nothing in Lean hashes anything: it is a label: what it is worth is what the hold of that sum in a sandbox is worth. -/
noncomputable def Try.pinned : Pinned := { name := "yteadhnpmmpninaa", sum := "952e78d2cf2a92460583328bae6fbc14f2ef453a486f099c6dfc6a6c76ae5d1f", checked := Try.checked }
namespace Rows
def none {H : Type} : Left H := { results := [], args := [] }

/-- 'laws.FnSwaps': WHATEVER THE INPUT: true; the input reads as it did. -/
def fnSwapsSpec : ChangeSpec := { name := "fnSwaps", fn := fun _ => fun
  | [d] => { results := [.lit (.bool true)], args := [d] }
  | _ => none }
def fnSwapsRow : OpenClaim := { program := "yteadhnpmmpninaa", sum := "952e78d2cf2a92460583328bae6fbc14f2ef453a486f099c6dfc6a6c76ae5d1f", func := "loop.example/parallelmoves/laws.FnSwaps", spec := "fnSwaps", inPlace := ["internal/bytealg.IndexByteString", "internal/bytealg.IndexString"], unfollowed := true, recurses := true, named := ["internal/bytealg.MaxLen"], apart := false }
def FnSwapsSaid : Prop := fnSwapsRow.holds Try.pinned (OpenSpec.ofChange fnSwapsSpec)

/-- ITS FALSE NEIGHBOUR: 'it returns false'. Refute it at one input. -/
def fnSwapsWrong : ChangeSpec := { name := "fnSwaps", fn := fun _ => fun
  | [d] => { results := [.lit (.bool false)], args := [d] }
  | _ => none }
def FnSwapsWrongFalsely : Prop := fnSwapsRow.holds Try.pinned (OpenSpec.ofChange fnSwapsWrong)

/-- 'laws.FnExactSwapsFor': WHATEVER THE INPUT: true; the input reads as it did. -/
def fnExactSwapsForSpec : ChangeSpec := { name := "fnExactSwapsFor", fn := fun _ => fun
  | [d] => { results := [.lit (.bool true)], args := [d] }
  | _ => none }
def fnExactSwapsForRow : OpenClaim := { program := "yteadhnpmmpninaa", sum := "952e78d2cf2a92460583328bae6fbc14f2ef453a486f099c6dfc6a6c76ae5d1f", func := "loop.example/parallelmoves/laws.FnExactSwapsFor", spec := "fnExactSwapsFor", inPlace := ["internal/bytealg.IndexByteString", "internal/bytealg.IndexString"], unfollowed := true, recurses := true, named := ["internal/bytealg.MaxLen"], apart := false }
def FnExactSwapsForSaid : Prop := fnExactSwapsForRow.holds Try.pinned (OpenSpec.ofChange fnExactSwapsForSpec)

/-- ITS FALSE NEIGHBOUR: 'it returns false'. Refute it at one input. -/
def fnExactSwapsForWrong : ChangeSpec := { name := "fnExactSwapsFor", fn := fun _ => fun
  | [d] => { results := [.lit (.bool false)], args := [d] }
  | _ => none }
def FnExactSwapsForWrongFalsely : Prop := fnExactSwapsForRow.holds Try.pinned (OpenSpec.ofChange fnExactSwapsForWrong)

/-- 'laws.FnExactCountSwaps': WHATEVER THE INPUT: true; the input reads as it did. -/
def fnExactCountSwapsSpec : ChangeSpec := { name := "fnExactCountSwaps", fn := fun _ => fun
  | [d] => { results := [.lit (.bool true)], args := [d] }
  | _ => none }
def fnExactCountSwapsRow : OpenClaim := { program := "yteadhnpmmpninaa", sum := "952e78d2cf2a92460583328bae6fbc14f2ef453a486f099c6dfc6a6c76ae5d1f", func := "loop.example/parallelmoves/laws.FnExactCountSwaps", spec := "fnExactCountSwaps", inPlace := ["internal/bytealg.IndexByteString", "internal/bytealg.IndexString"], unfollowed := true, recurses := true, named := ["internal/bytealg.MaxLen"], apart := false }
def FnExactCountSwapsSaid : Prop := fnExactCountSwapsRow.holds Try.pinned (OpenSpec.ofChange fnExactCountSwapsSpec)

/-- ITS FALSE NEIGHBOUR: 'it returns false'. Refute it at one input. -/
def fnExactCountSwapsWrong : ChangeSpec := { name := "fnExactCountSwaps", fn := fun _ => fun
  | [d] => { results := [.lit (.bool false)], args := [d] }
  | _ => none }
def FnExactCountSwapsWrongFalsely : Prop := fnExactCountSwapsRow.holds Try.pinned (OpenSpec.ofChange fnExactCountSwapsWrong)

/-- 'laws.FnExactOrderWithSwaps': WHATEVER THE INPUT: true; the input reads as it did. -/
def fnExactOrderWithSwapsSpec : ChangeSpec := { name := "fnExactOrderWithSwaps", fn := fun _ => fun
  | [d] => { results := [.lit (.bool true)], args := [d] }
  | _ => none }
def fnExactOrderWithSwapsRow : OpenClaim := { program := "yteadhnpmmpninaa", sum := "952e78d2cf2a92460583328bae6fbc14f2ef453a486f099c6dfc6a6c76ae5d1f", func := "loop.example/parallelmoves/laws.FnExactOrderWithSwaps", spec := "fnExactOrderWithSwaps", inPlace := ["internal/bytealg.IndexByteString", "internal/bytealg.IndexString"], unfollowed := true, recurses := true, named := ["internal/bytealg.MaxLen"], apart := false }
def FnExactOrderWithSwapsSaid : Prop := fnExactOrderWithSwapsRow.holds Try.pinned (OpenSpec.ofChange fnExactOrderWithSwapsSpec)

/-- ITS FALSE NEIGHBOUR: 'it returns false'. Refute it at one input. -/
def fnExactOrderWithSwapsWrong : ChangeSpec := { name := "fnExactOrderWithSwaps", fn := fun _ => fun
  | [d] => { results := [.lit (.bool false)], args := [d] }
  | _ => none }
def FnExactOrderWithSwapsWrongFalsely : Prop := fnExactOrderWithSwapsRow.holds Try.pinned (OpenSpec.ofChange fnExactOrderWithSwapsWrong)

/-- 'laws.FnExactCountWithSwaps': WHATEVER THE INPUT: true; the input reads as it did. -/
def fnExactCountWithSwapsSpec : ChangeSpec := { name := "fnExactCountWithSwaps", fn := fun _ => fun
  | [d] => { results := [.lit (.bool true)], args := [d] }
  | _ => none }
def fnExactCountWithSwapsRow : OpenClaim := { program := "yteadhnpmmpninaa", sum := "952e78d2cf2a92460583328bae6fbc14f2ef453a486f099c6dfc6a6c76ae5d1f", func := "loop.example/parallelmoves/laws.FnExactCountWithSwaps", spec := "fnExactCountWithSwaps", inPlace := ["internal/bytealg.IndexByteString", "internal/bytealg.IndexString"], unfollowed := true, recurses := true, named := ["internal/bytealg.MaxLen"], apart := false }
def FnExactCountWithSwapsSaid : Prop := fnExactCountWithSwapsRow.holds Try.pinned (OpenSpec.ofChange fnExactCountWithSwapsSpec)

/-- ITS FALSE NEIGHBOUR: 'it returns false'. Refute it at one input. -/
def fnExactCountWithSwapsWrong : ChangeSpec := { name := "fnExactCountWithSwaps", fn := fun _ => fun
  | [d] => { results := [.lit (.bool false)], args := [d] }
  | _ => none }
def FnExactCountWithSwapsWrongFalsely : Prop := fnExactCountWithSwapsRow.holds Try.pinned (OpenSpec.ofChange fnExactCountWithSwapsWrong)

/-- 'laws.FnExactSwapCost': WHATEVER THE INPUT: true; the input reads as it did. -/
def fnExactSwapCostSpec : ChangeSpec := { name := "fnExactSwapCost", fn := fun _ => fun
  | [d1, d2] => { results := [.lit (.bool true)], args := [d1, d2] }
  | _ => none }
def fnExactSwapCostRow : OpenClaim := { program := "yteadhnpmmpninaa", sum := "952e78d2cf2a92460583328bae6fbc14f2ef453a486f099c6dfc6a6c76ae5d1f", func := "loop.example/parallelmoves/laws.FnExactSwapCost", spec := "fnExactSwapCost", inPlace := ["internal/bytealg.IndexByteString", "internal/bytealg.IndexString"], unfollowed := true, recurses := true, named := ["internal/bytealg.MaxLen"], apart := false }
def FnExactSwapCostSaid : Prop := fnExactSwapCostRow.holds Try.pinned (OpenSpec.ofChange fnExactSwapCostSpec)

/-- ITS FALSE NEIGHBOUR: 'it returns false'. Refute it at one input. -/
def fnExactSwapCostWrong : ChangeSpec := { name := "fnExactSwapCost", fn := fun _ => fun
  | [d1, d2] => { results := [.lit (.bool false)], args := [d1, d2] }
  | _ => none }
def FnExactSwapCostWrongFalsely : Prop := fnExactSwapCostRow.holds Try.pinned (OpenSpec.ofChange fnExactSwapCostWrong)

/-- 'laws.FnExactBestCost': WHATEVER THE INPUT: true; the input reads as it did. -/
def fnExactBestCostSpec : ChangeSpec := { name := "fnExactBestCost", fn := fun _ => fun
  | [d1, d2] => { results := [.lit (.bool true)], args := [d1, d2] }
  | _ => none }
def fnExactBestCostRow : OpenClaim := { program := "yteadhnpmmpninaa", sum := "952e78d2cf2a92460583328bae6fbc14f2ef453a486f099c6dfc6a6c76ae5d1f", func := "loop.example/parallelmoves/laws.FnExactBestCost", spec := "fnExactBestCost", inPlace := ["internal/bytealg.IndexByteString", "internal/bytealg.IndexString"], unfollowed := true, recurses := true, named := ["internal/bytealg.MaxLen"], apart := false }
def FnExactBestCostSaid : Prop := fnExactBestCostRow.holds Try.pinned (OpenSpec.ofChange fnExactBestCostSpec)

/-- ITS FALSE NEIGHBOUR: 'it returns false'. Refute it at one input. -/
def fnExactBestCostWrong : ChangeSpec := { name := "fnExactBestCost", fn := fun _ => fun
  | [d1, d2] => { results := [.lit (.bool false)], args := [d1, d2] }
  | _ => none }
def FnExactBestCostWrongFalsely : Prop := fnExactBestCostRow.holds Try.pinned (OpenSpec.ofChange fnExactBestCostWrong)

/-- 'laws.FnExactSignOf': WHATEVER THE INPUT: true; the input reads as it did. -/
def fnExactSignOfSpec : ChangeSpec := { name := "fnExactSignOf", fn := fun _ => fun
  | [d] => { results := [.lit (.bool true)], args := [d] }
  | _ => none }
def fnExactSignOfRow : OpenClaim := { program := "yteadhnpmmpninaa", sum := "952e78d2cf2a92460583328bae6fbc14f2ef453a486f099c6dfc6a6c76ae5d1f", func := "loop.example/parallelmoves/laws.FnExactSignOf", spec := "fnExactSignOf", inPlace := ["internal/bytealg.IndexByteString", "internal/bytealg.IndexString"], unfollowed := true, recurses := true, named := ["internal/bytealg.MaxLen"], apart := false }
def FnExactSignOfSaid : Prop := fnExactSignOfRow.holds Try.pinned (OpenSpec.ofChange fnExactSignOfSpec)

/-- ITS FALSE NEIGHBOUR: 'it returns false'. Refute it at one input. -/
def fnExactSignOfWrong : ChangeSpec := { name := "fnExactSignOf", fn := fun _ => fun
  | [d] => { results := [.lit (.bool false)], args := [d] }
  | _ => none }
def FnExactSignOfWrongFalsely : Prop := fnExactSignOfRow.holds Try.pinned (OpenSpec.ofChange fnExactSignOfWrong)

/-- 'laws.FnExactNeighbourSwaps': WHATEVER THE INPUT: true; the input reads as it did. -/
def fnExactNeighbourSwapsSpec : ChangeSpec := { name := "fnExactNeighbourSwaps", fn := fun _ => fun
  | [d] => { results := [.lit (.bool true)], args := [d] }
  | _ => none }
def fnExactNeighbourSwapsRow : OpenClaim := { program := "yteadhnpmmpninaa", sum := "952e78d2cf2a92460583328bae6fbc14f2ef453a486f099c6dfc6a6c76ae5d1f", func := "loop.example/parallelmoves/laws.FnExactNeighbourSwaps", spec := "fnExactNeighbourSwaps", inPlace := ["internal/bytealg.IndexByteString", "internal/bytealg.IndexString"], unfollowed := true, recurses := true, named := ["internal/bytealg.MaxLen"], apart := false }
def FnExactNeighbourSwapsSaid : Prop := fnExactNeighbourSwapsRow.holds Try.pinned (OpenSpec.ofChange fnExactNeighbourSwapsSpec)

/-- ITS FALSE NEIGHBOUR: 'it returns false'. Refute it at one input. -/
def fnExactNeighbourSwapsWrong : ChangeSpec := { name := "fnExactNeighbourSwaps", fn := fun _ => fun
  | [d] => { results := [.lit (.bool false)], args := [d] }
  | _ => none }
def FnExactNeighbourSwapsWrongFalsely : Prop := fnExactNeighbourSwapsRow.holds Try.pinned (OpenSpec.ofChange fnExactNeighbourSwapsWrong)

/- THE SECOND FORM. 'bulk': how many values and letters a reading holds, each counted each time it is reached (what is shared counts as often as it is met; a slice's spare places count too). A statement '..UptoSaid' is the law's where the arguments, and the package variables that the reading takes, are together of bulk at most 1048576: NARROWER than '..Said'. Prove '..Said' where nothing that the law and all that it calls make is longer than what came in: it says more and counts as full. Else prove '..UptoSaid'. A law counts once. -/
mutual
def uptoBulk {H : Type} : DataW H → Nat
  | .lit (.string bytes) => bytes.length + 1
  | .lit _ => 1
  | .nil => 1
  | .ptr d => uptoBulk d + 1
  | .slice elems spare => uptoBulkAll elems + uptoBulkAll spare + 1
  | .agg parts => uptoBulkAll parts + 1
  | .iface _ d => uptoBulk d + 1
  | .map entries => uptoBulkEntries entries + 1
  | .held _ => 1
def uptoBulkAll {H : Type} : List (DataW H) → Nat
  | [] => 0
  | d :: r => uptoBulk d + uptoBulkAll r
def uptoBulkEntries {H : Type} : List (Lit × DataW H) → Nat
  | [] => 0
  | x :: r => uptoBulkEntry x + uptoBulkEntries r
def uptoBulkEntry {H : Type} : Lit × DataW H → Nat
  | (.string bytes, d) => bytes.length + uptoBulk d + 1
  | (_, d) => uptoBulk d + 1
 end
def uptoSmall : (H : Type) → List (DataW H) → Bool := fun _ ds => decide (uptoBulkAll ds ≤ 1048576)
def OpenSpec.upto (s : _root_.Go.ChangeSpec) : _root_.Go.OpenSpec := { _root_.Go.OpenSpec.ofChange s with cond := some uptoSmall }

/-- 'laws.FnSwaps', WHERE WHAT IT READS IS OF BULK AT MOST 1048576: true; the input reads as it did. -/
def fnSwapsUptoRow : OpenClaim := { program := "yteadhnpmmpninaa", sum := "952e78d2cf2a92460583328bae6fbc14f2ef453a486f099c6dfc6a6c76ae5d1f", func := "loop.example/parallelmoves/laws.FnSwaps", spec := "fnSwaps", inPlace := ["internal/bytealg.IndexByteString", "internal/bytealg.IndexString"], unfollowed := true, recurses := true, named := ["internal/bytealg.MaxLen"], apart := false, narrowed := true }
def FnSwapsUptoSaid : Prop := fnSwapsUptoRow.holds Try.pinned (OpenSpec.upto fnSwapsSpec)

/-- 'laws.FnExactSwapsFor', WHERE WHAT IT READS IS OF BULK AT MOST 1048576: true; the input reads as it did. -/
def fnExactSwapsForUptoRow : OpenClaim := { program := "yteadhnpmmpninaa", sum := "952e78d2cf2a92460583328bae6fbc14f2ef453a486f099c6dfc6a6c76ae5d1f", func := "loop.example/parallelmoves/laws.FnExactSwapsFor", spec := "fnExactSwapsFor", inPlace := ["internal/bytealg.IndexByteString", "internal/bytealg.IndexString"], unfollowed := true, recurses := true, named := ["internal/bytealg.MaxLen"], apart := false, narrowed := true }
def FnExactSwapsForUptoSaid : Prop := fnExactSwapsForUptoRow.holds Try.pinned (OpenSpec.upto fnExactSwapsForSpec)

/-- 'laws.FnExactCountSwaps', WHERE WHAT IT READS IS OF BULK AT MOST 1048576: true; the input reads as it did. -/
def fnExactCountSwapsUptoRow : OpenClaim := { program := "yteadhnpmmpninaa", sum := "952e78d2cf2a92460583328bae6fbc14f2ef453a486f099c6dfc6a6c76ae5d1f", func := "loop.example/parallelmoves/laws.FnExactCountSwaps", spec := "fnExactCountSwaps", inPlace := ["internal/bytealg.IndexByteString", "internal/bytealg.IndexString"], unfollowed := true, recurses := true, named := ["internal/bytealg.MaxLen"], apart := false, narrowed := true }
def FnExactCountSwapsUptoSaid : Prop := fnExactCountSwapsUptoRow.holds Try.pinned (OpenSpec.upto fnExactCountSwapsSpec)

/-- 'laws.FnExactOrderWithSwaps', WHERE WHAT IT READS IS OF BULK AT MOST 1048576: true; the input reads as it did. -/
def fnExactOrderWithSwapsUptoRow : OpenClaim := { program := "yteadhnpmmpninaa", sum := "952e78d2cf2a92460583328bae6fbc14f2ef453a486f099c6dfc6a6c76ae5d1f", func := "loop.example/parallelmoves/laws.FnExactOrderWithSwaps", spec := "fnExactOrderWithSwaps", inPlace := ["internal/bytealg.IndexByteString", "internal/bytealg.IndexString"], unfollowed := true, recurses := true, named := ["internal/bytealg.MaxLen"], apart := false, narrowed := true }
def FnExactOrderWithSwapsUptoSaid : Prop := fnExactOrderWithSwapsUptoRow.holds Try.pinned (OpenSpec.upto fnExactOrderWithSwapsSpec)

/-- 'laws.FnExactCountWithSwaps', WHERE WHAT IT READS IS OF BULK AT MOST 1048576: true; the input reads as it did. -/
def fnExactCountWithSwapsUptoRow : OpenClaim := { program := "yteadhnpmmpninaa", sum := "952e78d2cf2a92460583328bae6fbc14f2ef453a486f099c6dfc6a6c76ae5d1f", func := "loop.example/parallelmoves/laws.FnExactCountWithSwaps", spec := "fnExactCountWithSwaps", inPlace := ["internal/bytealg.IndexByteString", "internal/bytealg.IndexString"], unfollowed := true, recurses := true, named := ["internal/bytealg.MaxLen"], apart := false, narrowed := true }
def FnExactCountWithSwapsUptoSaid : Prop := fnExactCountWithSwapsUptoRow.holds Try.pinned (OpenSpec.upto fnExactCountWithSwapsSpec)

/-- 'laws.FnExactSwapCost', WHERE WHAT IT READS IS OF BULK AT MOST 1048576: true; the input reads as it did. -/
def fnExactSwapCostUptoRow : OpenClaim := { program := "yteadhnpmmpninaa", sum := "952e78d2cf2a92460583328bae6fbc14f2ef453a486f099c6dfc6a6c76ae5d1f", func := "loop.example/parallelmoves/laws.FnExactSwapCost", spec := "fnExactSwapCost", inPlace := ["internal/bytealg.IndexByteString", "internal/bytealg.IndexString"], unfollowed := true, recurses := true, named := ["internal/bytealg.MaxLen"], apart := false, narrowed := true }
def FnExactSwapCostUptoSaid : Prop := fnExactSwapCostUptoRow.holds Try.pinned (OpenSpec.upto fnExactSwapCostSpec)

/-- 'laws.FnExactBestCost', WHERE WHAT IT READS IS OF BULK AT MOST 1048576: true; the input reads as it did. -/
def fnExactBestCostUptoRow : OpenClaim := { program := "yteadhnpmmpninaa", sum := "952e78d2cf2a92460583328bae6fbc14f2ef453a486f099c6dfc6a6c76ae5d1f", func := "loop.example/parallelmoves/laws.FnExactBestCost", spec := "fnExactBestCost", inPlace := ["internal/bytealg.IndexByteString", "internal/bytealg.IndexString"], unfollowed := true, recurses := true, named := ["internal/bytealg.MaxLen"], apart := false, narrowed := true }
def FnExactBestCostUptoSaid : Prop := fnExactBestCostUptoRow.holds Try.pinned (OpenSpec.upto fnExactBestCostSpec)

/-- 'laws.FnExactSignOf', WHERE WHAT IT READS IS OF BULK AT MOST 1048576: true; the input reads as it did. -/
def fnExactSignOfUptoRow : OpenClaim := { program := "yteadhnpmmpninaa", sum := "952e78d2cf2a92460583328bae6fbc14f2ef453a486f099c6dfc6a6c76ae5d1f", func := "loop.example/parallelmoves/laws.FnExactSignOf", spec := "fnExactSignOf", inPlace := ["internal/bytealg.IndexByteString", "internal/bytealg.IndexString"], unfollowed := true, recurses := true, named := ["internal/bytealg.MaxLen"], apart := false, narrowed := true }
def FnExactSignOfUptoSaid : Prop := fnExactSignOfUptoRow.holds Try.pinned (OpenSpec.upto fnExactSignOfSpec)

/-- 'laws.FnExactNeighbourSwaps', WHERE WHAT IT READS IS OF BULK AT MOST 1048576: true; the input reads as it did. -/
def fnExactNeighbourSwapsUptoRow : OpenClaim := { program := "yteadhnpmmpninaa", sum := "952e78d2cf2a92460583328bae6fbc14f2ef453a486f099c6dfc6a6c76ae5d1f", func := "loop.example/parallelmoves/laws.FnExactNeighbourSwaps", spec := "fnExactNeighbourSwaps", inPlace := ["internal/bytealg.IndexByteString", "internal/bytealg.IndexString"], unfollowed := true, recurses := true, named := ["internal/bytealg.MaxLen"], apart := false, narrowed := true }
def FnExactNeighbourSwapsUptoSaid : Prop := fnExactNeighbourSwapsUptoRow.holds Try.pinned (OpenSpec.upto fnExactNeighbourSwapsSpec)

end Rows
end Go.Proofs.Yteadhnpmmpninaa
