/-
  No cell of these rows narrows 'for every input' (looked for: loops, veiled, ifaces, maps, wideKeys, modest, calm, conditions, laid).
  DERIVED. THE GIVEN ROWS OF THIS SEAT. 11 by the template 'for every input the law returns true; each argument reads behind the call as it read before'; 0 by the template 'total and deterministic' (their statements: YtafglnkgghigfaaTotals.lean).
  GIVEN WITH THE SEED: the statements are not yours to turn. If you find one false, say at which input.
  Laid BY PROGRAM, IN A SANDBOX (cutbox-rows.mjs): the forced cells as the released guide's own fill.sh prints them over the translation 031392f314a07328… (all of the seat's roots in one cut). By AI agents, Wed Nov 11 2026. No macro, syntax, notation, axiom, sorry.
-/
import Derived.Test.YtafglnkgghigfaaChecked
import GoSem.Claim
import GoSem.ClaimJoined
import GoSem.ClaimMapViews
import Derived.JoinedTies
import Derived.KernelRfl
namespace Go.Proofs.Ytafglnkgghigfaa
/- THE CELL 'sum', in the pinned program and in every row, IS THE sha256 OF THE DUMP (.gsa) THAT YtafglnkgghigfaaProg.lean LOADS. Nothing in Lean hashes anything: it is a label: what it is worth is what the hold of that sum in a sandbox is worth. -/
noncomputable def Try.pinned : Pinned := { name := "ytafglnkgghigfaa", sum := "031392f314a07328fa86d62c185b3f0047a87888877b4e7cf8ba07b100c3b525", checked := Try.checked }
namespace Rows
def none {H : Type} : Left H := { results := [], args := [] }

/-- 'laws.FnRings': WHATEVER THE INPUT: true; the input reads as it did. -/
def fnRingsSpec : ChangeSpec := { name := "fnRings", fn := fun _ => fun
  | [d] => { results := [.lit (.bool true)], args := [d] }
  | _ => none }
def fnRingsRow : OpenClaim := { program := "ytafglnkgghigfaa", sum := "031392f314a07328fa86d62c185b3f0047a87888877b4e7cf8ba07b100c3b525", func := "loop.example/parallelmoves/laws.FnRings", spec := "fnRings", inPlace := ["internal/bytealg.IndexByteString", "internal/bytealg.IndexString"], unfollowed := true, recurses := true, named := ["internal/bytealg.MaxLen"], apart := false }
def FnRingsSaid : Prop := fnRingsRow.holds Try.pinned (OpenSpec.ofChange fnRingsSpec)

/-- ITS FALSE NEIGHBOUR: 'it returns false'. Refute it at one input. -/
def fnRingsWrong : ChangeSpec := { name := "fnRings", fn := fun _ => fun
  | [d] => { results := [.lit (.bool false)], args := [d] }
  | _ => none }
def FnRingsWrongFalsely : Prop := fnRingsRow.holds Try.pinned (OpenSpec.ofChange fnRingsWrong)

/-- 'laws.FnWheels': WHATEVER THE INPUT: true; the input reads as it did. -/
def fnWheelsSpec : ChangeSpec := { name := "fnWheels", fn := fun _ => fun
  | [d] => { results := [.lit (.bool true)], args := [d] }
  | _ => none }
def fnWheelsRow : OpenClaim := { program := "ytafglnkgghigfaa", sum := "031392f314a07328fa86d62c185b3f0047a87888877b4e7cf8ba07b100c3b525", func := "loop.example/parallelmoves/laws.FnWheels", spec := "fnWheels", inPlace := ["internal/bytealg.IndexByteString", "internal/bytealg.IndexString"], unfollowed := true, recurses := true, named := ["internal/bytealg.MaxLen"], apart := false }
def FnWheelsSaid : Prop := fnWheelsRow.holds Try.pinned (OpenSpec.ofChange fnWheelsSpec)

/-- ITS FALSE NEIGHBOUR: 'it returns false'. Refute it at one input. -/
def fnWheelsWrong : ChangeSpec := { name := "fnWheels", fn := fun _ => fun
  | [d] => { results := [.lit (.bool false)], args := [d] }
  | _ => none }
def FnWheelsWrongFalsely : Prop := fnWheelsRow.holds Try.pinned (OpenSpec.ofChange fnWheelsWrong)

/-- 'laws.FnWayBack': WHATEVER THE INPUT: true; the input reads as it did. -/
def fnWayBackSpec : ChangeSpec := { name := "fnWayBack", fn := fun _ => fun
  | [d] => { results := [.lit (.bool true)], args := [d] }
  | _ => none }
def fnWayBackRow : OpenClaim := { program := "ytafglnkgghigfaa", sum := "031392f314a07328fa86d62c185b3f0047a87888877b4e7cf8ba07b100c3b525", func := "loop.example/parallelmoves/laws.FnWayBack", spec := "fnWayBack", inPlace := ["internal/bytealg.IndexByteString", "internal/bytealg.IndexString"], unfollowed := true, recurses := true, named := ["internal/bytealg.MaxLen"], apart := false }
def FnWayBackSaid : Prop := fnWayBackRow.holds Try.pinned (OpenSpec.ofChange fnWayBackSpec)

/-- ITS FALSE NEIGHBOUR: 'it returns false'. Refute it at one input. -/
def fnWayBackWrong : ChangeSpec := { name := "fnWayBack", fn := fun _ => fun
  | [d] => { results := [.lit (.bool false)], args := [d] }
  | _ => none }
def FnWayBackWrongFalsely : Prop := fnWayBackRow.holds Try.pinned (OpenSpec.ofChange fnWayBackWrong)

/-- 'laws.FnExactRingsOf': WHATEVER THE INPUT: true; the input reads as it did. -/
def fnExactRingsOfSpec : ChangeSpec := { name := "fnExactRingsOf", fn := fun _ => fun
  | [d] => { results := [.lit (.bool true)], args := [d] }
  | _ => none }
def fnExactRingsOfRow : OpenClaim := { program := "ytafglnkgghigfaa", sum := "031392f314a07328fa86d62c185b3f0047a87888877b4e7cf8ba07b100c3b525", func := "loop.example/parallelmoves/laws.FnExactRingsOf", spec := "fnExactRingsOf", inPlace := ["internal/bytealg.IndexByteString", "internal/bytealg.IndexString"], unfollowed := true, recurses := true, named := ["internal/bytealg.MaxLen"], apart := false }
def FnExactRingsOfSaid : Prop := fnExactRingsOfRow.holds Try.pinned (OpenSpec.ofChange fnExactRingsOfSpec)

/-- ITS FALSE NEIGHBOUR: 'it returns false'. Refute it at one input. -/
def fnExactRingsOfWrong : ChangeSpec := { name := "fnExactRingsOf", fn := fun _ => fun
  | [d] => { results := [.lit (.bool false)], args := [d] }
  | _ => none }
def FnExactRingsOfWrongFalsely : Prop := fnExactRingsOfRow.holds Try.pinned (OpenSpec.ofChange fnExactRingsOfWrong)

/-- 'laws.FnExactClosedRings': WHATEVER THE INPUT: true; the input reads as it did. -/
def fnExactClosedRingsSpec : ChangeSpec := { name := "fnExactClosedRings", fn := fun _ => fun
  | [d] => { results := [.lit (.bool true)], args := [d] }
  | _ => none }
def fnExactClosedRingsRow : OpenClaim := { program := "ytafglnkgghigfaa", sum := "031392f314a07328fa86d62c185b3f0047a87888877b4e7cf8ba07b100c3b525", func := "loop.example/parallelmoves/laws.FnExactClosedRings", spec := "fnExactClosedRings", inPlace := ["internal/bytealg.IndexByteString", "internal/bytealg.IndexString"], unfollowed := true, recurses := true, named := ["internal/bytealg.MaxLen"], apart := false }
def FnExactClosedRingsSaid : Prop := fnExactClosedRingsRow.holds Try.pinned (OpenSpec.ofChange fnExactClosedRingsSpec)

/-- ITS FALSE NEIGHBOUR: 'it returns false'. Refute it at one input. -/
def fnExactClosedRingsWrong : ChangeSpec := { name := "fnExactClosedRings", fn := fun _ => fun
  | [d] => { results := [.lit (.bool false)], args := [d] }
  | _ => none }
def FnExactClosedRingsWrongFalsely : Prop := fnExactClosedRingsRow.holds Try.pinned (OpenSpec.ofChange fnExactClosedRingsWrong)

/-- 'laws.FnExactWheelOf': WHATEVER THE INPUT: true; the input reads as it did. -/
def fnExactWheelOfSpec : ChangeSpec := { name := "fnExactWheelOf", fn := fun _ => fun
  | [d1, d2] => { results := [.lit (.bool true)], args := [d1, d2] }
  | _ => none }
def fnExactWheelOfRow : OpenClaim := { program := "ytafglnkgghigfaa", sum := "031392f314a07328fa86d62c185b3f0047a87888877b4e7cf8ba07b100c3b525", func := "loop.example/parallelmoves/laws.FnExactWheelOf", spec := "fnExactWheelOf", inPlace := ["internal/bytealg.IndexByteString", "internal/bytealg.IndexString"], unfollowed := true, recurses := true, named := ["internal/bytealg.MaxLen"], apart := false }
def FnExactWheelOfSaid : Prop := fnExactWheelOfRow.holds Try.pinned (OpenSpec.ofChange fnExactWheelOfSpec)

/-- ITS FALSE NEIGHBOUR: 'it returns false'. Refute it at one input. -/
def fnExactWheelOfWrong : ChangeSpec := { name := "fnExactWheelOf", fn := fun _ => fun
  | [d1, d2] => { results := [.lit (.bool false)], args := [d1, d2] }
  | _ => none }
def FnExactWheelOfWrongFalsely : Prop := fnExactWheelOfRow.holds Try.pinned (OpenSpec.ofChange fnExactWheelOfWrong)

/-- 'laws.FnExactWheelsOf': WHATEVER THE INPUT: true; the input reads as it did. -/
def fnExactWheelsOfSpec : ChangeSpec := { name := "fnExactWheelsOf", fn := fun _ => fun
  | [d] => { results := [.lit (.bool true)], args := [d] }
  | _ => none }
def fnExactWheelsOfRow : OpenClaim := { program := "ytafglnkgghigfaa", sum := "031392f314a07328fa86d62c185b3f0047a87888877b4e7cf8ba07b100c3b525", func := "loop.example/parallelmoves/laws.FnExactWheelsOf", spec := "fnExactWheelsOf", inPlace := ["internal/bytealg.IndexByteString", "internal/bytealg.IndexString"], unfollowed := true, recurses := true, named := ["internal/bytealg.MaxLen"], apart := false }
def FnExactWheelsOfSaid : Prop := fnExactWheelsOfRow.holds Try.pinned (OpenSpec.ofChange fnExactWheelsOfSpec)

/-- ITS FALSE NEIGHBOUR: 'it returns false'. Refute it at one input. -/
def fnExactWheelsOfWrong : ChangeSpec := { name := "fnExactWheelsOf", fn := fun _ => fun
  | [d] => { results := [.lit (.bool false)], args := [d] }
  | _ => none }
def FnExactWheelsOfWrongFalsely : Prop := fnExactWheelsOfRow.holds Try.pinned (OpenSpec.ofChange fnExactWheelsOfWrong)

/-- 'laws.FnExactLeavesOf': WHATEVER THE INPUT: true; the input reads as it did. -/
def fnExactLeavesOfSpec : ChangeSpec := { name := "fnExactLeavesOf", fn := fun _ => fun
  | [d] => { results := [.lit (.bool true)], args := [d] }
  | _ => none }
def fnExactLeavesOfRow : OpenClaim := { program := "ytafglnkgghigfaa", sum := "031392f314a07328fa86d62c185b3f0047a87888877b4e7cf8ba07b100c3b525", func := "loop.example/parallelmoves/laws.FnExactLeavesOf", spec := "fnExactLeavesOf", inPlace := ["internal/bytealg.IndexByteString", "internal/bytealg.IndexString"], unfollowed := true, recurses := true, named := ["internal/bytealg.MaxLen"], apart := false }
def FnExactLeavesOfSaid : Prop := fnExactLeavesOfRow.holds Try.pinned (OpenSpec.ofChange fnExactLeavesOfSpec)

/-- ITS FALSE NEIGHBOUR: 'it returns false'. Refute it at one input. -/
def fnExactLeavesOfWrong : ChangeSpec := { name := "fnExactLeavesOf", fn := fun _ => fun
  | [d] => { results := [.lit (.bool false)], args := [d] }
  | _ => none }
def FnExactLeavesOfWrongFalsely : Prop := fnExactLeavesOfRow.holds Try.pinned (OpenSpec.ofChange fnExactLeavesOfWrong)

/-- 'laws.FnExactWayBack': WHATEVER THE INPUT: true; the input reads as it did. -/
def fnExactWayBackSpec : ChangeSpec := { name := "fnExactWayBack", fn := fun _ => fun
  | [d1, d2] => { results := [.lit (.bool true)], args := [d1, d2] }
  | _ => none }
def fnExactWayBackRow : OpenClaim := { program := "ytafglnkgghigfaa", sum := "031392f314a07328fa86d62c185b3f0047a87888877b4e7cf8ba07b100c3b525", func := "loop.example/parallelmoves/laws.FnExactWayBack", spec := "fnExactWayBack", inPlace := ["internal/bytealg.IndexByteString", "internal/bytealg.IndexString"], unfollowed := true, recurses := true, named := ["internal/bytealg.MaxLen"], apart := false }
def FnExactWayBackSaid : Prop := fnExactWayBackRow.holds Try.pinned (OpenSpec.ofChange fnExactWayBackSpec)

/-- ITS FALSE NEIGHBOUR: 'it returns false'. Refute it at one input. -/
def fnExactWayBackWrong : ChangeSpec := { name := "fnExactWayBack", fn := fun _ => fun
  | [d1, d2] => { results := [.lit (.bool false)], args := [d1, d2] }
  | _ => none }
def FnExactWayBackWrongFalsely : Prop := fnExactWayBackRow.holds Try.pinned (OpenSpec.ofChange fnExactWayBackWrong)

/-- 'laws.FnExactDepthOf': WHATEVER THE INPUT: true; the input reads as it did. -/
def fnExactDepthOfSpec : ChangeSpec := { name := "fnExactDepthOf", fn := fun _ => fun
  | [d1, d2] => { results := [.lit (.bool true)], args := [d1, d2] }
  | _ => none }
def fnExactDepthOfRow : OpenClaim := { program := "ytafglnkgghigfaa", sum := "031392f314a07328fa86d62c185b3f0047a87888877b4e7cf8ba07b100c3b525", func := "loop.example/parallelmoves/laws.FnExactDepthOf", spec := "fnExactDepthOf", inPlace := ["internal/bytealg.IndexByteString", "internal/bytealg.IndexString"], unfollowed := true, recurses := true, named := ["internal/bytealg.MaxLen"], apart := false }
def FnExactDepthOfSaid : Prop := fnExactDepthOfRow.holds Try.pinned (OpenSpec.ofChange fnExactDepthOfSpec)

/-- ITS FALSE NEIGHBOUR: 'it returns false'. Refute it at one input. -/
def fnExactDepthOfWrong : ChangeSpec := { name := "fnExactDepthOf", fn := fun _ => fun
  | [d1, d2] => { results := [.lit (.bool false)], args := [d1, d2] }
  | _ => none }
def FnExactDepthOfWrongFalsely : Prop := fnExactDepthOfRow.holds Try.pinned (OpenSpec.ofChange fnExactDepthOfWrong)

/-- 'laws.FnExactCountBusy': WHATEVER THE INPUT: true; the input reads as it did. -/
def fnExactCountBusySpec : ChangeSpec := { name := "fnExactCountBusy", fn := fun _ => fun
  | [d] => { results := [.lit (.bool true)], args := [d] }
  | _ => none }
def fnExactCountBusyRow : OpenClaim := { program := "ytafglnkgghigfaa", sum := "031392f314a07328fa86d62c185b3f0047a87888877b4e7cf8ba07b100c3b525", func := "loop.example/parallelmoves/laws.FnExactCountBusy", spec := "fnExactCountBusy", inPlace := ["internal/bytealg.IndexByteString", "internal/bytealg.IndexString"], named := ["internal/bytealg.MaxLen"], apart := false }
def FnExactCountBusySaid : Prop := fnExactCountBusyRow.holds Try.pinned (OpenSpec.ofChange fnExactCountBusySpec)

/-- ITS FALSE NEIGHBOUR: 'it returns false'. Refute it at one input. -/
def fnExactCountBusyWrong : ChangeSpec := { name := "fnExactCountBusy", fn := fun _ => fun
  | [d] => { results := [.lit (.bool false)], args := [d] }
  | _ => none }
def FnExactCountBusyWrongFalsely : Prop := fnExactCountBusyRow.holds Try.pinned (OpenSpec.ofChange fnExactCountBusyWrong)

/- THE SECOND FORM. 'bulk': how many values and letters a reading holds, each counted each time it is reached (what is shared counts as often as it is met; a slice's spare places count too). A statement '..UptoSaid' is the law's where the arguments, and the package variables that the reading takes, are together of bulk at most 1048576: NARROWER than '..Said'. Prove '..Said' where nothing that the law and all that it calls make is longer than what came in: it says more and counts as full. Else prove '..UptoSaid'. A law counts once. -/
mutual
def uptoBulk {H : Type} : DataW H → Nat
  | .lit (.string bytes) => bytes.length + 1
  | .lit _ => 1
  | .nil => 1
  | .ptr d => uptoBulk d + 1
  | .slice elems spare => uptoBulkAll elems + uptoBulkAll spare + 1
  | .agg parts => uptoBulkAll parts + 1
  | .iface _ d => uptoBulk d + 1
  | .map entries => uptoBulkEntries entries + 1
  | .held _ => 1
def uptoBulkAll {H : Type} : List (DataW H) → Nat
  | [] => 0
  | d :: r => uptoBulk d + uptoBulkAll r
def uptoBulkEntries {H : Type} : List (Lit × DataW H) → Nat
  | [] => 0
  | x :: r => uptoBulkEntry x + uptoBulkEntries r
def uptoBulkEntry {H : Type} : Lit × DataW H → Nat
  | (.string bytes, d) => bytes.length + uptoBulk d + 1
  | (_, d) => uptoBulk d + 1
 end
def uptoSmall : (H : Type) → List (DataW H) → Bool := fun _ ds => decide (uptoBulkAll ds ≤ 1048576)
def OpenSpec.upto (s : _root_.Go.ChangeSpec) : _root_.Go.OpenSpec := { _root_.Go.OpenSpec.ofChange s with cond := some uptoSmall }

/-- 'laws.FnRings', WHERE WHAT IT READS IS OF BULK AT MOST 1048576: true; the input reads as it did. -/
def fnRingsUptoRow : OpenClaim := { program := "ytafglnkgghigfaa", sum := "031392f314a07328fa86d62c185b3f0047a87888877b4e7cf8ba07b100c3b525", func := "loop.example/parallelmoves/laws.FnRings", spec := "fnRings", inPlace := ["internal/bytealg.IndexByteString", "internal/bytealg.IndexString"], unfollowed := true, recurses := true, named := ["internal/bytealg.MaxLen"], apart := false, narrowed := true }
def FnRingsUptoSaid : Prop := fnRingsUptoRow.holds Try.pinned (OpenSpec.upto fnRingsSpec)

/-- 'laws.FnWheels', WHERE WHAT IT READS IS OF BULK AT MOST 1048576: true; the input reads as it did. -/
def fnWheelsUptoRow : OpenClaim := { program := "ytafglnkgghigfaa", sum := "031392f314a07328fa86d62c185b3f0047a87888877b4e7cf8ba07b100c3b525", func := "loop.example/parallelmoves/laws.FnWheels", spec := "fnWheels", inPlace := ["internal/bytealg.IndexByteString", "internal/bytealg.IndexString"], unfollowed := true, recurses := true, named := ["internal/bytealg.MaxLen"], apart := false, narrowed := true }
def FnWheelsUptoSaid : Prop := fnWheelsUptoRow.holds Try.pinned (OpenSpec.upto fnWheelsSpec)

/-- 'laws.FnWayBack', WHERE WHAT IT READS IS OF BULK AT MOST 1048576: true; the input reads as it did. -/
def fnWayBackUptoRow : OpenClaim := { program := "ytafglnkgghigfaa", sum := "031392f314a07328fa86d62c185b3f0047a87888877b4e7cf8ba07b100c3b525", func := "loop.example/parallelmoves/laws.FnWayBack", spec := "fnWayBack", inPlace := ["internal/bytealg.IndexByteString", "internal/bytealg.IndexString"], unfollowed := true, recurses := true, named := ["internal/bytealg.MaxLen"], apart := false, narrowed := true }
def FnWayBackUptoSaid : Prop := fnWayBackUptoRow.holds Try.pinned (OpenSpec.upto fnWayBackSpec)

/-- 'laws.FnExactRingsOf', WHERE WHAT IT READS IS OF BULK AT MOST 1048576: true; the input reads as it did. -/
def fnExactRingsOfUptoRow : OpenClaim := { program := "ytafglnkgghigfaa", sum := "031392f314a07328fa86d62c185b3f0047a87888877b4e7cf8ba07b100c3b525", func := "loop.example/parallelmoves/laws.FnExactRingsOf", spec := "fnExactRingsOf", inPlace := ["internal/bytealg.IndexByteString", "internal/bytealg.IndexString"], unfollowed := true, recurses := true, named := ["internal/bytealg.MaxLen"], apart := false, narrowed := true }
def FnExactRingsOfUptoSaid : Prop := fnExactRingsOfUptoRow.holds Try.pinned (OpenSpec.upto fnExactRingsOfSpec)

/-- 'laws.FnExactClosedRings', WHERE WHAT IT READS IS OF BULK AT MOST 1048576: true; the input reads as it did. -/
def fnExactClosedRingsUptoRow : OpenClaim := { program := "ytafglnkgghigfaa", sum := "031392f314a07328fa86d62c185b3f0047a87888877b4e7cf8ba07b100c3b525", func := "loop.example/parallelmoves/laws.FnExactClosedRings", spec := "fnExactClosedRings", inPlace := ["internal/bytealg.IndexByteString", "internal/bytealg.IndexString"], unfollowed := true, recurses := true, named := ["internal/bytealg.MaxLen"], apart := false, narrowed := true }
def FnExactClosedRingsUptoSaid : Prop := fnExactClosedRingsUptoRow.holds Try.pinned (OpenSpec.upto fnExactClosedRingsSpec)

/-- 'laws.FnExactWheelOf', WHERE WHAT IT READS IS OF BULK AT MOST 1048576: true; the input reads as it did. -/
def fnExactWheelOfUptoRow : OpenClaim := { program := "ytafglnkgghigfaa", sum := "031392f314a07328fa86d62c185b3f0047a87888877b4e7cf8ba07b100c3b525", func := "loop.example/parallelmoves/laws.FnExactWheelOf", spec := "fnExactWheelOf", inPlace := ["internal/bytealg.IndexByteString", "internal/bytealg.IndexString"], unfollowed := true, recurses := true, named := ["internal/bytealg.MaxLen"], apart := false, narrowed := true }
def FnExactWheelOfUptoSaid : Prop := fnExactWheelOfUptoRow.holds Try.pinned (OpenSpec.upto fnExactWheelOfSpec)

/-- 'laws.FnExactWheelsOf', WHERE WHAT IT READS IS OF BULK AT MOST 1048576: true; the input reads as it did. -/
def fnExactWheelsOfUptoRow : OpenClaim := { program := "ytafglnkgghigfaa", sum := "031392f314a07328fa86d62c185b3f0047a87888877b4e7cf8ba07b100c3b525", func := "loop.example/parallelmoves/laws.FnExactWheelsOf", spec := "fnExactWheelsOf", inPlace := ["internal/bytealg.IndexByteString", "internal/bytealg.IndexString"], unfollowed := true, recurses := true, named := ["internal/bytealg.MaxLen"], apart := false, narrowed := true }
def FnExactWheelsOfUptoSaid : Prop := fnExactWheelsOfUptoRow.holds Try.pinned (OpenSpec.upto fnExactWheelsOfSpec)

/-- 'laws.FnExactLeavesOf', WHERE WHAT IT READS IS OF BULK AT MOST 1048576: true; the input reads as it did. -/
def fnExactLeavesOfUptoRow : OpenClaim := { program := "ytafglnkgghigfaa", sum := "031392f314a07328fa86d62c185b3f0047a87888877b4e7cf8ba07b100c3b525", func := "loop.example/parallelmoves/laws.FnExactLeavesOf", spec := "fnExactLeavesOf", inPlace := ["internal/bytealg.IndexByteString", "internal/bytealg.IndexString"], unfollowed := true, recurses := true, named := ["internal/bytealg.MaxLen"], apart := false, narrowed := true }
def FnExactLeavesOfUptoSaid : Prop := fnExactLeavesOfUptoRow.holds Try.pinned (OpenSpec.upto fnExactLeavesOfSpec)

/-- 'laws.FnExactWayBack', WHERE WHAT IT READS IS OF BULK AT MOST 1048576: true; the input reads as it did. -/
def fnExactWayBackUptoRow : OpenClaim := { program := "ytafglnkgghigfaa", sum := "031392f314a07328fa86d62c185b3f0047a87888877b4e7cf8ba07b100c3b525", func := "loop.example/parallelmoves/laws.FnExactWayBack", spec := "fnExactWayBack", inPlace := ["internal/bytealg.IndexByteString", "internal/bytealg.IndexString"], unfollowed := true, recurses := true, named := ["internal/bytealg.MaxLen"], apart := false, narrowed := true }
def FnExactWayBackUptoSaid : Prop := fnExactWayBackUptoRow.holds Try.pinned (OpenSpec.upto fnExactWayBackSpec)

/-- 'laws.FnExactDepthOf', WHERE WHAT IT READS IS OF BULK AT MOST 1048576: true; the input reads as it did. -/
def fnExactDepthOfUptoRow : OpenClaim := { program := "ytafglnkgghigfaa", sum := "031392f314a07328fa86d62c185b3f0047a87888877b4e7cf8ba07b100c3b525", func := "loop.example/parallelmoves/laws.FnExactDepthOf", spec := "fnExactDepthOf", inPlace := ["internal/bytealg.IndexByteString", "internal/bytealg.IndexString"], unfollowed := true, recurses := true, named := ["internal/bytealg.MaxLen"], apart := false, narrowed := true }
def FnExactDepthOfUptoSaid : Prop := fnExactDepthOfUptoRow.holds Try.pinned (OpenSpec.upto fnExactDepthOfSpec)

/-- 'laws.FnExactCountBusy', WHERE WHAT IT READS IS OF BULK AT MOST 1048576: true; the input reads as it did. -/
def fnExactCountBusyUptoRow : OpenClaim := { program := "ytafglnkgghigfaa", sum := "031392f314a07328fa86d62c185b3f0047a87888877b4e7cf8ba07b100c3b525", func := "loop.example/parallelmoves/laws.FnExactCountBusy", spec := "fnExactCountBusy", inPlace := ["internal/bytealg.IndexByteString", "internal/bytealg.IndexString"], named := ["internal/bytealg.MaxLen"], apart := false, narrowed := true }
def FnExactCountBusyUptoSaid : Prop := fnExactCountBusyUptoRow.holds Try.pinned (OpenSpec.upto fnExactCountBusySpec)

end Rows
end Go.Proofs.Ytafglnkgghigfaa
