/-
  No cell of these rows narrows 'for every input' (looked for: loops, veiled, ifaces, maps, wideKeys, modest, calm, conditions, laid).
  DERIVED. THE GIVEN ROWS OF THIS SEAT. 10 by the template 'for every input the law returns true; each argument reads behind the call as it read before'; 0 by the template 'total and deterministic' (their statements: YtogkodjlbdlgjaaTotals.lean).
  GIVEN WITH THE SEED: the statements are not yours to turn. If you find one false, say at which input.
  Laid BY PROGRAM, IN A SANDBOX (cutbox-rows.mjs): the forced cells as the released guide's own fill.sh prints them over the translation 580d2252a16d5bd1… (all of the seat's roots in one cut). By AI agents, Wed Nov 11 2026. No macro, syntax, notation, axiom, sorry.
-/
import Derived.Test.YtogkodjlbdlgjaaChecked
import GoSem.Claim
import GoSem.ClaimJoined
import GoSem.ClaimMapViews
import Derived.JoinedTies
import Derived.KernelRfl
namespace Go.Proofs.Ytogkodjlbdlgjaa
/- THE CELL 'sum', in the pinned program and in every row, IS THE sha256 OF THE DUMP (.gsa) THAT YtogkodjlbdlgjaaProg.lean LOADS. Nothing in Lean hashes anything: it is a label: what it is worth is what the hold of that sum in a sandbox is worth. -/
noncomputable def Try.pinned : Pinned := { name := "ytogkodjlbdlgjaa", sum := "580d2252a16d5bd1ca895837a359040de14909e5e9706dcab6cc7d24dbce3ea9", checked := Try.checked }
namespace Rows
def none {H : Type} : Left H := { results := [], args := [] }

/-- 'laws.FnMakeDirect': WHATEVER THE INPUT: true; the input reads as it did. -/
def fnMakeDirectSpec : ChangeSpec := { name := "fnMakeDirect", fn := fun _ => fun
  | [d1, d2] => { results := [.lit (.bool true)], args := [d1, d2] }
  | _ => none }
def fnMakeDirectRow : OpenClaim := { program := "ytogkodjlbdlgjaa", sum := "580d2252a16d5bd1ca895837a359040de14909e5e9706dcab6cc7d24dbce3ea9", func := "loop.example/parallelmoves/laws.FnMakeDirect", spec := "fnMakeDirect", inPlace := ["internal/bytealg.IndexByteString", "internal/bytealg.IndexString"], unfollowed := true, recurses := true, named := ["internal/bytealg.MaxLen"], apart := false }
def FnMakeDirectSaid : Prop := fnMakeDirectRow.holds Try.pinned (OpenSpec.ofChange fnMakeDirectSpec)

/-- ITS FALSE NEIGHBOUR: 'it returns false'. Refute it at one input. -/
def fnMakeDirectWrong : ChangeSpec := { name := "fnMakeDirect", fn := fun _ => fun
  | [d1, d2] => { results := [.lit (.bool false)], args := [d1, d2] }
  | _ => none }
def FnMakeDirectWrongFalsely : Prop := fnMakeDirectRow.holds Try.pinned (OpenSpec.ofChange fnMakeDirectWrong)

/-- 'laws.FnWithFree': WHATEVER THE INPUT: true; the input reads as it did. -/
def fnWithFreeSpec : ChangeSpec := { name := "fnWithFree", fn := fun _ => fun
  | [d1, d2] => { results := [.lit (.bool true)], args := [d1, d2] }
  | _ => none }
def fnWithFreeRow : OpenClaim := { program := "ytogkodjlbdlgjaa", sum := "580d2252a16d5bd1ca895837a359040de14909e5e9706dcab6cc7d24dbce3ea9", func := "loop.example/parallelmoves/laws.FnWithFree", spec := "fnWithFree", inPlace := ["internal/bytealg.IndexByteString", "internal/bytealg.IndexString"], unfollowed := true, recurses := true, named := ["internal/bytealg.MaxLen"], apart := false }
def FnWithFreeSaid : Prop := fnWithFreeRow.holds Try.pinned (OpenSpec.ofChange fnWithFreeSpec)

/-- ITS FALSE NEIGHBOUR: 'it returns false'. Refute it at one input. -/
def fnWithFreeWrong : ChangeSpec := { name := "fnWithFree", fn := fun _ => fun
  | [d1, d2] => { results := [.lit (.bool false)], args := [d1, d2] }
  | _ => none }
def FnWithFreeWrongFalsely : Prop := fnWithFreeRow.holds Try.pinned (OpenSpec.ofChange fnWithFreeWrong)

/-- 'laws.FnExactIsSlot': WHATEVER THE INPUT: true; the input reads as it did. -/
def fnExactIsSlotSpec : ChangeSpec := { name := "fnExactIsSlot", fn := fun _ => fun
  | [d] => { results := [.lit (.bool true)], args := [d] }
  | _ => none }
def fnExactIsSlotRow : OpenClaim := { program := "ytogkodjlbdlgjaa", sum := "580d2252a16d5bd1ca895837a359040de14909e5e9706dcab6cc7d24dbce3ea9", func := "loop.example/parallelmoves/laws.FnExactIsSlot", spec := "fnExactIsSlot", inPlace := ["internal/bytealg.IndexByteString", "internal/bytealg.IndexString"], named := ["internal/bytealg.MaxLen"], apart := false }
def FnExactIsSlotSaid : Prop := fnExactIsSlotRow.holds Try.pinned (OpenSpec.ofChange fnExactIsSlotSpec)

/-- ITS FALSE NEIGHBOUR: 'it returns false'. Refute it at one input. -/
def fnExactIsSlotWrong : ChangeSpec := { name := "fnExactIsSlot", fn := fun _ => fun
  | [d] => { results := [.lit (.bool false)], args := [d] }
  | _ => none }
def FnExactIsSlotWrongFalsely : Prop := fnExactIsSlotRow.holds Try.pinned (OpenSpec.ofChange fnExactIsSlotWrong)

/-- 'laws.FnExactIsDirect': WHATEVER THE INPUT: true; the input reads as it did. -/
def fnExactIsDirectSpec : ChangeSpec := { name := "fnExactIsDirect", fn := fun _ => fun
  | [d] => { results := [.lit (.bool true)], args := [d] }
  | _ => none }
def fnExactIsDirectRow : OpenClaim := { program := "ytogkodjlbdlgjaa", sum := "580d2252a16d5bd1ca895837a359040de14909e5e9706dcab6cc7d24dbce3ea9", func := "loop.example/parallelmoves/laws.FnExactIsDirect", spec := "fnExactIsDirect", inPlace := ["internal/bytealg.IndexByteString", "internal/bytealg.IndexString"], unfollowed := true, recurses := true, named := ["internal/bytealg.MaxLen"], apart := false }
def FnExactIsDirectSaid : Prop := fnExactIsDirectRow.holds Try.pinned (OpenSpec.ofChange fnExactIsDirectSpec)

/-- ITS FALSE NEIGHBOUR: 'it returns false'. Refute it at one input. -/
def fnExactIsDirectWrong : ChangeSpec := { name := "fnExactIsDirect", fn := fun _ => fun
  | [d] => { results := [.lit (.bool false)], args := [d] }
  | _ => none }
def FnExactIsDirectWrongFalsely : Prop := fnExactIsDirectRow.holds Try.pinned (OpenSpec.ofChange fnExactIsDirectWrong)

/-- 'laws.FnExactMakeDirect': WHATEVER THE INPUT: true; the input reads as it did. -/
def fnExactMakeDirectSpec : ChangeSpec := { name := "fnExactMakeDirect", fn := fun _ => fun
  | [d] => { results := [.lit (.bool true)], args := [d] }
  | _ => none }
def fnExactMakeDirectRow : OpenClaim := { program := "ytogkodjlbdlgjaa", sum := "580d2252a16d5bd1ca895837a359040de14909e5e9706dcab6cc7d24dbce3ea9", func := "loop.example/parallelmoves/laws.FnExactMakeDirect", spec := "fnExactMakeDirect", inPlace := ["internal/bytealg.IndexByteString", "internal/bytealg.IndexString"], unfollowed := true, recurses := true, named := ["internal/bytealg.MaxLen"], apart := false }
def FnExactMakeDirectSaid : Prop := fnExactMakeDirectRow.holds Try.pinned (OpenSpec.ofChange fnExactMakeDirectSpec)

/-- ITS FALSE NEIGHBOUR: 'it returns false'. Refute it at one input. -/
def fnExactMakeDirectWrong : ChangeSpec := { name := "fnExactMakeDirect", fn := fun _ => fun
  | [d] => { results := [.lit (.bool false)], args := [d] }
  | _ => none }
def FnExactMakeDirectWrongFalsely : Prop := fnExactMakeDirectRow.holds Try.pinned (OpenSpec.ofChange fnExactMakeDirectWrong)

/-- 'laws.FnExactOrderDirect': WHATEVER THE INPUT: true; the input reads as it did. -/
def fnExactOrderDirectSpec : ChangeSpec := { name := "fnExactOrderDirect", fn := fun _ => fun
  | [d] => { results := [.lit (.bool true)], args := [d] }
  | _ => none }
def fnExactOrderDirectRow : OpenClaim := { program := "ytogkodjlbdlgjaa", sum := "580d2252a16d5bd1ca895837a359040de14909e5e9706dcab6cc7d24dbce3ea9", func := "loop.example/parallelmoves/laws.FnExactOrderDirect", spec := "fnExactOrderDirect", inPlace := ["internal/bytealg.IndexByteString", "internal/bytealg.IndexString"], unfollowed := true, recurses := true, named := ["internal/bytealg.MaxLen"], apart := false }
def FnExactOrderDirectSaid : Prop := fnExactOrderDirectRow.holds Try.pinned (OpenSpec.ofChange fnExactOrderDirectSpec)

/-- ITS FALSE NEIGHBOUR: 'it returns false'. Refute it at one input. -/
def fnExactOrderDirectWrong : ChangeSpec := { name := "fnExactOrderDirect", fn := fun _ => fun
  | [d] => { results := [.lit (.bool false)], args := [d] }
  | _ => none }
def FnExactOrderDirectWrongFalsely : Prop := fnExactOrderDirectRow.holds Try.pinned (OpenSpec.ofChange fnExactOrderDirectWrong)

/-- 'laws.FnExactCountDirect': WHATEVER THE INPUT: true; the input reads as it did. -/
def fnExactCountDirectSpec : ChangeSpec := { name := "fnExactCountDirect", fn := fun _ => fun
  | [d] => { results := [.lit (.bool true)], args := [d] }
  | _ => none }
def fnExactCountDirectRow : OpenClaim := { program := "ytogkodjlbdlgjaa", sum := "580d2252a16d5bd1ca895837a359040de14909e5e9706dcab6cc7d24dbce3ea9", func := "loop.example/parallelmoves/laws.FnExactCountDirect", spec := "fnExactCountDirect", inPlace := ["internal/bytealg.IndexByteString", "internal/bytealg.IndexString"], unfollowed := true, recurses := true, named := ["internal/bytealg.MaxLen"], apart := false }
def FnExactCountDirectSaid : Prop := fnExactCountDirectRow.holds Try.pinned (OpenSpec.ofChange fnExactCountDirectSpec)

/-- ITS FALSE NEIGHBOUR: 'it returns false'. Refute it at one input. -/
def fnExactCountDirectWrong : ChangeSpec := { name := "fnExactCountDirect", fn := fun _ => fun
  | [d] => { results := [.lit (.bool false)], args := [d] }
  | _ => none }
def FnExactCountDirectWrongFalsely : Prop := fnExactCountDirectRow.holds Try.pinned (OpenSpec.ofChange fnExactCountDirectWrong)

/-- 'laws.FnExactFreeRegisters': WHATEVER THE INPUT: true; the input reads as it did. -/
def fnExactFreeRegistersSpec : ChangeSpec := { name := "fnExactFreeRegisters", fn := fun _ => fun
  | [d] => { results := [.lit (.bool true)], args := [d] }
  | _ => none }
def fnExactFreeRegistersRow : OpenClaim := { program := "ytogkodjlbdlgjaa", sum := "580d2252a16d5bd1ca895837a359040de14909e5e9706dcab6cc7d24dbce3ea9", func := "loop.example/parallelmoves/laws.FnExactFreeRegisters", spec := "fnExactFreeRegisters", inPlace := ["internal/bytealg.IndexByteString", "internal/bytealg.IndexString"], unfollowed := true, recurses := true, named := ["internal/bytealg.MaxLen"], apart := false }
def FnExactFreeRegistersSaid : Prop := fnExactFreeRegistersRow.holds Try.pinned (OpenSpec.ofChange fnExactFreeRegistersSpec)

/-- ITS FALSE NEIGHBOUR: 'it returns false'. Refute it at one input. -/
def fnExactFreeRegistersWrong : ChangeSpec := { name := "fnExactFreeRegisters", fn := fun _ => fun
  | [d] => { results := [.lit (.bool false)], args := [d] }
  | _ => none }
def FnExactFreeRegistersWrongFalsely : Prop := fnExactFreeRegistersRow.holds Try.pinned (OpenSpec.ofChange fnExactFreeRegistersWrong)

/-- 'laws.FnExactWithFree': WHATEVER THE INPUT: true; the input reads as it did. -/
def fnExactWithFreeSpec : ChangeSpec := { name := "fnExactWithFree", fn := fun _ => fun
  | [d1, d2] => { results := [.lit (.bool true)], args := [d1, d2] }
  | _ => none }
def fnExactWithFreeRow : OpenClaim := { program := "ytogkodjlbdlgjaa", sum := "580d2252a16d5bd1ca895837a359040de14909e5e9706dcab6cc7d24dbce3ea9", func := "loop.example/parallelmoves/laws.FnExactWithFree", spec := "fnExactWithFree", inPlace := ["internal/bytealg.IndexByteString", "internal/bytealg.IndexString"], named := ["internal/bytealg.MaxLen"], apart := false }
def FnExactWithFreeSaid : Prop := fnExactWithFreeRow.holds Try.pinned (OpenSpec.ofChange fnExactWithFreeSpec)

/-- ITS FALSE NEIGHBOUR: 'it returns false'. Refute it at one input. -/
def fnExactWithFreeWrong : ChangeSpec := { name := "fnExactWithFree", fn := fun _ => fun
  | [d1, d2] => { results := [.lit (.bool false)], args := [d1, d2] }
  | _ => none }
def FnExactWithFreeWrongFalsely : Prop := fnExactWithFreeRow.holds Try.pinned (OpenSpec.ofChange fnExactWithFreeWrong)

/-- 'laws.FnExactSlotTraffic': WHATEVER THE INPUT: true; the input reads as it did. -/
def fnExactSlotTrafficSpec : ChangeSpec := { name := "fnExactSlotTraffic", fn := fun _ => fun
  | [d] => { results := [.lit (.bool true)], args := [d] }
  | _ => none }
def fnExactSlotTrafficRow : OpenClaim := { program := "ytogkodjlbdlgjaa", sum := "580d2252a16d5bd1ca895837a359040de14909e5e9706dcab6cc7d24dbce3ea9", func := "loop.example/parallelmoves/laws.FnExactSlotTraffic", spec := "fnExactSlotTraffic", inPlace := ["internal/bytealg.IndexByteString", "internal/bytealg.IndexString"], unfollowed := true, recurses := true, named := ["internal/bytealg.MaxLen"], apart := false }
def FnExactSlotTrafficSaid : Prop := fnExactSlotTrafficRow.holds Try.pinned (OpenSpec.ofChange fnExactSlotTrafficSpec)

/-- ITS FALSE NEIGHBOUR: 'it returns false'. Refute it at one input. -/
def fnExactSlotTrafficWrong : ChangeSpec := { name := "fnExactSlotTraffic", fn := fun _ => fun
  | [d] => { results := [.lit (.bool false)], args := [d] }
  | _ => none }
def FnExactSlotTrafficWrongFalsely : Prop := fnExactSlotTrafficRow.holds Try.pinned (OpenSpec.ofChange fnExactSlotTrafficWrong)

/- THE SECOND FORM. 'bulk': how many values and letters a reading holds, each counted each time it is reached (what is shared counts as often as it is met; a slice's spare places count too). A statement '..UptoSaid' is the law's where the arguments, and the package variables that the reading takes, are together of bulk at most 1048576: NARROWER than '..Said'. Prove '..Said' where nothing that the law and all that it calls make is longer than what came in: it says more and counts as full. Else prove '..UptoSaid'. A law counts once. -/
mutual
def uptoBulk {H : Type} : DataW H → Nat
  | .lit (.string bytes) => bytes.length + 1
  | .lit _ => 1
  | .nil => 1
  | .ptr d => uptoBulk d + 1
  | .slice elems spare => uptoBulkAll elems + uptoBulkAll spare + 1
  | .agg parts => uptoBulkAll parts + 1
  | .iface _ d => uptoBulk d + 1
  | .map entries => uptoBulkEntries entries + 1
  | .held _ => 1
def uptoBulkAll {H : Type} : List (DataW H) → Nat
  | [] => 0
  | d :: r => uptoBulk d + uptoBulkAll r
def uptoBulkEntries {H : Type} : List (Lit × DataW H) → Nat
  | [] => 0
  | x :: r => uptoBulkEntry x + uptoBulkEntries r
def uptoBulkEntry {H : Type} : Lit × DataW H → Nat
  | (.string bytes, d) => bytes.length + uptoBulk d + 1
  | (_, d) => uptoBulk d + 1
 end
def uptoSmall : (H : Type) → List (DataW H) → Bool := fun _ ds => decide (uptoBulkAll ds ≤ 1048576)
def OpenSpec.upto (s : _root_.Go.ChangeSpec) : _root_.Go.OpenSpec := { _root_.Go.OpenSpec.ofChange s with cond := some uptoSmall }

/-- 'laws.FnMakeDirect', WHERE WHAT IT READS IS OF BULK AT MOST 1048576: true; the input reads as it did. -/
def fnMakeDirectUptoRow : OpenClaim := { program := "ytogkodjlbdlgjaa", sum := "580d2252a16d5bd1ca895837a359040de14909e5e9706dcab6cc7d24dbce3ea9", func := "loop.example/parallelmoves/laws.FnMakeDirect", spec := "fnMakeDirect", inPlace := ["internal/bytealg.IndexByteString", "internal/bytealg.IndexString"], unfollowed := true, recurses := true, named := ["internal/bytealg.MaxLen"], apart := false, narrowed := true }
def FnMakeDirectUptoSaid : Prop := fnMakeDirectUptoRow.holds Try.pinned (OpenSpec.upto fnMakeDirectSpec)

/-- 'laws.FnWithFree', WHERE WHAT IT READS IS OF BULK AT MOST 1048576: true; the input reads as it did. -/
def fnWithFreeUptoRow : OpenClaim := { program := "ytogkodjlbdlgjaa", sum := "580d2252a16d5bd1ca895837a359040de14909e5e9706dcab6cc7d24dbce3ea9", func := "loop.example/parallelmoves/laws.FnWithFree", spec := "fnWithFree", inPlace := ["internal/bytealg.IndexByteString", "internal/bytealg.IndexString"], unfollowed := true, recurses := true, named := ["internal/bytealg.MaxLen"], apart := false, narrowed := true }
def FnWithFreeUptoSaid : Prop := fnWithFreeUptoRow.holds Try.pinned (OpenSpec.upto fnWithFreeSpec)

/-- 'laws.FnExactIsSlot', WHERE WHAT IT READS IS OF BULK AT MOST 1048576: true; the input reads as it did. -/
def fnExactIsSlotUptoRow : OpenClaim := { program := "ytogkodjlbdlgjaa", sum := "580d2252a16d5bd1ca895837a359040de14909e5e9706dcab6cc7d24dbce3ea9", func := "loop.example/parallelmoves/laws.FnExactIsSlot", spec := "fnExactIsSlot", inPlace := ["internal/bytealg.IndexByteString", "internal/bytealg.IndexString"], named := ["internal/bytealg.MaxLen"], apart := false, narrowed := true }
def FnExactIsSlotUptoSaid : Prop := fnExactIsSlotUptoRow.holds Try.pinned (OpenSpec.upto fnExactIsSlotSpec)

/-- 'laws.FnExactIsDirect', WHERE WHAT IT READS IS OF BULK AT MOST 1048576: true; the input reads as it did. -/
def fnExactIsDirectUptoRow : OpenClaim := { program := "ytogkodjlbdlgjaa", sum := "580d2252a16d5bd1ca895837a359040de14909e5e9706dcab6cc7d24dbce3ea9", func := "loop.example/parallelmoves/laws.FnExactIsDirect", spec := "fnExactIsDirect", inPlace := ["internal/bytealg.IndexByteString", "internal/bytealg.IndexString"], unfollowed := true, recurses := true, named := ["internal/bytealg.MaxLen"], apart := false, narrowed := true }
def FnExactIsDirectUptoSaid : Prop := fnExactIsDirectUptoRow.holds Try.pinned (OpenSpec.upto fnExactIsDirectSpec)

/-- 'laws.FnExactMakeDirect', WHERE WHAT IT READS IS OF BULK AT MOST 1048576: true; the input reads as it did. -/
def fnExactMakeDirectUptoRow : OpenClaim := { program := "ytogkodjlbdlgjaa", sum := "580d2252a16d5bd1ca895837a359040de14909e5e9706dcab6cc7d24dbce3ea9", func := "loop.example/parallelmoves/laws.FnExactMakeDirect", spec := "fnExactMakeDirect", inPlace := ["internal/bytealg.IndexByteString", "internal/bytealg.IndexString"], unfollowed := true, recurses := true, named := ["internal/bytealg.MaxLen"], apart := false, narrowed := true }
def FnExactMakeDirectUptoSaid : Prop := fnExactMakeDirectUptoRow.holds Try.pinned (OpenSpec.upto fnExactMakeDirectSpec)

/-- 'laws.FnExactOrderDirect', WHERE WHAT IT READS IS OF BULK AT MOST 1048576: true; the input reads as it did. -/
def fnExactOrderDirectUptoRow : OpenClaim := { program := "ytogkodjlbdlgjaa", sum := "580d2252a16d5bd1ca895837a359040de14909e5e9706dcab6cc7d24dbce3ea9", func := "loop.example/parallelmoves/laws.FnExactOrderDirect", spec := "fnExactOrderDirect", inPlace := ["internal/bytealg.IndexByteString", "internal/bytealg.IndexString"], unfollowed := true, recurses := true, named := ["internal/bytealg.MaxLen"], apart := false, narrowed := true }
def FnExactOrderDirectUptoSaid : Prop := fnExactOrderDirectUptoRow.holds Try.pinned (OpenSpec.upto fnExactOrderDirectSpec)

/-- 'laws.FnExactCountDirect', WHERE WHAT IT READS IS OF BULK AT MOST 1048576: true; the input reads as it did. -/
def fnExactCountDirectUptoRow : OpenClaim := { program := "ytogkodjlbdlgjaa", sum := "580d2252a16d5bd1ca895837a359040de14909e5e9706dcab6cc7d24dbce3ea9", func := "loop.example/parallelmoves/laws.FnExactCountDirect", spec := "fnExactCountDirect", inPlace := ["internal/bytealg.IndexByteString", "internal/bytealg.IndexString"], unfollowed := true, recurses := true, named := ["internal/bytealg.MaxLen"], apart := false, narrowed := true }
def FnExactCountDirectUptoSaid : Prop := fnExactCountDirectUptoRow.holds Try.pinned (OpenSpec.upto fnExactCountDirectSpec)

/-- 'laws.FnExactFreeRegisters', WHERE WHAT IT READS IS OF BULK AT MOST 1048576: true; the input reads as it did. -/
def fnExactFreeRegistersUptoRow : OpenClaim := { program := "ytogkodjlbdlgjaa", sum := "580d2252a16d5bd1ca895837a359040de14909e5e9706dcab6cc7d24dbce3ea9", func := "loop.example/parallelmoves/laws.FnExactFreeRegisters", spec := "fnExactFreeRegisters", inPlace := ["internal/bytealg.IndexByteString", "internal/bytealg.IndexString"], unfollowed := true, recurses := true, named := ["internal/bytealg.MaxLen"], apart := false, narrowed := true }
def FnExactFreeRegistersUptoSaid : Prop := fnExactFreeRegistersUptoRow.holds Try.pinned (OpenSpec.upto fnExactFreeRegistersSpec)

/-- 'laws.FnExactWithFree', WHERE WHAT IT READS IS OF BULK AT MOST 1048576: true; the input reads as it did. -/
def fnExactWithFreeUptoRow : OpenClaim := { program := "ytogkodjlbdlgjaa", sum := "580d2252a16d5bd1ca895837a359040de14909e5e9706dcab6cc7d24dbce3ea9", func := "loop.example/parallelmoves/laws.FnExactWithFree", spec := "fnExactWithFree", inPlace := ["internal/bytealg.IndexByteString", "internal/bytealg.IndexString"], named := ["internal/bytealg.MaxLen"], apart := false, narrowed := true }
def FnExactWithFreeUptoSaid : Prop := fnExactWithFreeUptoRow.holds Try.pinned (OpenSpec.upto fnExactWithFreeSpec)

/-- 'laws.FnExactSlotTraffic', WHERE WHAT IT READS IS OF BULK AT MOST 1048576: true; the input reads as it did. -/
def fnExactSlotTrafficUptoRow : OpenClaim := { program := "ytogkodjlbdlgjaa", sum := "580d2252a16d5bd1ca895837a359040de14909e5e9706dcab6cc7d24dbce3ea9", func := "loop.example/parallelmoves/laws.FnExactSlotTraffic", spec := "fnExactSlotTraffic", inPlace := ["internal/bytealg.IndexByteString", "internal/bytealg.IndexString"], unfollowed := true, recurses := true, named := ["internal/bytealg.MaxLen"], apart := false, narrowed := true }
def FnExactSlotTrafficUptoSaid : Prop := fnExactSlotTrafficUptoRow.holds Try.pinned (OpenSpec.upto fnExactSlotTrafficSpec)

end Rows
end Go.Proofs.Ytogkodjlbdlgjaa
