/-
  No cell of these rows narrows 'for every input' (looked for: loops, veiled, ifaces, maps, wideKeys, modest, calm, conditions, laid).
  DERIVED. THE GIVEN ROWS OF THIS SEAT. 9 by the template 'for every input the law returns true; each argument reads behind the call as it read before'; 0 by the template 'total and deterministic' (their statements: YtpbaomnhchljbaaTotals.lean).
  GIVEN WITH THE SEED: the statements are not yours to turn. If you find one false, say at which input.
  Laid BY PROGRAM, IN A SANDBOX (cutbox-rows.mjs): the forced cells as the released guide's own fill.sh prints them over the translation 8bd5e8a871e5b3a8… (all of the seat's roots in one cut). By AI agents, Wed Nov 11 2026. No macro, syntax, notation, axiom, sorry.
-/
import Derived.Test.YtpbaomnhchljbaaChecked
import GoSem.Claim
import GoSem.ClaimJoined
import GoSem.ClaimMapViews
import Derived.JoinedTies
import Derived.KernelRfl
namespace Go.Proofs.Ytpbaomnhchljbaa
/- THE CELL 'sum', in the pinned program and in every row, IS THE sha256 OF THE DUMP (.gsa) THAT YtpbaomnhchljbaaProg.lean LOADS. Nothing in Lean hashes anything: it is a label: what it is worth is what the hold of that sum in a sandbox is worth. -/
noncomputable def Try.pinned : Pinned := { name := "ytpbaomnhchljbaa", sum := "8bd5e8a871e5b3a839ddad462ca36047415da758fd7b920330de1dbe970bd42e", checked := Try.checked }
namespace Rows
def none {H : Type} : Left H := { results := [], args := [] }

/-- 'laws.FnAtOnce': WHATEVER THE INPUT: true; the input reads as it did. -/
def fnAtOnceSpec : ChangeSpec := { name := "fnAtOnce", fn := fun _ => fun
  | [d] => { results := [.lit (.bool true)], args := [d] }
  | _ => none }
def fnAtOnceRow : OpenClaim := { program := "ytpbaomnhchljbaa", sum := "8bd5e8a871e5b3a839ddad462ca36047415da758fd7b920330de1dbe970bd42e", func := "loop.example/parallelmoves/laws.FnAtOnce", spec := "fnAtOnce", inPlace := ["internal/bytealg.IndexByteString", "internal/bytealg.IndexString"], unfollowed := true, recurses := true, named := ["internal/bytealg.MaxLen"], apart := false }
def FnAtOnceSaid : Prop := fnAtOnceRow.holds Try.pinned (OpenSpec.ofChange fnAtOnceSpec)

/-- ITS FALSE NEIGHBOUR: 'it returns false'. Refute it at one input. -/
def fnAtOnceWrong : ChangeSpec := { name := "fnAtOnce", fn := fun _ => fun
  | [d] => { results := [.lit (.bool false)], args := [d] }
  | _ => none }
def FnAtOnceWrongFalsely : Prop := fnAtOnceRow.holds Try.pinned (OpenSpec.ofChange fnAtOnceWrong)

/-- 'laws.FnEffect': WHATEVER THE INPUT: true; the input reads as it did. -/
def fnEffectSpec : ChangeSpec := { name := "fnEffect", fn := fun _ => fun
  | [d] => { results := [.lit (.bool true)], args := [d] }
  | _ => none }
def fnEffectRow : OpenClaim := { program := "ytpbaomnhchljbaa", sum := "8bd5e8a871e5b3a839ddad462ca36047415da758fd7b920330de1dbe970bd42e", func := "loop.example/parallelmoves/laws.FnEffect", spec := "fnEffect", inPlace := ["internal/bytealg.IndexByteString", "internal/bytealg.IndexString"], unfollowed := true, recurses := true, named := ["internal/bytealg.MaxLen"], apart := false }
def FnEffectSaid : Prop := fnEffectRow.holds Try.pinned (OpenSpec.ofChange fnEffectSpec)

/-- ITS FALSE NEIGHBOUR: 'it returns false'. Refute it at one input. -/
def fnEffectWrong : ChangeSpec := { name := "fnEffect", fn := fun _ => fun
  | [d] => { results := [.lit (.bool false)], args := [d] }
  | _ => none }
def FnEffectWrongFalsely : Prop := fnEffectRow.holds Try.pinned (OpenSpec.ofChange fnEffectWrong)

/-- 'laws.FnExactStateValid': WHATEVER THE INPUT: true; the input reads as it did. -/
def fnExactStateValidSpec : ChangeSpec := { name := "fnExactStateValid", fn := fun _ => fun
  | [d] => { results := [.lit (.bool true)], args := [d] }
  | _ => none }
def fnExactStateValidRow : OpenClaim := { program := "ytpbaomnhchljbaa", sum := "8bd5e8a871e5b3a839ddad462ca36047415da758fd7b920330de1dbe970bd42e", func := "loop.example/parallelmoves/laws.FnExactStateValid", spec := "fnExactStateValid", apart := false }
def FnExactStateValidSaid : Prop := fnExactStateValidRow.holds Try.pinned (OpenSpec.ofChange fnExactStateValidSpec)

/-- ITS FALSE NEIGHBOUR: 'it returns false'. Refute it at one input. -/
def fnExactStateValidWrong : ChangeSpec := { name := "fnExactStateValid", fn := fun _ => fun
  | [d] => { results := [.lit (.bool false)], args := [d] }
  | _ => none }
def FnExactStateValidWrongFalsely : Prop := fnExactStateValidRow.holds Try.pinned (OpenSpec.ofChange fnExactStateValidWrong)

/-- 'laws.FnExactAtOnce': WHATEVER THE INPUT: true; the input reads as it did. -/
def fnExactAtOnceSpec : ChangeSpec := { name := "fnExactAtOnce", fn := fun _ => fun
  | [d1, d2] => { results := [.lit (.bool true)], args := [d1, d2] }
  | _ => none }
def fnExactAtOnceRow : OpenClaim := { program := "ytpbaomnhchljbaa", sum := "8bd5e8a871e5b3a839ddad462ca36047415da758fd7b920330de1dbe970bd42e", func := "loop.example/parallelmoves/laws.FnExactAtOnce", spec := "fnExactAtOnce", inPlace := ["internal/bytealg.IndexByteString", "internal/bytealg.IndexString"], unfollowed := true, recurses := true, named := ["internal/bytealg.MaxLen"], apart := false }
def FnExactAtOnceSaid : Prop := fnExactAtOnceRow.holds Try.pinned (OpenSpec.ofChange fnExactAtOnceSpec)

/-- ITS FALSE NEIGHBOUR: 'it returns false'. Refute it at one input. -/
def fnExactAtOnceWrong : ChangeSpec := { name := "fnExactAtOnce", fn := fun _ => fun
  | [d1, d2] => { results := [.lit (.bool false)], args := [d1, d2] }
  | _ => none }
def FnExactAtOnceWrongFalsely : Prop := fnExactAtOnceRow.holds Try.pinned (OpenSpec.ofChange fnExactAtOnceWrong)

/-- 'laws.FnExactSequenceValid': WHATEVER THE INPUT: true; the input reads as it did. -/
def fnExactSequenceValidSpec : ChangeSpec := { name := "fnExactSequenceValid", fn := fun _ => fun
  | [d] => { results := [.lit (.bool true)], args := [d] }
  | _ => none }
def fnExactSequenceValidRow : OpenClaim := { program := "ytpbaomnhchljbaa", sum := "8bd5e8a871e5b3a839ddad462ca36047415da758fd7b920330de1dbe970bd42e", func := "loop.example/parallelmoves/laws.FnExactSequenceValid", spec := "fnExactSequenceValid", inPlace := ["internal/bytealg.IndexByteString", "internal/bytealg.IndexString"], named := ["internal/bytealg.MaxLen"], apart := false }
def FnExactSequenceValidSaid : Prop := fnExactSequenceValidRow.holds Try.pinned (OpenSpec.ofChange fnExactSequenceValidSpec)

/-- ITS FALSE NEIGHBOUR: 'it returns false'. Refute it at one input. -/
def fnExactSequenceValidWrong : ChangeSpec := { name := "fnExactSequenceValid", fn := fun _ => fun
  | [d] => { results := [.lit (.bool false)], args := [d] }
  | _ => none }
def FnExactSequenceValidWrongFalsely : Prop := fnExactSequenceValidRow.holds Try.pinned (OpenSpec.ofChange fnExactSequenceValidWrong)

/-- 'laws.FnExactInOrder': WHATEVER THE INPUT: true; the input reads as it did. -/
def fnExactInOrderSpec : ChangeSpec := { name := "fnExactInOrder", fn := fun _ => fun
  | [d1, d2] => { results := [.lit (.bool true)], args := [d1, d2] }
  | _ => none }
def fnExactInOrderRow : OpenClaim := { program := "ytpbaomnhchljbaa", sum := "8bd5e8a871e5b3a839ddad462ca36047415da758fd7b920330de1dbe970bd42e", func := "loop.example/parallelmoves/laws.FnExactInOrder", spec := "fnExactInOrder", inPlace := ["internal/bytealg.IndexByteString", "internal/bytealg.IndexString"], unfollowed := true, recurses := true, named := ["internal/bytealg.MaxLen"], apart := false }
def FnExactInOrderSaid : Prop := fnExactInOrderRow.holds Try.pinned (OpenSpec.ofChange fnExactInOrderSpec)

/-- ITS FALSE NEIGHBOUR: 'it returns false'. Refute it at one input. -/
def fnExactInOrderWrong : ChangeSpec := { name := "fnExactInOrder", fn := fun _ => fun
  | [d1, d2] => { results := [.lit (.bool false)], args := [d1, d2] }
  | _ => none }
def FnExactInOrderWrongFalsely : Prop := fnExactInOrderRow.holds Try.pinned (OpenSpec.ofChange fnExactInOrderWrong)

/-- 'laws.FnExactEffectOf': WHATEVER THE INPUT: true; the input reads as it did. -/
def fnExactEffectOfSpec : ChangeSpec := { name := "fnExactEffectOf", fn := fun _ => fun
  | [d] => { results := [.lit (.bool true)], args := [d] }
  | _ => none }
def fnExactEffectOfRow : OpenClaim := { program := "ytpbaomnhchljbaa", sum := "8bd5e8a871e5b3a839ddad462ca36047415da758fd7b920330de1dbe970bd42e", func := "loop.example/parallelmoves/laws.FnExactEffectOf", spec := "fnExactEffectOf", inPlace := ["internal/bytealg.IndexByteString", "internal/bytealg.IndexString"], unfollowed := true, recurses := true, named := ["internal/bytealg.MaxLen"], apart := false }
def FnExactEffectOfSaid : Prop := fnExactEffectOfRow.holds Try.pinned (OpenSpec.ofChange fnExactEffectOfSpec)

/-- ITS FALSE NEIGHBOUR: 'it returns false'. Refute it at one input. -/
def fnExactEffectOfWrong : ChangeSpec := { name := "fnExactEffectOf", fn := fun _ => fun
  | [d] => { results := [.lit (.bool false)], args := [d] }
  | _ => none }
def FnExactEffectOfWrongFalsely : Prop := fnExactEffectOfRow.holds Try.pinned (OpenSpec.ofChange fnExactEffectOfWrong)

/-- 'laws.FnExactIsRight': WHATEVER THE INPUT: true; the input reads as it did. -/
def fnExactIsRightSpec : ChangeSpec := { name := "fnExactIsRight", fn := fun _ => fun
  | [d1, d2] => { results := [.lit (.bool true)], args := [d1, d2] }
  | _ => none }
def fnExactIsRightRow : OpenClaim := { program := "ytpbaomnhchljbaa", sum := "8bd5e8a871e5b3a839ddad462ca36047415da758fd7b920330de1dbe970bd42e", func := "loop.example/parallelmoves/laws.FnExactIsRight", spec := "fnExactIsRight", inPlace := ["internal/bytealg.IndexByteString", "internal/bytealg.IndexString"], unfollowed := true, recurses := true, named := ["internal/bytealg.MaxLen"], apart := false }
def FnExactIsRightSaid : Prop := fnExactIsRightRow.holds Try.pinned (OpenSpec.ofChange fnExactIsRightSpec)

/-- ITS FALSE NEIGHBOUR: 'it returns false'. Refute it at one input. -/
def fnExactIsRightWrong : ChangeSpec := { name := "fnExactIsRight", fn := fun _ => fun
  | [d1, d2] => { results := [.lit (.bool false)], args := [d1, d2] }
  | _ => none }
def FnExactIsRightWrongFalsely : Prop := fnExactIsRightRow.holds Try.pinned (OpenSpec.ofChange fnExactIsRightWrong)

/-- 'laws.FnExactTouchedBy': WHATEVER THE INPUT: true; the input reads as it did. -/
def fnExactTouchedBySpec : ChangeSpec := { name := "fnExactTouchedBy", fn := fun _ => fun
  | [d] => { results := [.lit (.bool true)], args := [d] }
  | _ => none }
def fnExactTouchedByRow : OpenClaim := { program := "ytpbaomnhchljbaa", sum := "8bd5e8a871e5b3a839ddad462ca36047415da758fd7b920330de1dbe970bd42e", func := "loop.example/parallelmoves/laws.FnExactTouchedBy", spec := "fnExactTouchedBy", inPlace := ["internal/bytealg.IndexByteString", "internal/bytealg.IndexString"], named := ["internal/bytealg.MaxLen"], apart := false }
def FnExactTouchedBySaid : Prop := fnExactTouchedByRow.holds Try.pinned (OpenSpec.ofChange fnExactTouchedBySpec)

/-- ITS FALSE NEIGHBOUR: 'it returns false'. Refute it at one input. -/
def fnExactTouchedByWrong : ChangeSpec := { name := "fnExactTouchedBy", fn := fun _ => fun
  | [d] => { results := [.lit (.bool false)], args := [d] }
  | _ => none }
def FnExactTouchedByWrongFalsely : Prop := fnExactTouchedByRow.holds Try.pinned (OpenSpec.ofChange fnExactTouchedByWrong)

/- THE SECOND FORM. 'bulk': how many values and letters a reading holds, each counted each time it is reached (what is shared counts as often as it is met; a slice's spare places count too). A statement '..UptoSaid' is the law's where the arguments, and the package variables that the reading takes, are together of bulk at most 1048576: NARROWER than '..Said'. Prove '..Said' where nothing that the law and all that it calls make is longer than what came in: it says more and counts as full. Else prove '..UptoSaid'. A law counts once. -/
mutual
def uptoBulk {H : Type} : DataW H → Nat
  | .lit (.string bytes) => bytes.length + 1
  | .lit _ => 1
  | .nil => 1
  | .ptr d => uptoBulk d + 1
  | .slice elems spare => uptoBulkAll elems + uptoBulkAll spare + 1
  | .agg parts => uptoBulkAll parts + 1
  | .iface _ d => uptoBulk d + 1
  | .map entries => uptoBulkEntries entries + 1
  | .held _ => 1
def uptoBulkAll {H : Type} : List (DataW H) → Nat
  | [] => 0
  | d :: r => uptoBulk d + uptoBulkAll r
def uptoBulkEntries {H : Type} : List (Lit × DataW H) → Nat
  | [] => 0
  | x :: r => uptoBulkEntry x + uptoBulkEntries r
def uptoBulkEntry {H : Type} : Lit × DataW H → Nat
  | (.string bytes, d) => bytes.length + uptoBulk d + 1
  | (_, d) => uptoBulk d + 1
 end
def uptoSmall : (H : Type) → List (DataW H) → Bool := fun _ ds => decide (uptoBulkAll ds ≤ 1048576)
def OpenSpec.upto (s : _root_.Go.ChangeSpec) : _root_.Go.OpenSpec := { _root_.Go.OpenSpec.ofChange s with cond := some uptoSmall }

/-- 'laws.FnAtOnce', WHERE WHAT IT READS IS OF BULK AT MOST 1048576: true; the input reads as it did. -/
def fnAtOnceUptoRow : OpenClaim := { program := "ytpbaomnhchljbaa", sum := "8bd5e8a871e5b3a839ddad462ca36047415da758fd7b920330de1dbe970bd42e", func := "loop.example/parallelmoves/laws.FnAtOnce", spec := "fnAtOnce", inPlace := ["internal/bytealg.IndexByteString", "internal/bytealg.IndexString"], unfollowed := true, recurses := true, named := ["internal/bytealg.MaxLen"], apart := false, narrowed := true }
def FnAtOnceUptoSaid : Prop := fnAtOnceUptoRow.holds Try.pinned (OpenSpec.upto fnAtOnceSpec)

/-- 'laws.FnEffect', WHERE WHAT IT READS IS OF BULK AT MOST 1048576: true; the input reads as it did. -/
def fnEffectUptoRow : OpenClaim := { program := "ytpbaomnhchljbaa", sum := "8bd5e8a871e5b3a839ddad462ca36047415da758fd7b920330de1dbe970bd42e", func := "loop.example/parallelmoves/laws.FnEffect", spec := "fnEffect", inPlace := ["internal/bytealg.IndexByteString", "internal/bytealg.IndexString"], unfollowed := true, recurses := true, named := ["internal/bytealg.MaxLen"], apart := false, narrowed := true }
def FnEffectUptoSaid : Prop := fnEffectUptoRow.holds Try.pinned (OpenSpec.upto fnEffectSpec)

/-- 'laws.FnExactStateValid', WHERE WHAT IT READS IS OF BULK AT MOST 1048576: true; the input reads as it did. -/
def fnExactStateValidUptoRow : OpenClaim := { program := "ytpbaomnhchljbaa", sum := "8bd5e8a871e5b3a839ddad462ca36047415da758fd7b920330de1dbe970bd42e", func := "loop.example/parallelmoves/laws.FnExactStateValid", spec := "fnExactStateValid", apart := false, narrowed := true }
def FnExactStateValidUptoSaid : Prop := fnExactStateValidUptoRow.holds Try.pinned (OpenSpec.upto fnExactStateValidSpec)

/-- 'laws.FnExactAtOnce', WHERE WHAT IT READS IS OF BULK AT MOST 1048576: true; the input reads as it did. -/
def fnExactAtOnceUptoRow : OpenClaim := { program := "ytpbaomnhchljbaa", sum := "8bd5e8a871e5b3a839ddad462ca36047415da758fd7b920330de1dbe970bd42e", func := "loop.example/parallelmoves/laws.FnExactAtOnce", spec := "fnExactAtOnce", inPlace := ["internal/bytealg.IndexByteString", "internal/bytealg.IndexString"], unfollowed := true, recurses := true, named := ["internal/bytealg.MaxLen"], apart := false, narrowed := true }
def FnExactAtOnceUptoSaid : Prop := fnExactAtOnceUptoRow.holds Try.pinned (OpenSpec.upto fnExactAtOnceSpec)

/-- 'laws.FnExactSequenceValid', WHERE WHAT IT READS IS OF BULK AT MOST 1048576: true; the input reads as it did. -/
def fnExactSequenceValidUptoRow : OpenClaim := { program := "ytpbaomnhchljbaa", sum := "8bd5e8a871e5b3a839ddad462ca36047415da758fd7b920330de1dbe970bd42e", func := "loop.example/parallelmoves/laws.FnExactSequenceValid", spec := "fnExactSequenceValid", inPlace := ["internal/bytealg.IndexByteString", "internal/bytealg.IndexString"], named := ["internal/bytealg.MaxLen"], apart := false, narrowed := true }
def FnExactSequenceValidUptoSaid : Prop := fnExactSequenceValidUptoRow.holds Try.pinned (OpenSpec.upto fnExactSequenceValidSpec)

/-- 'laws.FnExactInOrder', WHERE WHAT IT READS IS OF BULK AT MOST 1048576: true; the input reads as it did. -/
def fnExactInOrderUptoRow : OpenClaim := { program := "ytpbaomnhchljbaa", sum := "8bd5e8a871e5b3a839ddad462ca36047415da758fd7b920330de1dbe970bd42e", func := "loop.example/parallelmoves/laws.FnExactInOrder", spec := "fnExactInOrder", inPlace := ["internal/bytealg.IndexByteString", "internal/bytealg.IndexString"], unfollowed := true, recurses := true, named := ["internal/bytealg.MaxLen"], apart := false, narrowed := true }
def FnExactInOrderUptoSaid : Prop := fnExactInOrderUptoRow.holds Try.pinned (OpenSpec.upto fnExactInOrderSpec)

/-- 'laws.FnExactEffectOf', WHERE WHAT IT READS IS OF BULK AT MOST 1048576: true; the input reads as it did. -/
def fnExactEffectOfUptoRow : OpenClaim := { program := "ytpbaomnhchljbaa", sum := "8bd5e8a871e5b3a839ddad462ca36047415da758fd7b920330de1dbe970bd42e", func := "loop.example/parallelmoves/laws.FnExactEffectOf", spec := "fnExactEffectOf", inPlace := ["internal/bytealg.IndexByteString", "internal/bytealg.IndexString"], unfollowed := true, recurses := true, named := ["internal/bytealg.MaxLen"], apart := false, narrowed := true }
def FnExactEffectOfUptoSaid : Prop := fnExactEffectOfUptoRow.holds Try.pinned (OpenSpec.upto fnExactEffectOfSpec)

/-- 'laws.FnExactIsRight', WHERE WHAT IT READS IS OF BULK AT MOST 1048576: true; the input reads as it did. -/
def fnExactIsRightUptoRow : OpenClaim := { program := "ytpbaomnhchljbaa", sum := "8bd5e8a871e5b3a839ddad462ca36047415da758fd7b920330de1dbe970bd42e", func := "loop.example/parallelmoves/laws.FnExactIsRight", spec := "fnExactIsRight", inPlace := ["internal/bytealg.IndexByteString", "internal/bytealg.IndexString"], unfollowed := true, recurses := true, named := ["internal/bytealg.MaxLen"], apart := false, narrowed := true }
def FnExactIsRightUptoSaid : Prop := fnExactIsRightUptoRow.holds Try.pinned (OpenSpec.upto fnExactIsRightSpec)

/-- 'laws.FnExactTouchedBy', WHERE WHAT IT READS IS OF BULK AT MOST 1048576: true; the input reads as it did. -/
def fnExactTouchedByUptoRow : OpenClaim := { program := "ytpbaomnhchljbaa", sum := "8bd5e8a871e5b3a839ddad462ca36047415da758fd7b920330de1dbe970bd42e", func := "loop.example/parallelmoves/laws.FnExactTouchedBy", spec := "fnExactTouchedBy", inPlace := ["internal/bytealg.IndexByteString", "internal/bytealg.IndexString"], named := ["internal/bytealg.MaxLen"], apart := false, narrowed := true }
def FnExactTouchedByUptoSaid : Prop := fnExactTouchedByUptoRow.holds Try.pinned (OpenSpec.upto fnExactTouchedBySpec)

end Rows
end Go.Proofs.Ytpbaomnhchljbaa
