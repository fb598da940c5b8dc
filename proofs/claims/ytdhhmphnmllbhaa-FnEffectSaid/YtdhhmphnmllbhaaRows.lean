/-
  No cell of these rows narrows 'for every input' (looked for: loops, veiled, ifaces, maps, wideKeys, modest, calm, conditions, laid).
  DERIVED. THE GIVEN ROWS OF THIS SEAT. 4 by the template 'for every input the law returns true; each argument reads behind the call as it read before'; 0 by the template 'total and deterministic' (their statements: YtdhhmphnmllbhaaTotals.lean).
  GIVEN WITH THE SEED: the statements are not yours to turn. If you find one false, say at which input.
  Laid BY PROGRAM, IN A SANDBOX (cutbox-rows.mjs): the forced cells as the released guide's own fill.sh prints them over the translation 3ad4be500d22e1be… (all of the seat's roots in one cut). By AI agents, Wed Nov 11 2026. No macro, syntax, notation, axiom, sorry.
-/
import Derived.Test.YtdhhmphnmllbhaaChecked
import GoSem.Claim
import GoSem.ClaimJoined
import GoSem.ClaimMapViews
import Derived.JoinedTies
import Derived.KernelRfl
namespace Go.Proofs.Ytdhhmphnmllbhaa
/- THE CELL 'sum', in the pinned program and in every row, IS THE sha256 OF THE DUMP (.gsa) THAT YtdhhmphnmllbhaaProg.lean LOADS. Nothing in Lean hashes anything: it is a label: what it is worth is what the hold of that sum in a sandbox is worth. -/
noncomputable def Try.pinned : Pinned := { name := "ytdhhmphnmllbhaa", sum := "3ad4be500d22e1bebeffaa7cab5f31ac4c36f80a8115049f3e82497b1ae08f88", checked := Try.checked }
namespace Rows
def none {H : Type} : Left H := { results := [], args := [] }

/-- 'laws.FnExactPlacesIn': WHATEVER THE INPUT: true; the input reads as it did. -/
def fnExactPlacesInSpec : ChangeSpec := { name := "fnExactPlacesIn", fn := fun _ => fun
  | [d] => { results := [.lit (.bool true)], args := [d] }
  | _ => none }
def fnExactPlacesInRow : OpenClaim := { program := "ytdhhmphnmllbhaa", sum := "3ad4be500d22e1bebeffaa7cab5f31ac4c36f80a8115049f3e82497b1ae08f88", func := "loop.example/parallelmoves/laws.FnExactPlacesIn", spec := "fnExactPlacesIn", inPlace := ["internal/bytealg.IndexByteString", "internal/bytealg.IndexString"], unfollowed := true, recurses := true, named := ["internal/bytealg.MaxLen"], apart := false }
def FnExactPlacesInSaid : Prop := fnExactPlacesInRow.holds Try.pinned (OpenSpec.ofChange fnExactPlacesInSpec)

/-- ITS FALSE NEIGHBOUR: 'it returns false'. Refute it at one input. -/
def fnExactPlacesInWrong : ChangeSpec := { name := "fnExactPlacesIn", fn := fun _ => fun
  | [d] => { results := [.lit (.bool false)], args := [d] }
  | _ => none }
def FnExactPlacesInWrongFalsely : Prop := fnExactPlacesInRow.holds Try.pinned (OpenSpec.ofChange fnExactPlacesInWrong)

/-- 'laws.FnSame': WHATEVER THE INPUT: true; the input reads as it did. -/
def fnSameSpec : ChangeSpec := { name := "fnSame", fn := fun _ => fun
  | [d1, d2] => { results := [.lit (.bool true)], args := [d1, d2] }
  | _ => none }
def fnSameRow : OpenClaim := { program := "ytdhhmphnmllbhaa", sum := "3ad4be500d22e1bebeffaa7cab5f31ac4c36f80a8115049f3e82497b1ae08f88", func := "loop.example/parallelmoves/laws.FnSame", spec := "fnSame", inPlace := ["internal/bytealg.IndexByteString", "internal/bytealg.IndexString"], unfollowed := true, recurses := true, named := ["internal/bytealg.MaxLen"], apart := false }
def FnSameSaid : Prop := fnSameRow.holds Try.pinned (OpenSpec.ofChange fnSameSpec)

/-- ITS FALSE NEIGHBOUR: 'it returns false'. Refute it at one input. -/
def fnSameWrong : ChangeSpec := { name := "fnSame", fn := fun _ => fun
  | [d1, d2] => { results := [.lit (.bool false)], args := [d1, d2] }
  | _ => none }
def FnSameWrongFalsely : Prop := fnSameRow.holds Try.pinned (OpenSpec.ofChange fnSameWrong)

/-- 'laws.FnRestBehind': WHATEVER THE INPUT: true; the input reads as it did. -/
def fnRestBehindSpec : ChangeSpec := { name := "fnRestBehind", fn := fun _ => fun
  | [d] => { results := [.lit (.bool true)], args := [d] }
  | _ => none }
def fnRestBehindRow : OpenClaim := { program := "ytdhhmphnmllbhaa", sum := "3ad4be500d22e1bebeffaa7cab5f31ac4c36f80a8115049f3e82497b1ae08f88", func := "loop.example/parallelmoves/laws.FnRestBehind", spec := "fnRestBehind", inPlace := ["internal/bytealg.IndexByteString", "internal/bytealg.IndexString"], unfollowed := true, recurses := true, named := ["internal/bytealg.MaxLen"], apart := false }
def FnRestBehindSaid : Prop := fnRestBehindRow.holds Try.pinned (OpenSpec.ofChange fnRestBehindSpec)

/-- ITS FALSE NEIGHBOUR: 'it returns false'. Refute it at one input. -/
def fnRestBehindWrong : ChangeSpec := { name := "fnRestBehind", fn := fun _ => fun
  | [d] => { results := [.lit (.bool false)], args := [d] }
  | _ => none }
def FnRestBehindWrongFalsely : Prop := fnRestBehindRow.holds Try.pinned (OpenSpec.ofChange fnRestBehindWrong)

/-- 'laws.FnEffect': WHATEVER THE INPUT: true; the input reads as it did. -/
def fnEffectSpec : ChangeSpec := { name := "fnEffect", fn := fun _ => fun
  | [d] => { results := [.lit (.bool true)], args := [d] }
  | _ => none }
def fnEffectRow : OpenClaim := { program := "ytdhhmphnmllbhaa", sum := "3ad4be500d22e1bebeffaa7cab5f31ac4c36f80a8115049f3e82497b1ae08f88", func := "loop.example/parallelmoves/laws.FnEffect", spec := "fnEffect", inPlace := ["internal/bytealg.IndexByteString", "internal/bytealg.IndexString"], unfollowed := true, recurses := true, named := ["internal/bytealg.MaxLen"], apart := false }
def FnEffectSaid : Prop := fnEffectRow.holds Try.pinned (OpenSpec.ofChange fnEffectSpec)

/-- ITS FALSE NEIGHBOUR: 'it returns false'. Refute it at one input. -/
def fnEffectWrong : ChangeSpec := { name := "fnEffect", fn := fun _ => fun
  | [d] => { results := [.lit (.bool false)], args := [d] }
  | _ => none }
def FnEffectWrongFalsely : Prop := fnEffectRow.holds Try.pinned (OpenSpec.ofChange fnEffectWrong)

/- THE SECOND FORM. 'bulk': how many values and letters a reading holds, each counted each time it is reached (what is shared counts as often as it is met; a slice's spare places count too). A statement '..UptoSaid' is the law's where the arguments, and the package variables that the reading takes, are together of bulk at most 1048576: NARROWER than '..Said'. Prove '..Said' where nothing that the law and all that it calls make is longer than what came in: it says more and counts as full. Else prove '..UptoSaid'. A law counts once. -/
mutual
def uptoBulk {H : Type} : DataW H → Nat
  | .lit (.string bytes) => bytes.length + 1
  | .lit _ => 1
  | .nil => 1
  | .ptr d => uptoBulk d + 1
  | .slice elems spare => uptoBulkAll elems + uptoBulkAll spare + 1
  | .agg parts => uptoBulkAll parts + 1
  | .iface _ d => uptoBulk d + 1
  | .map entries => uptoBulkEntries entries + 1
  | .held _ => 1
def uptoBulkAll {H : Type} : List (DataW H) → Nat
  | [] => 0
  | d :: r => uptoBulk d + uptoBulkAll r
def uptoBulkEntries {H : Type} : List (Lit × DataW H) → Nat
  | [] => 0
  | x :: r => uptoBulkEntry x + uptoBulkEntries r
def uptoBulkEntry {H : Type} : Lit × DataW H → Nat
  | (.string bytes, d) => bytes.length + uptoBulk d + 1
  | (_, d) => uptoBulk d + 1
 end
def uptoSmall : (H : Type) → List (DataW H) → Bool := fun _ ds => decide (uptoBulkAll ds ≤ 1048576)
def OpenSpec.upto (s : _root_.Go.ChangeSpec) : _root_.Go.OpenSpec := { _root_.Go.OpenSpec.ofChange s with cond := some uptoSmall }

/-- 'laws.FnExactPlacesIn', WHERE WHAT IT READS IS OF BULK AT MOST 1048576: true; the input reads as it did. -/
def fnExactPlacesInUptoRow : OpenClaim := { program := "ytdhhmphnmllbhaa", sum := "3ad4be500d22e1bebeffaa7cab5f31ac4c36f80a8115049f3e82497b1ae08f88", func := "loop.example/parallelmoves/laws.FnExactPlacesIn", spec := "fnExactPlacesIn", inPlace := ["internal/bytealg.IndexByteString", "internal/bytealg.IndexString"], unfollowed := true, recurses := true, named := ["internal/bytealg.MaxLen"], apart := false, narrowed := true }
def FnExactPlacesInUptoSaid : Prop := fnExactPlacesInUptoRow.holds Try.pinned (OpenSpec.upto fnExactPlacesInSpec)

/-- 'laws.FnSame', WHERE WHAT IT READS IS OF BULK AT MOST 1048576: true; the input reads as it did. -/
def fnSameUptoRow : OpenClaim := { program := "ytdhhmphnmllbhaa", sum := "3ad4be500d22e1bebeffaa7cab5f31ac4c36f80a8115049f3e82497b1ae08f88", func := "loop.example/parallelmoves/laws.FnSame", spec := "fnSame", inPlace := ["internal/bytealg.IndexByteString", "internal/bytealg.IndexString"], unfollowed := true, recurses := true, named := ["internal/bytealg.MaxLen"], apart := false, narrowed := true }
def FnSameUptoSaid : Prop := fnSameUptoRow.holds Try.pinned (OpenSpec.upto fnSameSpec)

/-- 'laws.FnRestBehind', WHERE WHAT IT READS IS OF BULK AT MOST 1048576: true; the input reads as it did. -/
def fnRestBehindUptoRow : OpenClaim := { program := "ytdhhmphnmllbhaa", sum := "3ad4be500d22e1bebeffaa7cab5f31ac4c36f80a8115049f3e82497b1ae08f88", func := "loop.example/parallelmoves/laws.FnRestBehind", spec := "fnRestBehind", inPlace := ["internal/bytealg.IndexByteString", "internal/bytealg.IndexString"], unfollowed := true, recurses := true, named := ["internal/bytealg.MaxLen"], apart := false, narrowed := true }
def FnRestBehindUptoSaid : Prop := fnRestBehindUptoRow.holds Try.pinned (OpenSpec.upto fnRestBehindSpec)

/-- 'laws.FnEffect', WHERE WHAT IT READS IS OF BULK AT MOST 1048576: true; the input reads as it did. -/
def fnEffectUptoRow : OpenClaim := { program := "ytdhhmphnmllbhaa", sum := "3ad4be500d22e1bebeffaa7cab5f31ac4c36f80a8115049f3e82497b1ae08f88", func := "loop.example/parallelmoves/laws.FnEffect", spec := "fnEffect", inPlace := ["internal/bytealg.IndexByteString", "internal/bytealg.IndexString"], unfollowed := true, recurses := true, named := ["internal/bytealg.MaxLen"], apart := false, narrowed := true }
def FnEffectUptoSaid : Prop := fnEffectUptoRow.holds Try.pinned (OpenSpec.upto fnEffectSpec)

end Rows
end Go.Proofs.Ytdhhmphnmllbhaa
