/-
  No cell of these rows narrows 'for every input' (looked for: loops, veiled, ifaces, maps, wideKeys, modest, calm, conditions, laid).
  DERIVED. THE GIVEN ROWS OF THIS SEAT. 12 by the template 'for every input the law returns true; each argument reads behind the call as it read before'; 0 by the template 'total and deterministic' (their statements: YtijakmcilleplaaTotals.lean).
  GIVEN WITH THE SEED: the statements are not yours to turn. If you find one false, say at which input.
  Laid BY PROGRAM, IN A SANDBOX (cutbox-rows.mjs): the forced cells as the released guide's own fill.sh prints them over the translation f483cb9fc90e787b… (all of the seat's roots in one cut). By AI agents, Wed Nov 11 2026. No macro, syntax, notation, axiom, sorry.
-/
import Derived.Test.YtijakmcilleplaaChecked
import GoSem.Claim
import GoSem.ClaimJoined
import GoSem.ClaimMapViews
import Derived.JoinedTies
import Derived.KernelRfl
namespace Go.Proofs.Ytijakmcilleplaa
/- THE CELL 'sum', in the pinned program and in every row, IS THE sha256 OF THE DUMP (.gsa) THAT YtijakmcilleplaaProg.lean LOADS. Nothing in Lean hashes anything: it is a label: what it is worth is what the hold of that sum in a sandbox is worth. -/
noncomputable def Try.pinned : Pinned := { name := "ytijakmcilleplaa", sum := "f483cb9fc90e787b1a008eaaafc36e7d80210b54c22aad692cefb87a0f7ea9f3", checked := Try.checked }
namespace Rows
def none {H : Type} : Left H := { results := [], args := [] }

/-- 'laws.FnMovesText': WHATEVER THE INPUT: true; the input reads as it did. -/
def fnMovesTextSpec : ChangeSpec := { name := "fnMovesText", fn := fun _ => fun
  | [d1, d2] => { results := [.lit (.bool true)], args := [d1, d2] }
  | _ => none }
def fnMovesTextRow : OpenClaim := { program := "ytijakmcilleplaa", sum := "f483cb9fc90e787b1a008eaaafc36e7d80210b54c22aad692cefb87a0f7ea9f3", func := "loop.example/parallelmoves/laws.FnMovesText", spec := "fnMovesText", inPlace := ["internal/bytealg.IndexByteString", "internal/bytealg.IndexString", "internal/abi.NoEscape", "internal/bytealg.MakeNoZero"], unfollowed := true, recurses := true, named := ["internal/bytealg.MaxLen"], apart := false }
def FnMovesTextSaid : Prop := fnMovesTextRow.holds Try.pinned (OpenSpec.ofChange fnMovesTextSpec)

/-- ITS FALSE NEIGHBOUR: 'it returns false'. Refute it at one input. -/
def fnMovesTextWrong : ChangeSpec := { name := "fnMovesText", fn := fun _ => fun
  | [d1, d2] => { results := [.lit (.bool false)], args := [d1, d2] }
  | _ => none }
def FnMovesTextWrongFalsely : Prop := fnMovesTextRow.holds Try.pinned (OpenSpec.ofChange fnMovesTextWrong)

/-- 'laws.FnSources': WHATEVER THE INPUT: true; the input reads as it did. -/
def fnSourcesSpec : ChangeSpec := { name := "fnSources", fn := fun _ => fun
  | [d] => { results := [.lit (.bool true)], args := [d] }
  | _ => none }
def fnSourcesRow : OpenClaim := { program := "ytijakmcilleplaa", sum := "f483cb9fc90e787b1a008eaaafc36e7d80210b54c22aad692cefb87a0f7ea9f3", func := "loop.example/parallelmoves/laws.FnSources", spec := "fnSources", inPlace := ["internal/bytealg.IndexByteString", "internal/bytealg.IndexString"], unfollowed := true, recurses := true, named := ["internal/bytealg.MaxLen"], apart := false }
def FnSourcesSaid : Prop := fnSourcesRow.holds Try.pinned (OpenSpec.ofChange fnSourcesSpec)

/-- ITS FALSE NEIGHBOUR: 'it returns false'. Refute it at one input. -/
def fnSourcesWrong : ChangeSpec := { name := "fnSources", fn := fun _ => fun
  | [d] => { results := [.lit (.bool false)], args := [d] }
  | _ => none }
def FnSourcesWrongFalsely : Prop := fnSourcesRow.holds Try.pinned (OpenSpec.ofChange fnSourcesWrong)

/-- 'laws.FnSame': WHATEVER THE INPUT: true; the input reads as it did. -/
def fnSameSpec : ChangeSpec := { name := "fnSame", fn := fun _ => fun
  | [d1, d2] => { results := [.lit (.bool true)], args := [d1, d2] }
  | _ => none }
def fnSameRow : OpenClaim := { program := "ytijakmcilleplaa", sum := "f483cb9fc90e787b1a008eaaafc36e7d80210b54c22aad692cefb87a0f7ea9f3", func := "loop.example/parallelmoves/laws.FnSame", spec := "fnSame", inPlace := ["internal/bytealg.IndexByteString", "internal/bytealg.IndexString"], unfollowed := true, recurses := true, named := ["internal/bytealg.MaxLen"], apart := false }
def FnSameSaid : Prop := fnSameRow.holds Try.pinned (OpenSpec.ofChange fnSameSpec)

/-- ITS FALSE NEIGHBOUR: 'it returns false'. Refute it at one input. -/
def fnSameWrong : ChangeSpec := { name := "fnSame", fn := fun _ => fun
  | [d1, d2] => { results := [.lit (.bool false)], args := [d1, d2] }
  | _ => none }
def FnSameWrongFalsely : Prop := fnSameRow.holds Try.pinned (OpenSpec.ofChange fnSameWrong)

/-- 'laws.FnExactMovesValid': WHATEVER THE INPUT: true; the input reads as it did. -/
def fnExactMovesValidSpec : ChangeSpec := { name := "fnExactMovesValid", fn := fun _ => fun
  | [d] => { results := [.lit (.bool true)], args := [d] }
  | _ => none }
def fnExactMovesValidRow : OpenClaim := { program := "ytijakmcilleplaa", sum := "f483cb9fc90e787b1a008eaaafc36e7d80210b54c22aad692cefb87a0f7ea9f3", func := "loop.example/parallelmoves/laws.FnExactMovesValid", spec := "fnExactMovesValid", inPlace := ["internal/bytealg.IndexByteString", "internal/bytealg.IndexString"], named := ["internal/bytealg.MaxLen"], apart := false }
def FnExactMovesValidSaid : Prop := fnExactMovesValidRow.holds Try.pinned (OpenSpec.ofChange fnExactMovesValidSpec)

/-- ITS FALSE NEIGHBOUR: 'it returns false'. Refute it at one input. -/
def fnExactMovesValidWrong : ChangeSpec := { name := "fnExactMovesValid", fn := fun _ => fun
  | [d] => { results := [.lit (.bool false)], args := [d] }
  | _ => none }
def FnExactMovesValidWrongFalsely : Prop := fnExactMovesValidRow.holds Try.pinned (OpenSpec.ofChange fnExactMovesValidWrong)

/-- 'laws.FnExactFormatMoves': WHATEVER THE INPUT: true; the input reads as it did. -/
def fnExactFormatMovesSpec : ChangeSpec := { name := "fnExactFormatMoves", fn := fun _ => fun
  | [d] => { results := [.lit (.bool true)], args := [d] }
  | _ => none }
def fnExactFormatMovesRow : OpenClaim := { program := "ytijakmcilleplaa", sum := "f483cb9fc90e787b1a008eaaafc36e7d80210b54c22aad692cefb87a0f7ea9f3", func := "loop.example/parallelmoves/laws.FnExactFormatMoves", spec := "fnExactFormatMoves", inPlace := ["internal/bytealg.IndexByteString", "internal/bytealg.IndexString", "internal/abi.NoEscape", "internal/bytealg.MakeNoZero"], named := ["internal/bytealg.MaxLen"], apart := false }
def FnExactFormatMovesSaid : Prop := fnExactFormatMovesRow.holds Try.pinned (OpenSpec.ofChange fnExactFormatMovesSpec)

/-- ITS FALSE NEIGHBOUR: 'it returns false'. Refute it at one input. -/
def fnExactFormatMovesWrong : ChangeSpec := { name := "fnExactFormatMoves", fn := fun _ => fun
  | [d] => { results := [.lit (.bool false)], args := [d] }
  | _ => none }
def FnExactFormatMovesWrongFalsely : Prop := fnExactFormatMovesRow.holds Try.pinned (OpenSpec.ofChange fnExactFormatMovesWrong)

/-- 'laws.FnExactParseMoves': WHATEVER THE INPUT: true; the input reads as it did. -/
def fnExactParseMovesSpec : ChangeSpec := { name := "fnExactParseMoves", fn := fun _ => fun
  | [d] => { results := [.lit (.bool true)], args := [d] }
  | _ => none }
def fnExactParseMovesRow : OpenClaim := { program := "ytijakmcilleplaa", sum := "f483cb9fc90e787b1a008eaaafc36e7d80210b54c22aad692cefb87a0f7ea9f3", func := "loop.example/parallelmoves/laws.FnExactParseMoves", spec := "fnExactParseMoves", inPlace := ["internal/bytealg.IndexByteString", "internal/bytealg.IndexString"], unfollowed := true, recurses := true, named := ["internal/bytealg.MaxLen"], apart := false }
def FnExactParseMovesSaid : Prop := fnExactParseMovesRow.holds Try.pinned (OpenSpec.ofChange fnExactParseMovesSpec)

/-- ITS FALSE NEIGHBOUR: 'it returns false'. Refute it at one input. -/
def fnExactParseMovesWrong : ChangeSpec := { name := "fnExactParseMoves", fn := fun _ => fun
  | [d] => { results := [.lit (.bool false)], args := [d] }
  | _ => none }
def FnExactParseMovesWrongFalsely : Prop := fnExactParseMovesRow.holds Try.pinned (OpenSpec.ofChange fnExactParseMovesWrong)

/-- 'laws.FnExactSourceOf': WHATEVER THE INPUT: true; the input reads as it did. -/
def fnExactSourceOfSpec : ChangeSpec := { name := "fnExactSourceOf", fn := fun _ => fun
  | [d1, d2] => { results := [.lit (.bool true)], args := [d1, d2] }
  | _ => none }
def fnExactSourceOfRow : OpenClaim := { program := "ytijakmcilleplaa", sum := "f483cb9fc90e787b1a008eaaafc36e7d80210b54c22aad692cefb87a0f7ea9f3", func := "loop.example/parallelmoves/laws.FnExactSourceOf", spec := "fnExactSourceOf", inPlace := ["internal/bytealg.IndexByteString", "internal/bytealg.IndexString"], named := ["internal/bytealg.MaxLen"], apart := false }
def FnExactSourceOfSaid : Prop := fnExactSourceOfRow.holds Try.pinned (OpenSpec.ofChange fnExactSourceOfSpec)

/-- ITS FALSE NEIGHBOUR: 'it returns false'. Refute it at one input. -/
def fnExactSourceOfWrong : ChangeSpec := { name := "fnExactSourceOf", fn := fun _ => fun
  | [d1, d2] => { results := [.lit (.bool false)], args := [d1, d2] }
  | _ => none }
def FnExactSourceOfWrongFalsely : Prop := fnExactSourceOfRow.holds Try.pinned (OpenSpec.ofChange fnExactSourceOfWrong)

/-- 'laws.FnExactReadersOf': WHATEVER THE INPUT: true; the input reads as it did. -/
def fnExactReadersOfSpec : ChangeSpec := { name := "fnExactReadersOf", fn := fun _ => fun
  | [d1, d2] => { results := [.lit (.bool true)], args := [d1, d2] }
  | _ => none }
def fnExactReadersOfRow : OpenClaim := { program := "ytijakmcilleplaa", sum := "f483cb9fc90e787b1a008eaaafc36e7d80210b54c22aad692cefb87a0f7ea9f3", func := "loop.example/parallelmoves/laws.FnExactReadersOf", spec := "fnExactReadersOf", inPlace := ["internal/bytealg.IndexByteString", "internal/bytealg.IndexString"], unfollowed := true, recurses := true, named := ["internal/bytealg.MaxLen"], apart := false }
def FnExactReadersOfSaid : Prop := fnExactReadersOfRow.holds Try.pinned (OpenSpec.ofChange fnExactReadersOfSpec)

/-- ITS FALSE NEIGHBOUR: 'it returns false'. Refute it at one input. -/
def fnExactReadersOfWrong : ChangeSpec := { name := "fnExactReadersOf", fn := fun _ => fun
  | [d1, d2] => { results := [.lit (.bool false)], args := [d1, d2] }
  | _ => none }
def FnExactReadersOfWrongFalsely : Prop := fnExactReadersOfRow.holds Try.pinned (OpenSpec.ofChange fnExactReadersOfWrong)

/-- 'laws.FnExactDropIdle': WHATEVER THE INPUT: true; the input reads as it did. -/
def fnExactDropIdleSpec : ChangeSpec := { name := "fnExactDropIdle", fn := fun _ => fun
  | [d] => { results := [.lit (.bool true)], args := [d] }
  | _ => none }
def fnExactDropIdleRow : OpenClaim := { program := "ytijakmcilleplaa", sum := "f483cb9fc90e787b1a008eaaafc36e7d80210b54c22aad692cefb87a0f7ea9f3", func := "loop.example/parallelmoves/laws.FnExactDropIdle", spec := "fnExactDropIdle", inPlace := ["internal/bytealg.IndexByteString", "internal/bytealg.IndexString"], named := ["internal/bytealg.MaxLen"], apart := false }
def FnExactDropIdleSaid : Prop := fnExactDropIdleRow.holds Try.pinned (OpenSpec.ofChange fnExactDropIdleSpec)

/-- ITS FALSE NEIGHBOUR: 'it returns false'. Refute it at one input. -/
def fnExactDropIdleWrong : ChangeSpec := { name := "fnExactDropIdle", fn := fun _ => fun
  | [d] => { results := [.lit (.bool false)], args := [d] }
  | _ => none }
def FnExactDropIdleWrongFalsely : Prop := fnExactDropIdleRow.holds Try.pinned (OpenSpec.ofChange fnExactDropIdleWrong)

/-- 'laws.FnExactSortMoves': WHATEVER THE INPUT: true; the input reads as it did. -/
def fnExactSortMovesSpec : ChangeSpec := { name := "fnExactSortMoves", fn := fun _ => fun
  | [d] => { results := [.lit (.bool true)], args := [d] }
  | _ => none }
def fnExactSortMovesRow : OpenClaim := { program := "ytijakmcilleplaa", sum := "f483cb9fc90e787b1a008eaaafc36e7d80210b54c22aad692cefb87a0f7ea9f3", func := "loop.example/parallelmoves/laws.FnExactSortMoves", spec := "fnExactSortMoves", inPlace := ["internal/bytealg.IndexByteString", "internal/bytealg.IndexString"], unfollowed := true, recurses := true, named := ["internal/bytealg.MaxLen"], apart := false }
def FnExactSortMovesSaid : Prop := fnExactSortMovesRow.holds Try.pinned (OpenSpec.ofChange fnExactSortMovesSpec)

/-- ITS FALSE NEIGHBOUR: 'it returns false'. Refute it at one input. -/
def fnExactSortMovesWrong : ChangeSpec := { name := "fnExactSortMoves", fn := fun _ => fun
  | [d] => { results := [.lit (.bool false)], args := [d] }
  | _ => none }
def FnExactSortMovesWrongFalsely : Prop := fnExactSortMovesRow.holds Try.pinned (OpenSpec.ofChange fnExactSortMovesWrong)

/-- 'laws.FnExactSameMoves': WHATEVER THE INPUT: true; the input reads as it did. -/
def fnExactSameMovesSpec : ChangeSpec := { name := "fnExactSameMoves", fn := fun _ => fun
  | [d1, d2] => { results := [.lit (.bool true)], args := [d1, d2] }
  | _ => none }
def fnExactSameMovesRow : OpenClaim := { program := "ytijakmcilleplaa", sum := "f483cb9fc90e787b1a008eaaafc36e7d80210b54c22aad692cefb87a0f7ea9f3", func := "loop.example/parallelmoves/laws.FnExactSameMoves", spec := "fnExactSameMoves", inPlace := ["internal/bytealg.IndexByteString", "internal/bytealg.IndexString"], unfollowed := true, recurses := true, named := ["internal/bytealg.MaxLen"], apart := false }
def FnExactSameMovesSaid : Prop := fnExactSameMovesRow.holds Try.pinned (OpenSpec.ofChange fnExactSameMovesSpec)

/-- ITS FALSE NEIGHBOUR: 'it returns false'. Refute it at one input. -/
def fnExactSameMovesWrong : ChangeSpec := { name := "fnExactSameMoves", fn := fun _ => fun
  | [d1, d2] => { results := [.lit (.bool false)], args := [d1, d2] }
  | _ => none }
def FnExactSameMovesWrongFalsely : Prop := fnExactSameMovesRow.holds Try.pinned (OpenSpec.ofChange fnExactSameMovesWrong)

/-- 'laws.FnExactPlacesIn': WHATEVER THE INPUT: true; the input reads as it did. -/
def fnExactPlacesInSpec : ChangeSpec := { name := "fnExactPlacesIn", fn := fun _ => fun
  | [d] => { results := [.lit (.bool true)], args := [d] }
  | _ => none }
def fnExactPlacesInRow : OpenClaim := { program := "ytijakmcilleplaa", sum := "f483cb9fc90e787b1a008eaaafc36e7d80210b54c22aad692cefb87a0f7ea9f3", func := "loop.example/parallelmoves/laws.FnExactPlacesIn", spec := "fnExactPlacesIn", inPlace := ["internal/bytealg.IndexByteString", "internal/bytealg.IndexString"], named := ["internal/bytealg.MaxLen"], apart := false }
def FnExactPlacesInSaid : Prop := fnExactPlacesInRow.holds Try.pinned (OpenSpec.ofChange fnExactPlacesInSpec)

/-- ITS FALSE NEIGHBOUR: 'it returns false'. Refute it at one input. -/
def fnExactPlacesInWrong : ChangeSpec := { name := "fnExactPlacesIn", fn := fun _ => fun
  | [d] => { results := [.lit (.bool false)], args := [d] }
  | _ => none }
def FnExactPlacesInWrongFalsely : Prop := fnExactPlacesInRow.holds Try.pinned (OpenSpec.ofChange fnExactPlacesInWrong)

/- THE SECOND FORM. 'bulk': how many values and letters a reading holds, each counted each time it is reached (what is shared counts as often as it is met; a slice's spare places count too). A statement '..UptoSaid' is the law's where the arguments, and the package variables that the reading takes, are together of bulk at most 1048576: NARROWER than '..Said'. Prove '..Said' where nothing that the law and all that it calls make is longer than what came in: it says more and counts as full. Else prove '..UptoSaid'. A law counts once. -/
mutual
def uptoBulk {H : Type} : DataW H → Nat
  | .lit (.string bytes) => bytes.length + 1
  | .lit _ => 1
  | .nil => 1
  | .ptr d => uptoBulk d + 1
  | .slice elems spare => uptoBulkAll elems + uptoBulkAll spare + 1
  | .agg parts => uptoBulkAll parts + 1
  | .iface _ d => uptoBulk d + 1
  | .map entries => uptoBulkEntries entries + 1
  | .held _ => 1
def uptoBulkAll {H : Type} : List (DataW H) → Nat
  | [] => 0
  | d :: r => uptoBulk d + uptoBulkAll r
def uptoBulkEntries {H : Type} : List (Lit × DataW H) → Nat
  | [] => 0
  | x :: r => uptoBulkEntry x + uptoBulkEntries r
def uptoBulkEntry {H : Type} : Lit × DataW H → Nat
  | (.string bytes, d) => bytes.length + uptoBulk d + 1
  | (_, d) => uptoBulk d + 1
 end
def uptoSmall : (H : Type) → List (DataW H) → Bool := fun _ ds => decide (uptoBulkAll ds ≤ 1048576)
def OpenSpec.upto (s : _root_.Go.ChangeSpec) : _root_.Go.OpenSpec := { _root_.Go.OpenSpec.ofChange s with cond := some uptoSmall }

/-- 'laws.FnMovesText', WHERE WHAT IT READS IS OF BULK AT MOST 1048576: true; the input reads as it did. -/
def fnMovesTextUptoRow : OpenClaim := { program := "ytijakmcilleplaa", sum := "f483cb9fc90e787b1a008eaaafc36e7d80210b54c22aad692cefb87a0f7ea9f3", func := "loop.example/parallelmoves/laws.FnMovesText", spec := "fnMovesText", inPlace := ["internal/bytealg.IndexByteString", "internal/bytealg.IndexString", "internal/abi.NoEscape", "internal/bytealg.MakeNoZero"], unfollowed := true, recurses := true, named := ["internal/bytealg.MaxLen"], apart := false, narrowed := true }
def FnMovesTextUptoSaid : Prop := fnMovesTextUptoRow.holds Try.pinned (OpenSpec.upto fnMovesTextSpec)

/-- 'laws.FnSources', WHERE WHAT IT READS IS OF BULK AT MOST 1048576: true; the input reads as it did. -/
def fnSourcesUptoRow : OpenClaim := { program := "ytijakmcilleplaa", sum := "f483cb9fc90e787b1a008eaaafc36e7d80210b54c22aad692cefb87a0f7ea9f3", func := "loop.example/parallelmoves/laws.FnSources", spec := "fnSources", inPlace := ["internal/bytealg.IndexByteString", "internal/bytealg.IndexString"], unfollowed := true, recurses := true, named := ["internal/bytealg.MaxLen"], apart := false, narrowed := true }
def FnSourcesUptoSaid : Prop := fnSourcesUptoRow.holds Try.pinned (OpenSpec.upto fnSourcesSpec)

/-- 'laws.FnSame', WHERE WHAT IT READS IS OF BULK AT MOST 1048576: true; the input reads as it did. -/
def fnSameUptoRow : OpenClaim := { program := "ytijakmcilleplaa", sum := "f483cb9fc90e787b1a008eaaafc36e7d80210b54c22aad692cefb87a0f7ea9f3", func := "loop.example/parallelmoves/laws.FnSame", spec := "fnSame", inPlace := ["internal/bytealg.IndexByteString", "internal/bytealg.IndexString"], unfollowed := true, recurses := true, named := ["internal/bytealg.MaxLen"], apart := false, narrowed := true }
def FnSameUptoSaid : Prop := fnSameUptoRow.holds Try.pinned (OpenSpec.upto fnSameSpec)

/-- 'laws.FnExactMovesValid', WHERE WHAT IT READS IS OF BULK AT MOST 1048576: true; the input reads as it did. -/
def fnExactMovesValidUptoRow : OpenClaim := { program := "ytijakmcilleplaa", sum := "f483cb9fc90e787b1a008eaaafc36e7d80210b54c22aad692cefb87a0f7ea9f3", func := "loop.example/parallelmoves/laws.FnExactMovesValid", spec := "fnExactMovesValid", inPlace := ["internal/bytealg.IndexByteString", "internal/bytealg.IndexString"], named := ["internal/bytealg.MaxLen"], apart := false, narrowed := true }
def FnExactMovesValidUptoSaid : Prop := fnExactMovesValidUptoRow.holds Try.pinned (OpenSpec.upto fnExactMovesValidSpec)

/-- 'laws.FnExactFormatMoves', WHERE WHAT IT READS IS OF BULK AT MOST 1048576: true; the input reads as it did. -/
def fnExactFormatMovesUptoRow : OpenClaim := { program := "ytijakmcilleplaa", sum := "f483cb9fc90e787b1a008eaaafc36e7d80210b54c22aad692cefb87a0f7ea9f3", func := "loop.example/parallelmoves/laws.FnExactFormatMoves", spec := "fnExactFormatMoves", inPlace := ["internal/bytealg.IndexByteString", "internal/bytealg.IndexString", "internal/abi.NoEscape", "internal/bytealg.MakeNoZero"], named := ["internal/bytealg.MaxLen"], apart := false, narrowed := true }
def FnExactFormatMovesUptoSaid : Prop := fnExactFormatMovesUptoRow.holds Try.pinned (OpenSpec.upto fnExactFormatMovesSpec)

/-- 'laws.FnExactParseMoves', WHERE WHAT IT READS IS OF BULK AT MOST 1048576: true; the input reads as it did. -/
def fnExactParseMovesUptoRow : OpenClaim := { program := "ytijakmcilleplaa", sum := "f483cb9fc90e787b1a008eaaafc36e7d80210b54c22aad692cefb87a0f7ea9f3", func := "loop.example/parallelmoves/laws.FnExactParseMoves", spec := "fnExactParseMoves", inPlace := ["internal/bytealg.IndexByteString", "internal/bytealg.IndexString"], unfollowed := true, recurses := true, named := ["internal/bytealg.MaxLen"], apart := false, narrowed := true }
def FnExactParseMovesUptoSaid : Prop := fnExactParseMovesUptoRow.holds Try.pinned (OpenSpec.upto fnExactParseMovesSpec)

/-- 'laws.FnExactSourceOf', WHERE WHAT IT READS IS OF BULK AT MOST 1048576: true; the input reads as it did. -/
def fnExactSourceOfUptoRow : OpenClaim := { program := "ytijakmcilleplaa", sum := "f483cb9fc90e787b1a008eaaafc36e7d80210b54c22aad692cefb87a0f7ea9f3", func := "loop.example/parallelmoves/laws.FnExactSourceOf", spec := "fnExactSourceOf", inPlace := ["internal/bytealg.IndexByteString", "internal/bytealg.IndexString"], named := ["internal/bytealg.MaxLen"], apart := false, narrowed := true }
def FnExactSourceOfUptoSaid : Prop := fnExactSourceOfUptoRow.holds Try.pinned (OpenSpec.upto fnExactSourceOfSpec)

/-- 'laws.FnExactReadersOf', WHERE WHAT IT READS IS OF BULK AT MOST 1048576: true; the input reads as it did. -/
def fnExactReadersOfUptoRow : OpenClaim := { program := "ytijakmcilleplaa", sum := "f483cb9fc90e787b1a008eaaafc36e7d80210b54c22aad692cefb87a0f7ea9f3", func := "loop.example/parallelmoves/laws.FnExactReadersOf", spec := "fnExactReadersOf", inPlace := ["internal/bytealg.IndexByteString", "internal/bytealg.IndexString"], unfollowed := true, recurses := true, named := ["internal/bytealg.MaxLen"], apart := false, narrowed := true }
def FnExactReadersOfUptoSaid : Prop := fnExactReadersOfUptoRow.holds Try.pinned (OpenSpec.upto fnExactReadersOfSpec)

/-- 'laws.FnExactDropIdle', WHERE WHAT IT READS IS OF BULK AT MOST 1048576: true; the input reads as it did. -/
def fnExactDropIdleUptoRow : OpenClaim := { program := "ytijakmcilleplaa", sum := "f483cb9fc90e787b1a008eaaafc36e7d80210b54c22aad692cefb87a0f7ea9f3", func := "loop.example/parallelmoves/laws.FnExactDropIdle", spec := "fnExactDropIdle", inPlace := ["internal/bytealg.IndexByteString", "internal/bytealg.IndexString"], named := ["internal/bytealg.MaxLen"], apart := false, narrowed := true }
def FnExactDropIdleUptoSaid : Prop := fnExactDropIdleUptoRow.holds Try.pinned (OpenSpec.upto fnExactDropIdleSpec)

/-- 'laws.FnExactSortMoves', WHERE WHAT IT READS IS OF BULK AT MOST 1048576: true; the input reads as it did. -/
def fnExactSortMovesUptoRow : OpenClaim := { program := "ytijakmcilleplaa", sum := "f483cb9fc90e787b1a008eaaafc36e7d80210b54c22aad692cefb87a0f7ea9f3", func := "loop.example/parallelmoves/laws.FnExactSortMoves", spec := "fnExactSortMoves", inPlace := ["internal/bytealg.IndexByteString", "internal/bytealg.IndexString"], unfollowed := true, recurses := true, named := ["internal/bytealg.MaxLen"], apart := false, narrowed := true }
def FnExactSortMovesUptoSaid : Prop := fnExactSortMovesUptoRow.holds Try.pinned (OpenSpec.upto fnExactSortMovesSpec)

/-- 'laws.FnExactSameMoves', WHERE WHAT IT READS IS OF BULK AT MOST 1048576: true; the input reads as it did. -/
def fnExactSameMovesUptoRow : OpenClaim := { program := "ytijakmcilleplaa", sum := "f483cb9fc90e787b1a008eaaafc36e7d80210b54c22aad692cefb87a0f7ea9f3", func := "loop.example/parallelmoves/laws.FnExactSameMoves", spec := "fnExactSameMoves", inPlace := ["internal/bytealg.IndexByteString", "internal/bytealg.IndexString"], unfollowed := true, recurses := true, named := ["internal/bytealg.MaxLen"], apart := false, narrowed := true }
def FnExactSameMovesUptoSaid : Prop := fnExactSameMovesUptoRow.holds Try.pinned (OpenSpec.upto fnExactSameMovesSpec)

/-- 'laws.FnExactPlacesIn', WHERE WHAT IT READS IS OF BULK AT MOST 1048576: true; the input reads as it did. -/
def fnExactPlacesInUptoRow : OpenClaim := { program := "ytijakmcilleplaa", sum := "f483cb9fc90e787b1a008eaaafc36e7d80210b54c22aad692cefb87a0f7ea9f3", func := "loop.example/parallelmoves/laws.FnExactPlacesIn", spec := "fnExactPlacesIn", inPlace := ["internal/bytealg.IndexByteString", "internal/bytealg.IndexString"], named := ["internal/bytealg.MaxLen"], apart := false, narrowed := true }
def FnExactPlacesInUptoSaid : Prop := fnExactPlacesInUptoRow.holds Try.pinned (OpenSpec.upto fnExactPlacesInSpec)

end Rows
end Go.Proofs.Ytijakmcilleplaa
