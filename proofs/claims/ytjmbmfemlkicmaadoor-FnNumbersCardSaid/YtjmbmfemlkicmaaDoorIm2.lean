import Derived.Test.YtjmbmfemlkicmaaDoorIm1
namespace Go.Proofs.YtjmbmfemlkicmaaDoor
open Go.RowKit Go.PM Go.Lib

def TabFor (xs : List Mv) (g : Nat → ByteArray) : Prop := ∀ p, p < 9 → g p = if mvalid xs then tabOf xs p else emp
theorem tabX_congr {f g : Nat → ByteArray} (h : ∀ p, p < 9 → f p = g p) : tabX f = tabX g := by
  unfold tabX
  rw [h 0 (by omega), h 1 (by omega), h 2 (by omega), h 3 (by omega), h 4 (by omega), h 5 (by omega), h 6 (by omega), h 7 (by omega), h 8 (by omega)]

end Go.Proofs.YtjmbmfemlkicmaaDoor
