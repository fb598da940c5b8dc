import Derived.Test.YtjmbmfemlkicmaaDoorRows
import Derived.Test.YtjmbmfemlkicmaaDoorPm
namespace Go.Proofs.YtjmbmfemlkicmaaDoor
open Go.RowKit Go.PM Go.Lib

/-- low ≤ n ≤ high -/
def inB (n lo hi : Int) : Bool := decide (lo ≤ n ∧ n ≤ hi)

theorem indexByte_drop (l : List UInt8) (c : UInt8) (k : Nat) (hk : k < l.length) : indexByte (l.drop k) c = if l[k] = c then 0 else if indexByte (l.drop (k+1)) c == -1 then -1 else indexByte (l.drop (k+1)) c + 1 := by
  rw [List.drop_eq_getElem_cons hk, indexByte]
  simp only [beq_iff_eq]




end Go.Proofs.YtjmbmfemlkicmaaDoor
