import Derived.Test.YthgcoocgeekdnaaDoorSp1
import Derived.Test.YthgcoocgeekdnaaDoorM2
import Derived.Test.YthgcoocgeekdnaaDoorSource
import Derived.BigQuiet
namespace Go.Proofs.YthgcoocgeekdnaaDoor
open Go.RowKit Go.PM Go.Lib

theorem inB_isV (c : UInt8) : isV c = (inB (c.toNat : Int) 48 57 || (inB (c.toNat : Int) 97 122 || inB (c.toNat : Int) 65 90)) := by
  unfold isV inB
  congr 1
  · congr 1; simp; omega
  · congr 1 <;> (congr 1; simp; omega)
end Go.Proofs.YthgcoocgeekdnaaDoor
