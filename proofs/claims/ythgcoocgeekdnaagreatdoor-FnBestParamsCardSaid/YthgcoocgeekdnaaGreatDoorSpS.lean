import Derived.Test.YthgcoocgeekdnaaGreatDoorSp1
import Derived.Test.YthgcoocgeekdnaaGreatDoorM2
import Derived.Test.YthgcoocgeekdnaaGreatDoorSource
import Derived.BigQuiet
namespace Go.Proofs.YthgcoocgeekdnaaGreatDoor
open Go.RowKit Go.PM Go.Lib

theorem inB_isV (c : UInt8) : isV c = (inB (c.toNat : Int) 48 57 || (inB (c.toNat : Int) 97 122 || inB (c.toNat : Int) 65 90)) := by
  unfold isV inB
  congr 1
  · congr 1; simp; omega
  · congr 1 <;> (congr 1; simp; omega)
end Go.Proofs.YthgcoocgeekdnaaGreatDoor
