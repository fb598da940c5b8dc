import Derived.Test.YthgcoocgeekdnaaGreatDoorIm2
import Derived.Test.YthgcoocgeekdnaaGreatDoorP2
import Derived.Test.YthgcoocgeekdnaaGreatDoorRow
namespace Go.Proofs.YthgcoocgeekdnaaGreatDoor
open Go.RowKit Go.PM Go.Lib

end Go.Proofs.YthgcoocgeekdnaaGreatDoor
