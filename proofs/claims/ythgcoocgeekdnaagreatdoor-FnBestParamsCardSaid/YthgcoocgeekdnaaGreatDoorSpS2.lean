import Derived.Test.YthgcoocgeekdnaaGreatDoorSpS
import Derived.Test.YthgcoocgeekdnaaGreatDoorRow
namespace Go.Proofs.YthgcoocgeekdnaaGreatDoor
open Go.RowKit Go.PM

end Go.Proofs.YthgcoocgeekdnaaGreatDoor
