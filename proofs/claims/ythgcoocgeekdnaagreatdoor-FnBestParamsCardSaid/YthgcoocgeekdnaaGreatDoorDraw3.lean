import Derived.Test.YthgcoocgeekdnaaGreatDoorDraw2
namespace Go.Proofs.YthgcoocgeekdnaaGreatDoor
open Go.RowKit Go.PM

end Go.Proofs.YthgcoocgeekdnaaGreatDoor
