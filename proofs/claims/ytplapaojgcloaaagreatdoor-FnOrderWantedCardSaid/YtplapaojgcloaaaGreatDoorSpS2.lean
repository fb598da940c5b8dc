import Derived.Test.YtplapaojgcloaaaGreatDoorSpS
import Derived.Test.YtplapaojgcloaaaGreatDoorRow
namespace Go.Proofs.YtplapaojgcloaaaGreatDoor
open Go.RowKit Go.PM

end Go.Proofs.YtplapaojgcloaaaGreatDoor
