import Derived.Test.YtfedloljhocpgaaGreatDoorSpS
import Derived.Test.YtfedloljhocpgaaGreatDoorRow
namespace Go.Proofs.YtfedloljhocpgaaGreatDoor
open Go.RowKit Go.PM

end Go.Proofs.YtfedloljhocpgaaGreatDoor

