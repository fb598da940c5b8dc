import Derived.Test.YtfedloljhocpgaaGreatDoorSp1
import Derived.Test.YtfedloljhocpgaaGreatDoorM2
import Derived.Test.YtfedloljhocpgaaGreatDoorSource
import Derived.BigQuiet
namespace Go.Proofs.YtfedloljhocpgaaGreatDoor
open Go.RowKit Go.PM Go.Lib

end Go.Proofs.YtfedloljhocpgaaGreatDoor

