import Derived.Test.YtfedloljhocpgaaGreatDoorHar
namespace Go.PM
open Go.RowKit
end Go.PM
namespace Go.Proofs.YtfedloljhocpgaaGreatDoor
open Go.RowKit Go.PM

end Go.Proofs.YtfedloljhocpgaaGreatDoor

