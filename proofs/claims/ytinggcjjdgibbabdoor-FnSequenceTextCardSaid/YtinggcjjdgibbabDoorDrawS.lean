import Derived.Test.YtinggcjjdgibbabDoorDraw3
namespace Go.Proofs.YtinggcjjdgibbabDoor
open Go.RowKit Go.PM

end Go.Proofs.YtinggcjjdgibbabDoor
