import Derived.Test.YteadhnpmmpninaaGreatDraw3
namespace Go.Proofs.YteadhnpmmpninaaGreat
open Go.RowKit Go.PM

end Go.Proofs.YteadhnpmmpninaaGreat
