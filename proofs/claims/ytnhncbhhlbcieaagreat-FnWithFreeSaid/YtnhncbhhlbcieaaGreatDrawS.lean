import Derived.Test.YtnhncbhhlbcieaaGreatDraw3
namespace Go.Proofs.YtnhncbhhlbcieaaGreat
open Go.RowKit Go.PM

end Go.Proofs.YtnhncbhhlbcieaaGreat
