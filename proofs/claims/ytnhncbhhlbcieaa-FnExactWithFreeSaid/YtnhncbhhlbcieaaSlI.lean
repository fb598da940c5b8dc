import Derived.Test.YtnhncbhhlbcieaaSlP
import Derived.Test.YtnhncbhhlbcieaaHold
namespace Go.Proofs.Ytnhncbhhlbcieaa
open Go.RowKit Go.PM Go.PD Go.Lib

end Go.Proofs.Ytnhncbhhlbcieaa
