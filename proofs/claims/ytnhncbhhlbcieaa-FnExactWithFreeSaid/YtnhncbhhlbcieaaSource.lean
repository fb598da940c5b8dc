import Derived.Test.YtnhncbhhlbcieaaIm2
import Derived.Test.YtnhncbhhlbcieaaSp1
namespace Go.Proofs.Ytnhncbhhlbcieaa
open Go.RowKit Go.PM


end Go.Proofs.Ytnhncbhhlbcieaa
