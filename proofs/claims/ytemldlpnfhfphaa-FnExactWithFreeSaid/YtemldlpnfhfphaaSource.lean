import Derived.Test.YtemldlpnfhfphaaIm2
import Derived.Test.YtemldlpnfhfphaaSp1
namespace Go.Proofs.Ytemldlpnfhfphaa
open Go.RowKit Go.PM


end Go.Proofs.Ytemldlpnfhfphaa
