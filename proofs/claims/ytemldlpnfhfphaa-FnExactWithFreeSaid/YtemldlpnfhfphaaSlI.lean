import Derived.Test.YtemldlpnfhfphaaSlP
import Derived.Test.YtemldlpnfhfphaaHold
namespace Go.Proofs.Ytemldlpnfhfphaa
open Go.RowKit Go.PM Go.PD Go.Lib

end Go.Proofs.Ytemldlpnfhfphaa
