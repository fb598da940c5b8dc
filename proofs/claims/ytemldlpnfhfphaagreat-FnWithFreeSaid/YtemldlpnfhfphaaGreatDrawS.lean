import Derived.Test.YtemldlpnfhfphaaGreatDraw3
namespace Go.Proofs.YtemldlpnfhfphaaGreat
open Go.RowKit Go.PM

end Go.Proofs.YtemldlpnfhfphaaGreat
