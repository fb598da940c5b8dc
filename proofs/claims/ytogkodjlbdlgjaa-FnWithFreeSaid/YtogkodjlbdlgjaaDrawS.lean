import Derived.Test.YtogkodjlbdlgjaaDraw3
namespace Go.Proofs.Ytogkodjlbdlgjaa
open Go.RowKit Go.PM

end Go.Proofs.Ytogkodjlbdlgjaa
