import Derived.Test.YtogkodjlbdlgjaaGreatDraw3
namespace Go.Proofs.YtogkodjlbdlgjaaGreat
open Go.RowKit Go.PM

end Go.Proofs.YtogkodjlbdlgjaaGreat
