import Derived.Test.YtogkodjlbdlgjaaGreatSpS
import Derived.Test.YtogkodjlbdlgjaaGreatRow
namespace Go.Proofs.YtogkodjlbdlgjaaGreat
open Go.RowKit Go.PM

end Go.Proofs.YtogkodjlbdlgjaaGreat
