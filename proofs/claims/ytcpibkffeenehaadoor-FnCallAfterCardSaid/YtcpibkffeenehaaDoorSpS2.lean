import Derived.Test.YtcpibkffeenehaaDoorSpS
import Derived.Test.YtcpibkffeenehaaDoorRow
namespace Go.Proofs.YtcpibkffeenehaaDoor
open Go.RowKit Go.PM

end Go.Proofs.YtcpibkffeenehaaDoor
