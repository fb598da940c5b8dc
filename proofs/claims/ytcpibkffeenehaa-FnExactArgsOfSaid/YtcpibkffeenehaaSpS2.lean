import Derived.Test.YtcpibkffeenehaaSpS
import Derived.Test.YtcpibkffeenehaaRow
namespace Go.Proofs.Ytcpibkffeenehaa
open Go.RowKit Go.PM

end Go.Proofs.Ytcpibkffeenehaa
