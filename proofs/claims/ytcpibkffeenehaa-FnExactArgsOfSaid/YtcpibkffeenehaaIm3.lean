import Derived.Test.YtcpibkffeenehaaIm2
import Derived.Test.YtcpibkffeenehaaP2
import Derived.Test.YtcpibkffeenehaaRow
namespace Go.Proofs.Ytcpibkffeenehaa
open Go.RowKit Go.PM Go.Lib

end Go.Proofs.Ytcpibkffeenehaa
