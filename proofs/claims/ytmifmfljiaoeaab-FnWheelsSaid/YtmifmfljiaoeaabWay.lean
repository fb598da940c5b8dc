import Derived.Test.YtmifmfljiaoeaabWays
import Derived.Test.YtmifmfljiaoeaabSource
namespace Go.Proofs.Ytmifmfljiaoeaab
open Go.RowKit Go.PM Go.PW Go.Lib

end Go.Proofs.Ytmifmfljiaoeaab
