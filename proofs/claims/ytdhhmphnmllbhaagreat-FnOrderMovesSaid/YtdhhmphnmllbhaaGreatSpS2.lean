import Derived.Test.YtdhhmphnmllbhaaGreatSpS
import Derived.Test.YtdhhmphnmllbhaaGreatRow
namespace Go.Proofs.YtdhhmphnmllbhaaGreat
open Go.RowKit Go.PM

end Go.Proofs.YtdhhmphnmllbhaaGreat
