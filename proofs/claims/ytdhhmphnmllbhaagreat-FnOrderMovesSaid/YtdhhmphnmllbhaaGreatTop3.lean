import Derived.Test.YtdhhmphnmllbhaaGreatSt4
import Derived.Test.YtdhhmphnmllbhaaGreatTop2
import Derived.Test.YtdhhmphnmllbhaaGreatNamesIn
namespace Go.Proofs.YtdhhmphnmllbhaaGreat
open Go.RowKit Go.PM

end Go.Proofs.YtdhhmphnmllbhaaGreat
