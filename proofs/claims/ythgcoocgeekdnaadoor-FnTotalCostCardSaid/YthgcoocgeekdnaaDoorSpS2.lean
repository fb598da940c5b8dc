import Derived.Test.YthgcoocgeekdnaaDoorSpS
import Derived.Test.YthgcoocgeekdnaaDoorRow
namespace Go.Proofs.YthgcoocgeekdnaaDoor
open Go.RowKit Go.PM

end Go.Proofs.YthgcoocgeekdnaaDoor
