import Derived.Test.YthgcoocgeekdnaaDoorIm2
import Derived.Test.YthgcoocgeekdnaaDoorP2
import Derived.Test.YthgcoocgeekdnaaDoorRow
namespace Go.Proofs.YthgcoocgeekdnaaDoor
open Go.RowKit Go.PM Go.Lib

end Go.Proofs.YthgcoocgeekdnaaDoor
