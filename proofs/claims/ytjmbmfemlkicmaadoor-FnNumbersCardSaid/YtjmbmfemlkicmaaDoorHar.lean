import Derived.Test.YtjmbmfemlkicmaaDoorRows
import Derived.Test.YtjmbmfemlkicmaaDoorLib
namespace Go.Proofs.YtjmbmfemlkicmaaDoor
open Go.RowKit Go.PM


end Go.Proofs.YtjmbmfemlkicmaaDoor
