import Derived.Test.YtbgchjjaaelkbaaDeep
namespace Go.Proofs.Ytbgchjjaaelkbaa
open Go.RowKit Go.PM Go.PW Go.Lib

end Go.Proofs.Ytbgchjjaaelkbaa
