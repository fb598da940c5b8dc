import Derived.Test.YtnhncbhhlbcieaaSlI
namespace Go.PD
open Go.PM Go.RowKit
def bN (b : Bool) : Nat := if b then 1 else 0
theorem slN_b (s : ByteArray) : slN s = bN (slB s) := rfl
end Go.PD
namespace Go.Proofs.Ytnhncbhhlbcieaa
open Go.RowKit Go.PM Go.PD Go.Lib

end Go.Proofs.Ytnhncbhhlbcieaa
