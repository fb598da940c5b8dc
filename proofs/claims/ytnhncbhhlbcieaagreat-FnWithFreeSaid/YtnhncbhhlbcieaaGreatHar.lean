import Derived.Test.YtnhncbhhlbcieaaGreatRows
import Derived.Test.YtnhncbhhlbcieaaGreatLib
namespace Go.Proofs.YtnhncbhhlbcieaaGreat
open Go.RowKit Go.PM

theorem infoMv : (Tryz.prog.info? 56).map (fun i => (i.zero, i.size, i.bytes)) = some (some (.agg #[.string ⟨#[]⟩, .string ⟨#[]⟩]), 2, 32) := by kernel_rfl

end Go.Proofs.YtnhncbhhlbcieaaGreat
