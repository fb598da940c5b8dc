import Derived.Test.YteadhnpmmpninaaGreatRows
import Derived.Test.YteadhnpmmpninaaGreatLib
namespace Go.Proofs.YteadhnpmmpninaaGreat
open Go.RowKit Go.PM

theorem infoMv : (Tryz.prog.info? 45).map (fun i => (i.zero, i.size, i.bytes)) = some (some (.agg #[.string ⟨#[]⟩, .string ⟨#[]⟩]), 2, 32) := by kernel_rfl

end Go.Proofs.YteadhnpmmpninaaGreat
