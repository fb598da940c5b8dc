import Derived.Test.YtogkodjlbdlgjaaGreatRows
import Derived.Test.YtogkodjlbdlgjaaGreatLib
namespace Go.Proofs.YtogkodjlbdlgjaaGreat
open Go.RowKit Go.PM

theorem infoMv : (Tryz.prog.info? 31).map (fun i => (i.zero, i.size, i.bytes)) = some (some (.agg #[.string ⟨#[]⟩, .string ⟨#[]⟩]), 2, 32) := by kernel_rfl

end Go.Proofs.YtogkodjlbdlgjaaGreat
