import Derived.Test.YtdhhmphnmllbhaaGreatRows
import Derived.Test.YtdhhmphnmllbhaaGreatLib
namespace Go.Proofs.YtdhhmphnmllbhaaGreat
open Go.RowKit Go.PM

theorem infoMv : (Tryz.prog.info? 47).map (fun i => (i.zero, i.size, i.bytes)) = some (some (.agg #[.string ⟨#[]⟩, .string ⟨#[]⟩]), 2, 32) := by kernel_rfl

end Go.Proofs.YtdhhmphnmllbhaaGreat
