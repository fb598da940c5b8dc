import Derived.Test.YtfedloljhocpgaaGreatDoorRows
import Derived.Test.YtfedloljhocpgaaGreatDoorLib
namespace Go.Proofs.YtfedloljhocpgaaGreatDoor
open Go.RowKit Go.PM

theorem infoMv : (Tryz.prog.info? 56).map (fun i => (i.zero, i.size, i.bytes)) = some (some (.agg #[.string ⟨#[]⟩, .string ⟨#[]⟩]), 2, 32) := by kernel_rfl

end Go.Proofs.YtfedloljhocpgaaGreatDoor

