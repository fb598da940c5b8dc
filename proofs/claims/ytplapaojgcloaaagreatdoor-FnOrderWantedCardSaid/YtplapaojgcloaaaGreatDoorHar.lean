import Derived.Test.YtplapaojgcloaaaGreatDoorRows
import Derived.Test.YtplapaojgcloaaaGreatDoorLib
namespace Go.Proofs.YtplapaojgcloaaaGreatDoor
open Go.RowKit Go.PM

theorem infoMv : (Tryz.prog.info? 37).map (fun i => (i.zero, i.size, i.bytes)) = some (some (.agg #[.string ⟨#[]⟩, .string ⟨#[]⟩]), 2, 32) := by kernel_rfl

end Go.Proofs.YtplapaojgcloaaaGreatDoor
