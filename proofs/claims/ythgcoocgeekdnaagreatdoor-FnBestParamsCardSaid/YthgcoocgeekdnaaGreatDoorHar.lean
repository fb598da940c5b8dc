import Derived.Test.YthgcoocgeekdnaaGreatDoorRows
import Derived.Test.YthgcoocgeekdnaaGreatDoorLib
namespace Go.Proofs.YthgcoocgeekdnaaGreatDoor
open Go.RowKit Go.PM

theorem infoMv : (Tryz.prog.info? 98).map (fun i => (i.zero, i.size, i.bytes)) = some (some (.agg #[.string ⟨#[]⟩, .string ⟨#[]⟩]), 2, 32) := by kernel_rfl

end Go.Proofs.YthgcoocgeekdnaaGreatDoor
