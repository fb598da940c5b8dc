import Derived.Test.YthgcoocgeekdnaaDoorRows
import Derived.Test.YthgcoocgeekdnaaDoorLib
namespace Go.Proofs.YthgcoocgeekdnaaDoor
open Go.RowKit Go.PM

theorem infoMv : (Tryd.prog.info? 98).map (fun i => (i.zero, i.size, i.bytes)) = some (some (.agg #[.string ⟨#[]⟩, .string ⟨#[]⟩]), 2, 32) := by kernel_rfl

end Go.Proofs.YthgcoocgeekdnaaDoor
