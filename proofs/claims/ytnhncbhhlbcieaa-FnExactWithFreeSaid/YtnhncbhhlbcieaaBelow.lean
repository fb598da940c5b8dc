import Derived.Test.YtnhncbhhlbcieaaRows
import Derived.Test.YtnhncbhhlbcieaaRange
namespace Go.PM
theorem range_step (k m : Nat) (h : k < m) : List.range k ++ [k] <+: List.range m := by
  rw [← List.range_succ]
  obtain ⟨d, rfl⟩ : ∃ d, m = (k + 1) + d := ⟨m - (k + 1), by omega⟩
  rw [List.range_add]
  exact List.prefix_append _ _
theorem range_pre (k m : Nat) (h : k ≤ m) : List.range k <+: List.range m := by
  obtain ⟨d, rfl⟩ : ∃ d, m = k + d := ⟨m - k, by omega⟩
  rw [List.range_add]
  exact List.prefix_append _ _
end Go.PM
namespace Go.Proofs.Ytnhncbhhlbcieaa
open Go.RowKit Go.PM
attribute [local go_sem] Oper.semAt_some

end Go.Proofs.Ytnhncbhhlbcieaa
