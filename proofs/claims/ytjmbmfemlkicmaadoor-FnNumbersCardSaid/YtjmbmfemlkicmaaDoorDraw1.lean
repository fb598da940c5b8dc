import Derived.Test.YtjmbmfemlkicmaaDoorDraw
import Derived.Test.YtjmbmfemlkicmaaDoorParse
namespace Go.PM
open Go.RowKit
def shortM (xs : List Mv) : Prop := xs.length ≤ 64 ∧ ∀ m ∈ xs, m.1.size ≤ 64 ∧ m.2.size ≤ 64
theorem prsM_short {t : ByteArray} (h : t.size ≤ 40) : shortM (prsM t) := by
  have hL : shortM (prsL t) := by
    refine ⟨?_, fun m hm => ?_⟩
    · have := cutP_len t 44
      simp only [prsL, List.length_map]
      omega
    · obtain ⟨x, hx, rfl⟩ := List.mem_map.1 hm
      have := cutP_size hx
      simp only [pM, ByteArray.size_extract]
      omega
  unfold prsM
  split
  · exact ⟨Nat.zero_le _, fun m hm => by cases hm⟩
  · split
    · exact hL
    · exact ⟨Nat.zero_le _, fun m hm => by cases hm⟩
end Go.PM
namespace Go.Proofs.YtjmbmfemlkicmaaDoor
open Go.RowKit Go.PM

end Go.Proofs.YtjmbmfemlkicmaaDoor
