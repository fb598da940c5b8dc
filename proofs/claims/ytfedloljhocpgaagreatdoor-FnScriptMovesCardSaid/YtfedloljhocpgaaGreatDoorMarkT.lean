import Derived.Test.YtfedloljhocpgaaGreatDoorMark
namespace Go.PM
open Go.RowKit
def tcells (ts : List ByteArray) : List Value := ts.map Value.string
theorem tcells_append (a b : List ByteArray) : tcells (a ++ b) = tcells a ++ tcells b := by simp [tcells]
def RdT (w : World) (v : Value) (ts : List ByteArray) : Prop := Rd w 1 v ts.length (tcells ts)
theorem RdT.below {w w' : World} {v : Value} {ts : List ByteArray} (h : RdT w v ts) (hb : Below w.heap.size w w') : RdT w' v ts := Rd.below h hb
theorem RdT.open {w : World} {v : Value} {ts : List ByteArray} (h : RdT w v ts) : ∃ A cap, v = .slice A ts.length cap ∧ ts.length ≤ 9223372036854775807 ∧ ts.length ≤ cap ∧
    ∀ k (hk : k < ts.length), ∃ b off, A = some ⟨b, off, none⟩ ∧ b < w.heap.size ∧ w.cell? ⟨b, off + k, none⟩ = some (.string ts[k]) := by
  obtain ⟨A, cap, e, hc, hn, hl, hr⟩ := h
  refine ⟨A, cap, e, hn, hc, fun k hk => ?_⟩
  obtain ⟨b, off, eA, hb, hcell⟩ := hr (by omega)
  exact ⟨b, off, eA, hb, hcell _ _ (by unfold tcells; rw [List.getElem?_map, List.getElem?_eq_getElem hk]; rfl)⟩
end Go.PM
namespace Go.Proofs.YtfedloljhocpgaaGreatDoor
open Go.RowKit Go.PM

end Go.Proofs.YtfedloljhocpgaaGreatDoor

