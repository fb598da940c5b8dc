import Derived.Test.YtfedloljhocpgaaGreatDoorProg
import Derived.Test.YtfedloljhocpgaaGreatDoorLib
import Derived.Test.YtfedloljhocpgaaGreatDoorNuP
namespace Go.PG
open Go.RowKit Go.PM
def icells (ns : List Int) : List Value := ns.map (Value.int .i64)
theorem icells_length (ns : List Int) : (icells ns).length = ns.length := by simp [icells]
theorem icells_append (a b : List Int) : icells (a ++ b) = icells a ++ icells b := by simp [icells]
def RdI (w : World) (v : Value) (ns : List Int) : Prop := Rd w 1 v ns.length (icells ns)
theorem RdI.below {w w' : World} {v : Value} {ns : List Int} (h : RdI w v ns) (hb : Below w.heap.size w w') : RdI w' v ns := Rd.below h hb
theorem RdI.open {w : World} {v : Value} {ns : List Int} (h : RdI w v ns) : ∃ A cap, v = .slice A ns.length cap ∧ ns.length ≤ 9223372036854775807 ∧ ns.length ≤ cap ∧
    ∀ k (hk : k < ns.length), ∃ b off, A = some ⟨b, off, none⟩ ∧ b < w.heap.size ∧ w.cell? ⟨b, off + k, none⟩ = some (.int .i64 ns[k]) := by
  obtain ⟨A, cap, e, hc, hn, hl, hr⟩ := h
  refine ⟨A, cap, e, hn, hc, fun k hk => ?_⟩
  obtain ⟨b, off, eA, hb, hcell⟩ := hr (by omega)
  exact ⟨b, off, eA, hb, hcell _ _ (by unfold icells; rw [List.getElem?_map, List.getElem?_eq_getElem hk]; rfl)⟩
end Go.PG
namespace Go.Proofs.YtfedloljhocpgaaGreatDoor
open Go.RowKit Go.PM Go.PG

end Go.Proofs.YtfedloljhocpgaaGreatDoor

