import Derived.Test.YtogkodjlbdlgjaaList
import Derived.Test.YtogkodjlbdlgjaaSortS
namespace Go.PM
open Go.RowKit
theorem filter_find (a : ByteArray) : ∀ xs : List Mv, (xs.map (·.1)).Nodup → xs.filter (fun m => decide (m.1 = a)) = (xs.find? (fun m => decide (m.1 = a))).toList
  | [], _ => rfl
  | m :: xs, h => by
    rw [List.map_cons, List.nodup_cons] at h
    by_cases hm : m.1 = a
    · have h2 : xs.filter (fun m => decide (m.1 = a)) = [] := by
        rw [List.filter_eq_nil_iff]
        intro y hy e
        have : y.1 = a := by simpa using e
        exact h.1 (List.mem_map.2 ⟨y, hy, by rw [this, hm]⟩)
      simp [hm, h2]
    · have ih := filter_find a xs h.2
      simp [hm, ih]
theorem filter_tab {xs : List Mv} (h : MV xs) (p : Nat) : xs.filter (atP p) = if hasT (tabOf xs) p then [(nm p, tabOf xs p)] else [] := by
  have h1 : xs.filter (atP p) = (xs.find? (fun m => decide (m.1 = nm p))).toList := filter_find (nm p) xs h.2
  rw [h1]
  unfold hasT
  cases hf : xs.find? (fun m => decide (m.1 = nm p)) with
  | none =>
    have : tabOf xs p = emp := by unfold tabOf; rw [hf]; rfl
    simp [this]
  | some m =>
    have e1 : m.1 = nm p := by simpa using List.find?_some hf
    have e2 : tabOf xs p = m.2 := by unfold tabOf; rw [hf]; rfl
    have hm := h.1 m (List.mem_of_find?_eq_some hf)
    unfold mok at hm; rw [Bool.and_eq_true] at hm
    have e3 : m.2 ≠ emp := fun e => by have := isS_size hm.2; rw [e] at this; cases this
    rw [e2, ← e1]
    simp [e3]
theorem mvT_flat (t : Nat → ByteArray) : ∀ l : List Nat, mvT t l = l.flatMap fun p => if hasT t p then [(nm p, t p)] else []
  | [] => rfl
  | p :: l => by
    have ih := mvT_flat t l
    rw [List.flatMap_cons, ← ih]
    unfold mvT
    cases h : hasT t p <;> simp [h]
theorem sortM_mvT {xs : List Mv} (h : MV xs) : sortM xs = mvT (tabOf xs) (List.range 9) := by
  have hm : mvalid xs = true := by simpa [mvalid] using h
  rw [sortM, if_pos hm, sortO, mvT_flat]
  congr 1
  funext p
  exact filter_tab h p
end Go.PM
namespace Go.Proofs.Ytogkodjlbdlgjaa
open Go.RowKit Go.PM

end Go.Proofs.Ytogkodjlbdlgjaa
