import Derived.Test.YtdhhmphnmllbhaaList
import Derived.Test.YtdhhmphnmllbhaaSortS
namespace Go.PM
open Go.RowKit
theorem filter_find (a : ByteArray) : ∀ xs : List Mv, (xs.map (·.1)).Nodup → xs.filter (fun m => decide (m.1 = a)) = (xs.find? (fun m => decide (m.1 = a))).toList
  | [], _ => rfl
  | m :: xs, h => by
    rw [List.map_cons, List.nodup_cons] at h
    by_cases hm : m.1 = a
    · have h2 : xs.filter (fun m => decide (m.1 = a)) = [] := by
        rw [List.filter_eq_nil_iff]
        intro y hy e
        have : y.1 = a := by simpa using e
        exact h.1 (List.mem_map.2 ⟨y, hy, by rw [this, hm]⟩)
      simp [hm, h2]
    · have ih := filter_find a xs h.2
      simp [hm, ih]
theorem filter_tab {xs : List Mv} (h : MV xs) (p : Nat) : xs.filter (atP p) = if hasT (tabOf xs) p then [(nm p, tabOf xs p)] else [] := by
  have h1 : xs.filter (atP p) = (xs.find? (fun m => decide (m.1 = nm p))).toList := filter_find (nm p) xs h.2
  rw [h1]
  unfold hasT
  cases hf : xs.find? (fun m => decide (m.1 = nm p)) with
  | none =>
    have : tabOf xs p = emp := by unfold tabOf; rw [hf]; rfl
    simp [this]
  | some m =>
    have e1 : m.1 = nm p := by simpa using List.find?_some hf
    have e2 : tabOf xs p = m.2 := by unfold tabOf; rw [hf]; rfl
    have hm := h.1 m (List.mem_of_find?_eq_some hf)
    unfold mok at hm; rw [Bool.and_eq_true] at hm
    have e3 : m.2 ≠ emp := fun e => by have := isS_size hm.2; rw [e] at this; cases this
    rw [e2, ← e1]
    simp [e3]
theorem mvT_flat (t : Nat → ByteArray) : ∀ l : List Nat, mvT t l = l.flatMap fun p => if hasT t p then [(nm p, t p)] else []
  | [] => rfl
  | p :: l => by
    have ih := mvT_flat t l
    rw [List.flatMap_cons, ← ih]
    unfold mvT
    cases h : hasT t p <;> simp [h]
theorem sortM_mvT {xs : List Mv} (h : MV xs) : sortM xs = mvT (tabOf xs) (List.range 9) := by
  have hm : mvalid xs = true := by simpa [mvalid] using h
  rw [sortM, if_pos hm, sortO, mvT_flat]
  congr 1
  funext p
  exact filter_tab h p
end Go.PM
namespace Go.Proofs.Ytdhhmphnmllbhaa
open Go.RowKit Go.PM

set_option maxRecDepth 100000 in
set_option maxHeartbeats 2000000 in
theorem imSortMoves_c (xs : List Mv) (v : Value) (w : World) (hx : RdM w v xs) :
    Calls Try.prog 14 #[v] w fun e w' => ∃ v', e = .returned (.tuple #[v', .bool (mvalid xs)]) ∧ w'.ownsRow w.heap.size 37 2 v' (sortM xs).length (mcells (sortM xs)) ∧ Below w.heap.size w w' := by
  by_cases h1 : MV xs
  · have HT := Lib.hid (tableOf_yes xs h1 v w hx)
    have HM := Lib.hid (show mvalid xs = true by simpa [mvalid] using h1)
    have HS := Lib.hid (sortM_mvT h1)
    clear h1 hx
    generalize tabOf xs = t at *
    go_enter Try.func14, Try.ntmps14
    go_wp2_with fail
    refine HT.out.mono ?_
    rintro e w1 ⟨rfl, hb1⟩
    have hs1 := hb1.size
    go_wp2_with fail
    refine (list_c t _).mono ?_
    rintro e w2 ⟨v', rfl, ho, hb2⟩
    have ho2 := own_more ho (show w.heap.size ≤ (w1.alloc (.cells (tabA t) 62)).heap.size by simp; omega)
    have hb3 := (hb1.alloc hs1 (.cells (tabA t) 62)).trans (hb2.mono (by simp; omega))
    go_wp2
    go_ret2
    exact ⟨_, by rw [HM.out]; rfl, by rw [HS.out]; exact ho2, hb3⟩
  · have HM := Lib.hid (show mvalid xs = false by simpa [mvalid] using h1)
    have HS := Lib.hid (show sortM xs = [] from if_neg (by rw [HM.out]; decide))
    have HT := Lib.hid (tableOf_no xs h1 v w hx)
    clear h1 hx
    go_enter Try.func14, Try.ntmps14
    go_wp2_with fail
    refine HT.out.mono ?_
    rintro e w1 ⟨rfl, hb1⟩
    have hs1 := hb1.size
    go_wp2
    go_ret2
    exact ⟨_, by rw [HM.out]; rfl, by rw [HS.out]; exact ⟨rfl, .inl ⟨rfl, rfl⟩⟩, by (repeat' (first | (with_reducible exact Below.refl _ _) | (with_reducible assumption) | (with_reducible refine Below.alloc ?_ ?_ _) | (with_reducible refine Below.drew ?_) | (with_reducible refine Below.setCell ?_ ?_ _) | (with_reducible exact Nat.le_refl _) | omega | ((repeat (first | rewrite [World.size_alloc] | rewrite [World.size_setCell] | rewrite [World.size_drew])); omega) | (simp; omega) | (simp; done)))⟩
end Go.Proofs.Ytdhhmphnmllbhaa
