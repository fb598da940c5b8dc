import Derived.Test.YteadhnpmmpninaaBusy
namespace Go.PM
open Go.RowKit
def leafH (f : Nat → ByteArray) (p : Nat) : Bool := decide (srcT f p ≠ nm p) && decide (namesW (rdH f (nm p)) = emp)
def leafM (xs : List Mv) (m : Mv) : Bool := decide (namesW (rsH xs m.1) = emp)
def lvB (xs : List Mv) (ms : List Mv) : ByteArray := ⟨((ms.filter (leafM xs)).flatMap fun m => m.1.data.toList).toArray⟩
theorem lvB_yes (xs ms : List Mv) (m : Mv) (h : leafM xs m = true) : lvB xs (ms ++ [m]) = lvB xs ms ++ m.1 := by
  apply ByteArray.ext
  rw [ByteArray.data_append]
  simp [lvB, h]
theorem lvB_no (xs ms : List Mv) (m : Mv) (h : leafM xs m = false) : lvB xs (ms ++ [m]) = lvB xs ms := by
  simp [lvB, h]
def leavesB (xs : List Mv) : ByteArray := namesW (leafH (tabOf xs))
theorem lvB_all {xs : List Mv} (h : MV xs) : lvB xs (busyF xs 9) = leavesB xs := by
  unfold lvB leavesB namesW namesL busyF
  rw [List.filter_map, List.flatMap_map, List.filter_filter]
  have e1 : ((List.range 9).filter fun p => (leafM xs ∘ fun p => (nm p, srcM xs (nm p))) p && busyH xs p) = (List.range 9).filter (leafH (tabOf xs)) := by
    refine List.filter_congr fun p hp => ?_
    have hp9 : p < 9 := by simpa using hp
    show (leafM xs (nm p, srcM xs (nm p)) && busyH xs p) = leafH (tabOf xs) p
    unfold leafM leafH busyH
    rw [rsH_rdH h, srcM_nm h hp9, Bool.and_comm]
  rw [e1]
  have e2 : ∀ l : List Nat, (l.flatMap fun a => (nm a, srcM xs (nm a)).1.data.toList) = l.map (placesL.getD · 0) := by
    intro l
    induction l with
    | nil => rfl
    | cons a l ih => rw [List.flatMap_cons, ih]; rfl
  rw [e2]
theorem emp_iff (s : ByteArray) : s.toList.isEmpty = decide (s = emp) := by
  rw [ByteArray.toList_eq]
  by_cases h : s = emp
  · subst h; simp
  · cases hl : s.data.toList with
    | nil => exact absurd (Go.WideShapes.bytes_inj (by rw [hl])) h
    | cons a l => simp [h]
theorem busyF_one (xs : List Mv) (k : Nat) (hk : k < (busyF xs 9).length) : (busyF xs 9)[k].1.size = 1 := by
  have := List.getElem_mem hk
  unfold busyF at this
  obtain ⟨p, _, e⟩ := List.mem_map.1 this
  have : (busyF xs 9)[k].1 = nm p := by
    have : (busyF xs 9)[k] = (nm p, srcM xs (nm p)) := e.symm
    rw [this]
  rw [this]; rfl
end Go.PM
namespace Go.Proofs.Yteadhnpmmpninaa
open Go.RowKit Go.PM

set_option maxRecDepth 100000 in
set_option maxHeartbeats 1000000 in
theorem leafFn_c (f : Nat → ByteArray) (p : Nat) (hp : p < 9) (b2 : Nat) (w : World) (h2 : At w b2 56 (tabA f)) :
    Calls Try.prog 121 #[.int .i64 p, .pointer (some ⟨b2, 0, none⟩)] w fun e w' => e = .returned (.bool (leafH f p)) ∧ Below w.heap.size w w' := by
  have l2 := h2.lt
  have hc0 : ∀ x : Ext w.heap.size w, x.val.cell? ⟨b2, 0, none⟩ = some (.string (f 0)) := fun x => (x.property.cell (p := ⟨b2, 0, none⟩) l2).trans (h2.cell 0)
  have hc1 : ∀ x : Ext w.heap.size w, x.val.cell? ⟨b2, 1, none⟩ = some (.string (f 1)) := fun x => (x.property.cell (p := ⟨b2, 1, none⟩) l2).trans (h2.cell 1)
  have hc2 : ∀ x : Ext w.heap.size w, x.val.cell? ⟨b2, 2, none⟩ = some (.string (f 2)) := fun x => (x.property.cell (p := ⟨b2, 2, none⟩) l2).trans (h2.cell 2)
  have hc3 : ∀ x : Ext w.heap.size w, x.val.cell? ⟨b2, 3, none⟩ = some (.string (f 3)) := fun x => (x.property.cell (p := ⟨b2, 3, none⟩) l2).trans (h2.cell 3)
  have hc4 : ∀ x : Ext w.heap.size w, x.val.cell? ⟨b2, 4, none⟩ = some (.string (f 4)) := fun x => (x.property.cell (p := ⟨b2, 4, none⟩) l2).trans (h2.cell 4)
  have hc5 : ∀ x : Ext w.heap.size w, x.val.cell? ⟨b2, 5, none⟩ = some (.string (f 5)) := fun x => (x.property.cell (p := ⟨b2, 5, none⟩) l2).trans (h2.cell 5)
  have hc6 : ∀ x : Ext w.heap.size w, x.val.cell? ⟨b2, 6, none⟩ = some (.string (f 6)) := fun x => (x.property.cell (p := ⟨b2, 6, none⟩) l2).trans (h2.cell 6)
  have hc7 : ∀ x : Ext w.heap.size w, x.val.cell? ⟨b2, 7, none⟩ = some (.string (f 7)) := fun x => (x.property.cell (p := ⟨b2, 7, none⟩) l2).trans (h2.cell 7)
  have hc8 : ∀ x : Ext w.heap.size w, x.val.cell? ⟨b2, 8, none⟩ = some (.string (f 8)) := fun x => (x.property.cell (p := ⟨b2, 8, none⟩) l2).trans (h2.cell 8)
  have HN := Lib.hid (fun W => name_c p hp W)
  have HSS := Lib.hid (fun W => source_c f p hp W)
  have HRR := Lib.hid (fun W => readers_c f (nm p) W)
  have HH := Lib.hid (show leafH f p = (decide (srcT f p ≠ nm p) && decide (namesW (rdH f (nm p)) = emp)) from rfl)
  generalize namesW (rdH f (nm p)) = rr at *
  generalize srcT f p = sr at *
  generalize nm p = q at *
  rcases Bool.eq_false_or_eq_true (sr.toList == q.toList) with hd | hd
  all_goals
    go_enter Try.func121, Try.ntmps121
    go_wp2
    refine wp_region_ext w.heap.size (by kernel_rfl) (by kernel_rfl) ?_
    repeat (go_big_quiet_step (first | (go_at_call 99; exact ext_same _ (HN.out _)) | (go_at_call 98; exact ext_call _ (Nat.le_refl _) (HSS.out _)) | (go_at_call 122; exact ext_call _ (Nat.le_refl _) (HRR.out _))))
    refine wpQuiet_nil ?_
    intro w2 hw'
    obtain ⟨xw, hxw⟩ := hw'
    have hb2 := xw.property
    rw [← hxw] at hb2
    clear hxw xw hc0 hc1 hc2 hc3 hc4 hc5 hc6 hc7 hc8
    go_wp2
    go_ret
    refine ⟨?_, hb2⟩
    rw [HH.out]
  · have : sr = q := by rw [beq_str, decide_eq_true_eq] at hd; exact hd
    rw [this]; simp
  · have : ¬ sr = q := by rw [beq_str, decide_eq_false_iff_not] at hd; exact hd
    rw [emp_iff]; simp [this]
set_option maxRecDepth 100000 in
theorem leaves_c (f : Nat → ByteArray) (w : World) :
    Calls Try.prog 87 #[tabX f] w fun e w' => e = .returned (.string (namesW (leafH f))) ∧ Below w.heap.size w w' := by
  go_enter Try.func87, Try.ntmps87
  go_wp2_with fail
  have q2 : At (w.alloc (.cells (tabA f) 56)) w.heap.size 56 (tabA f) := At.new w _ _
  refine (names_c 121 #[.pointer (some ⟨w.heap.size, 0, none⟩)] (leafH f) _ (fun _ _ => rfl) (fun p hp W hW => ?_)).mono ?_
  · exact leafFn_c f p hp _ W (q2.keep hW)
  · rintro e w3 ⟨rfl, hb3⟩
    have b3 := ((Below.refl w.heap.size w).alloc (Nat.le_refl _) (.cells (tabA f) 56)).trans (hb3.mono (by simp [World.size_alloc]))
    clear q2 hb3
    go_wp2
    go_ret
    exact ⟨rfl, b3⟩
end Go.Proofs.Yteadhnpmmpninaa
