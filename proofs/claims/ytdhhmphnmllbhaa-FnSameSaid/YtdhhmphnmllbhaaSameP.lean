import Derived.Test.YtdhhmphnmllbhaaSort
import Derived.Test.YtdhhmphnmllbhaaSameS
import Derived.Test.YtdhhmphnmllbhaaBusyP
import Derived.Test.YtdhhmphnmllbhaaIdx
namespace Go.PM
open Go.RowKit
theorem sameM_comm (xs ys : List Mv) : sameM xs ys = sameM ys xs := by
  unfold sameM
  have : sameAt xs ys = sameAt ys xs := by funext p; unfold sameAt; simp [eq_comm]
  rw [this, Bool.and_comm (mvalid xs)]
theorem srcM_like {xs ys : List Mv} (h : MV xs) (h2 : MV ys) (hm : ∀ m : Mv, m.1 ≠ m.2 → (m ∈ ys ↔ m ∈ xs)) (a : ByteArray) : srcM ys a = srcM xs a := by
  by_cases h0 : srcM ys a = a
  · by_cases h1 : srcM xs a = a
    · rw [h0, h1]
    · have h3 := mem_of_srcM h1
      exact srcM_of_mem h2 ((hm (a, srcM xs a) (fun e => h1 e.symm)).2 h3)
  · have h3 := mem_of_srcM h0
    exact (srcM_of_mem h ((hm (a, srcM ys a) (fun e => h0 e.symm)).1 h3)).symm
theorem sameM_like {xs ys : List Mv} (h : MV xs) (h2 : MV ys) (hm : ∀ m : Mv, m.1 ≠ m.2 → (m ∈ ys ↔ m ∈ xs)) : sameM ys xs = true := by
  rw [sameM_all (fun p _ => by unfold sameAt; rw [srcM_like h h2 hm, decide_eq_true rfl])]
  simp [mvalid, h, h2]
theorem drop_no {xs : List Mv} (h : mvalid xs = false) : dropM xs = [] := by simp [dropM, h]
theorem sort_no {xs : List Mv} (h : mvalid xs = false) : sortM xs = [] := by simp [sortM, h]
theorem drop_mem {xs : List Mv} (h : MV xs) (m : Mv) : m ∈ dropM xs ↔ m ∈ xs ∧ m.1 ≠ m.2 := by
  have hm : mvalid xs = true := by simpa [mvalid] using h
  rw [dropM, if_pos hm]
  unfold busyM
  simp
theorem drop_MV {xs : List Mv} (h : MV xs) : MV (dropM xs) := by
  have hm : mvalid xs = true := by simpa [mvalid] using h
  refine ⟨fun m h2 => h.1 m ((drop_mem h m).1 h2).1, ?_⟩
  rw [dropM, if_pos hm]
  unfold busyM
  exact h.2.sublist (List.filter_sublist.map _)
theorem drop_same {xs : List Mv} (h : MV xs) : sameM (dropM xs) xs = true :=
  sameM_like h (drop_MV h) fun m hm => by rw [drop_mem h]; exact ⟨fun h => h.1, fun h => ⟨h, hm⟩⟩
theorem sort_list {xs : List Mv} (h : MV xs) : sortM xs = ((List.range 9).filter (hasT (tabOf xs))).map fun p => (nm p, tabOf xs p) := sortM_mvT h
theorem sort_mem {xs : List Mv} (h : MV xs) (m : Mv) : m ∈ sortM xs ↔ m ∈ xs := by
  have hm : mvalid xs = true := by simpa [mvalid] using h
  rw [sortM, if_pos hm, sortO]
  simp only [List.mem_flatMap, List.mem_range, List.mem_filter, atP, decide_eq_true_eq]
  constructor
  · rintro ⟨p, _, h1, _⟩; exact h1
  · intro h1
    have h2 := h.1 m h1
    unfold mok at h2; rw [Bool.and_eq_true] at h2
    obtain ⟨p, hp, e⟩ := place_of h2.1
    exact ⟨p, hp, h1, e⟩
/-- where the places of sorted moves stand -/
theorem sort_up {xs : List Mv} (h : MV xs) (k : Nat) (hk : k + 1 < (sortM xs).length) : pmI ((sortM xs)[k]'(by omega)).1 < pmI (sortM xs)[k + 1].1 := by
  have hpw : ((List.range 9).filter (hasT (tabOf xs))).Pairwise (· < ·) := List.Pairwise.filter _ List.pairwise_lt_range
  have h9 : ∀ p ∈ (List.range 9).filter (hasT (tabOf xs)), p < 9 := fun p hp => List.mem_range.1 (List.mem_filter.1 hp).1
  have e := sort_list h
  generalize (List.range 9).filter (hasT (tabOf xs)) = P at *
  have hl : k + 1 < P.length := by rw [e, List.length_map] at hk; exact hk
  have h1 : (sortM xs)[k]'(by omega) = (nm P[k], tabOf xs P[k]) := by simp [e]
  have h2 : (sortM xs)[k + 1] = (nm P[k + 1], tabOf xs P[k + 1]) := by simp [e]
  rw [h1, h2]
  show pmI (nm P[k]) < pmI (nm P[k + 1])
  rw [pmI_yes (h9 _ (List.getElem_mem _)) rfl, pmI_yes (h9 _ (List.getElem_mem _)) rfl]
  have := List.pairwise_iff_getElem.1 hpw k (k + 1) (by omega) hl (by omega)
  omega
theorem sort_MV {xs : List Mv} (h : MV xs) : MV (sortM xs) := by
  refine ⟨fun m hm => h.1 m ((sort_mem h m).1 hm), ?_⟩
  rw [List.nodup_iff_pairwise_ne, List.pairwise_iff_getElem]
  intro i j hi hj hij he
  have hpw : ((List.range 9).filter (hasT (tabOf xs))).Pairwise (· < ·) := List.Pairwise.filter _ List.pairwise_lt_range
  have h9 : ∀ p ∈ (List.range 9).filter (hasT (tabOf xs)), p < 9 := fun p hp => List.mem_range.1 (List.mem_filter.1 hp).1
  have e := sort_list h
  generalize (List.range 9).filter (hasT (tabOf xs)) = P at *
  simp only [e, List.map_map, List.length_map, List.getElem_map, Function.comp] at hi hj he
  have h1 := List.pairwise_iff_getElem.1 hpw i j hi hj hij
  have h2 := pmI_yes (h9 _ (List.getElem_mem hi)) rfl
  have h3 := pmI_yes (h9 _ (List.getElem_mem hj)) rfl
  rw [he, h3] at h2
  omega
theorem sort_same {xs : List Mv} (h : MV xs) : sameM (sortM xs) xs = true := sameM_like h (sort_MV h) fun m _ => sort_mem h m
theorem sort_len {xs : List Mv} (h : MV xs) : (sortM xs).length = xs.length := by
  have h1 := nodup_le _ (xs.map (·.1)) (sort_MV h).2 fun a ha => by
    obtain ⟨m, hm, e⟩ := List.mem_map.1 ha
    exact List.mem_map.2 ⟨m, (sort_mem h m).1 hm, e⟩
  have h2 := nodup_le _ ((sortM xs).map (·.1)) h.2 fun a ha => by
    obtain ⟨m, hm, e⟩ := List.mem_map.1 ha
    exact List.mem_map.2 ⟨m, (sort_mem h m).2 hm, e⟩
  simp only [List.length_map] at h1 h2
  omega
end Go.PM
