import Derived.Test.YtfedloljhocpgaaGreatDoorReaders
import Derived.Test.YtfedloljhocpgaaGreatDoorApp
namespace Go.PM
open Go.RowKit
def busyH (xs : List Mv) (p : Nat) : Bool := decide (srcM xs (nm p) ≠ nm p)
def busyF (xs : List Mv) (k : Nat) : List Mv := ((List.range k).filter (busyH xs)).map fun p => (nm p, srcM xs (nm p))
theorem busyF_yes (xs : List Mv) (k : Nat) (h : busyH xs k = true) : busyF xs (k + 1) = busyF xs k ++ [(nm k, srcM xs (nm k))] := by
  simp [busyF, List.range_succ, h]
theorem busyF_no (xs : List Mv) (k : Nat) (h : busyH xs k = false) : busyF xs (k + 1) = busyF xs k := by
  simp [busyF, List.range_succ, h]
theorem busyF_len (xs : List Mv) (k : Nat) : (busyF xs k).length ≤ k := by
  unfold busyF
  rw [List.length_map]
  have := List.length_filter_le (busyH xs) (List.range k)
  simpa using this
theorem key_inj {α β : Type _} {f : α → β} : ∀ {l : List α}, (l.map f).Nodup → ∀ {a b : α}, a ∈ l → b ∈ l → f a = f b → a = b
  | [], _, _, _, ha, _, _ => by cases ha
  | x :: l, h, a, b, ha, hb, e => by
    rw [List.map_cons, List.nodup_cons] at h
    rw [List.mem_cons] at ha hb
    rcases ha with rfl | ha
    · rcases hb with rfl | hb
      · rfl
      · exact absurd (List.mem_map.2 ⟨b, hb, e.symm⟩) h.1
    · rcases hb with rfl | hb
      · exact absurd (List.mem_map.2 ⟨a, ha, e⟩) h.1
      · exact key_inj h.2 ha hb e
theorem srcM_of_mem {xs : List Mv} (h : MV xs) {m : Mv} (hm : m ∈ xs) : srcM xs m.1 = m.2 := by
  unfold srcM
  cases hf : xs.find? (fun x => decide (x.1 = m.1)) with
  | none => exact absurd (List.find?_eq_none.1 hf m hm) (by simp)
  | some x =>
    have e1 : x.1 = m.1 := by simpa using List.find?_some hf
    have := key_inj h.2 (List.mem_of_find?_eq_some hf) hm e1
    subst this; rfl
theorem mem_of_srcM {xs : List Mv} {a : ByteArray} (h : srcM xs a ≠ a) : (a, srcM xs a) ∈ xs := by
  unfold srcM at h ⊢
  cases hf : xs.find? (fun x => decide (x.1 = a)) with
  | none => rw [hf] at h; exact absurd rfl h
  | some x =>
    have e1 : x.1 = a := by simpa using List.find?_some hf
    have e2 := List.mem_of_find?_eq_some hf
    rw [← e1]; exact e2
theorem busy_count {xs : List Mv} (h : MV xs) : (busyM xs).length = (busyF xs 9).length := by
  have n1 : ((busyM xs).map (·.1)).Nodup := h.2.sublist ((List.filter_sublist (l := xs)).map _)
  have n2 : ((busyF xs 9).map (·.1)).Nodup := by
    have e : (busyF xs 9).map (·.1) = ((List.range 9).filter (busyH xs)).map nm := by simp [busyF]
    rw [e]
    have : ∀ l : List Nat, l.Nodup → (∀ p ∈ l, p < 9) → (l.map nm).Nodup := by
      intro l
      induction l with
      | nil => intro _ _; simp
      | cons a l ih =>
        intro h1 h2
        rw [List.nodup_cons] at h1
        rw [List.map_cons, List.nodup_cons]
        refine ⟨fun hm => ?_, ih h1.2 fun p hp => h2 p (by simp [hp])⟩
        obtain ⟨b, hb, e⟩ := List.mem_map.1 hm
        have := nm_inj (h2 b (by simp [hb])) (h2 a (by simp)) e
        subst this; exact h1.1 hb
    exact this _ ((List.nodup_range (n := 9)).sublist List.filter_sublist) (fun p hp => by
      have := (List.mem_filter.1 hp).1; simpa using this)
  have l1 := nodup_le ((busyM xs).map (·.1)) ((busyF xs 9).map (·.1)) n1 (fun a ha => by
    obtain ⟨m, hm, rfl⟩ := List.mem_map.1 ha
    obtain ⟨hm1, hm2⟩ := List.mem_filter.1 hm
    have hok := h.1 m hm1
    unfold mok at hok; rw [Bool.and_eq_true] at hok
    have hp := pidx_spec hok.1
    refine List.mem_map.2 ⟨(nm (pidx m.1), srcM xs (nm (pidx m.1))), ?_, hp.2⟩
    unfold busyF
    refine List.mem_map.2 ⟨pidx m.1, List.mem_filter.2 ⟨by simpa using hp.1, ?_⟩, rfl⟩
    unfold busyH
    rw [hp.2, srcM_of_mem h hm1]
    simp only [decide_eq_true_eq] at hm2 ⊢
    exact fun e => hm2 e.symm)
  have l2 := nodup_le ((busyF xs 9).map (·.1)) ((busyM xs).map (·.1)) n2 (fun a ha => by
    obtain ⟨m, hm, rfl⟩ := List.mem_map.1 ha
    unfold busyF at hm
    obtain ⟨p, hp, rfl⟩ := List.mem_map.1 hm
    obtain ⟨hp1, hp2⟩ := List.mem_filter.1 hp
    unfold busyH at hp2
    have hne : srcM xs (nm p) ≠ nm p := by simpa using hp2
    refine List.mem_map.2 ⟨_, List.mem_filter.2 ⟨mem_of_srcM hne, ?_⟩, rfl⟩
    simp only [decide_eq_true_eq]
    exact fun e => hne e.symm)
  simp only [List.length_map] at l1 l2
  omega
end Go.PM

