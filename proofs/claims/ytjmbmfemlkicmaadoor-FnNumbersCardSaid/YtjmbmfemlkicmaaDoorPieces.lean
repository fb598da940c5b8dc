import Derived.Test.YtjmbmfemlkicmaaDoorCut1
import Derived.Test.YtjmbmfemlkicmaaDoorCut
namespace Go.PM
open Go.RowKit
open Go.Lib (indexByte)
/-- the pieces of a list between the letters c -/
def pcsL (c : UInt8) : List UInt8 → List (List UInt8)
  | [] => [[]]
  | b :: l => if b = c then [] :: pcsL c l else match pcsL c l with
    | p :: ps => (b :: p) :: ps
    | [] => [[b]]
theorem pcsL_none (c : UInt8) (l : List UInt8) (h : c ∉ l) : pcsL c l = [l] := by
  induction l with
  | nil => rfl
  | cons b l ih =>
    rw [List.mem_cons, not_or] at h
    rw [pcsL, if_neg (fun e => h.1 e.symm), ih h.2]
theorem pcsL_some (c : UInt8) (l1 l2 : List UInt8) (h : c ∉ l1) : pcsL c (l1 ++ c :: l2) = l1 :: pcsL c l2 := by
  induction l1 with
  | nil => rw [List.nil_append, pcsL, if_pos rfl]
  | cons b l ih =>
    rw [List.mem_cons, not_or] at h
    rw [List.cons_append, pcsL, if_neg (fun e => h.1 e.symm), ih h.2]
theorem ix_some (c : UInt8) (l1 l2 : List UInt8) (h : c ∉ l1) : indexByte (l1 ++ c :: l2) c = l1.length := by
  induction l1 with
  | nil => simp [indexByte]
  | cons b l ih =>
    rw [List.mem_cons, not_or] at h
    rw [List.cons_append, indexByte, ih h.2]
    have hb : (b == c) = false := by simpa using fun e => h.1 e.symm
    have h1 : (((l.length : Nat) : Int) == -1) = false := by simp
    rw [hb, h1]
    simp
def mkB (l : List UInt8) : ByteArray := ⟨l.toArray⟩
theorem mkB_data (s : ByteArray) : mkB s.data.toList = s := rfl
theorem mkB_list (l : List UInt8) : (mkB l).data.toList = l := rfl
/-- the pieces of a text -/
def pcsB (c : UInt8) (s : ByteArray) : List ByteArray := (pcsL c s.data.toList).map mkB
theorem ext_list (s : ByteArray) (a b : Nat) : (s.extract a b).data.toList = (s.data.toList.drop a).take (b - a) := by
  rw [ByteArray.data_extract, Array.toList_extract]
  try simp [List.extract_eq_drop_take]
theorem split_at (c : UInt8) (l : List UInt8) (h : c ∈ l) : ∃ l1 l2, l = l1 ++ c :: l2 ∧ c ∉ l1 := by
  induction l with
  | nil => cases h
  | cons b l ih =>
    by_cases e : b = c
    · subst e; exact ⟨[], l, rfl, by simp⟩
    · have h2 : c ∈ l := by
        rcases List.mem_cons.1 h with h | h
        · exact absurd h.symm e
        · exact h
      obtain ⟨l1, l2, rfl, h3⟩ := ih h2
      exact ⟨b :: l1, l2, rfl, by rw [List.mem_cons, not_or]; exact ⟨fun h => e h.symm, h3⟩⟩
/-- one cut: the first piece, and the pieces of what is left -/
theorem pcsB_cut (c : UInt8) (s : ByteArray) : pcsB c s = if (cutB s c).2.2 then (cutB s c).1 :: pcsB c (cutB s c).2.1 else [(cutB s c).1] := by
  by_cases h : c ∈ s.data.toList
  · obtain ⟨l1, l2, e, hn⟩ := split_at c _ h
    have hi : indexByte s.data.toList c = (l1.length : Nat) := by rw [e]; exact ix_some c l1 l2 hn
    have hB : cutB s c = (s.extract 0 l1.length, s.extract (l1.length + 1) s.size, true) := by
      unfold cutB
      rw [hi, if_pos (by omega)]
      rfl
    rw [hB, if_pos rfl]
    unfold pcsB
    rw [e, pcsL_some c l1 l2 hn, List.map_cons]
    have hsz : s.size = l1.length + 1 + l2.length := by rw [← size_data, e]; simp; omega
    have h1 : s.extract 0 l1.length = mkB l1 := by
      apply Go.WideShapes.bytes_inj
      rw [ext_list, e]; simp [mkB]
    have h2 : (s.extract (l1.length + 1) s.size).data.toList = l2 := by
      rw [ext_list, e, hsz]
      have h3 : (l1 ++ c :: l2).drop (l1.length + 1) = l2 := by
        rw [show l1 ++ c :: l2 = (l1 ++ [c]) ++ l2 by simp, show l1.length + 1 = (l1 ++ [c]).length by simp]
        exact List.drop_left
      rw [h3]
      exact List.take_of_length_le (by omega)
    rw [h1, h2]
  · have hi : ¬ 0 ≤ indexByte s.data.toList c := fun h2 => h ((indexByte_mem _ _).1 h2)
    have hB : cutB s c = (s, ⟨#[]⟩, false) := if_neg hi
    rw [hB]
    unfold pcsB
    rw [pcsL_none c _ h]
    rfl
theorem cutB_less (c : UInt8) (s : ByteArray) (h : (cutB s c).2.2 = true) : (cutB s c).2.1.size < s.size := by
  unfold cutB at h ⊢
  split at h
  · next hi =>
    rw [if_pos hi]
    have := ixB_lt s.data.toList c
    rw [size_data] at this
    simp only [ByteArray.size_extract]
    omega
  · cases h
theorem cutB_size (c : UInt8) (s : ByteArray) : (cutB s c).1.size ≤ s.size ∧ (cutB s c).2.1.size ≤ s.size := by
  unfold cutB
  split
  · simp only [ByteArray.size_extract]; omega
  · exact ⟨Nat.le_refl _, Nat.zero_le _⟩
/-- the scan finds the same pieces -/
theorem scan_pcs (s : ByteArray) (c : UInt8) : ∀ k, k ≤ s.size → ((cutS s c k).1 ++ (pcsL c (s.data.toList.drop (cutS s c k).2)).map mkB = pcsB c s) ∧ c ∉ (s.data.toList.drop (cutS s c k).2).take (k - (cutS s c k).2) ∧ (cutS s c k).2 ≤ k
  | 0, _ => ⟨rfl, by simp [cutS], Nat.le_refl _⟩
  | k + 1, hk => by
    obtain ⟨h1, h2, h3⟩ := scan_pcs s c k (by omega)
    have hks : k < s.size := by omega
    have hkl : k < s.data.toList.length := by rw [size_data]; exact hks
    have hsk : s.data.toList[k] = s[k] := rfl
    by_cases hc : s[k] = c
    · rw [cutS_yes s c k hks hc]
      refine ⟨?_, by simp, Nat.le_refl _⟩
      rw [← h1]
      generalize hfr : (cutS s c k).2 = fr at *
      have e : s.data.toList.drop fr = (s.data.toList.drop fr).take (k - fr) ++ c :: s.data.toList.drop (k + 1) := by
        have e1 := (List.take_append_drop (k - fr) (s.data.toList.drop fr)).symm
        rw [List.drop_drop, show fr + (k - fr) = k by omega, List.drop_eq_getElem_cons hkl, hsk, hc] at e1
        exact e1
      have e3 := pcsL_some c _ (s.data.toList.drop (k + 1)) h2
      rw [← e] at e3
      rw [e3, List.map_cons]
      have e4 : s.extract fr k = mkB ((s.data.toList.drop fr).take (k - fr)) := by
        apply Go.WideShapes.bytes_inj
        rw [ext_list]; rfl
      rw [e4]
      simp
    · rw [cutS_no s c k hks hc]
      refine ⟨h1, ?_, by omega⟩
      generalize hfr : (cutS s c k).2 = fr at *
      rw [show k + 1 - fr = (k - fr) + 1 by omega]
      intro hm
      rw [List.take_add_one] at hm
      rcases List.mem_append.1 hm with h | h
      · exact h2 h
      · rw [List.getElem?_drop, show fr + (k - fr) = k by omega, List.getElem?_eq_getElem hkl, hsk] at h
        have h5 : c = s[k] := by simpa using h
        exact hc h5.symm
theorem cutP_pcs (s : ByteArray) (c : UInt8) : cutP s c = pcsB c s := by
  obtain ⟨h1, h2, h3⟩ := scan_pcs s c s.size (Nat.le_refl _)
  unfold cutP
  rw [cutS_end]
  rw [← h1]
  generalize hfr : (cutS s c s.size).2 = fr at *
  have hl : (s.data.toList.drop fr).take (s.size - fr) = s.data.toList.drop fr := by
    rw [List.take_of_length_le]
    rw [List.length_drop, size_data]; exact Nat.le_refl _
  rw [hl] at h2
  rw [pcsL_none c _ h2]
  have e4 : s.extract fr s.size = mkB (s.data.toList.drop fr) := by
    apply Go.WideShapes.bytes_inj
    rw [ext_list, hl]; rfl
  rw [e4]; rfl
def tot : List (List UInt8) → Nat
  | [] => 0
  | p :: ps => p.length + 1 + tot ps
theorem tot_pcs (c : UInt8) (l : List UInt8) : tot (pcsL c l) = l.length + 1 := by
  induction l with
  | nil => rfl
  | cons b l ih =>
    unfold pcsL
    split
    · simp only [tot, List.length_nil, List.length_cons]; omega
    · cases h : pcsL c l with
      | nil => rw [h] at ih; simp [tot] at ih
      | cons p ps =>
        rw [h] at ih
        simp only [tot, List.length_cons] at ih ⊢
        omega
theorem tot_three : ∀ ps : List (List UInt8), (∀ p ∈ ps, p.length = 3) → tot ps = 4 * ps.length
  | [], _ => rfl
  | p :: ps, h => by
    have h1 := h p (by simp)
    have h2 := tot_three ps (fun q hq => h q (by simp [hq]))
    simp only [tot, List.length_cons]
    omega
theorem cutP_three {s : ByteArray} {c : UInt8} (h : ∀ x ∈ cutP s c, x.size = 3) : 4 * (cutP s c).length = s.size + 1 := by
  rw [cutP_pcs] at h ⊢
  unfold pcsB at h ⊢
  rw [List.length_map, ← tot_three _ (fun p hp => ?_), tot_pcs, size_data]
  have := h (mkB p) (List.mem_map.2 ⟨p, hp, rfl⟩)
  rw [← size_data] at this
  exact this
end Go.PM
