import Derived.Test.YtinggcjjdgibbabDoorPieces
import Derived.Test.YtinggcjjdgibbabDoorParse
namespace Go.PM
open Go.RowKit
open Go.Lib (indexByte)
/-- what a cut at '=' makes of a piece -/
def cutM (x : ByteArray) : Mv := ((cutB x 61).1, (cutB x 61).2.1)
theorem cutM_good (x : ByteArray) (h1 : pOk x = true) (h2 : mok (pM x) = true) : cutM x = pM x := by
  have h3 : x.size = 3 := by
    rcases Nat.decEq x.size 3 with h | h
    · rw [pOk_size h] at h1; cases h1
    · exact h
  obtain ⟨a, e, c, rfl⟩ := three_of_size h3
  have he : e = 61 := by simpa [pOk] using h1
  subst he
  have ha : isP ⟨#[a]⟩ = true := by
    unfold mok at h2; rw [Bool.and_eq_true] at h2
    exact h2.1
  have hne : ¬ a = 61 := by
    intro e
    subst e
    revert ha
    decide +kernel
  have hi : indexByte (ByteArray.mk #[a, 61, c]).data.toList 61 = 1 := by
    show indexByte ([a] ++ 61 :: [c]) 61 = 1
    rw [ix_some 61 [a] [c] (by simp; exact fun h => hne h.symm)]
    rfl
  unfold cutM cutB
  rw [hi, if_pos (by decide)]
  rfl
theorem cutM_ok (x : ByteArray) (h : mok (cutM x) = true) : pOk x = true ∧ mok (pM x) = true := by
  have hm := h
  unfold mok at h; rw [Bool.and_eq_true] at h
  obtain ⟨hp, hs⟩ := h
  have s1 := isP_size hp
  have s2 := isS_size hs
  by_cases hi : 0 ≤ indexByte x.data.toList 61
  · have hB : cutB x 61 = (x.extract 0 (indexByte x.data.toList 61).toNat, x.extract ((indexByte x.data.toList 61).toNat + 1) x.size, true) := if_pos hi
    have hmem := (indexByte_mem _ _).1 hi
    have hlt := ixB_lt x.data.toList 61
    rw [size_data] at hlt
    unfold cutM at s1 s2 hm
    rw [hB] at s1 s2 hm
    simp only [ByteArray.size_extract] at s1 s2
    have h3 : x.size = 3 := by omega
    have hk : (indexByte x.data.toList 61).toNat = 1 := by omega
    rw [hk] at hm
    obtain ⟨l1, l2, e, hn⟩ := split_at 61 _ hmem
    have hl : l1.length = 1 := by
      have := ix_some 61 l1 l2 hn
      rw [← e] at this
      omega
    obtain ⟨a, b, c, rfl⟩ := three_of_size h3
    match l1, hl with
    | [a'], _ =>
      have e' : [a, b, c] = a' :: 61 :: l2 := e
      have hb : b = 61 := by simp at e'; exact e'.2.1
      subst hb
      exact ⟨rfl, hm⟩
  · have hB : cutB x 61 = (x, ⟨#[]⟩, false) := if_neg hi
    unfold cutM at s2
    rw [hB] at s2
    cases s2
theorem cutM_mok (x : ByteArray) : mok (cutM x) = (pOk x && mok (pM x)) := by
  rw [Bool.eq_iff_iff, Bool.and_eq_true]
  exact ⟨cutM_ok x, fun ⟨h1, h2⟩ => by rw [cutM_good x h1 h2]; exact h2⟩
theorem map_good {ps : List ByteArray} (h : ∀ x ∈ ps, pOk x = true ∧ mok (pM x) = true) : ps.map cutM = ps.map pM :=
  List.map_congr_left fun x hx => cutM_good x (h x hx).1 (h x hx).2
theorem MV_cut (ps : List ByteArray) : MV (ps.map cutM) ↔ ps.all pOk = true ∧ MV (ps.map pM) := by
  constructor
  · intro h
    have h2 : ∀ x ∈ ps, pOk x = true ∧ mok (pM x) = true := fun x hx => cutM_ok x (h.1 _ (List.mem_map.2 ⟨x, hx, rfl⟩))
    refine ⟨List.all_eq_true.2 fun x hx => (h2 x hx).1, ?_⟩
    rw [← map_good h2]; exact h
  · rintro ⟨h1, h2⟩
    have h3 : ∀ x ∈ ps, pOk x = true ∧ mok (pM x) = true := fun x hx => ⟨List.all_eq_true.1 h1 x hx, h2.1 _ (List.mem_map.2 ⟨x, hx, rfl⟩)⟩
    rw [map_good h3]; exact h2
/-- what the program makes of a text that is not "-" -/
theorem prs_cut {t : ByteArray} (h0 : ¬ t = ⟨#[45]⟩) : prsOk t = mvalid ((pcsB 44 t).map cutM) ∧ prsM t = if mvalid ((pcsB 44 t).map cutM) then (pcsB 44 t).map cutM else [] := by
  have e1 : prsOk t = ((cutP t 44).all pOk && mvalid (prsL t)) := by rw [prsOk, decide_eq_false h0]; rfl
  have e2 : prsM t = if (cutP t 44).all pOk && mvalid (prsL t) then prsL t else [] := if_neg h0
  have e3 : ((cutP t 44).all pOk && mvalid (prsL t)) = mvalid ((pcsB 44 t).map cutM) := by
    rw [Bool.eq_iff_iff, Bool.and_eq_true]
    simp only [mvalid, decide_eq_true_eq]
    rw [MV_cut, prsL, cutP_pcs]
  rw [e1, e2, e3]
  refine ⟨rfl, ?_⟩
  by_cases h : mvalid ((pcsB 44 t).map cutM) = true
  · rw [if_pos h, if_pos h]
    have h2 : MV ((pcsB 44 t).map cutM) := by simpa [mvalid] using h
    have h3 : ∀ x ∈ pcsB 44 t, pOk x = true ∧ mok (pM x) = true := fun x hx => cutM_ok x (h2.1 _ (List.mem_map.2 ⟨x, hx, rfl⟩))
    rw [map_good h3, prsL, cutP_pcs]
  · rw [if_neg h, if_neg h]
theorem prsM_len (t : ByteArray) : (prsM t).length ≤ 9 := by
  unfold prsM
  split
  · exact Nat.zero_le _
  · split
    · next h =>
      rw [Bool.and_eq_true] at h
      have h2 : MV (prsL t) := by simpa [mvalid] using h.2
      exact MV_len h2
    · exact Nat.zero_le _
theorem MV_prefix {a b : List Mv} (h : a <+: b) (hb : MV b) : MV a := by
  obtain ⟨c, rfl⟩ := h
  have := MV_take hb a.length
  rwa [List.take_left] at this
end Go.PM
