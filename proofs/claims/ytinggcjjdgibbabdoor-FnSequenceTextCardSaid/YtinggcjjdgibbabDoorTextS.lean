import Derived.Test.YtinggcjjdgibbabDoorPrsSM
import Derived.Test.YtinggcjjdgibbabDoorTextP
namespace Go.PM
open Go.RowKit
/- a text of steps is its pieces, and the pieces of such a text are these -/
theorem okB_byte {s : ByteArray} (h : isC s = true ∨ isD s = true) : ∃ c, s = ⟨#[c]⟩ ∧ c ≠ 59 := by
  obtain ⟨c, rfl⟩ := one_of_size (h.elim isC_size isD_size)
  refine ⟨c, rfl, ?_⟩
  rintro rfl
  revert h
  decide +kernel
theorem st_part {x : St} (h : stOk x = true) : ∃ a c, x = (x.1, ⟨#[a]⟩, ⟨#[c]⟩) ∧ (x.1 = 0 ∨ x.1 = 1) ∧ spart x = [a, sgn x.1, c] ∧ a ≠ 59 ∧ c ≠ 59 := by
  have hk := (st_sizes h).1
  have h0 := h
  unfold stOk at h
  rw [Bool.or_eq_true] at h
  have hac : isC x.2.1 = true ∧ (isC x.2.2 = true ∨ isD x.2.2 = true) := by
    rcases h with h | h
    · simp only [Bool.and_eq_true, Bool.or_eq_true, decide_eq_true_eq] at h
      exact h.2
    · simp only [Bool.and_eq_true, decide_eq_true_eq] at h
      exact ⟨h.2.1, .inl h.2.2⟩
  obtain ⟨a, ha, a1⟩ := okB_byte (.inl hac.1)
  obtain ⟨c, hc, c1⟩ := okB_byte hac.2
  refine ⟨a, c, ?_, hk, ?_, a1, c1⟩
  · rw [← ha, ← hc]
  · unfold spart
    rw [ha, hc]; rfl
theorem sgn_ne (k : Int) : sgn k ≠ 59 := by
  unfold sgn; split <;> decide
theorem sfmtL_pcs {xs : List St} (h : ∀ x ∈ xs, stOk x = true) (hne : xs ≠ []) : pcsL 59 (sfmtL xs) = xs.map spart := by
  unfold sfmtL
  refine pcsL_of_join 59 _ (by simpa using hne) ?_
  intro p hp
  obtain ⟨m, hm, rfl⟩ := List.mem_map.1 hp
  obtain ⟨a, c, _, _, e, a1, c1⟩ := st_part (h m hm)
  rw [e]
  have := sgn_ne m.1
  simp [Ne.symm a1, Ne.symm c1, Ne.symm this]
theorem pS_part {x : St} (h : stOk x = true) : psG (mkB (spart x)) = true ∧ pS (mkB (spart x)) = x := by
  obtain ⟨a, c, e, hk, e2, _, _⟩ := st_part h
  have hp : pS (mkB (spart x)) = x ∧ pSOk (mkB (spart x)) = true := by
    rw [e2]
    rcases hk with hk | hk
    · rw [hk] at e ⊢; rw [e]; exact ⟨rfl, rfl⟩
    · rw [hk] at e ⊢; rw [e]; exact ⟨rfl, rfl⟩
  refine ⟨?_, hp.1⟩
  unfold psG
  rw [hp.1, hp.2, h]; rfl
theorem svalid_mem {xs : List St} (h : svalid xs = true) : ∀ x ∈ xs, stOk x = true := by
  unfold svalid at h; rw [Bool.and_eq_true, List.all_eq_true] at h; exact h.2
theorem sfmt_pieces {xs : List St} (h : svalid xs = true) (hne : xs ≠ []) : pcsB 59 (sfmtB xs) = xs.map fun m => mkB (spart m) := by
  rw [sfmtB_some h hne]
  unfold pcsB
  show (pcsL 59 (sfmtL xs)).map mkB = _
  rw [sfmtL_pcs (svalid_mem h) hne, List.map_map]
  rfl
theorem sfmt_good {xs : List St} (h : svalid xs = true) (hne : xs ≠ []) : goodP (pcsB 59 (sfmtB xs)) = true ∧ (pcsB 59 (sfmtB xs)).map pS = xs := by
  rw [sfmt_pieces h hne]
  constructor
  · unfold goodP
    rw [Bool.and_eq_true, List.all_eq_true]
    refine ⟨fun x hx => ?_, by simpa using svalid_len h⟩
    obtain ⟨m, hm, rfl⟩ := List.mem_map.1 hx
    exact (pS_part (svalid_mem h m hm)).1
  · rw [List.map_map]
    conv => rhs; rw [← List.map_id xs]
    exact List.map_congr_left fun m hm => (pS_part (svalid_mem h m hm)).2
theorem sfmt_dash {xs : List St} (h : svalid xs = true) (hne : xs ≠ []) : ¬ sfmtB xs = ⟨#[45]⟩ := by
  intro e
  have h2 := (sfmt_good h hne).1
  rw [e] at h2
  revert h2
  decide +kernel
/-- a sequence comes back from its text -/
theorem sq_sfmt (xs : List St) : sqOk (sfmtB xs) = svalid xs ∧ (svalid xs = true → sqS (sfmtB xs) = xs) := by
  cases hm : svalid xs with
  | false =>
    rw [sfmtB_no hm]
    exact ⟨by decide +kernel, fun h => by cases h⟩
  | true =>
    by_cases hne : xs = []
    · subst hne
      exact ⟨by decide +kernel, fun _ => by decide +kernel⟩
    · obtain ⟨h1, h2⟩ := sfmt_good hm hne
      have h3 := sq_cut (sfmt_dash hm hne)
      rw [h3.1, h3.2, h1, if_pos rfl, h2]
      exact ⟨rfl, fun _ => rfl⟩
theorem pS_back {x : ByteArray} (h : psG x = true) : spart (pS x) = x.data.toList := by
  have h3 := psG_size h
  obtain ⟨a, b, c, rfl⟩ := three_of_size h3
  have hb : b = 61 ∨ b = 126 := by
    unfold psG at h
    rw [Bool.and_eq_true] at h
    simpa [pSOk] using h.1
  rcases hb with rfl | rfl <;> rfl
/-- a text that parses is the text of what it gives -/
theorem sfmt_sq {t : ByteArray} (h : sqOk t = true) : sfmtB (sqS t) = t := by
  by_cases h0 : t = ⟨#[45]⟩
  · subst h0
    decide +kernel
  · obtain ⟨e1, e2⟩ := sq_cut h0
    rw [e1] at h
    rw [e2, if_pos h]
    have hg := h
    unfold goodP at h
    rw [Bool.and_eq_true, List.all_eq_true] at h
    have hv : svalid ((pcsB 59 t).map pS) = true := by
      have := goodP_map (pcsB 59 t)
      rw [hg, Bool.and_eq_true] at this
      exact this.2
    have hL : (pcsB 59 t).map pS ≠ [] := by
      unfold pcsB
      have := (pcsL_join 59 t.data.toList).2
      simpa using this
    rw [sfmtB_some hv hL]
    have e : sfmtL ((pcsB 59 t).map pS) = t.data.toList := by
      have hj := (pcsL_join 59 t.data.toList).1
      unfold sfmtL
      have : ((pcsB 59 t).map pS).map spart = pcsL 59 t.data.toList := by
        have h1 := h.1
        unfold pcsB at h1 ⊢
        rw [List.map_map, List.map_map]
        conv => rhs; rw [← List.map_id (pcsL 59 t.data.toList)]
        refine List.map_congr_left fun p hp => ?_
        exact pS_back (h1 (mkB p) (List.mem_map.2 ⟨p, hp, rfl⟩))
      rw [this]; exact hj
    rw [e]
theorem sfmtB_size (xs : List St) : (sfmtB xs).size ≤ 20000 := by
  by_cases h : svalid xs = true
  · by_cases hne : xs = []
    · rw [sfmtB_none h hne]; decide
    · rw [sfmtB_some h hne]
      have h1 := sfmtL_len (svalid_mem h)
      have h2 := svalid_len h
      show (sfmtL xs).toArray.size ≤ _
      simp only [List.size_toArray]
      omega
  · rw [sfmtB_no (by simpa using h)]; decide
theorem sfmtB_pos {xs : List St} (h : svalid xs = true) : 1 ≤ (sfmtB xs).size := by
  by_cases hne : xs = []
  · rw [sfmtB_none h hne]; exact Nat.le_refl 1
  · rw [sfmtB_some h hne]
    have := sfmtL_pos xs hne
    show 1 ≤ (sfmtL xs).toArray.size
    simp only [List.size_toArray]
    exact List.length_pos_iff.2 this
end Go.PM
