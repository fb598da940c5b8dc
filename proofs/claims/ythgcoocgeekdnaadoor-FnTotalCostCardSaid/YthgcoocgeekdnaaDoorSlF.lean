import Derived.Test.YthgcoocgeekdnaaDoorSlP
import Derived.Test.YthgcoocgeekdnaaDoorAhd
import Derived.Lib.IndexAny
namespace Go.PD
open Go.PM Go.RowKit Go.Lib
theorem containsAny_iff (chars : List UInt8) : ∀ s : List UInt8, containsAny s chars = s.any (fun c => decide (c ∈ chars))
  | [] => rfl
  | b :: l => by
    have ih := containsAny_iff chars l
    unfold containsAny at ih ⊢
    rw [List.any_cons, ← ih]
    have hge := indexAny_ge chars l
    have e : indexAny (b :: l) chars = if chars.contains b then 0 else if indexAny l chars == -1 then -1 else indexAny l chars + 1 := rfl
    have hc : chars.contains b = decide (b ∈ chars) := by rw [List.contains_eq_mem]
    rw [e, hc]
    clear e hc ih
    generalize indexAny l chars = z at *
    by_cases h : b ∈ chars
    · simp [h]
    · simp only [h, decide_false, Bool.false_eq_true, if_false, Bool.false_or]
      by_cases hm : z = -1
      · subst hm; rfl
      · rw [if_neg (by simpa using hm), decide_eq_decide]; omega
def arF (xs : List St) (free : List UInt8) : Bool := decide (free.length ≤ 2 ∧ free.Nodup) && free.all fun c => decide (c ∈ regsL) && decide (c ∉ snL xs)
theorem frOk_ar (xs : List St) (free : List UInt8) : frOk xs free = (svalid xs && arF xs free) := rfl
/-- the registers that stand in a text -/
def rgB (free : List UInt8) : ByteArray := pickB regsL (inTx regsL free) 6
theorem rg_mem (free : List UInt8) (c : UInt8) : c ∈ pickL regsL (inTx regsL free) 6 ↔ c ∈ regsL ∧ c ∈ free := by
  unfold pickL
  rw [List.mem_map]
  constructor
  · rintro ⟨p, hp, rfl⟩
    rw [List.mem_filter, List.mem_range] at hp
    have h2 := hp.2
    unfold inTx at h2
    rw [decide_eq_true_eq] at h2
    refine ⟨?_, h2⟩
    have hl : p < regsL.length := hp.1
    rw [List.getD_eq_getElem?_getD, List.getElem?_eq_getElem hl]
    exact List.getElem_mem hl
  · rintro ⟨h1, h2⟩
    obtain ⟨p, hp, rfl⟩ := List.getElem_of_mem h1
    refine ⟨p, ?_, ?_⟩
    · rw [List.mem_filter, List.mem_range]
      refine ⟨hp, ?_⟩
      unfold inTx
      rw [decide_eq_true_eq, List.getD_eq_getElem?_getD, List.getElem?_eq_getElem hp]
      exact h2
    · rw [List.getD_eq_getElem?_getD, List.getElem?_eq_getElem hp]; rfl
theorem rg_nodup (free : List UInt8) : (pickL regsL (inTx regsL free) 6).Nodup := by
  unfold pickL
  have h1 : ((List.range 6).map (regsL.getD · 0)).Nodup := by decide
  exact List.Nodup.sublist (List.Sublist.map _ List.filter_sublist) h1
theorem rg_size (free : List UInt8) : (rgB free).size = (pickL regsL (inTx regsL free) 6).length := by simp [rgB, pickB, ByteArray.size]
theorem rg_full (free : List UInt8) : (rgB free).size = free.length ↔ free.Nodup ∧ ∀ c ∈ free, c ∈ regsL := by
  rw [rg_size]
  have hs : ∀ c ∈ pickL regsL (inTx regsL free) 6, c ∈ free := fun c hc => ((rg_mem free c).1 hc).2
  constructor
  · intro h
    have hp := perm_of_sub _ _ (rg_nodup free) hs (by omega)
    exact ⟨hp.nodup_iff.1 (rg_nodup free), fun c hc => ((rg_mem free c).1 (hp.mem_iff.2 hc)).1⟩
  · rintro ⟨h1, h2⟩
    have a1 := nodup_le _ _ (rg_nodup free) hs
    have a2 := nodup_le _ _ h1 (fun c hc => (rg_mem free c).2 ⟨h2 c hc, hc⟩)
    omega
theorem ar_yes {xs : List St} {free : List UInt8} (h1 : (rgB free).size = free.length) (h2 : free.length ≤ 2) : arF xs free = !containsAny (snL xs) free := by
  obtain ⟨a1, a2⟩ := (rg_full free).1 h1
  unfold arF
  rw [decide_eq_true ⟨h2, a1⟩, Bool.true_and, containsAny_iff, Bool.eq_iff_iff, List.all_eq_true, Bool.not_eq_true', List.any_eq_false]
  constructor
  · intro h c hc hd
    have h3 := h c (by simpa using hd)
    rw [Bool.and_eq_true, decide_eq_true_eq, decide_eq_true_eq] at h3
    exact h3.2 hc
  · intro h c hc
    rw [Bool.and_eq_true, decide_eq_true_eq, decide_eq_true_eq]
    exact ⟨a2 c hc, fun hm => h c hm (by simpa using hc)⟩
theorem ar_no1 {xs : List St} {free : List UInt8} (h1 : (rgB free).size ≠ free.length) : arF xs free = false := by
  cases h : arF xs free with
  | false => rfl
  | true =>
    unfold arF at h
    rw [Bool.and_eq_true, decide_eq_true_eq, List.all_eq_true] at h
    refine absurd ((rg_full free).2 ⟨h.1.2, fun c hc => ?_⟩) h1
    have := h.2 c hc
    rw [Bool.and_eq_true, decide_eq_true_eq] at this
    exact this.1
theorem ar_no2 {xs : List St} {free : List UInt8} (h1 : ¬ free.length ≤ 2) : arF xs free = false := by
  unfold arF; rw [decide_eq_false (fun h => h1 h.1)]; rfl
theorem regs_ascii {c : UInt8} (h : c ∈ regsL) : c.toNat < 128 := by
  simp only [regsL, List.mem_cons, List.not_mem_nil, or_false] at h
  rcases h with rfl | rfl | rfl | rfl | rfl | rfl <;> decide
theorem cells_ascii {c : UInt8} (h : c ∈ cellsL) : c.toNat < 128 := by
  simp only [cellsL, List.mem_cons, List.not_mem_nil, or_false] at h
  rcases h with rfl | rfl | rfl | rfl | rfl | rfl | rfl | rfl | rfl | rfl | rfl <;> decide
theorem okC_ascii {a : ByteArray} (h : okC a = true) : ∀ c ∈ a.data.toList, c.toNat < 128 := by
  obtain ⟨d, rfl⟩ := one_of_size (okC_size h)
  intro c hc
  have : c = d := by simpa using hc
  subst this
  unfold okC at h
  rw [Bool.or_eq_true] at h
  rcases h with h | h
  · exact cells_ascii (by simpa [isC] using h)
  · have h2 : 48 ≤ c.toNat ∧ c.toNat ≤ 57 := by simpa [isD] using h
    omega
theorem isC_okC {a : ByteArray} (h : isC a = true) : okC a = true := by unfold okC; rw [h]; rfl
theorem ok_okC {x : St} (h : stOk x = true) : okC x.2.1 = true ∧ okC x.2.2 = true := by
  obtain ⟨k, a, b⟩ := x
  rcases stOk_kind h with rfl | rfl
  · exact ⟨isC_okC (stOk_move h).1, (stOk_move h).2⟩
  · exact ⟨isC_okC (stOk_swap h).1, isC_okC (stOk_swap h).2⟩
theorem nm_ascii {xs : List St} (h : svalid xs = true) : ∀ c ∈ snL xs, c.toNat < 128 := by
  intro c hc
  unfold snL at hc
  obtain ⟨x, hx, hc⟩ := List.mem_flatMap.1 hc
  have h2 := ok_okC (sv_mem h x hx)
  rw [snB, ByteArray.data_append, Array.toList_append, List.mem_append] at hc
  rcases hc with hc | hc
  · exact okC_ascii h2.1 c hc
  · exact okC_ascii h2.2 c hc
theorem free_ascii {free : List UInt8} (h1 : (rgB free).size = free.length) : ∀ c ∈ free, c.toNat < 128 := fun c hc => regs_ascii (((rg_full free).1 h1).2 c hc)
/-- names -/
theorem frN_size {free : List UInt8} {a : ByteArray} (h : a.size = 1) : (frN free a).size = 1 := by
  unfold frN
  split
  · rfl
  · split
    · rfl
    · exact h
theorem frN_t {free : List UInt8} (h : 0 < free.length) : frN free ⟨#[116]⟩ = ⟨#[free.getD 0 0]⟩ := if_pos ⟨rfl, h⟩
theorem frN_t0 {free : List UInt8} (h : ¬ 0 < free.length) : frN free ⟨#[116]⟩ = ⟨#[116]⟩ := by
  unfold frN
  rw [if_neg (fun h2 => h h2.2), if_neg (fun h2 => by have := h2.2; omega)]
theorem frN_u {free : List UInt8} (h : 1 < free.length) : frN free spU = ⟨#[free.getD 1 0]⟩ := by
  unfold frN
  rw [if_neg (fun h2 => by have := h2.1; revert this; decide), if_pos ⟨rfl, h⟩]
theorem frN_u0 {free : List UInt8} (h : ¬ 1 < free.length) : frN free spU = spU := by
  unfold frN
  rw [if_neg (fun h2 => by have := h2.1; revert this; decide), if_neg (fun h2 => h h2.2)]
theorem frN_other {free : List UInt8} {a : ByteArray} (h1 : a ≠ ⟨#[116]⟩) (h2 : a ≠ spU) : frN free a = a := by
  unfold frN
  rw [if_neg (fun h => h1 h.1), if_neg (fun h => h2 h.1)]
theorem frS_yes {xs : List St} {free : List UInt8} (h : frOk xs free = true) : frS xs free = xs.map (frX free) := if_pos h
theorem frS_no {xs : List St} {free : List UInt8} (h : frOk xs free = false) : frS xs free = [] := by unfold frS; rw [h]; rfl
end Go.PD
