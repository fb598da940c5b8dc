import Derived.Test.YtinggcjjdgibbabDoorParse
import Derived.Test.YtinggcjjdgibbabDoorFormat
namespace Go.PM
open Go.RowKit
/- a text is its pieces with the separator between them, and the pieces of such a text are these -/
theorem pcsL_join (c : UInt8) (l : List UInt8) : Lib.join (pcsL c l) [c] = l ∧ pcsL c l ≠ [] := by
  induction l with
  | nil => exact ⟨rfl, by simp [pcsL]⟩
  | cons b l ih =>
    obtain ⟨h1, h2⟩ := ih
    rw [pcsL]
    by_cases e : b = c
    · rw [if_pos e]
      refine ⟨?_, by simp⟩
      subst e
      cases hp : pcsL b l with
      | nil => exact absurd hp h2
      | cons p ps =>
        rw [hp] at h1
        have e2 : Lib.join ([] :: p :: ps) [b] = b :: Lib.join (p :: ps) [b] := by
          rw [Lib.join_cons, Lib.join_cons]; simp [Lib.joinTail]
        rw [e2, h1]
    · rw [if_neg e]
      cases hp : pcsL c l with
      | nil => exact absurd hp h2
      | cons p ps =>
        rw [hp] at h1
        refine ⟨?_, by simp⟩
        show Lib.join ((b :: p) :: ps) [c] = b :: l
        rw [Lib.join_cons] at h1 ⊢
        rw [List.cons_append, h1]
theorem pcsL_of_join (c : UInt8) : ∀ ps : List (List UInt8), ps ≠ [] → (∀ p ∈ ps, c ∉ p) → pcsL c (Lib.join ps [c]) = ps
  | [], h, _ => absurd rfl h
  | [p], _, h => by
    rw [Lib.join_one]
    exact pcsL_none c p (h p (by simp))
  | p :: q :: r, _, h => by
    have ih := pcsL_of_join c (q :: r) (by simp) (fun x hx => h x (List.mem_cons_of_mem _ hx))
    have e : Lib.join (p :: q :: r) [c] = p ++ c :: Lib.join (q :: r) [c] := by
      rw [Lib.join_cons, Lib.join_cons]; simp [Lib.joinTail]
    rw [e, pcsL_some c _ _ (h p (by simp)), ih]
theorem isS_byte {s : ByteArray} (h : isS s = true) : ∃ c, s = ⟨#[c]⟩ ∧ c ≠ 44 ∧ c ≠ 61 ∧ c ≠ 45 := by
  obtain ⟨c, rfl⟩ := one_of_size (isS_size h)
  refine ⟨c, rfl, ?_, ?_, ?_⟩ <;>
  · rintro rfl
    revert h
    decide +kernel
theorem mok_size {m : Mv} (h : mok m = true) : m.1.size = 1 ∧ m.2.size = 1 := by
  unfold mok at h; rw [Bool.and_eq_true] at h
  exact ⟨isP_size h.1, isS_size h.2⟩
theorem mok_part {m : Mv} (h : mok m = true) : ∃ a c, m = (⟨#[a]⟩, ⟨#[c]⟩) ∧ part m = [a, 61, c] ∧ a ≠ 44 ∧ c ≠ 44 := by
  unfold mok at h; rw [Bool.and_eq_true] at h
  obtain ⟨a, ha, a1, a2, a3⟩ := isS_byte (s := m.1) (by unfold isS; rw [h.1]; rfl)
  obtain ⟨c, hc, c1, c2, c3⟩ := isS_byte h.2
  exact ⟨a, c, Prod.ext ha hc, by unfold part; rw [ha, hc]; rfl, a1, c1⟩
theorem fmtL_pcs {xs : List Mv} (h : MV xs) (hne : xs ≠ []) : pcsL 44 (fmtL xs) = xs.map part := by
  unfold fmtL
  refine pcsL_of_join 44 _ (by simpa using hne) ?_
  intro p hp
  obtain ⟨m, hm, rfl⟩ := List.mem_map.1 hp
  obtain ⟨a, c, _, e, a1, c1⟩ := mok_part (h.1 m hm)
  rw [e]
  simp [Ne.symm a1, Ne.symm c1]
theorem fmt_cut {xs : List Mv} (h : MV xs) (hne : xs ≠ []) : cutP (fmtB xs) 44 = xs.map fun m => mkB (part m) := by
  rw [cutP_pcs, fmtB_some (by simpa [mvalid] using h) hne]
  unfold pcsB
  show (pcsL 44 (fmtL xs)).map mkB = _
  rw [fmtL_pcs h hne, List.map_map]
  rfl
theorem pM_part {m : Mv} (h : mok m = true) : pOk (mkB (part m)) = true ∧ pM (mkB (part m)) = m := by
  obtain ⟨a, c, rfl, e, _, _⟩ := mok_part h
  rw [e]
  exact ⟨rfl, rfl⟩
theorem fmt_prsL {xs : List Mv} (h : MV xs) (hne : xs ≠ []) : prsL (fmtB xs) = xs ∧ (cutP (fmtB xs) 44).all pOk = true := by
  unfold prsL
  rw [fmt_cut h hne]
  constructor
  · rw [List.map_map]
    conv => rhs; rw [← List.map_id xs]
    exact List.map_congr_left fun m hm => (pM_part (h.1 m hm)).2
  · rw [List.all_eq_true]
    intro x hx
    obtain ⟨m, hm, rfl⟩ := List.mem_map.1 hx
    exact (pM_part (h.1 m hm)).1
theorem fmt_dash {xs : List Mv} (h : MV xs) (hne : xs ≠ []) : ¬ fmtB xs = ⟨#[45]⟩ := by
  intro e
  have h2 := (fmt_prsL h hne).2
  rw [e] at h2
  revert h2
  decide +kernel
/-- a list of moves comes back from its text -/
theorem prs_fmt (xs : List Mv) : prsOk (fmtB xs) = mvalid xs ∧ (mvalid xs = true → prsM (fmtB xs) = xs) := by
  cases hm : mvalid xs with
  | false =>
    rw [fmtB_no hm]
    exact ⟨by decide +kernel, fun h => by cases h⟩
  | true =>
    have h : MV xs := by simpa [mvalid] using hm
    by_cases hne : xs = []
    · subst hne
      exact ⟨by decide +kernel, fun _ => by decide +kernel⟩
    · obtain ⟨h1, h2⟩ := fmt_prsL h hne
      have h3 := fmt_dash h hne
      unfold prsOk prsM
      rw [h1, h2, hm, if_neg h3]
      simp
theorem pOk_part {x : ByteArray} (h : pOk x = true) : part (pM x) = x.data.toList := by
  by_cases h3 : x.size = 3
  · obtain ⟨a, b, c, rfl⟩ := three_of_size h3
    have : b = 61 := by simpa [pOk] using h
    subst this
    rfl
  · rw [pOk_size h3] at h; cases h
/-- a text that parses is the text of what it gives -/
theorem fmt_prs {t : ByteArray} (h : prsOk t = true) : fmtB (prsM t) = t := by
  by_cases h0 : t = ⟨#[45]⟩
  · subst h0
    decide +kernel
  · unfold prsOk at h
    rw [decide_eq_false h0, Bool.false_or] at h
    have hM : prsM t = prsL t := by unfold prsM; rw [if_neg h0, if_pos h]
    rw [Bool.and_eq_true] at h
    rw [hM]
    have hL : prsL t ≠ [] := by
      unfold prsL
      rw [cutP_pcs]
      unfold pcsB
      have := (pcsL_join 44 t.data.toList).2
      simpa using this
    rw [fmtB_some h.2 hL]
    have e : fmtL (prsL t) = t.data.toList := by
      have hj := (pcsL_join 44 t.data.toList).1
      unfold fmtL prsL
      have : ((cutP t 44).map pM).map part = pcsL 44 t.data.toList := by
        have h1 := h.1
        rw [cutP_pcs] at h1 ⊢
        unfold pcsB at h1 ⊢
        rw [List.map_map, List.map_map]
        conv => rhs; rw [← List.map_id (pcsL 44 t.data.toList)]
        refine List.map_congr_left fun p hp => ?_
        have h2 := List.all_eq_true.1 h1 (mkB p) (List.mem_map.2 ⟨p, hp, rfl⟩)
        exact pOk_part h2
      rw [this]; exact hj
    rw [e]
theorem fmtB_size {xs : List Mv} (hl : xs.length ≤ 65) (hz : ∀ m ∈ xs, m.1.size ≤ 64 ∧ m.2.size ≤ 64) : (fmtB xs).size ≤ 20000 := by
  have h2 : ∀ ys : List Mv, (∀ m ∈ ys, m.1.size ≤ 64 ∧ m.2.size ≤ 64) → msize ys ≤ 140 * ys.length := by
    intro ys hy
    induction ys with
    | nil => exact Nat.le_refl 0
    | cons y r ih =>
      have h1 := hy y (by simp)
      have h2 := ih (fun m hm => hy m (by simp [hm]))
      simp only [msize, List.length_cons]
      omega
  have h3 := h2 xs hz
  have h4 := fmtL_len xs
  unfold fmtB
  split
  · split
    · first | done | decide
    · show (fmtL xs).toArray.size ≤ _
      simp only [List.size_toArray]
      omega
  · decide
theorem msize_short {xs : List Mv} (hl : xs.length ≤ 65) (hz : ∀ m ∈ xs, m.1.size ≤ 64 ∧ m.2.size ≤ 64) : msize xs ≤ 10000 := by
  have h2 : ∀ ys : List Mv, (∀ m ∈ ys, m.1.size ≤ 64 ∧ m.2.size ≤ 64) → msize ys ≤ 140 * ys.length := by
    intro ys hy
    induction ys with
    | nil => exact Nat.le_refl 0
    | cons y r ih =>
      have h1 := hy y (by simp)
      have h2 := ih (fun m hm => hy m (by simp [hm]))
      simp only [msize, List.length_cons]
      omega
  have h3 := h2 xs hz
  omega
theorem fmtB_pos {xs : List Mv} (h : MV xs) : 1 ≤ (fmtB xs).size := by
  by_cases hne : xs = []
  · rw [fmtB_none (by simpa [mvalid] using h) hne]; exact Nat.le_refl 1
  · rw [fmtB_some (by simpa [mvalid] using h) hne]
    have := fmtL_pos xs hne
    show 1 ≤ (fmtL xs).toArray.size
    simp only [List.size_toArray]
    exact List.length_pos_iff.2 this
end Go.PM
