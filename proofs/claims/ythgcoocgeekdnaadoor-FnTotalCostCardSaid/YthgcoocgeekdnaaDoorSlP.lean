import Derived.Test.YthgcoocgeekdnaaDoorTouch
namespace Go.PD
open Go.PM Go.RowKit Go.Lib

def slotsL : List UInt8 := [65, 66, 67]
def slB (s : ByteArray) : Bool := match s.data.toList with
  | [c] => decide (c ∈ slotsL)
  | _ => false
theorem slB_one (c : UInt8) : slB ⟨#[c]⟩ = decide (c ∈ slotsL) := rfl
theorem slB_size {s : ByteArray} (h : slB s = true) : s.size = 1 := by
  unfold slB at h; split at h
  · next c hc => rw [← size_data, hc]; rfl
  · cases h
theorem slB_no {s : ByteArray} (h : s.size ≠ 1) : slB s = false := by
  cases hs : slB s with
  | false => rfl
  | true => exact absurd (slB_size hs) h
theorem slB_isC {s : ByteArray} (h : slB s = true) : isC s = true := by
  obtain ⟨c, rfl⟩ := one_of_size (slB_size h)
  have h2 : c ∈ slotsL := by simpa [slB] using h
  simp only [slotsL, List.mem_cons, List.not_mem_nil, or_false] at h2
  rcases h2 with rfl | rfl | rfl <;> decide +kernel
def slN (s : ByteArray) : Nat := if slB s then 1 else 0
theorem slN_le (s : ByteArray) : slN s ≤ 1 := by unfold slN; split <;> omega
abbrev spU : ByteArray := ⟨#[117]⟩
theorem slB_u : slB spU = false := by decide +kernel
theorem isC_u : isC spU = true := by decide +kernel
/-- a step from a slot to a slot, or a swap of a slot -/
def far (x : St) : Bool := if x.1 = 1 then slB x.2.1 || slB x.2.2 else slB x.2.1 && slB x.2.2
theorem far_swap (a b : ByteArray) : far (1, a, b) = (slB a || slB b) := if_pos rfl
theorem far_move (k : Int) (a b : ByteArray) (h : ¬ k = 1) : far (k, a, b) = (slB a && slB b) := if_neg h
def dirB (s : List St) : Bool := svalid s && s.all fun x => !far x
def two (x : St) : List St := if far x then [(0, spU, x.2.2), (0, x.2.1, spU)] else [x]
def mkD (s : List St) : List St := s.flatMap two
theorem two_far {x : St} (h : far x = true) : two x = [(0, spU, x.2.2), (0, x.2.1, spU)] := if_pos h
theorem two_near {x : St} (h : far x = false) : two x = [x] := by unfold two; rw [h]; rfl
theorem two_len (x : St) : 1 ≤ (two x).length ∧ (two x).length ≤ 2 := by unfold two; split <;> simp
theorem mkD_nil : mkD [] = [] := rfl
theorem mkD_snoc (s : List St) (x : St) : mkD (s ++ [x]) = mkD s ++ two x := by simp [mkD]
theorem mkD_take (s : List St) (k : Nat) (hk : k < s.length) : mkD (s.take (k + 1)) = mkD (s.take k) ++ two s[k] := by
  rw [take_snoc s k hk, mkD_snoc]
theorem mkD_len (s : List St) : s.length ≤ (mkD s).length ∧ (mkD s).length ≤ 2 * s.length := by
  induction s with
  | nil => simp [mkD]
  | cons x s ih =>
    have := two_len x
    have e : mkD (x :: s) = two x ++ mkD s := by simp [mkD]
    rw [e, List.length_append, List.length_cons]; omega
theorem mkD_takeLen (s : List St) (k : Nat) : (mkD (s.take k)).length ≤ 2 * s.length := by
  have h1 := (mkD_len (s.take k)).2
  have h2 : (s.take k).length ≤ s.length := by rw [List.length_take]; omega
  omega
theorem mkD_pre (s : List St) (k : Nat) : mkD (s.take k) <+: mkD s :=
  ⟨mkD (s.drop k), by rw [mkD, mkD, mkD, ← List.flatMap_append, List.take_append_drop]⟩
/-- the names To and From of all steps -/
def snB (x : St) : ByteArray := x.2.1 ++ x.2.2
def snL (xs : List St) : List UInt8 := xs.flatMap fun x => (snB x).data.toList
def snT (xs : List St) : ByteArray := ⟨(snL xs).toArray⟩
theorem snT_list (xs : List St) : (snT xs).data.toList = snL xs := by simp [snT]
theorem snT_step (xs : List St) (k : Nat) (hk : k < xs.length) : snT (xs.take k) ++ snB xs[k] = snT (xs.take (k + 1)) := by
  apply ByteArray.ext
  rw [ByteArray.data_append, snT, snT, take_snoc xs k hk]
  unfold snL
  rw [List.flatMap_append]
  simp
theorem okC_size1 {a : ByteArray} (h : okC a = true) : a.size = 1 := okC_size h
theorem ok_sizes {x : St} (h : stOk x = true) : x.2.1.size = 1 ∧ x.2.2.size = 1 := by
  obtain ⟨k, a, b⟩ := x
  rcases stOk_kind h with rfl | rfl
  · exact ⟨isC_size (stOk_move h).1, okC_size (stOk_move h).2⟩
  · exact ⟨isC_size (stOk_swap h).1, isC_size (stOk_swap h).2⟩
theorem snB_size {x : St} (h : stOk x = true) : (snB x).size = 2 := by
  have := ok_sizes h
  unfold snB; rw [ByteArray.size_append]; omega
theorem snT_size {xs : List St} (h : svalid xs = true) (k : Nat) : (snT (xs.take k)).size ≤ 2 * k := by
  induction k with
  | zero => exact Nat.le_refl _
  | succ k ih =>
    by_cases hk : k < xs.length
    · rw [← snT_step xs k hk, ByteArray.size_append]
      have := snB_size (svalid_at h k hk)
      omega
    · rw [List.take_of_length_le (by omega)] at ih ⊢
      omega
theorem snT_full (xs : List St) : snT (xs.take xs.length) = snT xs := by rw [List.take_length]
theorem mem_c {a : ByteArray} (h : a.size = 1) (c : UInt8) : c ∈ a.data.toList ↔ a = ⟨#[c]⟩ := by
  obtain ⟨d, rfl⟩ := one_of_size h
  constructor
  · intro h'; simp at h'; rw [h']
  · intro h'
    have := congrArg (fun s : ByteArray => s.data.toList) h'
    simp at this; simp [this]
theorem snL_mem {xs : List St} (h : ∀ x ∈ xs, stOk x = true) (c : UInt8) : c ∈ snL xs ↔ ∃ x ∈ xs, x.2.1 = ⟨#[c]⟩ ∨ x.2.2 = ⟨#[c]⟩ := by
  unfold snL
  rw [List.mem_flatMap]
  constructor
  · rintro ⟨x, hx, hc⟩
    have hs := ok_sizes (h x hx)
    rw [snB, ByteArray.data_append, Array.toList_append, List.mem_append, mem_c hs.1, mem_c hs.2] at hc
    exact ⟨x, hx, hc⟩
  · rintro ⟨x, hx, hc⟩
    have hs := ok_sizes (h x hx)
    refine ⟨x, hx, ?_⟩
    rw [snB, ByteArray.data_append, Array.toList_append, List.mem_append, mem_c hs.1, mem_c hs.2]
    exact hc
theorem sv_mem {xs : List St} (h : svalid xs = true) : ∀ x ∈ xs, stOk x = true := fun x hx => by
  obtain ⟨k, hk, rfl⟩ := List.getElem_of_mem hx
  exact svalid_at h k hk
def hasU (xs : List St) : Bool := decide ((117 : UInt8) ∈ snL xs)
/-- a swap of a slot -/
def swF (x : St) : Bool := decide (x.1 = 1) && far x
def mdB (xs : List St) : Bool := svalid xs && (!hasU xs && (!xs.any swF && decide ((mkD xs).length ≤ 60)))
def mdS (xs : List St) : List St := if mdB xs then mkD xs else []
theorem mdS_yes {xs : List St} (h : mdB xs = true) : mdS xs = mkD xs := if_pos h
theorem mdS_no {xs : List St} (h : mdB xs = false) : mdS xs = [] := by unfold mdS; rw [h]; rfl
/-- what the specification looks for -/
def badX (x : St) : Bool := swF x || (decide (x.2.1 = spU) || decide (x.2.2 = spU))
theorem bad_no {xs : List St} (k : Nat) (hk : k < xs.length) (h : badX xs[k] = true) : mdB xs = false := by
  cases hv : svalid xs with
  | false => unfold mdB; rw [hv]; rfl
  | true =>
    have hm : xs[k] ∈ xs := List.getElem_mem hk
    unfold badX at h
    rw [Bool.or_eq_true] at h
    rcases h with h | h
    · have : xs.any swF = true := List.any_eq_true.2 ⟨_, hm, h⟩
      unfold mdB; rw [this]; simp
    · have : hasU xs = true := by
        unfold hasU
        rw [decide_eq_true_eq, snL_mem (sv_mem hv)]
        refine ⟨_, hm, ?_⟩
        simpa using h
      unfold mdB; rw [this]; simp
theorem good_flags {xs : List St} (hv : svalid xs = true) (h : ∀ x ∈ xs, badX x = false) : hasU xs = false ∧ xs.any swF = false := by
  constructor
  · unfold hasU
    rw [decide_eq_false_iff_not, snL_mem (sv_mem hv)]
    rintro ⟨x, hx, e⟩
    have h2 := h x hx
    unfold badX at h2
    rw [Bool.or_eq_false_iff, Bool.or_eq_false_iff, decide_eq_false_iff_not, decide_eq_false_iff_not] at h2
    rcases e with e | e
    · exact h2.2.1 e
    · exact h2.2.2 e
  · rw [List.any_eq_false]
    intro x hx
    have h2 := h x hx
    unfold badX at h2
    rw [Bool.or_eq_false_iff] at h2
    rw [h2.1]; decide
theorem two_ok {x : St} (h : stOk x = true) : ∀ y ∈ two x, stOk y = true := by
  intro y hy
  cases hf : far x with
  | false => rw [two_near hf, List.mem_singleton] at hy; rw [hy]; exact h
  | true =>
    rw [two_far hf] at hy
    have hs : swF x = true ∨ (slB x.2.1 = true ∧ slB x.2.2 = true) := by
      unfold far at hf
      split at hf
      · next h1 => exact .inl (by unfold swF far; rw [if_pos h1, hf, decide_eq_true h1]; rfl)
      · rw [Bool.and_eq_true] at hf; exact .inr hf
    obtain ⟨k, a, b⟩ := x
    simp only [List.mem_cons, List.not_mem_nil, or_false] at hy
    have hb : isC b = true ∨ isD b = true := by
      rcases stOk_kind h with rfl | rfl
      · have := (stOk_move h).2
        unfold okC at this; simpa using this
      · exact .inl (stOk_swap h).2
    have ha : isC a = true := by
      rcases stOk_kind h with rfl | rfl
      · exact (stOk_move h).1
      · exact (stOk_swap h).1
    rcases hy with rfl | rfl
    · unfold stOk
      simp only [isC_u, Bool.true_and]
      rcases hb with hb | hb <;> simp [hb]
    · unfold stOk
      simp [ha, isC_u]
theorem mkD_ok {xs : List St} (h : ∀ x ∈ xs, stOk x = true) : ∀ y ∈ mkD xs, stOk y = true := by
  intro y hy
  unfold mkD at hy
  obtain ⟨x, hx, hy⟩ := List.mem_flatMap.1 hy
  exact two_ok (h x hx) y hy
theorem mkD_valid {xs : List St} (hv : svalid xs = true) : svalid (mkD xs) = decide ((mkD xs).length ≤ 60) :=
  svalid_all fun _k hk => mkD_ok (sv_mem hv) _ (List.getElem_mem hk)
theorem md_good {xs : List St} (h : ∀ x ∈ xs, badX x = false) : mdB xs = (svalid xs && svalid (mkD xs)) := by
  cases hv : svalid xs with
  | false => unfold mdB; rw [hv]; rfl
  | true =>
    obtain ⟨h1, h2⟩ := good_flags hv h
    unfold mdB; rw [hv, h1, h2, mkD_valid hv]; rfl
/-- what the program's tests make of it -/
theorem md_im {xs : List St} (hv : svalid xs = true) (hu : hasU xs = false) (hs : xs.any swF = false) : mdB xs = decide ((mkD xs).length ≤ 60) := by
  unfold mdB; rw [hv, hu, hs]; rfl
theorem md_hasU {xs : List St} (h : hasU xs = true) : mdB xs = false := by unfold mdB; rw [h]; simp
theorem md_swF {xs : List St} (h : xs.any swF = true) : mdB xs = false := by unfold mdB; rw [h]; simp
theorem md_inv {xs : List St} (h : svalid xs = false) : mdB xs = false := by unfold mdB; rw [h]; rfl
theorem dir_inv {xs : List St} (h : svalid xs = false) : dirB xs = false := by unfold dirB; rw [h]; rfl
theorem dir_far {xs : List St} (k : Nat) (hk : k < xs.length) (h : far xs[k] = true) : dirB xs = false := by
  have : (xs.all fun x => !far x) = false := List.all_eq_false.2 ⟨_, List.getElem_mem hk, by rw [h]; decide⟩
  unfold dirB; rw [this, Bool.and_false]
theorem dir_all {xs : List St} (h : ∀ k (hk : k < xs.length), far xs[k] = false) : dirB xs = svalid xs := by
  have : (xs.all fun x => !far x) = true := List.all_eq_true.2 fun x hx => by
    obtain ⟨k, hk, rfl⟩ := List.getElem_of_mem hx
    rw [h k hk]; rfl
  unfold dirB; rw [this, Bool.and_true]
/-- the kind of a step that is made direct -/
theorem far_kind {x : St} (hv : stOk x = true) (hs : swF x = false) (hf : far x = true) : x.1 = 0 := by
  obtain ⟨k, a, b⟩ := x
  rcases stOk_kind hv with h | h
  · exact h
  · unfold swF at hs; rw [hf, decide_eq_true (show ((k, a, b) : St).1 = 1 from h)] at hs; cases hs
/-- values that a step reads from slots, and writes to them -/
def trR (x : St) : Nat := if x.1 = 1 then slN x.2.1 + slN x.2.2 else slN x.2.2
def trW (x : St) : Nat := if x.1 = 1 then slN x.2.1 + slN x.2.2 else slN x.2.1
theorem trR_swap (a b : ByteArray) : trR (1, a, b) = slN a + slN b := if_pos rfl
theorem trW_swap (a b : ByteArray) : trW (1, a, b) = slN a + slN b := if_pos rfl
theorem trR_move (k : Int) (a b : ByteArray) (h : ¬ k = 1) : trR (k, a, b) = slN b := if_neg h
theorem trW_move (k : Int) (a b : ByteArray) (h : ¬ k = 1) : trW (k, a, b) = slN a := if_neg h
theorem tr_le (x : St) : trR x ≤ 2 ∧ trW x ≤ 2 := by
  have h1 := slN_le x.2.1
  have h2 := slN_le x.2.2
  unfold trR trW; split <;> omega
def trS (f : St → Nat) (xs : List St) : Nat := (xs.map f).sum
theorem trS_succ (f : St → Nat) (xs : List St) (k : Nat) (hk : k < xs.length) : trS f (xs.take (k + 1)) = trS f (xs.take k) + f xs[k] := by
  unfold trS; rw [take_snoc xs k hk, List.map_append, List.sum_append]; simp
theorem trS_le (f : St → Nat) (hf : ∀ x, f x ≤ 2) (xs : List St) (k : Nat) : trS f (xs.take k) ≤ 2 * k := by
  induction k with
  | zero => simp [trS]
  | succ k ih =>
    by_cases hk : k < xs.length
    · rw [trS_succ f xs k hk]; have := hf xs[k]; omega
    · rw [List.take_of_length_le (by omega)] at ih ⊢; omega
def okN (b : Bool) (n : Nat) : Int := if b then (n : Int) else 0
/-- the places that stand for spare ones -/
def frN (free : List UInt8) (a : ByteArray) : ByteArray := if a = ⟨#[116]⟩ ∧ 0 < free.length then ⟨#[free.getD 0 0]⟩ else if a = spU ∧ 1 < free.length then ⟨#[free.getD 1 0]⟩ else a
def regsL : List UInt8 := [97, 98, 99, 100, 101, 102]
def frOk (xs : List St) (free : List UInt8) : Bool := svalid xs && (decide (free.length ≤ 2 ∧ free.Nodup) && free.all fun c => decide (c ∈ regsL) && decide (c ∉ snL xs))
def frX (free : List UInt8) (x : St) : St := (x.1, frN free x.2.1, frN free x.2.2)
def frS (xs : List St) (free : List UInt8) : List St := if frOk xs free then xs.map (frX free) else []
end Go.PD
