import Derived.Test.YtplapaojgcloaaaGreatDoorSlP
import Derived.Lib.TrailingZeros
namespace Go.PE
open Go.PM Go.PD Go.RowKit Go.Lib

/-- the number whose bits below k are a predicate's -/
def bitN (S : Nat → Bool) : Nat → Nat
  | 0 => 0
  | k + 1 => bitN S k ||| (if S k then 1 <<< k else 0)
theorem bitN_test (S : Nat → Bool) (k p : Nat) : (bitN S k).testBit p = (decide (p < k) && S p) := by
  induction k with
  | zero => simp [bitN]
  | succ k ih =>
    rw [bitN, Nat.testBit_or, ih]
    by_cases hp : p = k
    · subst hp
      cases h : S p with
      | true => simp
      | false => simp
    · have h2 : (if S k = true then 1 <<< k else 0).testBit p = false := by
        split
        · rw [Nat.one_shiftLeft, Nat.testBit_two_pow]; simp; omega
        · simp
      rw [h2, Bool.or_false]
      congr 1
      rw [decide_eq_decide]; omega
theorem bitN_lt (S : Nat → Bool) (k : Nat) : bitN S k < 2 ^ k := by
  refine Nat.lt_pow_two_of_testBit _ fun i hi => ?_
  rw [bitN_test, decide_eq_false (by omega)]; rfl
theorem lt_test {n k p : Nat} (h : n < 2 ^ k) (hp : k ≤ p) : n.testBit p = false :=
  Nat.testBit_lt_two_pow (Nat.lt_of_lt_of_le h (Nat.pow_le_pow_right (by decide) hp))
theorem eq_bits {m n k : Nat} (hm : m < 2 ^ k) (hn : n < 2 ^ k) (h : ∀ p, p < k → m.testBit p = n.testBit p) : m = n := by
  refine Nat.eq_of_testBit_eq fun p => ?_
  by_cases hp : p < k
  · exact h p hp
  · rw [lt_test hm (by omega), lt_test hn (by omega)]
/-- the cells of a text, and of a set their names -/
def stN (t : List UInt8) : Nat := bitN (inTx cellsL t) 11
def elN (n : Nat) : List Nat := (List.range 11).filter n.testBit
def nmN (n : Nat) : ByteArray := pickB cellsL n.testBit 11
theorem stN_lt (t : List UInt8) : stN t < 2048 := bitN_lt _ 11
theorem stN_test (t : List UInt8) (p : Nat) : (stN t).testBit p = (decide (p < 11) && inTx cellsL t p) := bitN_test _ _ _
theorem stN_nil : stN [] = 0 := by decide +kernel
theorem cells_inj : ∀ p, p < 11 → ∀ q, q < 11 → cellsL.getD p 0 = cellsL.getD q 0 → p = q := by decide +kernel
theorem inTx_one {c : UInt8} (h : c ∈ cellsL) {p : Nat} (hp : p < 11) : decide (cellsL.getD p 0 = c) = decide (cidx ⟨#[c]⟩ = p) := by
  obtain ⟨_, h2, h3⟩ := cidx_one h
  rw [decide_eq_decide]
  constructor
  · intro e; exact (cells_inj _ h2 _ hp (h3.trans e.symm))
  · intro e; rw [← e, h3]
theorem stN_snoc (t : List UInt8) (c : UInt8) : stN (t ++ [c]) = if c ∈ cellsL then stN t ||| 1 <<< cidx ⟨#[c]⟩ else stN t := by
  refine eq_bits (k := 11) (stN_lt _) ?_ fun p hp => ?_
  · split
    · next h => exact Nat.or_lt_two_pow (stN_lt _) (by rw [Nat.one_shiftLeft]; exact Nat.pow_lt_pow_right (by decide) (cidx_one h).2.1)
    · exact stN_lt _
  · have e : inTx cellsL (t ++ [c]) p = (inTx cellsL t p || decide (cellsL.getD p 0 = c)) := by
      unfold inTx
      simp only [List.mem_append, List.mem_singleton, Bool.decide_or]
    rw [stN_test, decide_eq_true hp, Bool.true_and, e]
    split
    · next h =>
      rw [Nat.testBit_or, stN_test, decide_eq_true hp, Bool.true_and, Nat.one_shiftLeft, Nat.testBit_two_pow, inTx_one h hp]
    · next h =>
      have : cellsL.getD p 0 ≠ c := fun e => h (by
        rw [← e, List.getD_eq_getElem?_getD, List.getElem?_eq_getElem (show p < cellsL.length from hp)]
        exact List.getElem_mem (show p < cellsL.length from hp))
      rw [stN_test, decide_eq_true hp, Bool.true_and, decide_eq_false this, Bool.or_false]
theorem stN_one {c : UInt8} (h : c ∈ cellsL) : stN [c] = 1 <<< cidx ⟨#[c]⟩ := by
  have := stN_snoc [] c
  rw [if_pos h, stN_nil, Nat.zero_or] at this
  exact this
theorem stN_no {c : UInt8} (h : c ∉ cellsL) : stN [c] = 0 := by
  have := stN_snoc [] c
  rw [if_neg h, stN_nil] at this
  exact this
/-- the least element of a set, and what is left -/
theorem el_step : ∀ n, n < 2048 → n ≠ 0 → elN n = ctz 64 n :: elN (n &&& (n - 1)) ∧ ctz 64 n < 11 := by decide +kernel
theorem el_zero : elN 0 = [] := by decide +kernel
theorem el_lt {n p : Nat} (h : p ∈ elN n) : p < 11 := by
  unfold elN at h; rw [List.mem_filter, List.mem_range] at h; exact h.1
theorem el_mem {n p : Nat} : p ∈ elN n ↔ p < 11 ∧ n.testBit p = true := by
  unfold elN; rw [List.mem_filter, List.mem_range]
theorem el_len (n : Nat) : (elN n).length ≤ 11 := by
  have := List.length_filter_le n.testBit (List.range 11)
  simpa [elN] using this
theorem el_rest {n : Nat} (h : n < 2048) : n &&& (n - 1) < 2048 := Nat.lt_of_le_of_lt Nat.and_le_left h
/-- names of elements one behind the other -/
def nmE (ps : List Nat) : ByteArray := ⟨(ps.map (cellsL.getD · 0)).toArray⟩
theorem nmE_el (n : Nat) : nmE (elN n) = nmN n := rfl
theorem nmE_snoc (ps : List Nat) (p : Nat) : nmE ps ++ ⟨#[cellsL.getD p 0]⟩ = nmE (ps ++ [p]) := by
  apply ByteArray.ext
  rw [ByteArray.data_append]
  simp [nmE]
theorem nmE_size (ps : List Nat) : (nmE ps).size = ps.length := by simp [nmE, ByteArray.size]
theorem pre_el {n : Nat} {ps : List Nat} {p : Nat} (h : ps ++ [p] <+: elN n) : p < 11 ∧ ps.length ≤ 10 ∧ n.testBit p = true := by
  have h1 := h.mem (List.mem_append_right _ (List.mem_singleton_self p))
  have h2 := h.length_le
  have h3 := el_len n
  simp at h2
  exact ⟨el_lt h1, by omega, (el_mem.1 h1).2⟩
/-- places alone -/
def wnN (t : List UInt8) : Nat := stN t &&& 511
theorem t511 (p : Nat) : (511 : Nat).testBit p = decide (p < 9) := by
  by_cases h : p < 9
  · match p, h with
    | 0, _ | 1, _ | 2, _ | 3, _ | 4, _ | 5, _ | 6, _ | 7, _ | 8, _ => decide
  · rw [decide_eq_false h]; exact lt_test (k := 9) (by decide) (by omega)
theorem wnN_lt (t : List UInt8) : wnN t < 512 := Nat.lt_of_le_of_lt Nat.and_le_right (by decide)
theorem wnN_test (t : List UInt8) (p : Nat) : (wnN t).testBit p = (decide (p < 9) && inTx cellsL t p) := by
  unfold wnN
  rw [Nat.testBit_and, stN_test, t511]
  by_cases h : p < 9
  · simp only [decide_eq_true h, decide_eq_true (show p < 11 by omega), Bool.true_and, Bool.and_true]
  · rw [decide_eq_false h, Bool.and_false, Bool.false_and]
theorem pl_cells {p : Nat} (h : p < 9) : placesL.getD p 0 = cellsL.getD p 0 := by
  match p, h with
  | 0, _ | 1, _ | 2, _ | 3, _ | 4, _ | 5, _ | 6, _ | 7, _ | 8, _ => rfl
theorem inTx_pl (t : List UInt8) {p : Nat} (h : p < 9) : inTx placesL t p = inTx cellsL t p := by unfold inTx; rw [pl_cells h]
theorem filter9 {S : Nat → Bool} (h9 : S 9 = false) (h10 : S 10 = false) : (List.range 11).filter S = (List.range 9).filter S := by
  have e : List.range 11 = List.range 9 ++ [9, 10] := by decide
  rw [e, List.filter_append]
  simp [h9, h10]
/-- the names of a set of places -/
theorem nm_places {n : Nat} (h : n < 512) : nmN n = pickB placesL n.testBit 9 := by
  unfold nmN pickB pickL
  rw [filter9 (lt_test (k := 9) h (by omega)) (lt_test (k := 9) h (by omega))]
  congr 2
  refine List.map_congr_left fun p hp => ?_
  exact (pl_cells (List.mem_range.1 (List.mem_filter.1 hp).1)).symm
def srB (t : ByteArray) : ByteArray := pickB placesL (inTx placesL t.data.toList) 9
theorem wn_names (t : ByteArray) : nmN (wnN t.data.toList) = srB t := by
  rw [nm_places (wnN_lt _)]
  unfold srB pickB
  have e : pickL placesL (wnN t.data.toList).testBit 9 = pickL placesL (inTx placesL t.data.toList) 9 := pickL_congr fun p hp => by
    rw [wnN_test, decide_eq_true hp, Bool.true_and]; exact (inTx_pl _ hp).symm
  rw [e]
/-- a text of wanted places -/
def wvB (t : ByteArray) : Bool := decide (srB t = t)
theorem srB_size (t : ByteArray) : (srB t).size ≤ 9 := pickB_size _ _ _
theorem wv_size {t : ByteArray} (h : wvB t = true) : t.size ≤ 9 := by
  unfold wvB at h; rw [decide_eq_true_eq] at h; rw [← h]; exact srB_size t
theorem wv_list {t : ByteArray} (h : wvB t = true) : t.data.toList = (elN (wnN t.data.toList)).map (cellsL.getD · 0) := by
  unfold wvB at h; rw [decide_eq_true_eq] at h
  have h2 := wn_names t
  rw [h] at h2
  have := congrArg (fun s : ByteArray => s.data.toList) h2
  simpa [nmN, pickB, pickL, elN] using this.symm
/-- the wanted places, one by one -/
theorem wv_at {t : ByteArray} (h : wvB t = true) (k : Nat) (hk : k < t.data.toList.length) : ∃ p, p < 9 ∧ t.data.toList[k] = placesL.getD p 0 ∧ (wnN t.data.toList).testBit p = true := by
  have hl := wv_list h
  have h0 : ∀ a, a ∈ t.data.toList → a ∈ (elN (wnN t.data.toList)).map (cellsL.getD · 0) := fun a ha => by rw [← hl]; exact ha
  have h1 := h0 _ (List.getElem_mem hk)
  rw [List.mem_map] at h1
  obtain ⟨p, hp, e⟩ := h1
  have h2 := (el_mem.1 hp).2
  have h3 : p < 9 := by
    rw [wnN_test, Bool.and_eq_true, decide_eq_true_eq] at h2; exact h2.1
  exact ⟨p, h3, by rw [pl_cells h3, e], h2⟩
theorem wv_mem {t : ByteArray} {p : Nat} (hp : p < 9) : (wnN t.data.toList).testBit p = decide (placesL.getD p 0 ∈ t.data.toList) := by
  rw [wnN_test, decide_eq_true hp, Bool.true_and, ← inTx_pl _ hp]; rfl
/-- a set without another one -/
def anN (m n : Nat) : Nat := m &&& (2047 ^^^ (n &&& 2047))
theorem t2047 (p : Nat) : (2047 : Nat).testBit p = decide (p < 11) := by
  by_cases h : p < 11
  · match p, h with
    | 0, _ | 1, _ | 2, _ | 3, _ | 4, _ | 5, _ | 6, _ | 7, _ | 8, _ | 9, _ | 10, _ => decide
  · rw [decide_eq_false h]; exact lt_test (k := 11) (by decide) (by omega)
theorem anN_test {m n p : Nat} (hm : m < 2048) : (anN m n).testBit p = (m.testBit p && !n.testBit p) := by
  unfold anN
  rw [Nat.testBit_and, Nat.testBit_xor, Nat.testBit_and, t2047]
  by_cases h : p < 11
  · rw [decide_eq_true h, Bool.and_true, Bool.true_xor]
  · rw [lt_test (k := 11) hm (by omega), Bool.false_and, Bool.false_and]
theorem anN_lt {m n : Nat} (hm : m < 2048) : anN m n < 2048 := Nat.lt_of_le_of_lt Nat.and_le_left hm
theorem tw_test {i p : Nat} : (1 <<< i : Nat).testBit p = decide (i = p) := by rw [Nat.one_shiftLeft, Nat.testBit_two_pow]
theorem tw_lt {i : Nat} (h : i < 11) : (1 <<< i : Nat) < 2048 := by
  rw [Nat.one_shiftLeft]; exact Nat.pow_lt_pow_right (by decide) (show i < 11 from h)
/-- whether a set has a cell -/
theorem and_tw (n i : Nat) : decide (n &&& 1 <<< i ≠ 0) = n.testBit i := by
  rw [Bool.eq_iff_iff, decide_eq_true_eq]
  constructor
  · intro h
    cases hb : n.testBit i with
    | true => rfl
    | false =>
      refine absurd (Nat.eq_of_testBit_eq fun p => ?_) h
      rw [Nat.testBit_and, tw_test, Nat.zero_testBit]
      by_cases e : i = p
      · rw [← e, hb]; rfl
      · rw [decide_eq_false e, Bool.and_false]
  · intro h e
    have := congrArg (Nat.testBit · i) e
    simp only [Nat.testBit_and, tw_test, decide_true, Bool.and_true, Nat.zero_testBit, h] at this
    cases this
theorem and_or (n i j : Nat) : decide (n &&& (1 <<< i ||| 1 <<< j) ≠ 0) = (n.testBit i || n.testBit j) := by
  rw [Nat.and_or_distrib_left, ← and_tw n i, ← and_tw n j, ← Bool.decide_or, decide_eq_decide, ne_eq, Nat.or_eq_zero_iff]
  omega
/-- the set in which two cells are in it the other way round -/
def exN (n a b : Nat) : Nat := if decide (n &&& a ≠ 0) = decide (n &&& b ≠ 0) then n else (n ^^^ a) ^^^ b
theorem exN_test (n i j p : Nat) : (exN n (1 <<< i) (1 <<< j)).testBit p = if p = i then n.testBit j else if p = j then n.testBit i else n.testBit p := by
  unfold exN
  rw [and_tw, and_tw]
  by_cases hij : n.testBit i = n.testBit j
  · rw [if_pos hij]
    by_cases h1 : p = i
    · rw [if_pos h1, h1, hij]
    · rw [if_neg h1]
      by_cases h2 : p = j
      · rw [if_pos h2, h2, hij]
      · rw [if_neg h2]
  · rw [if_neg hij, Nat.testBit_xor, Nat.testBit_xor, tw_test, tw_test]
    have hne : i ≠ j := fun e => hij (by rw [e])
    by_cases h1 : p = i
    · subst h1
      rw [if_pos rfl, decide_eq_true rfl, decide_eq_false (fun e => hne e.symm)]
      revert hij; cases n.testBit p <;> cases n.testBit j <;> simp
    · rw [if_neg h1, decide_eq_false (fun e => h1 e.symm)]
      by_cases h2 : p = j
      · subst h2
        rw [if_pos rfl, decide_eq_true rfl]
        revert hij; cases n.testBit p <;> cases n.testBit i <;> simp
      · rw [if_neg h2, decide_eq_false (fun e => h2 e.symm)]; simp
theorem exN_lt {n a b : Nat} (hn : n < 2048) (ha : a < 2048) (hb : b < 2048) : exN n a b < 2048 := by
  unfold exN; split
  · exact hn
  · exact Nat.xor_lt_two_pow (n := 11) (Nat.xor_lt_two_pow (n := 11) hn ha) hb
/-- the cells of a name -/
def cN (a : ByteArray) : Nat := stN a.data.toList
theorem cN_lt (a : ByteArray) : cN a < 2048 := stN_lt _
theorem cN_cell {a : ByteArray} (h : isC a = true) : cN a = 1 <<< cidx a := by
  obtain ⟨c, rfl⟩ := one_of_size (isC_size h)
  have h2 : c ∈ cellsL := by simpa [isC] using h
  exact stN_one h2
theorem cN_none {a : ByteArray} (h1 : a.size = 1) (h : isC a = false) : cN a = 0 := by
  obtain ⟨c, rfl⟩ := one_of_size h1
  have h2 : c ∉ cellsL := by simpa [isC] using h
  exact stN_no h2
theorem stN_two (a b : UInt8) (ha : a ∈ cellsL) (hb : b ∈ cellsL) : stN [a, b] = 1 <<< cidx ⟨#[a]⟩ ||| 1 <<< cidx ⟨#[b]⟩ := by
  have := stN_snoc [a] b
  rw [if_pos hb, stN_one ha] at this
  exact this
/-- whether a step is needed, and what is needed ahead of it -/
def keptN (x : St) (n : Nat) : Bool := decide (x.2.1 ≠ x.2.2) && decide (n &&& stN (wrB x).data.toList ≠ 0)
def aheadN (x : St) (n : Nat) : Nat := if x.1 = 1 then exN n (cN x.2.1) (cN x.2.2) else anN n (cN x.2.1) ||| cN x.2.2
theorem aheadN_lt {x : St} {n : Nat} (h : n < 2048) : aheadN x n < 2048 := by
  unfold aheadN; split
  · exact exN_lt h (cN_lt _) (cN_lt _)
  · exact Nat.or_lt_two_pow (n := 11) (anN_lt h) (cN_lt _)
theorem keptN_move {a b : ByteArray} (ha : isC a = true) (n : Nat) : keptN (0, a, b) n = (decide (a ≠ b) && n.testBit (cidx a)) := by
  unfold keptN
  rw [wrB_move 0 a b (by decide)]
  show (_ && decide (n &&& cN a ≠ 0)) = _
  rw [cN_cell ha, and_tw]
theorem keptN_swap {a b : ByteArray} (ha : isC a = true) (hb : isC b = true) (n : Nat) : keptN (1, a, b) n = (decide (a ≠ b) && (n.testBit (cidx a) || n.testBit (cidx b))) := by
  unfold keptN
  rw [wrB_swap]
  obtain ⟨c, rfl⟩ := one_of_size (isC_size ha)
  obtain ⟨d, rfl⟩ := one_of_size (isC_size hb)
  have h1 : c ∈ cellsL := by simpa [isC] using ha
  have h2 : d ∈ cellsL := by simpa [isC] using hb
  have e : ((⟨#[c]⟩ : ByteArray) ++ ⟨#[d]⟩).data.toList = [c, d] := by rw [ByteArray.data_append]; rfl
  show (decide (_ ≠ _) && decide (n &&& stN ((⟨#[c]⟩ : ByteArray) ++ ⟨#[d]⟩).data.toList ≠ 0)) = _
  rw [e, stN_two c d h1 h2, and_or]
theorem ahead_move {a b : ByteArray} (ha : isC a = true) (hb : okC b = true) {n : Nat} (hn : n < 2048) (p : Nat) :
    (aheadN (0, a, b) n).testBit p = ((isC b && decide (p = cidx b)) || (n.testBit p && decide (p ≠ cidx a))) := by
  have e0 : aheadN (0, a, b) n = anN n (cN a) ||| cN b := if_neg (show ¬ (0 : Int) = 1 by decide)
  rw [e0, Nat.testBit_or, anN_test hn, cN_cell ha, tw_test]
  have e : (decide (cidx a = p) : Bool) = !decide (p ≠ cidx a) := by
    rw [← decide_not, decide_eq_decide]; constructor
    · intro h h2; exact h2 h.symm
    · intro h; exact (Classical.not_not.1 h).symm
  show ((n.testBit p && !decide (cidx a = p)) || (cN b).testBit p) = _
  rw [e, Bool.not_not, Bool.or_comm]
  congr 1
  rcases Bool.eq_false_or_eq_true (isC b) with hc | hc
  · rw [cN_cell hc, tw_test, hc, Bool.true_and, decide_eq_decide]; exact ⟨Eq.symm, Eq.symm⟩
  · rw [cN_none (okC_size hb) hc, hc, Nat.zero_testBit]; rfl
theorem ahead_swap {a b : ByteArray} (ha : isC a = true) (hb : isC b = true) (n p : Nat) :
    (aheadN (1, a, b) n).testBit p = if p = cidx a then n.testBit (cidx b) else if p = cidx b then n.testBit (cidx a) else n.testBit p := by
  unfold aheadN
  rw [if_pos rfl]
  show (exN n (cN a) (cN b)).testBit p = _
  rw [cN_cell ha, cN_cell hb, exN_test]
/-- steps gone through from the last one to the first one -/
def bkS (xs : List St) (n : Nat) : List St × Nat := xs.foldr (fun x r => if keptN x r.2 then (x :: r.1, aheadN x r.2) else r) ([], n)
theorem bkS_nil (n : Nat) : bkS [] n = ([], n) := rfl
theorem bkS_cons (x : St) (xs : List St) (n : Nat) : bkS (x :: xs) n = if keptN x (bkS xs n).2 then (x :: (bkS xs n).1, aheadN x (bkS xs n).2) else bkS xs n := rfl
theorem bkS_drop (xs : List St) (n k : Nat) (hk : k < xs.length) : bkS (xs.drop k) n = if keptN xs[k] (bkS (xs.drop (k + 1)) n).2 then (xs[k] :: (bkS (xs.drop (k + 1)) n).1, aheadN xs[k] (bkS (xs.drop (k + 1)) n).2) else bkS (xs.drop (k + 1)) n := by
  rw [List.drop_eq_getElem_cons hk, bkS_cons]
theorem bkS_lt {n : Nat} (hn : n < 2048) : ∀ xs, (bkS xs n).2 < 2048
  | [] => hn
  | x :: xs => by
    have ih := bkS_lt hn xs
    rw [bkS_cons]; split
    · exact aheadN_lt ih
    · exact ih
theorem bkS_len (n : Nat) : ∀ xs, (bkS xs n).1.length ≤ xs.length
  | [] => Nat.le_refl _
  | x :: xs => by
    have ih := bkS_len n xs
    rw [bkS_cons]; split
    · simp only [List.length_cons]; omega
    · simp only [List.length_cons]; omega
theorem bkS_sub (n : Nat) : ∀ xs, (bkS xs n).1.Sublist xs
  | [] => List.Sublist.refl _
  | x :: xs => by
    have ih := bkS_sub n xs
    rw [bkS_cons]; split
    · exact ih.cons_cons x
    · exact ih.cons x
end Go.PE
