import Derived.Test.YthgcoocgeekdnaaDoorP2
namespace Go.PM
open Go.RowKit Go.Lib
def fc (s : ByteArray) : UInt8 := s.data.toList.getD 0 0
theorem fc_one {s : ByteArray} (h : s.size = 1) : s = ⟨#[fc s]⟩ := by
  obtain ⟨c, rfl⟩ := one_of_size h; rfl
/-- what a place or a digit reads in a state -/
def rdS (f : Nat → UInt8) (a : ByteArray) : UInt8 := if isC a then f (cidx a) else fc a
def okC (a : ByteArray) : Bool := isC a || isD a
theorem okC_size {a : ByteArray} (h : okC a = true) : a.size = 1 := by
  unfold okC at h; rw [Bool.or_eq_true] at h; exact h.elim isC_size isD_size
theorem rdS_cell {f : Nat → UInt8} {a : ByteArray} (h : isC a = true) : rdS f a = f (cidx a) := if_pos h
theorem rdS_digit {f : Nat → UInt8} {a : ByteArray} (h : isC a = false) : rdS f a = fc a := if_neg (by rw [h]; decide)
theorem cidx_nm {q : Nat} (h : q < 9) : isC (nm q) = true ∧ cidx (nm q) = q := by
  match q, h with
  | 0, _ | 1, _ | 2, _ | 3, _ | 4, _ | 5, _ | 6, _ | 7, _ | 8, _ => decide +kernel
theorem rdS_nm (f : Nat → UInt8) {q : Nat} (h : q < 9) : rdS f (nm q) = f q := by rw [rdS_cell (cidx_nm h).1, (cidx_nm h).2]
/-- the state behind a step -/
def swS (f : Nat → UInt8) (i j : Nat) : Nat → UInt8 := fun q => if q = i then f j else if q = j then f i else f q
def doS (x : St) (f : Nat → UInt8) : Nat → UInt8 := if x.1 = 1 then swS f (cidx x.2.1) (cidx x.2.2) else updS f (cidx x.2.1) (rdS f x.2.2)
theorem swS_spec (f : Nat → UInt8) (i j : Nat) : updS (updS f j (f i)) i (f j) = swS f i j := by
  funext q; unfold updS swS
  by_cases h1 : q = i <;> by_cases h2 : q = j <;> simp [h1, h2]
theorem swS_impl (f : Nat → UInt8) (i j : Nat) : updS (updS f i (f j)) j (f i) = swS f i j := by
  funext q; unfold updS swS
  by_cases h1 : q = i <;> by_cases h2 : q = j
  · subst h1; subst h2; simp
  · subst h1; simp [h2]
  · subst h2; simp [h1]
  · simp [h1, h2]
def runS (xs : List St) (k : Nat) (f : Nat → UInt8) : Nat → UInt8 := (xs.take k).foldl (fun g x => doS x g) f
theorem runS_zero (xs : List St) (f : Nat → UInt8) : runS xs 0 f = f := by simp [runS]
theorem runS_succ (xs : List St) (k : Nat) (hk : k < xs.length) (f : Nat → UInt8) : runS xs (k + 1) f = doS xs[k] (runS xs k f) := by
  unfold runS; rw [take_snoc xs k hk, List.foldl_append]; rfl
theorem stB_cell (f : Nat → UInt8) (k : Nat) (hk : k < 11) : (stB f).extract k (k + 1) = ⟨#[f k]⟩ := by
  have := extract_one (stB f) k hk
  rw [stB_at f k hk] at this
  exact this
theorem stB_put (f : Nat → UInt8) (k : Nat) (hk : k < 11) (c : UInt8) : (stB f).extract 0 k ++ ⟨#[c]⟩ ++ (stB f).extract (k + 1) 11 = stB (updS f k c) := by
  match k, hk with
  | 0, _ | 1, _ | 2, _ | 3, _ | 4, _ | 5, _ | 6, _ | 7, _ | 8, _ | 9, _ | 10, _ => (apply ByteArray.ext; simp [stB, updS, ByteArray.data_append, ByteArray.data_extract])
/-- the state behind moves at once -/
def aoS (t : Nat → ByteArray) (f : Nat → UInt8) : Nat → UInt8 := fun q => if q < 9 then rdS f (srcT t q) else f q
theorem aoS_nil (f : Nat → UInt8) : aoS (tabOf []) f = f := by
  funext q; unfold aoS
  by_cases h : q < 9
  · rw [if_pos h, tabOf_nil, srcT, if_pos rfl, rdS_nm f h]
  · rw [if_neg h]
theorem aoS_snoc (xs : List Mv) (x : Mv) (f : Nat → UInt8) (h : MV (xs ++ [x])) : ∀ q, q < 11 → aoS (tabOf (xs ++ [x])) f q = updS (aoS (tabOf xs) f) (cidx x.1) (rdS f x.2) q := by
  intro q _
  obtain ⟨_, h2, h3⟩ := (MV_snoc xs x).1 h
  unfold mok at h2; rw [Bool.and_eq_true] at h2
  have hp := pidx_spec h2.1
  have hc := isP_isC h2.1
  have hx2 : x.2 ≠ ⟨#[]⟩ := by
    intro e
    have := isS_size h2.2
    rw [e] at this; cases this
  unfold aoS updS
  show (if q < 9 then rdS f (srcT (tabOf (xs ++ [x])) q) else f q) = if q = cidx x.1 then rdS f x.2 else (if q < 9 then rdS f (srcT (tabOf xs) q) else f q)
  by_cases hq : q < 9
  · rw [if_pos hq, if_pos hq]
    have ht := tabOf_snoc xs x h2.1 h3 q hq
    unfold srcT
    rw [ht]
    unfold upd
    rw [hc.2]
    by_cases hqp : q = pidx x.1
    · rw [if_pos hqp, if_pos hqp, if_neg hx2]
    · rw [if_neg hqp, if_neg hqp]
  · rw [if_neg hq, if_neg hq, hc.2, if_neg (by omega)]
theorem isS_okC {s : ByteArray} (h : isS s = true) : okC s = true := by
  unfold isS at h; rw [Bool.or_eq_true] at h
  unfold okC; rw [Bool.or_eq_true]
  exact h.imp (fun h => (isP_isC h).1) id
theorem stOk_move {a b : ByteArray} (h : stOk (0, a, b) = true) : isC a = true ∧ okC b = true := by
  simpa [stOk, okC] using h
theorem stOk_swap {a b : ByteArray} (h : stOk (1, a, b) = true) : isC a = true ∧ isC b = true := by
  simpa [stOk] using h
theorem stOk_kind {k : Int} {a b : ByteArray} (h : stOk (k, a, b) = true) : k = 0 ∨ k = 1 := by
  unfold stOk at h; rw [Bool.or_eq_true] at h
  rcases h with h | h
  · exact .inl (by rw [Bool.and_eq_true] at h; simpa using h.1)
  · exact .inr (by rw [Bool.and_eq_true] at h; simpa using h.1)
def stateS (f : Nat → UInt8) : Prop := ∀ q, q < 11 → isV (f q) = true
theorem stateV_of {s : ByteArray} (h : stateV s = true) : s.size = 11 ∧ stB (ofB s) = s := by
  unfold stateV at h; rw [Bool.and_eq_true] at h
  have h2 : s.size = 11 := by simpa using h.2
  exact ⟨h2, ofB_stB h2⟩
end Go.PM
