import Derived.Test.YtfedloljhocpgaaGreatDoorP2
namespace Go.PM
open Go.RowKit Go.Lib
def fc (s : ByteArray) : UInt8 := s.data.toList.getD 0 0
theorem fc_one {s : ByteArray} (h : s.size = 1) : s = ⟨#[fc s]⟩ := by
  obtain ⟨c, rfl⟩ := one_of_size h; rfl
def rdS (f : Nat → UInt8) (a : ByteArray) : UInt8 := if isC a then f (cidx a) else fc a
def okC (a : ByteArray) : Bool := isC a || isD a
theorem okC_size {a : ByteArray} (h : okC a = true) : a.size = 1 := by
  unfold okC at h; rw [Bool.or_eq_true] at h; exact h.elim isC_size isD_size
theorem rdS_cell {f : Nat → UInt8} {a : ByteArray} (h : isC a = true) : rdS f a = f (cidx a) := if_pos h
theorem rdS_digit {f : Nat → UInt8} {a : ByteArray} (h : isC a = false) : rdS f a = fc a := if_neg (by rw [h]; decide)
theorem cidx_nm {q : Nat} (h : q < 9) : isC (nm q) = true ∧ cidx (nm q) = q := by
  match q, h with
  | 0, _ | 1, _ | 2, _ | 3, _ | 4, _ | 5, _ | 6, _ | 7, _ | 8, _ => decide +kernel
theorem rdS_nm (f : Nat → UInt8) {q : Nat} (h : q < 9) : rdS f (nm q) = f q := by rw [rdS_cell (cidx_nm h).1, (cidx_nm h).2]
def swS (f : Nat → UInt8) (i j : Nat) : Nat → UInt8 := fun q => if q = i then f j else if q = j then f i else f q
def doS (x : St) (f : Nat → UInt8) : Nat → UInt8 := if x.1 = 1 then swS f (cidx x.2.1) (cidx x.2.2) else updS f (cidx x.2.1) (rdS f x.2.2)
theorem swS_impl (f : Nat → UInt8) (i j : Nat) : updS (updS f i (f j)) j (f i) = swS f i j := by
  funext q; unfold updS swS
  by_cases h1 : q = i <;> by_cases h2 : q = j
  · subst h1; subst h2; simp
  · subst h1; simp [h2]
  · subst h2; simp [h1]
  · simp [h1, h2]
def runS (xs : List St) (k : Nat) (f : Nat → UInt8) : Nat → UInt8 := (xs.take k).foldl (fun g x => doS x g) f
theorem runS_zero (xs : List St) (f : Nat → UInt8) : runS xs 0 f = f := by simp [runS]
theorem runS_succ (xs : List St) (k : Nat) (hk : k < xs.length) (f : Nat → UInt8) : runS xs (k + 1) f = doS xs[k] (runS xs k f) := by
  unfold runS; rw [take_snoc xs k hk, List.foldl_append]; rfl
def aoS (t : Nat → ByteArray) (f : Nat → UInt8) : Nat → UInt8 := fun q => if q < 9 then rdS f (srcT t q) else f q
theorem isS_okC {s : ByteArray} (h : isS s = true) : okC s = true := by
  unfold isS at h; rw [Bool.or_eq_true] at h
  unfold okC; rw [Bool.or_eq_true]
  exact h.imp (fun h => (isP_isC h).1) id
theorem stOk_move {a b : ByteArray} (h : stOk (0, a, b) = true) : isC a = true ∧ okC b = true := by
  simpa [stOk, okC] using h
theorem stOk_swap {a b : ByteArray} (h : stOk (1, a, b) = true) : isC a = true ∧ isC b = true := by
  simpa [stOk] using h
theorem stOk_kind {k : Int} {a b : ByteArray} (h : stOk (k, a, b) = true) : k = 0 ∨ k = 1 := by
  unfold stOk at h; rw [Bool.or_eq_true] at h
  rcases h with h | h
  · exact .inl (by rw [Bool.and_eq_true] at h; simpa using h.1)
  · exact .inr (by rw [Bool.and_eq_true] at h; simpa using h.1)
end Go.PM

