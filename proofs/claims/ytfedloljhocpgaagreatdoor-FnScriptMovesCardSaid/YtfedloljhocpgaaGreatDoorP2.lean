import Derived.Test.YtfedloljhocpgaaGreatDoorNamesIn
namespace Go.PM
open Go.RowKit Go.Lib

def cellsL : List UInt8 := [97, 98, 99, 100, 101, 102, 65, 66, 67, 116, 117]
def cellsB : ByteArray := ⟨#[97, 98, 99, 100, 101, 102, 65, 66, 67, 116, 117]⟩
def isC (s : ByteArray) : Bool := match s.data.toList with
  | [c] => decide (c ∈ cellsL)
  | _ => false
theorem isC_size {s : ByteArray} (h : isC s = true) : s.size = 1 := by
  unfold isC at h; split at h
  · next c hc => rw [← size_data, hc]; rfl
  · cases h
def cidx (s : ByteArray) : Nat := (indexByte cellsL (s.data.toList.headD 0)).toNat
theorem cidx_one {c : UInt8} (h : c ∈ cellsL) : indexByte cellsL c = (cidx ⟨#[c]⟩ : Nat) ∧ cidx ⟨#[c]⟩ < 11 ∧ cellsL.getD (cidx ⟨#[c]⟩) 0 = c := by
  simp only [cellsL, List.mem_cons, List.not_mem_nil, or_false] at h
  rcases h with rfl | rfl | rfl | rfl | rfl | rfl | rfl | rfl | rfl | rfl | rfl <;> decide +kernel
theorem cidx_lt {s : ByteArray} (h : isC s = true) : cidx s < 11 := by
  obtain ⟨c, rfl⟩ := one_of_size (isC_size h)
  have h2 : c ∈ cellsL := by simpa [isC] using h
  exact (cidx_one h2).2.1
theorem isP_isC {s : ByteArray} (h : isP s = true) : isC s = true ∧ cidx s = pidx s := by
  obtain ⟨c, rfl⟩ := one_of_size (isP_size h)
  have h2 : c ∈ placesL := by simpa [isP] using h
  simp only [placesL, List.mem_cons, List.not_mem_nil, or_false] at h2
  rcases h2 with rfl | rfl | rfl | rfl | rfl | rfl | rfl | rfl | rfl <;> decide +kernel
theorem isD_notC {s : ByteArray} (h : isD s = true) : isC s = false := by
  obtain ⟨c, rfl⟩ := one_of_size (isD_size h)
  have h2 : 48 ≤ c.toNat ∧ c.toNat ≤ 57 := by simpa [isD] using h
  have : c ∉ cellsL := by
    intro hm
    simp only [cellsL, List.mem_cons, List.not_mem_nil, or_false] at hm
    rcases hm with rfl | rfl | rfl | rfl | rfl | rfl | rfl | rfl | rfl | rfl | rfl <;> revert h2 <;> decide
  simpa [isC] using this

abbrev St := Int × ByteArray × ByteArray
def stOk (x : St) : Bool := (decide (x.1 = 0) && (isC x.2.1 && (isC x.2.2 || isD x.2.2))) || (decide (x.1 = 1) && (isC x.2.1 && isC x.2.2))
def svalid (s : List St) : Bool := decide (s.length ≤ 60) && s.all stOk
theorem svalid_len {s : List St} (h : svalid s = true) : s.length ≤ 60 := by
  unfold svalid at h; rw [Bool.and_eq_true] at h; simpa using h.1
theorem svalid_at {s : List St} (h : svalid s = true) (k : Nat) (hk : k < s.length) : stOk s[k] = true := by
  unfold svalid at h; rw [Bool.and_eq_true, List.all_eq_true] at h
  exact h.2 _ (List.getElem_mem hk)
theorem svalid_no {s : List St} (k : Nat) (hk : k < s.length) (h : stOk s[k] = false) : svalid s = false := by
  cases hs : svalid s with
  | false => rfl
  | true => rw [svalid_at hs k hk] at h; cases h
theorem svalid_all {s : List St} (h : ∀ k (hk : k < s.length), stOk s[k] = true) : svalid s = decide (s.length ≤ 60) := by
  have : s.all stOk = true := by
    rw [List.all_eq_true]
    intro x hx
    obtain ⟨k, hk, rfl⟩ := List.getElem_of_mem hx
    exact h k hk
  rw [svalid, this, Bool.and_true]

def scells (xs : List St) : List Value := xs.flatMap fun x => [.int .i64 x.1, .string x.2.1, .string x.2.2]
theorem scells_cons (x : St) (xs : List St) : scells (x :: xs) = .int .i64 x.1 :: .string x.2.1 :: .string x.2.2 :: scells xs := by simp [scells]
theorem scells_length (xs : List St) : (scells xs).length = xs.length * 3 := by
  induction xs with
  | nil => rfl
  | cons x xs ih => rw [scells_cons]; simp only [List.length_cons] at *; omega
theorem scells_append (xs ys : List St) : scells (xs ++ ys) = scells xs ++ scells ys := by simp [scells]
theorem scells_at (xs : List St) (k : Nat) (m : St) (h : xs[k]? = some m) : (scells xs)[k*3]? = some (.int .i64 m.1) ∧ (scells xs)[k*3+1]? = some (.string m.2.1) ∧ (scells xs)[k*3+2]? = some (.string m.2.2) := by
  induction xs generalizing k with
  | nil => simp at h
  | cons x xs ih =>
    rw [scells_cons]
    cases k with
    | zero => simp at h; subst h; simp
    | succ k =>
      have := ih k (by simpa using h)
      rw [show (k+1)*3 = k*3+1+1+1 by omega]
      simpa using this
def RdS (w : World) (v : Value) (xs : List St) : Prop := Rd w 3 v xs.length (scells xs)
theorem RdS.below {w w' : World} {v : Value} {xs : List St} (h : RdS w v xs) (hb : Below w.heap.size w w') : RdS w' v xs := Rd.below h hb
theorem RdS.open {w : World} {v : Value} {xs : List St} (h : RdS w v xs) : ∃ A cap, v = .slice A xs.length cap ∧ xs.length ≤ 9223372036854775807 ∧ xs.length ≤ cap ∧
    ∀ k (hk : k < xs.length), ∃ b off, A = some ⟨b, off, none⟩ ∧ b < w.heap.size ∧ w.cell? ⟨b, off + k * 3, none⟩ = some (.int .i64 xs[k].1) ∧ w.cell? ⟨b, off + k * 3 + 1, none⟩ = some (.string xs[k].2.1) ∧ w.cell? ⟨b, off + k * 3 + 2, none⟩ = some (.string xs[k].2.2) := by
  obtain ⟨A, cap, e, hc, hn, hl, hr⟩ := h
  refine ⟨A, cap, e, hn, hc, fun k hk => ?_⟩
  obtain ⟨b, off, eA, hb, hcell⟩ := hr (by omega)
  have := scells_at xs k xs[k] (List.getElem?_eq_getElem hk)
  exact ⟨b, off, eA, hb, hcell _ _ this.1, by rw [Nat.add_assoc]; exact hcell _ _ this.2.1, by rw [Nat.add_assoc]; exact hcell _ _ this.2.2⟩

def stC (f : Nat → UInt8) : Array Value := #[.int .u8 (f 0).toNat, .int .u8 (f 1).toNat, .int .u8 (f 2).toNat, .int .u8 (f 3).toNat, .int .u8 (f 4).toNat, .int .u8 (f 5).toNat, .int .u8 (f 6).toNat, .int .u8 (f 7).toNat, .int .u8 (f 8).toNat, .int .u8 (f 9).toNat, .int .u8 (f 10).toNat]
abbrev stV (f : Nat → UInt8) : Value := .agg (stC f)
theorem stC_one (f : Nat → UInt8) : (stC f).all (·.oneCell') = true := by simp [stC, Value.oneCell']
theorem stC_at (f : Nat → UInt8) (p : Nat) (hp : p < 11) : (stC f)[p]? = some (.int .u8 (f p).toNat) := by
  match p, hp with
  | 0, _ | 1, _ | 2, _ | 3, _ | 4, _ | 5, _ | 6, _ | 7, _ | 8, _ | 9, _ | 10, _ => rfl
def updS (f : Nat → UInt8) (p : Nat) (b : UInt8) : Nat → UInt8 := fun q => if q = p then b else f q
theorem stC_set (f : Nat → UInt8) (p : Nat) (hp : p < 11) (b : UInt8) : (stC f).setIfInBounds p (.int .u8 b.toNat) = stC (updS f p b) := by
  match p, hp with
  | 0, _ | 1, _ | 2, _ | 3, _ | 4, _ | 5, _ | 6, _ | 7, _ | 8, _ | 9, _ | 10, _ => simp [stC, updS]
end Go.PM

