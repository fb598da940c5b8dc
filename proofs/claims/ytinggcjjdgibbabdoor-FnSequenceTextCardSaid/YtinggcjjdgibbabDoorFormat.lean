import Derived.Test.YtinggcjjdgibbabDoorIm2
import Derived.Test.YtinggcjjdgibbabDoorSp1
import Derived.Lib.Join
namespace Go.PM
open Go.RowKit
def part (m : Mv) : List UInt8 := m.1.data.toList ++ [61] ++ m.2.data.toList
def fmtL (xs : List Mv) : List UInt8 := Lib.join (xs.map part) [44]
theorem join_snoc (xs : List (List UInt8)) (x sep : List UInt8) : Lib.join (xs ++ [x]) sep = if xs = [] then x else Lib.join xs sep ++ sep ++ x := by
  cases xs with
  | nil => simp [Lib.join_one]
  | cons y r => simp [Lib.join_cons, Lib.joinTail]
theorem fmtL_step (xs : List Mv) (k : Nat) (hk : k < xs.length) : fmtL (xs.take (k+1)) = if k = 0 then part xs[k] else fmtL (xs.take k) ++ [44] ++ part xs[k] := by
  unfold fmtL
  rw [take_snoc xs k hk, List.map_append, List.map_cons, List.map_nil, join_snoc]
  by_cases h : k = 0
  · subst h; simp
  · have : ¬ (xs.take k).map part = [] := by
      intro e
      have := congrArg List.length e
      rw [List.length_map, List.length_take, List.length_nil] at this; omega
    simp only [h, this, if_false]
theorem fmtL_pos (xs : List Mv) (h : xs ≠ []) : fmtL xs ≠ [] := by
  cases xs with
  | nil => exact absurd rfl h
  | cons x r =>
    unfold fmtL
    rw [List.map_cons, Lib.join_cons]
    simp [part]
def fmtB (xs : List Mv) : ByteArray := if mvalid xs then (if xs = [] then ⟨#[45]⟩ else ⟨(fmtL xs).toArray⟩) else ⟨#[]⟩
theorem fmtB_no {xs : List Mv} (h : mvalid xs = false) : fmtB xs = ⟨#[]⟩ := by simp [fmtB, h]
theorem fmtB_none {xs : List Mv} (h : mvalid xs = true) (h2 : xs = []) : fmtB xs = ⟨#[45]⟩ := by subst h2; simp [fmtB, h]
theorem fmtB_some {xs : List Mv} (h : mvalid xs = true) (h2 : xs ≠ []) : fmtB xs = ⟨(fmtL xs).toArray⟩ := by simp [fmtB, h, h2]
theorem ba_mk {t : ByteArray} {l : List UInt8} (h : t.data.toList = l) : t = ⟨l.toArray⟩ := by
  subst h; simp
def partB (m : Mv) : ByteArray := m.1 ++ ⟨#[61]⟩ ++ m.2
theorem partB_data (m : Mv) : (partB m).data.toList = part m := by simp [partB, part]
def phalf (xs : List Mv) (k : Nat) : List Value := (xs.take k).map (fun m => Value.string (partB m)) ++ List.replicate (xs.length - k) (Value.string ⟨#[]⟩)
theorem phalf_at (xs : List Mv) (k : Nat) (hk : k < xs.length) : (phalf xs k)[k]? = some (Value.string ⟨#[]⟩) := by
  have hl : ((xs.take k).map (fun m => Value.string (partB m))).length = k := by simp; omega
  obtain ⟨d, hd⟩ : ∃ d, xs.length - k = d + 1 := ⟨xs.length - k - 1, by omega⟩
  unfold phalf
  rw [List.getElem?_append_right (by omega), hl, Nat.sub_self, hd, List.replicate_succ]; rfl
theorem phalf_set (xs : List Mv) (k : Nat) (hk : k < xs.length) : (phalf xs k).set k (.string (partB xs[k])) = phalf xs (k+1) := by
  have hl : ((xs.take k).map (fun m => Value.string (partB m))).length = k := by simp; omega
  obtain ⟨d, hd⟩ : ∃ d, xs.length - k = d + 1 := ⟨xs.length - k - 1, by omega⟩
  unfold phalf
  rw [List.set_append_right _ _ (by omega), hl, hd, List.replicate_succ, show xs.length - (k+1) = d by omega, take_snoc xs k hk, Nat.sub_self, List.map_append]
  simp only [List.set_cons_zero, List.map_cons, List.map_nil, List.append_assoc, List.cons_append, List.nil_append]
theorem phalf_zero (xs : List Mv) : phalf xs 0 = List.replicate xs.length (Value.string ⟨#[]⟩) := by simp [phalf]
theorem phalf_full (xs : List Mv) : phalf xs xs.length = xs.map (fun m => Value.string (partB m)) := by simp [phalf]
theorem fmtL_len (xs : List Mv) : (fmtL xs).length ≤ 2 * msize xs := by
  induction xs with
  | nil => simp [fmtL, Lib.join_nil]
  | cons x r ih =>
    unfold fmtL at ih ⊢
    rw [List.map_cons, Lib.join_cons, msize]
    have h1 : (part x).length = x.1.size + 1 + x.2.size := by simp [part]; omega
    rw [List.length_append, h1]
    cases r with
    | nil => simp [Lib.joinTail, msize]; omega
    | cons y r =>
      have h2 : (Lib.joinTail [44] (List.map part (y :: r))).length = 1 + (Lib.join (List.map part (y :: r)) [44]).length := by
        rw [List.map_cons, Lib.join_cons]; simp [Lib.joinTail]; omega
      rw [h2]; omega
end Go.PM
namespace Go.Proofs.YtinggcjjdgibbabDoor
open Go.RowKit Go.PM

theorem infoStr : (Tryd.prog.info? 9).map (fun i => (i.zero, i.size, i.bytes)) = some (some (.string ⟨#[]⟩), 1, 16) := by kernel_rfl

end Go.Proofs.YtinggcjjdgibbabDoor
