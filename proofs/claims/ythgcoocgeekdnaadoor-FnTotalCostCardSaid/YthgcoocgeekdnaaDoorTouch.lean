import Derived.Test.YthgcoocgeekdnaaDoorIm3
import Derived.Test.YthgcoocgeekdnaaDoorSpS2
import Derived.Test.YthgcoocgeekdnaaDoorNamesIn
namespace Go.PM
open Go.RowKit Go.Lib
def wrB (x : St) : ByteArray := if x.1 = 1 then x.2.1 ++ x.2.2 else x.2.1
theorem wrB_move (k : Int) (a b : ByteArray) (h : ¬ k = 1) : wrB (k, a, b) = a := if_neg h
theorem wrB_swap (a b : ByteArray) : wrB (1, a, b) = a ++ b := if_pos rfl
def wrL (xs : List St) : List UInt8 := xs.flatMap fun x => (wrB x).data.toList
def wrT (xs : List St) : ByteArray := ⟨(wrL xs).toArray⟩
theorem wrT_step (xs : List St) (k : Nat) (hk : k < xs.length) : wrT (xs.take k) ++ wrB xs[k] = wrT (xs.take (k + 1)) := by
  apply ByteArray.ext
  rw [ByteArray.data_append, wrT, wrT, take_snoc xs k hk]
  unfold wrL
  rw [List.flatMap_append]
  simp
theorem wrB_size {x : St} (h : stOk x = true) : (wrB x).size ≤ 2 := by
  obtain ⟨k, a, b⟩ := x
  rcases stOk_kind h with rfl | rfl
  · rw [wrB_move 0 a b (by decide)]
    have := isC_size (stOk_move h).1
    omega
  · rw [wrB_swap, ByteArray.size_append]
    have h1 := isC_size (stOk_swap h).1
    have h2 := isC_size (stOk_swap h).2
    omega
theorem wrT_size {xs : List St} (h : svalid xs = true) (k : Nat) : (wrT (xs.take k)).size ≤ 2 * k := by
  induction k with
  | zero => exact Nat.le_refl _
  | succ k ih =>
    by_cases hk : k < xs.length
    · rw [← wrT_step xs k hk, ByteArray.size_append]
      have := wrB_size (svalid_at h k hk)
      omega
    · rw [List.take_of_length_le (by omega)] at ih ⊢
      omega
def tcH (xs : List St) (p : Nat) : Bool := inTx cellsL (wrL xs) p
def tcB (xs : List St) : ByteArray := okS (svalid xs) (pickB cellsL (tcH xs) 11)
/-- the spec's test of one step -/
def tq (p : Nat) : ByteArray := ⟨#[cellsL.getD p 0]⟩
def tcX (p : Nat) (x : St) : Bool := decide (x.2.1 = tq p) || (decide (x.1 = 1) && decide (x.2.2 = tq p))
def tcI (xs : List St) (p k : Nat) : Bool := (xs.take k).any (tcX p)
theorem tcI_zero (xs : List St) (p : Nat) : tcI xs p 0 = false := by simp [tcI]
theorem tcI_succ (xs : List St) (p k : Nat) (hk : k < xs.length) : tcI xs p (k + 1) = (tcI xs p k || tcX p xs[k]) := by
  unfold tcI; rw [take_snoc xs k hk, List.any_append]; simp
theorem mem_one {a : ByteArray} (h : a.size = 1) (p : Nat) : cellsL.getD p 0 ∈ a.data.toList ↔ a = tq p := by
  obtain ⟨c, rfl⟩ := one_of_size h
  constructor
  · intro h'
    simp at h'
    rw [tq, ← h']; simp
  · intro h'
    rw [h']; simp [tq]
theorem tcI_full {xs : List St} (h : svalid xs = true) (p : Nat) : tcI xs p xs.length = tcH xs p := by
  unfold tcI tcH inTx
  rw [List.take_length, Bool.eq_iff_iff, List.any_eq_true, decide_eq_true_eq, wrL, List.mem_flatMap]
  have key : ∀ x ∈ xs, tcX p x = true ↔ cellsL.getD p 0 ∈ (wrB x).data.toList := fun x hx => by
    obtain ⟨k, hk, rfl⟩ := List.getElem_of_mem hx
    have hv := svalid_at h k hk
    generalize xs[k] = y at *
    obtain ⟨k, a, b⟩ := y
    rcases stOk_kind hv with rfl | rfl
    · rw [wrB_move 0 a b (by decide), mem_one (isC_size (stOk_move hv).1)]
      simp [tcX]
    · rw [wrB_swap]
      have h1 := mem_one (isC_size (stOk_swap hv).1) p
      have h2 := mem_one (isC_size (stOk_swap hv).2) p
      simp only [ByteArray.data_append, Array.toList_append, List.mem_append, h1, h2]
      simp [tcX]
  constructor
  · rintro ⟨x, hx, e⟩; exact ⟨x, hx, (key x hx).1 e⟩
  · rintro ⟨x, hx, e⟩; exact ⟨x, hx, (key x hx).2 e⟩
end Go.PM
namespace Go.Proofs.YthgcoocgeekdnaaDoor
open Go.RowKit Go.PM

end Go.Proofs.YthgcoocgeekdnaaDoor
