import Derived.Test.YtogkodjlbdlgjaaApp
import Derived.Test.YtogkodjlbdlgjaaReaders
import Derived.BigQuiet
namespace Go.PM
open Go.RowKit
def atP (p : Nat) (m : Mv) : Bool := decide (m.1 = nm p)
def sortO (xs : List Mv) (k : Nat) : List Mv := (List.range k).flatMap fun p => xs.filter (atP p)
def sortI (xs : List Mv) (k j : Nat) : List Mv := sortO xs k ++ (xs.take j).filter (atP k)
theorem filt_snoc (l : List Mv) (m : Mv) (f : Mv → Bool) : (l ++ [m]).filter f = if f m then l.filter f ++ [m] else l.filter f := by
  rw [List.filter_append]
  by_cases h : f m <;> simp [h]
theorem sortI_step (xs : List Mv) (k j : Nat) (hj : j < xs.length) : sortI xs k (j + 1) = if xs[j].1 = nm k then sortI xs k j ++ [xs[j]] else sortI xs k j := by
  unfold sortI
  rw [take_snoc xs j hj, filt_snoc]
  by_cases h : xs[j].1 = nm k
  · rw [if_pos h, if_pos (by rw [atP, decide_eq_true h]), List.append_assoc]
  · rw [if_neg h, if_neg (by rw [atP, decide_eq_false h]; decide)]
theorem sortI_zero (xs : List Mv) (k : Nat) : sortI xs k 0 = sortO xs k := by simp [sortI]
theorem sortI_full (xs : List Mv) (k : Nat) : sortI xs k xs.length = sortO xs (k + 1) := by
  rw [sortI, List.take_length, sortO, sortO, List.range_succ, List.flatMap_append]
  simp
theorem sortO_le (xs : List Mv) (k : Nat) : (sortO xs k).length ≤ k * xs.length := by
  induction k with
  | zero => simp [sortO]
  | succ k ih =>
    rw [← sortI_full, sortI, List.length_append, List.take_length, Nat.succ_mul]
    have := List.length_filter_le (atP k) xs
    omega
theorem sortI_le (xs : List Mv) (k j : Nat) : (sortI xs k j).length ≤ k * xs.length + xs.length := by
  rw [sortI, List.length_append]
  have h1 := sortO_le xs k
  have h2 := List.length_filter_le (atP k) (xs.take j)
  rw [List.length_take] at h2
  omega
def sortM (xs : List Mv) : List Mv := if mvalid xs then sortO xs 9 else []
end Go.PM
namespace Go.Proofs.Ytogkodjlbdlgjaa
open Go.RowKit Go.PM

end Go.Proofs.Ytogkodjlbdlgjaa
