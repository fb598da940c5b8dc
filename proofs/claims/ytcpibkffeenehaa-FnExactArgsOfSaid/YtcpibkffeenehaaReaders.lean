import Derived.Test.YtcpibkffeenehaaNames
import Derived.Test.YtcpibkffeenehaaSource
namespace Go.PM
open Go.RowKit
def rdH (f : Nat → ByteArray) (a : ByteArray) (p : Nat) : Bool := decide (nm p ≠ a) && decide (srcT f p = a)
def rsH (xs : List Mv) (a : ByteArray) (p : Nat) : Bool := decide (nm p ≠ a) && decide (srcM xs (nm p) = a)
theorem namesL_succ (h : Nat → Bool) (k : Nat) : namesL h (List.range (k + 1)) = if h k then namesL h (List.range k) ++ [placesL.getD k 0] else namesL h (List.range k) := by
  rw [List.range_succ]
  cases hk : h k <;> simp [namesL, hk]
theorem namesL_size (h : Nat → Bool) (k : Nat) : (namesL h (List.range k)).length ≤ k := by
  simp only [namesL, List.length_map]
  have := List.length_filter_le h (List.range k)
  simpa using this
theorem nm_isP (p : Nat) (hp : p < 9) : isP (nm p) = true ∧ pidx (nm p) = p := by
  match p, hp with
  | 0, _ | 1, _ | 2, _ | 3, _ | 4, _ | 5, _ | 6, _ | 7, _ | 8, _ => decide +kernel
theorem namesW_congr {h g : Nat → Bool} (e : ∀ p, p < 9 → h p = g p) : namesW h = namesW g := by
  have : (List.range 9).filter h = (List.range 9).filter g := List.filter_congr fun p hp => e p (by simpa using hp)
  rw [namesW, namesW, namesL, namesL, this]
theorem rsH_rdH {xs : List Mv} (h : MV xs) (a : ByteArray) : namesW (rsH xs a) = namesW (rdH (tabOf xs) a) := by
  refine namesW_congr fun p hp => ?_
  have h1 := nm_isP p hp
  have h2 := srcM_place h h1.1
  rw [h1.2] at h2
  rw [rsH, rdH, h2]
end Go.PM
namespace Go.Proofs.Ytcpibkffeenehaa
open Go.RowKit Go.PM

def rdrs (xs : List Mv) (a : ByteArray) : ByteArray := namesW (rdH (tabOf xs) a)
def namesS (h : Nat → Bool) (k : Nat) : ByteArray := ⟨(namesL h (List.range k)).toArray⟩
theorem namesS_size (h : Nat → Bool) (k : Nat) : (namesS h k).size ≤ k := by
  have := namesL_size h k
  simpa [namesS, ByteArray.size] using this
theorem namesS_yes (h : Nat → Bool) (k : Nat) (hk : h k = true) : namesS h k ++ nm k = namesS h (k + 1) := by
  apply ByteArray.ext
  rw [ByteArray.data_append, namesS, namesS, namesL_succ, if_pos hk]
  simp [nm]
theorem namesS_no (h : Nat → Bool) (k : Nat) (hk : h k = false) : namesS h k = namesS h (k + 1) := by
  rw [namesS, namesS, namesL_succ, if_neg (by rw [hk]; decide)]

end Go.Proofs.Ytcpibkffeenehaa
