import Derived.Test.YtplapaojgcloaaaDoorIm2
namespace Go.PM
open Go.RowKit
/-- those of the first k names for which a condition holds, in order -/
def pickL (names : List UInt8) (h : Nat → Bool) (k : Nat) : List UInt8 := ((List.range k).filter h).map (names.getD · 0)
theorem pickL_succ (names : List UInt8) (h : Nat → Bool) (k : Nat) : pickL names h (k + 1) = if h k then pickL names h k ++ [names.getD k 0] else pickL names h k := by
  rw [pickL, List.range_succ]
  cases hk : h k <;> simp [pickL, hk]
theorem pickL_len (names : List UInt8) (h : Nat → Bool) (k : Nat) : (pickL names h k).length ≤ k := by
  simp only [pickL, List.length_map]
  have := List.length_filter_le h (List.range k)
  simpa using this
theorem pickL_congr {names : List UInt8} {h g : Nat → Bool} {k : Nat} (e : ∀ p, p < k → h p = g p) : pickL names h k = pickL names g k := by
  have : (List.range k).filter h = (List.range k).filter g := List.filter_congr fun p hp => e p (by simpa using hp)
  rw [pickL, pickL, this]
def inTx (names text : List UInt8) (p : Nat) : Bool := decide (names.getD p 0 ∈ text)
def pickB (names : List UInt8) (h : Nat → Bool) (k : Nat) : ByteArray := ⟨(pickL names h k).toArray⟩
theorem pickB_succ (names : List UInt8) (h : Nat → Bool) (k : Nat) : pickB names h (k + 1) = if h k then pickB names h k ++ ⟨#[names.getD k 0]⟩ else pickB names h k := by
  rw [pickB, pickL_succ]
  cases hk : h k
  · rfl
  · apply ByteArray.ext
    rw [if_pos rfl, if_pos rfl, ByteArray.data_append, pickB]
    simp
theorem pickB_size (names : List UInt8) (h : Nat → Bool) (k : Nat) : (pickB names h k).size ≤ k := by
  have := pickL_len names h k
  have e : (pickB names h k).size = (pickL names h k).length := by simp [pickB, ByteArray.size]
  omega
theorem extract_one (s : ByteArray) (k : Nat) (hk : k < s.size) : s.extract k (k + 1) = ⟨#[s.data.toList.getD k 0]⟩ := by
  obtain ⟨⟨l⟩⟩ := s
  apply ByteArray.ext
  rw [ByteArray.data_extract]
  apply Array.ext'
  have hl : k < l.length := hk
  simp only [List.extract_toArray, List.extract_eq_take_drop]
  rw [show k + 1 - k = 1 by omega, List.drop_eq_getElem_cons hl, List.take_succ_cons, List.take_zero, List.getD_eq_getElem?_getD, List.getElem?_eq_getElem hl]
  rfl
end Go.PM
namespace Go.Proofs.YtplapaojgcloaaaDoor
open Go.RowKit Go.PM

end Go.Proofs.YtplapaojgcloaaaDoor
