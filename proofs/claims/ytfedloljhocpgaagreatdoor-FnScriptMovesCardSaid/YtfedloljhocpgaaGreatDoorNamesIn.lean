import Derived.Test.YtfedloljhocpgaaGreatDoorIm2
namespace Go.PM
open Go.RowKit
def pickL (names : List UInt8) (h : Nat → Bool) (k : Nat) : List UInt8 := ((List.range k).filter h).map (names.getD · 0)
def inTx (names text : List UInt8) (p : Nat) : Bool := decide (names.getD p 0 ∈ text)
def pickB (names : List UInt8) (h : Nat → Bool) (k : Nat) : ByteArray := ⟨(pickL names h k).toArray⟩
theorem extract_one (s : ByteArray) (k : Nat) (hk : k < s.size) : s.extract k (k + 1) = ⟨#[s.data.toList.getD k 0]⟩ := by
  obtain ⟨⟨l⟩⟩ := s
  apply ByteArray.ext
  rw [ByteArray.data_extract]
  apply Array.ext'
  have hl : k < l.length := hk
  simp only [List.extract_toArray, List.extract_eq_take_drop]
  rw [show k + 1 - k = 1 by omega, List.drop_eq_getElem_cons hl, List.take_succ_cons, List.take_zero, List.getD_eq_getElem?_getD, List.getElem?_eq_getElem hl]
  rfl
end Go.PM
namespace Go.Proofs.YtfedloljhocpgaaGreatDoor
open Go.RowKit Go.PM

end Go.Proofs.YtfedloljhocpgaaGreatDoor

