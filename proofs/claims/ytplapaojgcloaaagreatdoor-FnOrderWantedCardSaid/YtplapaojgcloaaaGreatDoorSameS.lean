import Derived.Test.YtplapaojgcloaaaGreatDoorSource
import Derived.BigQuiet
namespace Go.PM
def sameAt (xs ys : List Mv) (p : Nat) : Bool := decide (srcM xs (nm p) = srcM ys (nm p))
def sameM (xs ys : List Mv) : Bool := mvalid xs && mvalid ys && (List.range 9).all (sameAt xs ys)
theorem sameM_no {xs ys : List Mv} (k : Nat) (hk : k < 9) (h : sameAt xs ys k = false) : sameM xs ys = false := by
  have : (List.range 9).all (sameAt xs ys) = false := by
    rw [List.all_eq_false]
    exact ⟨k, by simpa using hk, by rw [h]; decide⟩
  rw [sameM, this, Bool.and_false]
theorem sameM_all {xs ys : List Mv} (h : ∀ p, p < 9 → sameAt xs ys p = true) : sameM xs ys = (mvalid xs && mvalid ys) := by
  have : (List.range 9).all (sameAt xs ys) = true := by
    rw [List.all_eq_true]
    intro p hp
    exact h p (by simpa using hp)
  rw [sameM, this, Bool.and_true]
end Go.PM
namespace Go.Proofs.YtplapaojgcloaaaGreatDoor
open Go.RowKit Go.PM

end Go.Proofs.YtplapaojgcloaaaGreatDoor
