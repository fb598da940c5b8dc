import Derived.Test.YthgcoocgeekdnaaDoorNames
import Derived.Test.YthgcoocgeekdnaaDoorTail
import Derived.Test.YthgcoocgeekdnaaDoorApp
import Derived.Laws.EntriesVeiled
namespace Go.PM
open Go.RowKit
def hasT (t : Nat → ByteArray) (p : Nat) : Bool := decide (t p ≠ emp)
def mvT (t : Nat → ByteArray) (pre : List Nat) : List Mv := (pre.filter (hasT t)).map fun p => (nm p, t p)
theorem mvT_no (t : Nat → ByteArray) (pre : List Nat) (p : Nat) (h : t p = emp) : mvT t (pre ++ [p]) = mvT t pre := by
  have : hasT t p = false := by simp [hasT, h]
  simp [mvT, this]
theorem mvT_yes (t : Nat → ByteArray) (pre : List Nat) (p : Nat) (h : t p ≠ emp) : mvT t (pre ++ [p]) = mvT t pre ++ [(nm p, t p)] := by
  have : hasT t p = true := by simp [hasT, h]
  simp [mvT, this]
theorem mvT_pre (t : Nat → ByteArray) {a b : List Nat} (h : a <+: b) : mvT t a <+: mvT t b := by
  obtain ⟨c, rfl⟩ := h
  rw [mvT, mvT, List.filter_append, List.map_append]
  exact List.prefix_append _ _
end Go.PM
namespace Go.Proofs.YthgcoocgeekdnaaDoor
open Go.RowKit Go.PM
attribute [local go_sem] Oper.semAt_some

end Go.Proofs.YthgcoocgeekdnaaDoor
