import Derived.Test.YtcpibkffeenehaaBelow
import Derived.Test.YtcpibkffeenehaaIm2
import Derived.RegionIn
namespace Go.PM
open Go.RowKit
def namesL (h : Nat → Bool) (ps : List Nat) : List UInt8 := (ps.filter h).map (placesL.getD · 0)
def namesW (h : Nat → Bool) : ByteArray := ⟨(namesL h (List.range 9)).toArray⟩
theorem keepsFrom_below {B : Nat} {W W' : World} (h : Below W.heap.size W W') : KeepsFrom B W W' :=
  ⟨h.size, fun k _ _ hk _ => (h.block k (Array.getElem?_eq_some_iff.1 hk).1).trans hk⟩
theorem namesL_len (h : Nat → Bool) (pre : List Nat) (p : Nat) (hp : pre ++ [p] <+: List.range 9) : (namesL h pre).length ≤ 9 := by
  have h1 : (namesL h pre).length ≤ pre.length := by
    simp only [namesL, List.length_map]
    exact List.length_filter_le _ _
  have h2 := hp.length_le
  simp at h2
  omega
theorem pre_len (pre : List Nat) (p : Nat) (h : pre ++ [p] <+: List.range 9) : pre.length = p ∧ p < 9 := by
  obtain ⟨t, ht⟩ := h
  have h1 := congrArg (fun l => l[pre.length]?) ht
  simp at h1
  have h2 := congrArg List.length ht
  simp at h2
  rw [List.getElem?_range (by omega)] at h1
  simp at h1
  omega
end Go.PM
namespace Go.Proofs.Ytcpibkffeenehaa
open Go.RowKit Go.PM
attribute [local go_sem] Oper.semAt_some

end Go.Proofs.Ytcpibkffeenehaa
