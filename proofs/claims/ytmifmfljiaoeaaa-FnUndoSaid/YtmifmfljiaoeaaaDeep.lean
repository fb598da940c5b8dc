import Derived.Test.YtmifmfljiaoeaaaSpotO
import Derived.Test.YtmifmfljiaoeaaaRing
namespace Go.PW
open Go.PM
def wayB (xs : List Mv) (a : ByteArray) : ByteArray := txt (way (nxT (tabOf xs)) (pidx a))
noncomputable def depN (nx : Nat → Option Nat) (s : Nat) : Nat := least (Stops nx s)
theorem depN_stops {nx : Nat → Option Nat} (hn : Nice nx) {s : Nat} (hs : s < 19) : Stops nx s (depN nx s) := by
  obtain ⟨D, hD, _⟩ := (way_rho hn hs).stops
  exact (least_spec ⟨D, hD⟩).1
noncomputable def depthI (xs : List Mv) (a : ByteArray) : Int := if mvalid xs && isP a then (depN (nxT (tabOf xs)) (pidx a) : Int) else -1
theorem isP_sn {a : ByteArray} (h : isP a = true) : a = sn (pidx a) := by
  have := pidx_spec h
  rw [sn_nm _ this.1, this.2]
end Go.PW
namespace Go.Proofs.Ytmifmfljiaoeaaa
open Go.RowKit Go.PM Go.PW Go.Lib

end Go.Proofs.Ytmifmfljiaoeaaa
