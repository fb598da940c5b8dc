import Derived.Test.YtbgchjjaaelkbaaSpotO
import Derived.Test.YtbgchjjaaelkbaaRing
namespace Go.PW
open Go.PM
def wayB (xs : List Mv) (a : ByteArray) : ByteArray := txt (way (nxT (tabOf xs)) (pidx a))
noncomputable def depN (nx : Nat → Option Nat) (s : Nat) : Nat := least (Stops nx s)
theorem depN_stops {nx : Nat → Option Nat} (hn : Nice nx) {s : Nat} (hs : s < 19) : Stops nx s (depN nx s) := by
  obtain ⟨D, hD, _⟩ := (way_rho hn hs).stops
  exact (least_spec ⟨D, hD⟩).1
noncomputable def depthI (xs : List Mv) (a : ByteArray) : Int := if mvalid xs && isP a then (depN (nxT (tabOf xs)) (pidx a) : Int) else -1
theorem isP_sn {a : ByteArray} (h : isP a = true) : a = sn (pidx a) := by
  have := pidx_spec h
  rw [sn_nm _ this.1, this.2]
end Go.PW
namespace Go.Proofs.Ytbgchjjaaelkbaa
open Go.RowKit Go.PM Go.PW Go.Lib

set_option maxRecDepth 100000 in
set_option maxHeartbeats 800000 in
theorem imDepthOf_c (xs : List Mv) (v : Value) (a : ByteArray) (w : World) (hx : RdM w v xs) :
    Calls Try.prog 36 #[v, .string a] w fun e w' => e = .returned (.int .i64 (depthI xs a)) ∧ Below w.heap.size w w' := by
  have HO : Hid (depthI xs a = if mvalid xs && isP a then (depN (nxT (tabOf xs)) (pidx a) : Int) else -1) := rfl
  rcases Bool.eq_false_or_eq_true (mvalid xs && isP a) with h | h
  · have h1 : MV xs := by have := (Bool.and_eq_true _ _ ▸ h).1; simpa [mvalid] using this
    have h2 : isP a = true := (Bool.and_eq_true _ _ ▸ h).2
    have hp := (pidx_spec h2).1
    have HT := Lib.hid (tableAndPlace_yes xs v a w hx h1 h2)
    have HSP := Lib.hid (fun W => spotsOf_c (tabOf xs) (SV_tab h1) W)
    have hst := depN_stops (nice (SV_tab h1)) (show pidx a < 19 by omega)
    have HWB := Lib.hid (fun b W (hS : Spots W b (nxT (tabOf xs))) => depth_c b (nxT (tabOf xs)) (nice (SV_tab h1)) (pidx a) (by omega) _ hst W hS)
    rw [h] at HO
    have i0 : (0 : Int) ≤ (pidx a : Int) := by omega
    have i1 : (pidx a : Int) < 19 := by omega
    clear h h1 hst
    go_enter Try.func36, Try.ntmps36
    go_wp2_with fail
    refine HT.out.mono ?_
    rintro e w1 ⟨rfl, hb1⟩
    have hs1 := hb1.size
    go_wp2_with fail
    refine (HSP.out _).mono ?_
    rintro e w2 ⟨⟨b, rfl, hbge, hS⟩, hb2⟩
    have hb12 := (hb1.alloc hs1 (.cells (tabA (tabOf xs)) 73)).trans (hb2.mono (by simp; omega))
    have hs2 := hb12.size
    clear hb2
    go_wp2_with fail
    refine (HWB.out b _ hS).mono ?_
    rintro e w3 ⟨rfl, hb3⟩
    go_wp2
    go_ret
    exact ⟨by rw [HO.out]; rfl, hb12.trans (hb3.mono hs2)⟩
  · have HT := Lib.hid (tableAndPlace_no xs v a w hx h)
    rw [h] at HO
    clear h
    go_enter Try.func36, Try.ntmps36
    go_wp2_with fail
    refine HT.out.mono ?_
    rintro e w1 ⟨⟨g, n, rfl⟩, hb1⟩
    have hs1 := hb1.size
    go_wp2
    go_ret
    exact ⟨by rw [HO.out]; rfl, by (repeat' (first | (with_reducible exact Below.refl _ _) | (with_reducible assumption) | (with_reducible refine Below.alloc ?_ ?_ _) | (with_reducible refine Below.drew ?_) | (with_reducible refine Below.setCell ?_ ?_ _) | (with_reducible exact Nat.le_refl _) | omega | ((repeat (first | rewrite [World.size_alloc] | rewrite [World.size_setCell] | rewrite [World.size_drew])); omega) | (simp; omega) | (simp; done)))⟩
end Go.Proofs.Ytbgchjjaaelkbaa
