import Derived.Test.YtafglnkgghigfaaSpotO
import Derived.Test.YtafglnkgghigfaaRing
namespace Go.PW
open Go.PM
def wayB (xs : List Mv) (a : ByteArray) : ByteArray := txt (way (nxT (tabOf xs)) (pidx a))
noncomputable def depN (nx : Nat → Option Nat) (s : Nat) : Nat := least (Stops nx s)
theorem depN_stops {nx : Nat → Option Nat} (hn : Nice nx) {s : Nat} (hs : s < 19) : Stops nx s (depN nx s) := by
  obtain ⟨D, hD, _⟩ := (way_rho hn hs).stops
  exact (least_spec ⟨D, hD⟩).1
noncomputable def depthI (xs : List Mv) (a : ByteArray) : Int := if mvalid xs && isP a then (depN (nxT (tabOf xs)) (pidx a) : Int) else -1
theorem isP_sn {a : ByteArray} (h : isP a = true) : a = sn (pidx a) := by
  have := pidx_spec h
  rw [sn_nm _ this.1, this.2]
end Go.PW
namespace Go.Proofs.Ytafglnkgghigfaa
open Go.RowKit Go.PM Go.PW Go.Lib

theorem spWayBack_c (xs : List Mv) (v : Value) (a : ByteArray) (w : World) (hx : RdM w v xs) (hz : ∀ m ∈ xs, m.1.size ≤ 9223372036854775807 ∧ m.2.size ≤ 9223372036854775807) (hn' : xs.length ≤ 1048576) :
    Calls Try.prog 35 #[v, .string a] w fun e w' => e = .returned (.tuple #[.string (okS (mvalid xs && isP a) (wayB xs a)), .bool (mvalid xs && isP a)]) ∧ Below w.heap.size w w' := by
  have HO : Hid (∀ b s, okS b s = if b then s else ⟨#[]⟩) := fun _ _ => rfl
  rcases Bool.eq_false_or_eq_true (mvalid xs) with h1 | h1
  · rcases Bool.eq_false_or_eq_true (isP a) with h2 | h2
    · have HW := Lib.hid (fun W (hW : RdM W v xs) => l3Way_c xs (by simpa [mvalid] using h1) v (pidx a) (by have := (pidx_spec h2).1; omega) W hW)
      rw [← isP_sn h2] at HW
      go_enter Try.func35, Try.ntmps35
      go_wp2_with fail
      refine (spMovesValid_c xs v _ hx hz hn').mono ?_
      rintro e w1 ⟨rfl, hb1⟩
      have hs1 := hb1.size
      have hx1 := hx.below hb1
      go_wp2_with (first | (go_at_call 72; refine (l1Place_c _ _).mono ?_; rintro e w' ⟨rfl, rfl⟩) | (go_at_call 73; refine (HW.out _ hx1).mono ?_; rintro e w2 ⟨rfl, hb2⟩))
      go_ret2
      exact ⟨by rw [h1, h2, HO.out]; rfl, hb1.trans (hb2.mono hs1)⟩
    · go_enter Try.func35, Try.ntmps35
      go_wp2_with fail
      refine (spMovesValid_c xs v _ hx hz hn').mono ?_
      rintro e w1 ⟨rfl, hb1⟩
      go_wp2_with (go_at_call 72; refine (l1Place_c _ _).mono ?_; rintro e w' ⟨rfl, rfl⟩)
      go_ret2
      exact ⟨by rw [h1, h2, HO.out]; rfl, hb1⟩
  · go_enter Try.func35, Try.ntmps35
    go_wp2_with fail
    refine (spMovesValid_c xs v _ hx hz hn').mono ?_
    rintro e w1 ⟨rfl, hb1⟩
    go_wp2
    go_ret2
    exact ⟨by rw [h1, HO.out]; rfl, hb1⟩

set_option maxRecDepth 100000 in
set_option maxHeartbeats 800000 in
theorem imWayBack_c (xs : List Mv) (v : Value) (a : ByteArray) (w : World) (hx : RdM w v xs) :
    Calls Try.prog 34 #[v, .string a] w fun e w' => e = .returned (.tuple #[.string (okS (mvalid xs && isP a) (wayB xs a)), .bool (mvalid xs && isP a)]) ∧ Below w.heap.size w w' := by
  have HO : Hid (∀ b s, okS b s = if b then s else ⟨#[]⟩) := fun _ _ => rfl
  rcases Bool.eq_false_or_eq_true (mvalid xs && isP a) with h | h
  · have h1 : MV xs := by have := (Bool.and_eq_true _ _ ▸ h).1; simpa [mvalid] using this
    have h2 : isP a = true := (Bool.and_eq_true _ _ ▸ h).2
    have hp := (pidx_spec h2).1
    have HT := Lib.hid (tableAndPlace_yes xs v a w hx h1 h2)
    have HSP := Lib.hid (fun W => spotsOf_c (tabOf xs) (SV_tab h1) W)
    have HWB := Lib.hid (fun b W (hS : Spots W b (nxT (tabOf xs))) => wayBack_c b (nxT (tabOf xs)) (nice (SV_tab h1)) (pidx a) (by omega) W hS)
    have HY : Hid (wayB xs a = txt (way (nxT (tabOf xs)) (pidx a))) := rfl
    rw [h]
    have i0 : (0 : Int) ≤ (pidx a : Int) := by omega
    have i1 : (pidx a : Int) < 19 := by omega
    clear h h1
    go_enter Try.func34, Try.ntmps34
    go_wp2_with fail
    refine HT.out.mono ?_
    rintro e w1 ⟨rfl, hb1⟩
    have hs1 := hb1.size
    go_wp2_with fail
    refine (HSP.out _).mono ?_
    rintro e w2 ⟨⟨b, rfl, hbge, hS⟩, hb2⟩
    have hb12 := (hb1.alloc hs1 (.cells (tabA (tabOf xs)) 51)).trans (hb2.mono (by simp; omega))
    have hs2 := hb12.size
    clear hb2
    go_wp2_with fail
    refine (HWB.out b _ hS).mono ?_
    rintro e w3 ⟨rfl, hb3⟩
    go_wp2
    go_ret2
    exact ⟨by rw [HO.out, HY.out]; rfl, hb12.trans (hb3.mono hs2)⟩
  · have HT := Lib.hid (tableAndPlace_no xs v a w hx h)
    rw [h]
    clear h
    go_enter Try.func34, Try.ntmps34
    go_wp2_with fail
    refine HT.out.mono ?_
    rintro e w1 ⟨⟨g, n, rfl⟩, hb1⟩
    have hs1 := hb1.size
    go_wp2
    go_ret2
    exact ⟨by rw [HO.out]; rfl, by (repeat' (first | (with_reducible exact Below.refl _ _) | (with_reducible assumption) | (with_reducible refine Below.alloc ?_ ?_ _) | (with_reducible refine Below.drew ?_) | (with_reducible refine Below.setCell ?_ ?_ _) | (with_reducible exact Nat.le_refl _) | omega | (simp only [World.size_alloc, World.size_setCell, World.size_drew]; omega) | (simp; omega) | (simp; done)))⟩
set_option maxRecDepth 100000 in
set_option maxHeartbeats 800000 in
theorem imDepthOf_c (xs : List Mv) (v : Value) (a : ByteArray) (w : World) (hx : RdM w v xs) :
    Calls Try.prog 24 #[v, .string a] w fun e w' => e = .returned (.int .i64 (depthI xs a)) ∧ Below w.heap.size w w' := by
  have HO : Hid (depthI xs a = if mvalid xs && isP a then (depN (nxT (tabOf xs)) (pidx a) : Int) else -1) := rfl
  rcases Bool.eq_false_or_eq_true (mvalid xs && isP a) with h | h
  · have h1 : MV xs := by have := (Bool.and_eq_true _ _ ▸ h).1; simpa [mvalid] using this
    have h2 : isP a = true := (Bool.and_eq_true _ _ ▸ h).2
    have hp := (pidx_spec h2).1
    have HT := Lib.hid (tableAndPlace_yes xs v a w hx h1 h2)
    have HSP := Lib.hid (fun W => spotsOf_c (tabOf xs) (SV_tab h1) W)
    have hst := depN_stops (nice (SV_tab h1)) (show pidx a < 19 by omega)
    have HWB := Lib.hid (fun b W (hS : Spots W b (nxT (tabOf xs))) => depth_c b (nxT (tabOf xs)) (nice (SV_tab h1)) (pidx a) (by omega) _ hst W hS)
    rw [h] at HO
    have i0 : (0 : Int) ≤ (pidx a : Int) := by omega
    have i1 : (pidx a : Int) < 19 := by omega
    clear h h1 hst
    go_enter Try.func24, Try.ntmps24
    go_wp2_with fail
    refine HT.out.mono ?_
    rintro e w1 ⟨rfl, hb1⟩
    have hs1 := hb1.size
    go_wp2_with fail
    refine (HSP.out _).mono ?_
    rintro e w2 ⟨⟨b, rfl, hbge, hS⟩, hb2⟩
    have hb12 := (hb1.alloc hs1 (.cells (tabA (tabOf xs)) 51)).trans (hb2.mono (by simp; omega))
    have hs2 := hb12.size
    clear hb2
    go_wp2_with fail
    refine (HWB.out b _ hS).mono ?_
    rintro e w3 ⟨rfl, hb3⟩
    go_wp2
    go_ret
    exact ⟨by rw [HO.out]; rfl, hb12.trans (hb3.mono hs2)⟩
  · have HT := Lib.hid (tableAndPlace_no xs v a w hx h)
    rw [h] at HO
    clear h
    go_enter Try.func24, Try.ntmps24
    go_wp2_with fail
    refine HT.out.mono ?_
    rintro e w1 ⟨⟨g, n, rfl⟩, hb1⟩
    have hs1 := hb1.size
    go_wp2
    go_ret
    exact ⟨by rw [HO.out]; rfl, by (repeat' (first | (with_reducible exact Below.refl _ _) | (with_reducible assumption) | (with_reducible refine Below.alloc ?_ ?_ _) | (with_reducible refine Below.drew ?_) | (with_reducible refine Below.setCell ?_ ?_ _) | (with_reducible exact Nat.le_refl _) | omega | (simp only [World.size_alloc, World.size_setCell, World.size_drew]; omega) | (simp; omega) | (simp; done)))⟩
end Go.Proofs.Ytafglnkgghigfaa
