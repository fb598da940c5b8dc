import Derived.Test.YtplapaojgcloaaaDoorSt4
import Derived.Test.YtplapaojgcloaaaDoorTop2
import Derived.Test.YtplapaojgcloaaaDoorNamesIn
namespace Go.Proofs.YtplapaojgcloaaaDoor
open Go.RowKit Go.PM

set_option maxHeartbeats 800000 in
theorem imInOrder_c (xs : List St) (v : Value) (s : ByteArray) (w : World) (hx : RdS w v xs) (hs : s.size ≤ 9223372036854775807) :
    Calls Tryd.prog 20 #[v, .string s] w fun e w' => e = .returned (.tuple #[.string (ioB xs s), .bool (svalid xs && stateV s)]) ∧ Below w.heap.size w w' := by
  have HB : Hid (∀ x y, svalid xs = x → stateV s = y → ioB xs s = okS (x && y) (stB (runS xs xs.length (ofB s)))) := fun x y h1 h2 => by rw [ioB, h1, h2]
  have HS := Lib.hid (stateOf_c s w hs)
  have HSV := Lib.hid (fun W (hW : Below w.heap.size w W) => imSequenceValid_c xs v W (hx.below hW))
  have HIO := Lib.hid (fun W (hW : Below w.heap.size w W) hv => inOrder_c xs hv v (ofB s) W (hx.below hW))
  clear hx
  rcases Bool.eq_false_or_eq_true (stateV s) with h2 | h2
  · have HG : Hid (stOf s = ofB s) := stOf_yes h2
    have H2 := Lib.hid h2
    rcases Bool.eq_false_or_eq_true (svalid xs) with h1 | h1
    · have HBT := Lib.hid (HB.out true true h1 h2)
      have HV := Lib.hid (fun k hk => svalid_at h1 k hk)
      have HX := Lib.hid (fun W => text_c (runS xs xs.length (ofB s)) W)
      have H1 := Lib.hid h1
      clear h1 h2
      generalize ofB s = f at *
      generalize runS xs xs.length f = g at *
      go_enter Tryd.func20, Tryd.ntmps20
      go_wp2_with fail
      refine HS.out.mono ?_
      rintro e w1 ⟨rfl, hb1⟩
      rw [HG.out, H2.out]
      have hs1 := hb1.size
      have z1 := At.new w1 78 zSA
      go_wp2_with (refine st_row rfl 78 (.tmp 6) (.tmp 11) rfl rfl w1.heap.size 78 zSA (stC f) z1 (by rfl) (by rfl) (by kernel_rfl) rfl (stC_one _) ?_; intro W2 k2 g2)
      have b2 : Below w.heap.size w W2 := (hb1.alloc hs1 _).trans (below_grown g2 (by simp; omega) (fun g hg => by cases hg; omega))
      refine (HSV.out _ b2).mono ?_
      rintro e w3 ⟨rfl, hb3⟩
      rw [H1.out]
      have k3 := k2.keep hb3
      have b3 := b2.trans (hb3.mono b2.size)
      go_wp2_with (refine ld_row rfl 78 (.tmp 6) rfl w1.heap.size 78 (stC f) k3 (by rfl) 11 5 Tryd.underlying78 (by kernel_rfl) ?_)
      refine (HIO.out _ b3 HV.out).mono ?_
      rintro e w5 ⟨rfl, hb5⟩
      have b5 := b3.trans (hb5.mono b3.size)
      go_wp2_with fail
      refine (HX.out _).mono ?_
      rintro e w6 ⟨rfl, hb6⟩
      go_wp2
      go_ret2
      exact ⟨by rw [H1.out, H2.out, HBT.out]; rfl, b5.trans (hb6.mono b5.size)⟩
    · have HBT := Lib.hid (HB.out false true h1 h2)
      have H1 := Lib.hid h1
      clear h1 h2 HIO
      generalize ofB s = f at *
      go_enter Tryd.func20, Tryd.ntmps20
      go_wp2_with fail
      refine HS.out.mono ?_
      rintro e w1 ⟨rfl, hb1⟩
      rw [HG.out, H2.out]
      have hs1 := hb1.size
      have z1 := At.new w1 78 zSA
      go_wp2_with (refine st_row rfl 78 (.tmp 6) (.tmp 11) rfl rfl w1.heap.size 78 zSA (stC f) z1 (by rfl) (by rfl) (by kernel_rfl) rfl (stC_one _) ?_; intro W2 k2 g2)
      have b2 : Below w.heap.size w W2 := (hb1.alloc hs1 _).trans (below_grown g2 (by simp; omega) (fun g hg => by cases hg; omega))
      refine (HSV.out _ b2).mono ?_
      rintro e w3 ⟨rfl, hb3⟩
      rw [H1.out]
      have b3 := b2.trans (hb3.mono b2.size)
      go_wp2
      go_ret2
      exact ⟨by rw [H1.out, H2.out, HBT.out]; rfl, b3⟩
  · have HBT : Hid (ioB xs s = ⟨#[]⟩) := by show _ = _; rw [ioB, h2, Bool.and_false]; rfl
    have HBF : Hid ((svalid xs && stateV s) = false) := by show _ = _; rw [h2, Bool.and_false]
    have HG : Hid (stOf s = zS) := stOf_no h2
    have H2 := Lib.hid h2
    clear h2 HSV HIO
    go_enter Tryd.func20, Tryd.ntmps20
    go_wp2_with fail
    refine HS.out.mono ?_
    rintro e w1 ⟨rfl, hb1⟩
    rw [HG.out, H2.out]
    have hs1 := hb1.size
    have z1 := At.new w1 78 zSA
    go_wp2_with (refine st_row rfl 78 (.tmp 6) (.tmp 11) rfl rfl w1.heap.size 78 zSA (stC zS) z1 (by rfl) (by rfl) (by kernel_rfl) rfl (stC_one _) ?_; intro W2 k2 g2)
    have b2 : Below w.heap.size w W2 := (hb1.alloc hs1 _).trans (below_grown g2 (by simp; omega) (fun g hg => by cases hg; omega))
    go_ret2
    exact ⟨by rw [HBF.out, HBT.out]; rfl, b2⟩
end Go.Proofs.YtplapaojgcloaaaDoor
