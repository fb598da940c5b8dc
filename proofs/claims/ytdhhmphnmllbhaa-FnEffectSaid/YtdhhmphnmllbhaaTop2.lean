import Derived.Test.YtdhhmphnmllbhaaSt5
import Derived.Test.YtdhhmphnmllbhaaSpS2
namespace Go.PM
open Go.RowKit
theorem src_okC {xs : List Mv} (h : MV xs) : ∀ p, p < 9 → okC (srcT (tabOf xs) p) = true := by
  intro p hp
  rw [srcM_nm h hp]
  unfold srcM
  cases hf : xs.find? (fun m => decide (m.1 = nm p)) with
  | none =>
    show okC (nm p) = true
    unfold okC; rw [(cidx_nm hp).1]; rfl
  | some m =>
    have hm := List.mem_of_find?_eq_some hf
    have h1 := h.1 m hm
    unfold mok at h1; rw [Bool.and_eq_true] at h1
    exact isS_okC h1.2
def aoB (xs : List Mv) (s : ByteArray) : ByteArray := okS (mvalid xs && stateV s) (stB (aoS (tabOf xs) (ofB s)))
def ioB (xs : List St) (s : ByteArray) : ByteArray := okS (svalid xs && stateV s) (stB (runS xs xs.length (ofB s)))
theorem okS_yes (s : ByteArray) : okS true s = s := rfl
theorem okS_no (s : ByteArray) : okS false s = ⟨#[]⟩ := rfl
end Go.PM
namespace Go.Proofs.Ytdhhmphnmllbhaa
open Go.RowKit Go.PM

set_option maxHeartbeats 800000 in
theorem imAtOnce_c (xs : List Mv) (v : Value) (s : ByteArray) (w : World) (hx : RdM w v xs) (hs : s.size ≤ 9223372036854775807) :
    Calls Try.prog 38 #[v, .string s] w fun e w' => e = .returned (.tuple #[.string (aoB xs s), .bool (mvalid xs && stateV s)]) ∧ Below w.heap.size w w' := by
  have HB : Hid (∀ x y, mvalid xs = x → stateV s = y → aoB xs s = okS (x && y) (stB (aoS (tabOf xs) (ofB s)))) := fun x y h1 h2 => by rw [aoB, h1, h2]
  by_cases h1 : MV xs
  · have hm : mvalid xs = true := by simpa [mvalid] using h1
    rcases Bool.eq_false_or_eq_true (stateV s) with h2 | h2
    · have HBT := Lib.hid (HB.out true true hm h2)
      have HT := Lib.hid (tableOf_yes xs h1 v w hx)
      have HS := Lib.hid (fun W => stateOf_c s W hs)
      have HG : Hid (stOf s = ofB s) := stOf_yes h2
      have HA := Lib.hid (fun W => atOnce_c (tabOf xs) (ofB s) (src_okC h1) W)
      have HX := Lib.hid (fun W => text_c (aoS (tabOf xs) (ofB s)) W)
      have HM := Lib.hid hm
      have H2 := Lib.hid h2
      clear hx h1 hm h2
      generalize tabOf xs = t at *
      generalize aoS t (ofB s) = g at *
      go_enter Try.func38, Try.ntmps38
      go_wp2_with fail
      refine HT.out.mono ?_
      rintro e w1 ⟨rfl, hb1⟩
      have hs1 := hb1.size
      have k2 := At.new w1 62 (tabA t)
      have b2 : Below w.heap.size w (w1.alloc (.cells (tabA t) 62)) := hb1.alloc hs1 _
      go_wp2_with fail
      refine (HS.out _).mono ?_
      rintro e w3 ⟨rfl, hb3⟩
      rw [HG.out, H2.out]
      have k3 := k2.keep hb3
      have b3 := b2.trans (hb3.mono b2.size)
      have s3 := b3.size
      have z3 := At.new w3 94 zSA
      generalize ofB s = f at *
      go_wp2_with (first | (refine st_row rfl 94 (.tmp 8) (.tmp 18) rfl rfl w3.heap.size 94 zSA (stC f) z3 (by rfl) (by rfl) (by kernel_rfl) rfl (stC_one _) ?_; intro W4 k4 g4; have j4 := (k3.alloc (.cells zSA 94)).grown g4 (by have := k3.lt; simp; omega)) | (refine ld_row rfl 94 (.tmp 8) rfl w3.heap.size 94 (stC f) k4 (by rfl) 11 5 Try.underlying94 (by kernel_rfl) ?_) | (refine ld_row rfl 62 (.tmp 6) rfl w1.heap.size 62 (tabA t) j4 (by rfl) 9 9 Try.underlying62 (by kernel_rfl) ?_))
      have b4 : Below w.heap.size w W4 := (b3.alloc s3 _).trans (below_grown g4 (by simp; omega) (fun g hg => by cases hg; omega))
      refine (HA.out _).mono ?_
      rintro e w5 ⟨rfl, hb5⟩
      have b5 := b4.trans (hb5.mono b4.size)
      go_wp2_with fail
      refine (HX.out _).mono ?_
      rintro e w6 ⟨rfl, hb6⟩
      go_wp2
      go_ret2
      exact ⟨by rw [HM.out, H2.out, HBT.out]; rfl, b5.trans (hb6.mono b5.size)⟩
    · have HT := Lib.hid (tableOf_yes xs h1 v w hx)
      have HS := Lib.hid (fun W => stateOf_c s W hs)
      have HBT := Lib.hid (HB.out true false hm h2)
      have HM := Lib.hid hm
      have H2 := Lib.hid h2
      clear hx h1 hm h2
      generalize tabOf xs = t at *
      generalize stOf s = f at *
      go_enter Try.func38, Try.ntmps38
      go_wp2_with fail
      refine HT.out.mono ?_
      rintro e w1 ⟨rfl, hb1⟩
      have hs1 := hb1.size
      have b2 : Below w.heap.size w (w1.alloc (.cells (tabA t) 62)) := hb1.alloc hs1 _
      go_wp2_with fail
      refine (HS.out _).mono ?_
      rintro e w3 ⟨rfl, hb3⟩
      rw [H2.out]
      have b3 := b2.trans (hb3.mono b2.size)
      have s3 := b3.size
      have z3 := At.new w3 94 zSA
      go_wp2_with (refine st_row rfl 94 (.tmp 8) (.tmp 18) rfl rfl w3.heap.size 94 zSA (stC f) z3 (by rfl) (by rfl) (by kernel_rfl) rfl (stC_one _) ?_; intro W4 k4 g4)
      go_ret2
      exact ⟨by rw [HM.out, H2.out, HBT.out]; rfl, (b3.alloc s3 _).trans (below_grown g4 (by simp; omega) (fun g hg => by cases hg; omega))⟩
  · have hm : mvalid xs = false := by simpa [mvalid] using h1
    rcases Bool.eq_false_or_eq_true (stateV s) with h2 | h2
    · have HT := Lib.hid (tableOf_no xs h1 v w hx)
      have HS := Lib.hid (fun W => stateOf_c s W hs)
      have HBT := Lib.hid (HB.out false true hm h2)
      have HM := Lib.hid hm
      have H2 := Lib.hid h2
      clear hx h1 hm h2

      generalize stOf s = f at *
      go_enter Try.func38, Try.ntmps38
      go_wp2_with fail
      refine HT.out.mono ?_
      rintro e w1 ⟨rfl, hb1⟩
      have hs1 := hb1.size
      have b2 : Below w.heap.size w (w1.alloc (.cells zA 62)) := hb1.alloc hs1 _
      go_wp2_with fail
      refine (HS.out _).mono ?_
      rintro e w3 ⟨rfl, hb3⟩
      rw [H2.out]
      have b3 := b2.trans (hb3.mono b2.size)
      have s3 := b3.size
      have z3 := At.new w3 94 zSA
      go_wp2_with (refine st_row rfl 94 (.tmp 8) (.tmp 18) rfl rfl w3.heap.size 94 zSA (stC f) z3 (by rfl) (by rfl) (by kernel_rfl) rfl (stC_one _) ?_; intro W4 k4 g4)
      go_ret2
      exact ⟨by rw [HM.out, H2.out, HBT.out]; rfl, (b3.alloc s3 _).trans (below_grown g4 (by simp; omega) (fun g hg => by cases hg; omega))⟩
    · have HT := Lib.hid (tableOf_no xs h1 v w hx)
      have HS := Lib.hid (fun W => stateOf_c s W hs)
      have HBT := Lib.hid (HB.out false false hm h2)
      have HM := Lib.hid hm
      have H2 := Lib.hid h2
      clear hx h1 hm h2

      generalize stOf s = f at *
      go_enter Try.func38, Try.ntmps38
      go_wp2_with fail
      refine HT.out.mono ?_
      rintro e w1 ⟨rfl, hb1⟩
      have hs1 := hb1.size
      have b2 : Below w.heap.size w (w1.alloc (.cells zA 62)) := hb1.alloc hs1 _
      go_wp2_with fail
      refine (HS.out _).mono ?_
      rintro e w3 ⟨rfl, hb3⟩
      rw [H2.out]
      have b3 := b2.trans (hb3.mono b2.size)
      have s3 := b3.size
      have z3 := At.new w3 94 zSA
      go_wp2_with (refine st_row rfl 94 (.tmp 8) (.tmp 18) rfl rfl w3.heap.size 94 zSA (stC f) z3 (by rfl) (by rfl) (by kernel_rfl) rfl (stC_one _) ?_; intro W4 k4 g4)
      go_ret2
      exact ⟨by rw [HM.out, H2.out, HBT.out]; rfl, (b3.alloc s3 _).trans (below_grown g4 (by simp; omega) (fun g hg => by cases hg; omega))⟩
end Go.Proofs.Ytdhhmphnmllbhaa
