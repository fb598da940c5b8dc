import Derived.Test.YtpbaomnhchljbaaSt5
import Derived.Test.YtpbaomnhchljbaaSpS2
namespace Go.PM
open Go.RowKit
theorem src_okC {xs : List Mv} (h : MV xs) : ∀ p, p < 9 → okC (srcT (tabOf xs) p) = true := by
  intro p hp
  rw [srcM_nm h hp]
  unfold srcM
  cases hf : xs.find? (fun m => decide (m.1 = nm p)) with
  | none =>
    show okC (nm p) = true
    unfold okC; rw [(cidx_nm hp).1]; rfl
  | some m =>
    have hm := List.mem_of_find?_eq_some hf
    have h1 := h.1 m hm
    unfold mok at h1; rw [Bool.and_eq_true] at h1
    exact isS_okC h1.2
def aoB (xs : List Mv) (s : ByteArray) : ByteArray := okS (mvalid xs && stateV s) (stB (aoS (tabOf xs) (ofB s)))
def ioB (xs : List St) (s : ByteArray) : ByteArray := okS (svalid xs && stateV s) (stB (runS xs xs.length (ofB s)))
theorem okS_yes (s : ByteArray) : okS true s = s := rfl
theorem okS_no (s : ByteArray) : okS false s = ⟨#[]⟩ := rfl
end Go.PM
namespace Go.Proofs.Ytpbaomnhchljbaa
open Go.RowKit Go.PM

set_option maxHeartbeats 800000 in
theorem imAtOnce_c (xs : List Mv) (v : Value) (s : ByteArray) (w : World) (hx : RdM w v xs) (hs : s.size ≤ 9223372036854775807) :
    Calls Try.prog 13 #[v, .string s] w fun e w' => e = .returned (.tuple #[.string (aoB xs s), .bool (mvalid xs && stateV s)]) ∧ Below w.heap.size w w' := by
  have HB : Hid (∀ x y, mvalid xs = x → stateV s = y → aoB xs s = okS (x && y) (stB (aoS (tabOf xs) (ofB s)))) := fun x y h1 h2 => by rw [aoB, h1, h2]
  by_cases h1 : MV xs
  · have hm : mvalid xs = true := by simpa [mvalid] using h1
    rcases Bool.eq_false_or_eq_true (stateV s) with h2 | h2
    · have HBT := Lib.hid (HB.out true true hm h2)
      have HT := Lib.hid (tableOf_yes xs h1 v w hx)
      have HS := Lib.hid (fun W => stateOf_c s W hs)
      have HG : Hid (stOf s = ofB s) := stOf_yes h2
      have HA := Lib.hid (fun W => atOnce_c (tabOf xs) (ofB s) (src_okC h1) W)
      have HX := Lib.hid (fun W => text_c (aoS (tabOf xs) (ofB s)) W)
      have HM := Lib.hid hm
      have H2 := Lib.hid h2
      clear hx h1 hm h2
      generalize tabOf xs = t at *
      generalize aoS t (ofB s) = g at *
      go_enter Try.func13, Try.ntmps13
      go_wp2_with fail
      refine HT.out.mono ?_
      rintro e w1 ⟨rfl, hb1⟩
      have hs1 := hb1.size
      have k2 := At.new w1 63 (tabA t)
      have b2 : Below w.heap.size w (w1.alloc (.cells (tabA t) 63)) := hb1.alloc hs1 _
      go_wp2_with fail
      refine (HS.out _).mono ?_
      rintro e w3 ⟨rfl, hb3⟩
      rw [HG.out, H2.out]
      have k3 := k2.keep hb3
      have b3 := b2.trans (hb3.mono b2.size)
      have s3 := b3.size
      have z3 := At.new w3 67 zSA
      generalize ofB s = f at *
      go_wp2_with (first | (refine st_row rfl 67 (.tmp 8) (.tmp 18) rfl rfl w3.heap.size 67 zSA (stC f) z3 (by rfl) (by rfl) (by kernel_rfl) rfl (stC_one _) ?_; intro W4 k4 g4; have j4 := (k3.alloc (.cells zSA 67)).grown g4 (by have := k3.lt; simp; omega)) | (refine ld_row rfl 67 (.tmp 8) rfl w3.heap.size 67 (stC f) k4 (by rfl) 11 5 Try.underlying67 (by kernel_rfl) ?_) | (refine ld_row rfl 63 (.tmp 6) rfl w1.heap.size 63 (tabA t) j4 (by rfl) 9 9 Try.underlying63 (by kernel_rfl) ?_))
      have b4 : Below w.heap.size w W4 := (b3.alloc s3 _).trans (below_grown g4 (by simp; omega) (fun g hg => by cases hg; omega))
      refine (HA.out _).mono ?_
      rintro e w5 ⟨rfl, hb5⟩
      have b5 := b4.trans (hb5.mono b4.size)
      go_wp2_with fail
      refine (HX.out _).mono ?_
      rintro e w6 ⟨rfl, hb6⟩
      go_wp2
      go_ret2
      exact ⟨by rw [HM.out, H2.out, HBT.out]; rfl, b5.trans (hb6.mono b5.size)⟩
    · have HT := Lib.hid (tableOf_yes xs h1 v w hx)
      have HS := Lib.hid (fun W => stateOf_c s W hs)
      have HBT := Lib.hid (HB.out true false hm h2)
      have HM := Lib.hid hm
      have H2 := Lib.hid h2
      clear hx h1 hm h2
      generalize tabOf xs = t at *
      generalize stOf s = f at *
      go_enter Try.func13, Try.ntmps13
      go_wp2_with fail
      refine HT.out.mono ?_
      rintro e w1 ⟨rfl, hb1⟩
      have hs1 := hb1.size
      have b2 : Below w.heap.size w (w1.alloc (.cells (tabA t) 63)) := hb1.alloc hs1 _
      go_wp2_with fail
      refine (HS.out _).mono ?_
      rintro e w3 ⟨rfl, hb3⟩
      rw [H2.out]
      have b3 := b2.trans (hb3.mono b2.size)
      have s3 := b3.size
      have z3 := At.new w3 67 zSA
      go_wp2_with (refine st_row rfl 67 (.tmp 8) (.tmp 18) rfl rfl w3.heap.size 67 zSA (stC f) z3 (by rfl) (by rfl) (by kernel_rfl) rfl (stC_one _) ?_; intro W4 k4 g4)
      go_ret2
      exact ⟨by rw [HM.out, H2.out, HBT.out]; rfl, (b3.alloc s3 _).trans (below_grown g4 (by simp; omega) (fun g hg => by cases hg; omega))⟩
  · have hm : mvalid xs = false := by simpa [mvalid] using h1
    rcases Bool.eq_false_or_eq_true (stateV s) with h2 | h2
    · have HT := Lib.hid (tableOf_no xs h1 v w hx)
      have HS := Lib.hid (fun W => stateOf_c s W hs)
      have HBT := Lib.hid (HB.out false true hm h2)
      have HM := Lib.hid hm
      have H2 := Lib.hid h2
      clear hx h1 hm h2

      generalize stOf s = f at *
      go_enter Try.func13, Try.ntmps13
      go_wp2_with fail
      refine HT.out.mono ?_
      rintro e w1 ⟨rfl, hb1⟩
      have hs1 := hb1.size
      have b2 : Below w.heap.size w (w1.alloc (.cells zA 63)) := hb1.alloc hs1 _
      go_wp2_with fail
      refine (HS.out _).mono ?_
      rintro e w3 ⟨rfl, hb3⟩
      rw [H2.out]
      have b3 := b2.trans (hb3.mono b2.size)
      have s3 := b3.size
      have z3 := At.new w3 67 zSA
      go_wp2_with (refine st_row rfl 67 (.tmp 8) (.tmp 18) rfl rfl w3.heap.size 67 zSA (stC f) z3 (by rfl) (by rfl) (by kernel_rfl) rfl (stC_one _) ?_; intro W4 k4 g4)
      go_ret2
      exact ⟨by rw [HM.out, H2.out, HBT.out]; rfl, (b3.alloc s3 _).trans (below_grown g4 (by simp; omega) (fun g hg => by cases hg; omega))⟩
    · have HT := Lib.hid (tableOf_no xs h1 v w hx)
      have HS := Lib.hid (fun W => stateOf_c s W hs)
      have HBT := Lib.hid (HB.out false false hm h2)
      have HM := Lib.hid hm
      have H2 := Lib.hid h2
      clear hx h1 hm h2

      generalize stOf s = f at *
      go_enter Try.func13, Try.ntmps13
      go_wp2_with fail
      refine HT.out.mono ?_
      rintro e w1 ⟨rfl, hb1⟩
      have hs1 := hb1.size
      have b2 : Below w.heap.size w (w1.alloc (.cells zA 63)) := hb1.alloc hs1 _
      go_wp2_with fail
      refine (HS.out _).mono ?_
      rintro e w3 ⟨rfl, hb3⟩
      rw [H2.out]
      have b3 := b2.trans (hb3.mono b2.size)
      have s3 := b3.size
      have z3 := At.new w3 67 zSA
      go_wp2_with (refine st_row rfl 67 (.tmp 8) (.tmp 18) rfl rfl w3.heap.size 67 zSA (stC f) z3 (by rfl) (by rfl) (by kernel_rfl) rfl (stC_one _) ?_; intro W4 k4 g4)
      go_ret2
      exact ⟨by rw [HM.out, H2.out, HBT.out]; rfl, (b3.alloc s3 _).trans (below_grown g4 (by simp; omega) (fun g hg => by cases hg; omega))⟩

set_option maxRecDepth 100000 in
set_option maxHeartbeats 1600000 in
theorem spAtOnce_c (xs : List Mv) (v : Value) (s : ByteArray) (w : World) (hx : RdM w v xs) (hz : ∀ m ∈ xs, m.1.size ≤ 9223372036854775807 ∧ m.2.size ≤ 9223372036854775807) (hn' : xs.length ≤ 1048576) (hs : s.size ≤ 9223372036854775807) :
    Calls Try.prog 14 #[v, .string s] w fun e w' => e = .returned (.tuple #[.string (aoB xs s), .bool (mvalid xs && stateV s)]) ∧ Below w.heap.size w w' := by
  have HB : Hid (∀ x y, mvalid xs = x → stateV s = y → aoB xs s = okS (x && y) (stB (aoS (tabOf xs) (ofB s)))) := fun x y h1 h2 => by rw [aoB, h1, h2]
  rcases Bool.eq_false_or_eq_true (mvalid xs) with hm | hm
  · rcases Bool.eq_false_or_eq_true (stateV s) with h2 | h2
    · have HBT := Lib.hid (HB.out true true hm h2)
      have h1 : MV xs := by simpa [mvalid] using hm
      have hso := (stateV_of h2).2
      have HSTEP : Hid (∀ k (hk : k < xs.length), stB (updS (aoS (tabOf (xs.take k)) (ofB s)) (cidx xs[k].1) (rdS (ofB s) xs[k].2)) = stB (aoS (tabOf (xs.take (k + 1))) (ofB s))) := fun k hk => by
        refine stB_congr fun q hq => ?_
        have h3 : MV (xs.take k ++ [xs[k]]) := by rw [← take_snoc xs k hk]; exact MV_take h1 _
        rw [take_snoc xs k hk]
        exact (aoS_snoc (xs.take k) xs[k] (ofB s) h3 q hq).symm
      have HOK : Hid (∀ k (hk : k < xs.length), isC xs[k].1 = true ∧ okC xs[k].2 = true) := fun k hk => by
        have h3 := h1.1 _ (List.getElem_mem hk)
        unfold mok at h3; rw [Bool.and_eq_true] at h3
        exact ⟨(isP_isC h3.1).1, isS_okC h3.2⟩
      have HZ : Hid (stB (aoS (tabOf (xs.take 0)) (ofB s)) = s) := by show _ = _; rw [List.take_zero, aoS_nil, hso]
      have HM := Lib.hid hm
      have H2 := Lib.hid h2
      have HSO := Lib.hid hso
      have hmc := Lib.hid (spMovesValid_c xs v w hx hz hn')
      clear hm h2 hso h1
      go_enter Try.func14, Try.ntmps14
      go_wp2_with fail
      refine hmc.out.mono ?_
      rintro e w1 ⟨rfl, hb1⟩
      rw [HM.out]
      have hs1 := hb1.size
      have hx1 := hx.below hb1
      obtain ⟨A, cap, rfl, hn, hc, hcell⟩ := hx1.open
      clear hx1
      go_wp2_with (go_at_call 17; refine (spStateValid_c s _ hs).mono ?_; rintro e w' ⟨rfl, rfl⟩; rw [H2.out])
      go_loopw [6, 8, 20] (fun o _ i wr => ∃ (k : Nat), k ≤ xs.length ∧ i = .int .i64 k ∧ o = .string (stB (aoS (tabOf (xs.take k)) (ofB s))) ∧ Below w1.heap.size w1 wr) (fun _ _ i _ => xs.length - (intOf i).toNat)
      case atStart => exact ⟨0, by omega, rfl, by rw [HZ.out], Below.refl _ _⟩
      case round =>
        obtain ⟨k, hk, rfl, rfl, hb⟩ := hrel
        have hbs := hb.size
        by_cases hlt : k < xs.length
        · obtain ⟨b, off, rfl, hbl, hc1, hc2⟩ := hcell k hlt
          have hd1 := (hb.cell (p := ⟨b, off + k * 2, none⟩) hbl).trans hc1
          have hd2 := (hb.cell (p := ⟨b, off + k * 2 + 1, none⟩) hbl).trans hc2
          clear hc1 hc2 hcell
          have hok := HOK.out k hlt
          have hstep := HSTEP.out k hlt
          generalize xs[k].1 = x1 at *
          generalize xs[k].2 = x2 at *
          have HST := Lib.hid hstep
          clear hstep
          have hV : ∀ x : Ext (wr.heap.size + 1) (wr.alloc (.cells #[.string x1, .string x2] 42)), Calls Try.prog 51 #[.string s, .string x2] x.val fun e w' => e = .returned (.string ⟨#[rdS (ofB s) x2]⟩) ∧ x.val = w' := fun x => by
            have := l2Value_c (ofB s) x2 hok.2 x.val
            rwa [HSO.out] at this
          have hP : ∀ x : Ext (wr.heap.size + 1) (wr.alloc (.cells #[.string x1, .string x2] 42)), Calls Try.prog 50 #[.string (stB (aoS (tabOf (xs.take k)) (ofB s))), .string x1, .string ⟨#[rdS (ofB s) x2]⟩] x.val fun e w' => e = .returned (.string (stB (aoS (tabOf (xs.take (k + 1))) (ofB s)))) ∧ Below x.val.heap.size x.val w' := fun x => by
            have := l2Put_c (aoS (tabOf (xs.take k)) (ofB s)) x1 hok.1 (rdS (ofB s) x2) x.val
            rwa [HST.out] at this
          have hxa : ∀ x : Ext (wr.heap.size + 1) (wr.alloc (.cells #[.string x1, .string x2] 42)), x.val.cell? ⟨wr.heap.size, 0, none⟩ = some (.string x1) := fun x =>
            (x.property.cell (p := ⟨wr.heap.size, 0, none⟩) (by simp)).trans ((At.new wr 42 #[.string x1, .string x2]).cell 0)
          have hxb : ∀ x : Ext (wr.heap.size + 1) (wr.alloc (.cells #[.string x1, .string x2] 42)), x.val.cell? ⟨wr.heap.size, 1, none⟩ = some (.string x2) := fun x =>
            (x.property.cell (p := ⟨wr.heap.size, 1, none⟩) (by simp)).trans ((At.new wr 42 #[.string x1, .string x2]).cell 1)
          clear hok
          generalize rdS (ofB s) x2 = c at *
          generalize hg2 : stB (aoS (tabOf (xs.take (k + 1))) (ofB s)) = t2 at *
          have HG2 := Lib.hid hg2
          clear hg2
          generalize stB (aoS (tabOf (xs.take k)) (ofB s)) = t at *
          go_wp2
          refine wp_region_ext (wr.heap.size + 1) (by kernel_rfl) (by kernel_rfl) ?_
          repeat (go_big_quiet_step (first | (go_at_call 51; exact ext_same _ (hV _)) | (go_at_call 50; exact ext_call _ (by simp) (hP _))))
          refine wpQuiet_nil ?_
          intro w2 hw'
          obtain ⟨xw, hxw⟩ := hw'
          have hb2 := xw.property
          rw [← hxw] at hb2
          clear hxw xw hxa hxb hd1 hd2 hV hP
          have hb3 : Below w1.heap.size w1 w2 := (hb.alloc hbs _).trans (hb2.mono (by omega))
          go_wp2
          go_roundw
          case rel => exact ⟨k + 1, by omega, by go_num, by rw [HG2.out], hb3⟩
          case measure => simp [intOf]; omega
        · have hk' : k = xs.length := by omega
          have HE : Hid (stB (aoS (tabOf (xs.take k)) (ofB s)) = aoB xs s) := by show _ = _; rw [hk', List.take_length, HBT.out]; rfl
          go_wp2
          go_ret2
          exact ⟨by rw [HM.out, H2.out, ← HE.out]; rfl, hb1.trans (hb.mono hs1)⟩
    · have HBT := Lib.hid (HB.out true false hm h2)
      have HM := Lib.hid hm
      have H2 := Lib.hid h2
      have hmc := Lib.hid (spMovesValid_c xs v w hx hz hn')
      clear hm h2
      go_enter Try.func14, Try.ntmps14
      go_wp2_with fail
      refine hmc.out.mono ?_
      rintro e w1 ⟨rfl, hb1⟩
      rw [HM.out]
      go_wp2_with (go_at_call 17; refine (spStateValid_c s _ hs).mono ?_; rintro e w' ⟨rfl, rfl⟩; rw [H2.out])
      go_ret2
      exact ⟨by rw [HM.out, H2.out, HBT.out]; rfl, hb1⟩
  · have HBT : Hid (aoB xs s = ⟨#[]⟩) := by show _ = _; rw [aoB, hm]; rfl
    have HM := Lib.hid hm
    have hmc := Lib.hid (spMovesValid_c xs v w hx hz hn')
    clear hm
    go_enter Try.func14, Try.ntmps14
    go_wp2_with fail
    refine hmc.out.mono ?_
    rintro e w1 ⟨rfl, hb1⟩
    rw [HM.out]
    go_wp2
    go_ret2
    exact ⟨by rw [HM.out, HBT.out]; rfl, hb1⟩
end Go.Proofs.Ytpbaomnhchljbaa
