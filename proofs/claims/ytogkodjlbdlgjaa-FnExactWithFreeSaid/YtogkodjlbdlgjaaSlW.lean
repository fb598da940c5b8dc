import Derived.Test.YtogkodjlbdlgjaaSlM
import Derived.Test.YtogkodjlbdlgjaaHar2
namespace Go.PD
open Go.PM Go.RowKit Go.Lib
theorem ar_len {xs : List St} {free : List UInt8} (h : arF xs free = true) : free.length ≤ 2 := by
  unfold arF at h
  rw [Bool.and_eq_true, decide_eq_true_eq] at h
  exact h.1.1
theorem frS_len (xs : List St) (free : List UInt8) : (frS xs free).length ≤ 1048576 := by
  unfold frS
  split
  · next h =>
    unfold frOk at h
    rw [Bool.and_eq_true] at h
    have := svalid_len h.1
    simp; omega
  · simp
theorem frX_len (xs : List St) (free : List UInt8) : (xs.map (frX free)).length = xs.length := by simp
end Go.PD
namespace Go.Proofs.Ytogkodjlbdlgjaa
open Go.RowKit Go.PM Go.PD Go.Lib

set_option maxRecDepth 100000 in
set_option maxHeartbeats 1600000 in
theorem imWithFree_c (xs : List St) (v : Value) (free : ByteArray) (hf : free.size ≤ 1048576) (w : World) (hx : RdS w v xs) :
    Calls Try.prog 26 #[v, .string free] w fun e w' => ∃ v', e = .returned (.tuple #[v', .bool (frOk xs free.data.toList)]) ∧ w'.ownsRow w.heap.size 67 3 v' (frS xs free.data.toList).length (scells (frS xs free.data.toList)) ∧ Below w.heap.size w w' := by
  have hsv := Lib.hid (imSequenceValid_c xs v w hx)
  have HX := Lib.hid (fun W (hb : Below w.heap.size w W) => hx.below hb)
  have hown0 : ∀ W : World, W.ownsRow w.heap.size 67 3 (.slice none 0 0) ([] : List St).length (scells []) := fun W => ⟨rfl, .inl ⟨rfl, rfl⟩⟩
  have HFO := Lib.hid (frOk_ar xs free.data.toList)
  have HNO := Lib.hid (fun h => frS_no (xs := xs) (free := free.data.toList) h)
  have HYS := Lib.hid (fun h => frS_yes (xs := xs) (free := free.data.toList) h)
  rcases Bool.eq_false_or_eq_true (svalid xs) with h1 | h1
  · have hlen := svalid_len h1
    have HAR := Lib.hid (fun W hW => areFree_c free xs h1 v W hW hf)
    have H1 := Lib.hid h1
    rw [h1, Bool.true_and] at HFO
    have HSZ := Lib.hid (fun h => ar_len (xs := xs) (free := free.data.toList) h)
    have hfl : free.data.toList.length = free.size := size_data free
    have HFN := Lib.hid (fun a hs W => freeName_c a free hs W)
    clear h1 hx
    generalize hal : arF xs free.data.toList = ar at *
    cases ar with
    | false =>
      have HF := Lib.hid (HNO.out HFO.out)
      clear hal
      go_enter Try.func26, Try.ntmps26
      go_wp2_with fail
      refine hsv.out.mono ?_
      rintro e w1 ⟨rfl, hb1⟩
      rw [H1.out]
      have hx1 := HX.out _ hb1
      go_wp2_with (go_at_call 78; refine (HAR.out _ hx1).mono ?_; rintro e w2 ⟨rfl, hb2⟩)
      go_ret2
      exact ⟨_, by rw [HFO.out]; rfl, by rw [HF.out]; exact hown0 _, hb1.trans (hb2.mono hb1.size)⟩
    | true =>
      have hsz := HSZ.out rfl
      rw [hfl] at hsz
      have HFN2 := Lib.hid (fun a W => HFN.out a hsz W)
      have HF := Lib.hid (HYS.out HFO.out)
      clear hal hfl HSZ HFN
      generalize free.data.toList = fl at *
      have HXA : Hid (∀ k (hk : k < (xs.map (frX fl)).length) (hk2 : k < xs.length), (xs.map (frX fl))[k] = (xs[k].1, frN fl xs[k].2.1, frN fl xs[k].2.2)) := fun k hk hk2 => by rw [List.getElem_map]; rfl
      have HXL := Lib.hid (frX_len xs fl)
      generalize xs.map (frX fl) = ys at *
      obtain ⟨i0, hi0, hz0, hz1, hz2⟩ := info_parts infoSt
      have hmk := fun W : World => run_make (P := Try.prog) W 23 67 i0 _ Try.underlying23 hi0 hz0 .i64 .i64 xs.length xs.length (by omega) (Int.le_refl _) (by rw [hz2]; omega) (by omega)
      simp only [Int.toNat_natCast, hz1] at hmk
      go_enter Try.func26, Try.ntmps26
      go_wp2_with fail
      refine hsv.out.mono ?_
      rintro e w1 ⟨rfl, hb1⟩
      rw [H1.out]
      have hx1 := HX.out _ hb1
      go_wp2_with fail
      refine (HAR.out _ hx1).mono ?_
      rintro e w2 ⟨rfl, hb2⟩
      have hb3 := hb1.trans (hb2.mono hb1.size)
      have hs3 := hb3.size
      have hx2 := HX.out _ hb3
      clear hb2 hx1 HX hb1
      obtain ⟨A, cap, rfl, hn, hc, hcell⟩ := hx2.open
      clear hx2
      have hO := own_made w2 w2.heap.size 67 #[Value.int .i64 0, Value.string ⟨#[]⟩, Value.string ⟨#[]⟩] 3 xs.length rfl (by omega) (by omega) (Nat.le_refl _)
      have hB : Below w2.heap.size w2 (w2.alloc (Obj.cells (madeCells #[Value.int .i64 0, Value.string ⟨#[]⟩, Value.string ⟨#[]⟩] (xs.length * 3)) 67)) := (Below.refl _ _).alloc (Nat.le_refl _) _
      go_wp2
      generalize (w2.alloc (Obj.cells (madeCells #[Value.int .i64 0, Value.string ⟨#[]⟩, Value.string ⟨#[]⟩] (xs.length * 3)) 67)) = W1 at *
      have HZ0 : Hid (shalf ys 0 = (List.replicate xs.length zSt).flatten) := by show _ = _; rw [shalf_zero, HXL.out]
      go_loopw [7, 8, 23] (fun _ _ i wr => ∃ (k : Nat), k ≤ xs.length ∧ i = .int .i64 k ∧ wr.ownsRow w2.heap.size 67 3 (.slice (some ⟨w2.heap.size, 0, none⟩) xs.length xs.length) xs.length (shalf ys k) ∧ Below w2.heap.size w2 wr) (fun _ _ i _ => xs.length - (RowKit.intOf i).toNat)
      case atStart => exact ⟨0, by omega, rfl, by rw [HZ0.out]; exact hO, hB⟩
      case round =>
        clear hO hB
        obtain ⟨k, hk, rfl, ho, hb⟩ := hrel
        have hbs := hb.size
        by_cases hlt : k < xs.length
        · obtain ⟨b, off, rfl, hbl, hc1, hc2, hc3⟩ := hcell k hlt
          have hd1 := (hb.cell (p := ⟨b, off + k * 3, none⟩) hbl).trans hc1
          have hd2 := (hb.cell (p := ⟨b, off + k * 3 + 1, none⟩) hbl).trans hc2
          have hd3 := (hb.cell (p := ⟨b, off + k * 3 + 2, none⟩) hbl).trans hc3
          have hky : k < ys.length := by rw [HXL.out]; exact hlt
          have hyk := HXA.out k hky hlt
          have hset := shalf_set ys k hky
          have hat := shalf_at ys k hky
          rw [hyk] at hset
          have HSET := Lib.hid hset
          clear hc1 hc2 hc3 hcell hyk hset
          have HF1 := Lib.hid (fun W => HFN2.out xs[k].2.1 W)
          have HF2 := Lib.hid (fun W => HFN2.out xs[k].2.2 W)
          have hol := (own_lt ho).1
          generalize frN fl xs[k].2.1 = y2 at *
          generalize frN fl xs[k].2.2 = y3 at *
          generalize xs[k].1 = x1 at *
          generalize xs[k].2.1 = x2 at *
          generalize xs[k].2.2 = x3 at *
          have hA1 : At (wr.alloc (.cells #[.int .i64 x1, .string x2, .string x3] 67)).drew wr.heap.size 67 #[.int .i64 x1, .string x2, .string x3] := At.new _ _ _
          have hb1 : Below w2.heap.size w2 (wr.alloc (.cells #[.int .i64 x1, .string x2, .string x3] 67)).drew := (hb.alloc hbs _).drew
          have ho1 : (wr.alloc (.cells #[.int .i64 x1, .string x2, .string x3] 67)).drew.ownsRow w2.heap.size 67 3 (.slice (some ⟨w2.heap.size, 0, none⟩) xs.length xs.length) xs.length (shalf ys k) := own_keep ho ((Below.refl _ _).alloc (Nat.le_refl _) _).drew
          clear hb ho
          go_wp2
          obtain ⟨W2a, hW2⟩ : ∃ W2a : World, W2a = (wr.alloc (.cells #[.int .i64 x1, .string x2, .string x3] 67)).drew := ⟨_, rfl⟩
          refine region_tail (C := fun w' => ∃ x : Ext W2a.heap.size W2a, w' = x.val) 12 (by kernel_rfl) (by kernel_rfl) ⟨⟨W2a, Below.refl _ _⟩, hW2.symm⟩ ?_
          rw [← hW2] at hA1 hb1 ho1
          clear hW2
          simp only [List.take_succ_cons, List.take_zero, List.drop_succ_cons, List.drop_zero]
          have hl2 := hA1.lt
          have q1 : ∀ x : Ext W2a.heap.size W2a, x.val.cell? ⟨wr.heap.size, 1, none⟩ = some (.string x2) := fun x => (x.property.cell (p := ⟨wr.heap.size, 1, none⟩) hl2).trans (hA1.cell 1)
          have q2 : ∀ x : Ext W2a.heap.size W2a, x.val.cell? ⟨wr.heap.size, 2, none⟩ = some (.string x3) := fun x => (x.property.cell (p := ⟨wr.heap.size, 2, none⟩) hl2).trans (hA1.cell 2)
          repeat (go_big_quiet_step ((go_at_call 79; first | (with_reducible exact ext_same _ (HF1.out _)) | (with_reducible exact ext_same _ (HF2.out _)))))
          refine wpQuiet_nil ?_
          intro W2 hw'
          obtain ⟨xw, hxw⟩ := hw'
          have hbw := xw.property
          rw [← hxw] at hbw
          clear hxw xw q1 q2
          replace hA1 := hA1.keep hbw
          replace ho1 := own_keep ho1 hbw
          replace hb1 := hb1.trans (hbw.mono hb1.size)
          have hlw := hA1.lt
          clear hbw hl2
          have hne : (Value.slice (some ⟨w2.heap.size, 0, none⟩) xs.length xs.length).ownBlock ≠ some wr.heap.size := fun e => by have : w2.heap.size = wr.heap.size := Option.some.inj e; omega
          have f1 := hA1.frozen 1
          have f0 := hA1.frozen 2
          have p0 : W2.cell? ⟨wr.heap.size, 0, none⟩ = some (.int .i64 x1) := hA1.cell 0
          have p1 : W2.cell? ⟨wr.heap.size, 1, none⟩ = some (.string x2) := hA1.cell 1
          have p2 : W2.cell? ⟨wr.heap.size, 2, none⟩ = some (.string x3) := hA1.cell 2
          have hA2 := hA1.set 1 (.string y2)
          have hA2' : At (W2.setCell ⟨wr.heap.size, 1, none⟩ (.string y2)) wr.heap.size 67 #[.int .i64 x1, .string y2, .string x3] := by simpa using hA2
          have f2 := hA2'.frozen 2
          have q3 : (W2.setCell ⟨wr.heap.size, 1, none⟩ (.string y2)).cell? ⟨wr.heap.size, 2, none⟩ = some (.string x3) := hA2'.cell 2
          have hA3 := hA2'.set 2 (.string y3)
          have hA3' : At ((W2.setCell ⟨wr.heap.size, 1, none⟩ (.string y2)).setCell ⟨wr.heap.size, 2, none⟩ (.string y3)) wr.heap.size 67 #[.int .i64 x1, .string y2, .string y3] := by simpa using hA3
          have ho2 := own_grown ho1 (grown_cellQ W2 wr.heap.size 1 (.string y2)) (.inl hne)
          have ho3 := own_grown ho2 (grown_cellQ (W2.setCell ⟨wr.heap.size, 1, none⟩ (.string y2)) wr.heap.size 2 (.string y3)) (.inl hne)
          have hb2 : Below w2.heap.size w2 ((W2.setCell ⟨wr.heap.size, 1, none⟩ (.string y2)).setCell ⟨wr.heap.size, 2, none⟩ (.string y3)) := (hb1.setCell (by simp; omega) _).setCell (by simp; omega) _
          clear hA1 hA2 hA2' hA3 ho1 ho2 hb1
          have c0 := hA3'.cell 0
          have c1 := hA3'.cell 1
          have c2 := hA3'.cell 2
          simp only [List.getElem?_toArray, List.getElem?_cons_zero, List.getElem?_cons_succ] at c0 c1 c2
          have hf1 := ho3.frozenAt (k * 3)
          have hf2 := ho3.frozenAt (k * 3 + 1)
          have hf3 := ho3.frozenAt (k * 3 + 2)
          have hg1 := (ho3.cellAt (k * 3) (by omega)).trans hat.1
          have hg2 := (ho3.cellAt (k * 3 + 1) (by omega)).trans hat.2.1
          have hg3 := (ho3.cellAt (k * 3 + 2) (by omega)).trans hat.2.2
          have i0' : (0 : Int) ≤ (k : Int) := by omega
          have i1' : (k : Int) < (xs.length : Int) := by omega
          clear hA3' hat hne
          go_wp2_with fail
          go_roundw
          case rel =>
            refine ⟨k + 1, by omega, by go_num, ?_, ?_⟩
            · rw [← HSET.out]
              exact (((ho3.stored (k * 3) _).1.stored (k * 3 + 1) _).1.stored (k * 3 + 2) _).1
            · exact ((hb2.setCell (Nat.le_refl _) _).setCell (Nat.le_refl _) _).setCell (Nat.le_refl _) _
          case measure => simp [RowKit.intOf]; omega
        · have hk' : k = xs.length := by omega
          have ho2 := ho
          rw [hk', ← HXL.out, shalf_full] at ho2
          have ho3 := own_more ho2 hs3
          have HO3 : Hid (wr.ownsRow w.heap.size 67 3 (.slice (some ⟨w2.heap.size, 0, none⟩) xs.length xs.length) ys.length (scells ys)) := by
            have := ho3
            rw [show (Value.slice (some ⟨w2.heap.size, 0, none⟩) ys.length ys.length) = (Value.slice (some ⟨w2.heap.size, 0, none⟩) xs.length xs.length) by rw [HXL.out]] at this
            exact this
          have HK := Lib.hid hk'
          clear hcell ho2 ho3 ho hk'
          go_wp2
          go_ret2
          exact ⟨_, by rw [HFO.out]; rfl, by rw [HF.out]; exact HO3.out, hb3.trans (hb.mono hs3)⟩
  · have HF : Hid (frOk xs free.data.toList = false) := by show _ = _; rw [HFO.out, h1]; rfl
    have HFS := Lib.hid (HNO.out HF.out)
    have H1 := Lib.hid h1
    clear h1
    go_enter Try.func26, Try.ntmps26
    go_wp2_with fail
    refine hsv.out.mono ?_
    rintro e w1 ⟨rfl, hb1⟩
    rw [H1.out]
    go_wp2
    go_ret2
    exact ⟨_, by rw [HF.out]; rfl, by rw [HFS.out]; exact hown0 _, hb1⟩
end Go.Proofs.Ytogkodjlbdlgjaa
