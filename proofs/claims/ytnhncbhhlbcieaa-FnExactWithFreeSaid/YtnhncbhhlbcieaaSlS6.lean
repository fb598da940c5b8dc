import Derived.Test.YtnhncbhhlbcieaaSlS5
namespace Go.Proofs.Ytnhncbhhlbcieaa
open Go.RowKit Go.PM Go.PD Go.Lib
attribute [local go_sem] Oper.semAt_some

set_option maxRecDepth 100000 in
set_option maxHeartbeats 4000000 in
theorem spWithFree_c (xs : List St) (v : Value) (free : ByteArray) (hf : free.size ≤ 1048576) (w : World) (hx : RdS w v xs) :
    Calls Try.prog 5 #[v, .string free] w fun e w' => ∃ v', e = .returned (.tuple #[v', .bool (frOk xs free.data.toList)]) ∧ w'.ownsRow w.heap.size 40 3 v' (frS xs free.data.toList).length (scells (frS xs free.data.toList)) ∧ Below w.heap.size w w' := by
  have hE := World.ownsRow_lit (e := 40) (base := w.heap.size) (size := 3) w #[] 0 (Nat.le_refl _) (Nat.zero_le _) rfl
  have hB0 : Below w.heap.size w (w.alloc (.cells #[] 40)) := (Below.refl _ _).alloc (Nat.le_refl _) _
  have HX := Lib.hid (fun W (hb : Below w.heap.size w W) => hx.below hb)
  have HSV := Lib.hid (fun (x : Ext (w.alloc (.cells #[] 40)).heap.size (w.alloc (.cells #[] 40))) => spSequenceValid_c xs v x.val (HX.out _ (hB0.trans (x.property.mono hB0.size))))
  have HFO := Lib.hid (frOk_ar xs free.data.toList)
  have HNO := Lib.hid (fun h => frS_no (xs := xs) (free := free.data.toList) h)
  have HYS := Lib.hid (fun h => frS_yes (xs := xs) (free := free.data.toList) h)
  have HE0 : ∀ W : World, w.heap.size ≤ W.heap.size → (W.alloc (.cells #[] 40)).ownsRow w.heap.size 40 3 (.slice (some ⟨W.heap.size, 0, none⟩) 0 0) ([] : List St).length (scells []) := fun W hW => World.ownsRow_lit (e := 40) (base := w.heap.size) (size := 3) W #[] 0 hW (Nat.zero_le _) rfl
  obtain ⟨A, cap, rfl, hn, hc, hcell⟩ := hx.open
  have hfl : free.data.toList.length = free.size := size_data free
  have HEF : (World.alloc w (.cells #[] 40)).heap.size = w.heap.size + 1 := by simp
  have hOE : ∀ W : World, Below (w.alloc (.cells #[] 40)).heap.size (w.alloc (.cells #[] 40)) W → W.ownsRow w.heap.size 40 3 (.slice (some ⟨w.heap.size, 0, none⟩) 0 0) ([] : List St).length (scells []) := fun W hW => own_keep hE hW
  clear hx
  rcases Bool.eq_false_or_eq_true (svalid xs) with h1 | h1
  · rw [h1, Bool.true_and] at HFO
    rw [h1] at HSV
    by_cases h2 : free.size ≤ 2
    · have HSZ := Lib.hid (fun k hk => ok_sizes (svalid_at h1 k hk))
      have HSNC := Lib.hid (fun k hk => frX_snoc xs free.data.toList k hk)
      have hlen := svalid_len h1
      have H1 := Lib.hid h1
      have HCELL := Lib.hid hcell
      have HBAD : Hid (∀ k (hk : k < free.size), okF xs free[k] = false → arF xs free.data.toList = false) := fun k hk h => ar_bad k (by rw [hfl]; exact hk) h
      have hnd := nodup_two (f := free) h2
      have HDUP := Lib.hid (fun h => ar_dup (xs := xs) (free := free.data.toList) h)
      have HAL0 := Lib.hid (fun h => ar_all (xs := xs) (free := free.data.toList) (by omega) h)
      clear h1 hcell
      by_cases h3 : free.size = 2
      · have p0 : 0 < free.size := by omega
        have p1 : 1 < free.size := by omega
        have i0 : (0 : Int) < (free.size : Int) := by omega
        have i1 : (1 : Int) < (free.size : Int) := by omega
        have t2 : ((free.size : Int) == 2) = true := by simp [h3]
        have key : ((free[0].toNat : Int) == (free[1].toNat : Int)) = decide (free[0] = free[1]) := by
          rw [Bool.eq_iff_iff, beq_iff_eq, decide_eq_true_eq]
          exact ⟨fun h => UInt8.toNat.inj (by omega), fun h => by rw [h]⟩
        rcases Bool.eq_false_or_eq_true ((free[0].toNat : Int) == (free[1].toNat : Int)) with e01 | e01
        · have HA := Lib.hid (HFO.out.trans (HDUP.out (fun h => hnd.1 h p0 p1 (of_decide_eq_true (key.symm.trans e01)))))
          have HF := Lib.hid (HNO.out HA.out)
          have t1 : ¬ (2 : Int) < (free.size : Int) := by omega
          have t1d : decide ((2 : Int) < (free.size : Int)) = false := decide_eq_false t1
          clear key hnd hfl h3
          go_enter Try.func5, Try.ntmps5
          go_wp2
          refine wp_region_ext (w.alloc (.cells #[] 40)).heap.size (by kernel_rfl) (by kernel_rfl) ?_
          repeat (go_big_quiet_step ((go_at_call 12; exact ext_call _ (Nat.le_refl _) (HSV.out _))))
          refine wpQuiet_nil ?_
          intro w2 hw'
          obtain ⟨xw, hxw⟩ := hw'
          have hb2 := xw.property
          rw [← hxw] at hb2
          clear hxw xw
          have hO := hOE _ hb2
          have hB := hB0.trans (hb2.mono hB0.size)
          go_wp2
          go_ret2
          exact ⟨_, by rw [HA.out]; rfl, by rw [HF.out]; exact hO, hB⟩
        · have HALL : Hid ((∀ j (hj : j < free.size), okF xs free[j] = true) → arF xs free.data.toList = true) := fun h => HAL0.out (hnd.2 (fun _ _ => of_decide_eq_false (key.symm.trans e01))) (fun k hk => h k (by rw [← hfl]; exact hk))
          have t1 : ¬ (2 : Int) < (free.size : Int) := by omega
          have t1d : decide ((2 : Int) < (free.size : Int)) = false := decide_eq_false t1
          clear key hnd hfl h3
          go_enter Try.func5, Try.ntmps5
          go_wp2
          refine wp_region_ext (w.alloc (.cells #[] 40)).heap.size (by kernel_rfl) (by kernel_rfl) ?_
          repeat (go_big_quiet_step ((go_at_call 12; exact ext_call _ (Nat.le_refl _) (HSV.out _))))
          refine wpQuiet_nil ?_
          intro w2 hw'
          obtain ⟨xw, hxw⟩ := hw'
          have hb2 := xw.property
          rw [← hxw] at hb2
          clear hxw xw
          have hO := hOE _ hb2
          have hB := hB0.trans (hb2.mono hB0.size)
          have hs2 := hB.size
          clear hb2 hE hB0
          go_wp2
          go_loopw [36] (fun i wr => ∃ (k : Nat), k ≤ free.size ∧ i = .int .i64 k ∧ Hid (∀ j (hj : j < free.size), j < k → okF xs free[j] = true) ∧ Below w2.heap.size w2 wr) (fun i _ => free.size - (RowKit.intOf i).toNat)
          case atStart => exact ⟨0, by omega, rfl, fun j _ hj => absurd hj (Nat.not_lt_zero j), Below.refl _ _⟩
          case round =>
            obtain ⟨k, hk, rfl, hm, hb⟩ := hrel
            have hbs := hb.size
            by_cases hlt : k < free.size
            · have HRG := Lib.hid (reg_in free[k])
              have hu8 := wrap64_u8 free[k]
              have HBK := Lib.hid (fun h => HBAD.out k hlt h)
              have HM : Hid (okF xs free[k] = true → ∀ j (hj : j < free.size), j < k + 1 → okF xs free[j] = true) := by
                intro h j hj hjk
                rcases Nat.lt_succ_iff_lt_or_eq.1 hjk with h1 | h1
                · exact hm.out j hj h1
                · subst h1; exact h
              have HHIT : Hid (∀ j (hj : j < xs.length), (xs[j].2.1 = ⟨#[free[k]]⟩ ∨ xs[j].2.2 = ⟨#[free[k]]⟩) → okF xs free[k] = false) := fun j hj h => okF_hit H1.out j hj h
              have HOKY : Hid (decide (free[k] ∈ regsL) = true → (∀ j (hj : j < xs.length), ¬ (xs[j].2.1 = ⟨#[free[k]]⟩ ∨ xs[j].2.2 = ⟨#[free[k]]⟩)) → okF xs free[k] = true) := fun h h' => okF_yes H1.out h h'
              have HONE : Hid (∀ (a : ByteArray), a.size = 1 → ∀ (h0 : 0 < a.size), (a[0] = free[k] ↔ a = ⟨#[free[k]]⟩)) := fun a h h0 => one_at h h0 free[k]
              rcases Bool.eq_false_or_eq_true (inB (free[k].toNat : Int) 97 102) with b1 | b1
              · have HRY := Lib.hid (HRG.out.trans b1)
                go_wp2_with (go_at_call 13; refine (l1In_c _ _ _ _).mono ?_; rintro e w' ⟨rfl, rfl⟩; simp only [hu8, b1])
                go_loopw [48] (fun i wr => ∃ (j : Nat), j ≤ xs.length ∧ i = .int .i64 j ∧ Hid (∀ i (hi : i < xs.length), i < j → ¬ (xs[i].2.1 = ⟨#[free[k]]⟩ ∨ xs[i].2.2 = ⟨#[free[k]]⟩)) ∧ Below w2.heap.size w2 wr) (fun i _ => xs.length - (RowKit.intOf i).toNat)
                case atStart => exact ⟨0, by omega, rfl, fun j _ hj => absurd hj (Nat.not_lt_zero j), hb⟩
                case round =>
                  clear hb hbs
                  obtain ⟨j, hj, rfl, hmj, hb⟩ := hrel
                  have hbs := hb.size
                  by_cases hltj : j < xs.length
                  · obtain ⟨b, off, rfl, hbl, hc1, hc2, hc3⟩ := HCELL.out j hltj
                    have hBc := hB.trans (hb.mono hs2)
                    have hd1 := (hBc.cell (p := ⟨b, off + j * 3, none⟩) hbl).trans hc1
                    have hd2 := (hBc.cell (p := ⟨b, off + j * 3 + 1, none⟩) hbl).trans hc2
                    have hd3 := (hBc.cell (p := ⟨b, off + j * 3 + 2, none⟩) hbl).trans hc3
                    clear hBc
                    clear hc1 hc2 hc3
                    obtain ⟨z2, z3⟩ := HSZ.out j hltj
                    have HHJ := Lib.hid (HHIT.out j hltj)
                    have HMJ : Hid (¬ (xs[j].2.1 = ⟨#[free[k]]⟩ ∨ xs[j].2.2 = ⟨#[free[k]]⟩) → ∀ i (hi : i < xs.length), i < j + 1 → ¬ (xs[i].2.1 = ⟨#[free[k]]⟩ ∨ xs[i].2.2 = ⟨#[free[k]]⟩)) := by
                      intro h i hi hij
                      rcases Nat.lt_succ_iff_lt_or_eq.1 hij with h1 | h1
                      · exact hmj.out i hi h1
                      · subst h1; exact h
                    generalize xs[j].1 = x1 at *
                    generalize xs[j].2.1 = x2 at *
                    generalize xs[j].2.2 = x3 at *
                    have p2 : 0 < x2.size := by omega
                    have p3 : 0 < x3.size := by omega
                    have HO2 := Lib.hid (HONE.out x2 z2 p2)
                    have HO3 := Lib.hid (HONE.out x3 z3 p3)
                    have hN1 : At (wr.alloc (.cells #[.int .i64 x1, .string x2, .string x3] 40)) wr.heap.size 40 #[.int .i64 x1, .string x2, .string x3] := At.new _ _ _
                    have hxb : ∀ x : Ext (wr.heap.size + 1) (wr.alloc (.cells #[.int .i64 x1, .string x2, .string x3] 40)), x.val.cell? ⟨wr.heap.size, 1, none⟩ = some (.string x2) := fun x =>
                      (x.property.cell (p := ⟨wr.heap.size, 1, none⟩) (by simp)).trans (hN1.cell 1)
                    have hxc : ∀ x : Ext (wr.heap.size + 1) (wr.alloc (.cells #[.int .i64 x1, .string x2, .string x3] 40)), x.val.cell? ⟨wr.heap.size, 2, none⟩ = some (.string x3) := fun x =>
                      (x.property.cell (p := ⟨wr.heap.size, 2, none⟩) (by simp)).trans (hN1.cell 2)
                    clear hN1
                    have key : ∀ d : UInt8, ((d.toNat : Int) == (free[k].toNat : Int)) = decide (d = free[k]) := fun d => by
                      rw [Bool.eq_iff_iff, beq_iff_eq, decide_eq_true_eq]
                      exact ⟨fun h => UInt8.toNat.inj (by omega), fun h => by rw [h]⟩
                    have hk2 := key x2[0]
                    have hk3 := key x3[0]
                    clear key
                    rcases Bool.eq_false_or_eq_true ((x2[0].toNat : Int) == (free[k].toNat : Int)) with e2 | e2
                    · have HHH : Hid (okF xs free[k] = false) := HHJ.out (.inl (HO2.out.1 (of_decide_eq_true (hk2.symm.trans e2))))
                      clear hk2 hk3
                      go_wp2
                      refine wp_region_ext (wr.heap.size + 1) (by kernel_rfl) (by kernel_rfl) ?_
                      repeat (go_big_quiet_step (fail))
                      refine wpQuiet_nil ?_
                      intro w3 hw'
                      obtain ⟨xw, hxw⟩ := hw'
                      have hb3 := xw.property
                      rw [← hxw] at hb3
                      clear hxw xw hxb hxc hd1 hd2 hd3
                      have hb4 : Below w2.heap.size w2 w3 := (hb.alloc hbs _).trans (hb3.mono (by omega))
                      have hB4 := hB.trans (hb4.mono hs2)
                      have hO4 := HE0 w3 hB4.size
                      have HA := Lib.hid (HFO.out.trans (HBK.out HHH.out))
                      have HF := Lib.hid (HNO.out HA.out)
                      go_wp2
                      go_ret2
                      exact ⟨_, by rw [HA.out]; rfl, by rw [HF.out]; exact hO4, hB4.alloc hB4.size _⟩
                    rcases Bool.eq_false_or_eq_true ((x3[0].toNat : Int) == (free[k].toNat : Int)) with e3 | e3
                    · have HHH : Hid (okF xs free[k] = false) := HHJ.out (.inr (HO3.out.1 (of_decide_eq_true (hk3.symm.trans e3))))
                      clear hk2 hk3
                      go_wp2
                      refine wp_region_ext (wr.heap.size + 1) (by kernel_rfl) (by kernel_rfl) ?_
                      repeat (go_big_quiet_step (fail))
                      refine wpQuiet_nil ?_
                      intro w3 hw'
                      obtain ⟨xw, hxw⟩ := hw'
                      have hb3 := xw.property
                      rw [← hxw] at hb3
                      clear hxw xw hxb hxc hd1 hd2 hd3
                      have hb4 : Below w2.heap.size w2 w3 := (hb.alloc hbs _).trans (hb3.mono (by omega))
                      have hB4 := hB.trans (hb4.mono hs2)
                      have hO4 := HE0 w3 hB4.size
                      have HA := Lib.hid (HFO.out.trans (HBK.out HHH.out))
                      have HF := Lib.hid (HNO.out HA.out)
                      go_wp2
                      go_ret2
                      exact ⟨_, by rw [HA.out]; rfl, by rw [HF.out]; exact hO4, hB4.alloc hB4.size _⟩
                    · have HNN : Hid (¬ (x2 = ⟨#[free[k]]⟩ ∨ x3 = ⟨#[free[k]]⟩)) := by
                        intro h
                        rcases h with h | h
                        · exact of_decide_eq_false (hk2.symm.trans e2) (HO2.out.2 h)
                        · exact of_decide_eq_false (hk3.symm.trans e3) (HO3.out.2 h)
                      have HMM := Lib.hid (HMJ.out HNN.out)
                      clear hk2 hk3
                      go_wp2
                      refine wp_region_ext (wr.heap.size + 1) (by kernel_rfl) (by kernel_rfl) ?_
                      repeat (go_big_quiet_step (fail))
                      refine wpQuiet_nil ?_
                      intro w3 hw'
                      obtain ⟨xw, hxw⟩ := hw'
                      have hb3 := xw.property
                      rw [← hxw] at hb3
                      clear hxw xw hxb hxc hd1 hd2 hd3
                      have hb4 : Below w2.heap.size w2 w3 := (hb.alloc hbs _).trans (hb3.mono (by omega))
                      go_wp2
                      go_roundw
                      case rel => exact ⟨j + 1, by omega, by go_num, HMM.out, hb4⟩
                      case measure => simp [RowKit.intOf]; omega
                  · have HOKK := Lib.hid (HM.out (HOKY.out HRY.out (fun i hi => hmj.out i hi (by omega))))
                    go_wp2
                    go_roundw
                    case rel => exact ⟨k + 1, by omega, by go_num, HOKK.out, hb⟩
                    case measure => simp [RowKit.intOf]; omega
              · have HRY := Lib.hid (HRG.out.trans b1)
                have HA := Lib.hid (HFO.out.trans (HBK.out (okF_reg HRY.out)))
                have HF := Lib.hid (HNO.out HA.out)
                go_wp2_with (go_at_call 13; refine (l1In_c _ _ _ _).mono ?_; rintro e w' ⟨rfl, rfl⟩; simp only [hu8, b1])
                go_ret2
                exact ⟨_, by rw [HA.out]; rfl, by rw [HF.out]; exact own_keep hO hb, hB.trans (hb.mono hs2)⟩
            · have HA := Lib.hid (HFO.out.trans (HALL.out (fun j hj => hm.out j hj (by omega))))
              have HF := Lib.hid (HYS.out HA.out)
              have hO5 := own_keep hO hb
              have hB5 := hB.trans (hb.mono hs2)
              clear hO hm
              go_wp2
              go_loopw [6, 75] (fun o i wr => ∃ (k : Nat), k ≤ xs.length ∧ i = .int .i64 k ∧ wr.ownsRow w.heap.size 40 3 o ((xs.take k).map (frX free.data.toList)).length (scells ((xs.take k).map (frX free.data.toList))) ∧ Below w.heap.size w wr) (fun _ i _ => xs.length - (RowKit.intOf i).toNat)
              case atStart => exact ⟨0, by omega, rfl, by rw [List.take_zero]; exact hO5, hB5⟩
              case round =>
                clear hO5 hb hB5
                obtain ⟨k, hk, rfl, ho, hb⟩ := hrel
                have hbs := hb.size
                by_cases hlt : k < xs.length
                · obtain ⟨b, off, rfl, hbl, hc1, hc2, hc3⟩ := HCELL.out k hlt
                  have hd1 := (hb.cell (p := ⟨b, off + k * 3, none⟩) hbl).trans hc1
                  have hd2 := (hb.cell (p := ⟨b, off + k * 3 + 1, none⟩) hbl).trans hc2
                  have hd3 := (hb.cell (p := ⟨b, off + k * 3 + 2, none⟩) hbl).trans hc3
                  clear hc1 hc2 hc3
                  obtain ⟨z2, z3⟩ := HSZ.out k hlt
                  have HSN := Lib.hid (HSNC.out k hlt)
                  have hll : ((xs.take k).map (frX free.data.toList)).length ≤ 60 := by rw [List.length_map, List.length_take]; omega
                  have HI2 := Lib.hid (fun W => l8Instead_c xs[k].2.1 free z2 h2 W)
                  have HI3 := Lib.hid (fun W => l8Instead_c xs[k].2.2 free z3 h2 W)
                  generalize xs[k].1 = x1 at *
                  generalize xs[k].2.1 = x2 at *
                  generalize xs[k].2.2 = x3 at *
                  generalize frN free.data.toList x2 = y2 at *
                  generalize frN free.data.toList x3 = y3 at *
                  generalize (xs.take k).map (frX free.data.toList) = zs at *
                  have hN1 : At (wr.alloc (.cells #[.int .i64 x1, .string x2, .string x3] 40)) wr.heap.size 40 #[.int .i64 x1, .string x2, .string x3] := At.new _ _ _
                  have hB1 : Below wr.heap.size wr (wr.alloc (.cells #[.int .i64 x1, .string x2, .string x3] 40)) := (Below.refl _ _).alloc (Nat.le_refl _) _
                  have ho1 := own_keep ho hB1
                  have hb1 := hb.trans (hB1.mono hbs)
                  have hl2 := hN1.lt
                  clear hB1 ho hb
                  go_wp2
                  obtain ⟨W1, hW1⟩ : ∃ W1 : World, W1 = wr.alloc (.cells #[.int .i64 x1, .string x2, .string x3] 40) := ⟨_, rfl⟩
                  have q0 : ∀ x : Ext W1.heap.size W1.drew, x.val.cell? ⟨wr.heap.size, 0, none⟩ = some (.int .i64 x1) := fun x => by subst hW1; exact (x.property.cell (p := ⟨wr.heap.size, 0, none⟩) hl2).trans (hN1.cell 0)
                  have q1 : ∀ x : Ext W1.heap.size W1.drew, x.val.cell? ⟨wr.heap.size, 1, none⟩ = some (.string x2) := fun x => by subst hW1; exact (x.property.cell (p := ⟨wr.heap.size, 1, none⟩) hl2).trans (hN1.cell 1)
                  have q2 : ∀ x : Ext W1.heap.size W1.drew, x.val.cell? ⟨wr.heap.size, 2, none⟩ = some (.string x3) := fun x => by subst hW1; exact (x.property.cell (p := ⟨wr.heap.size, 2, none⟩) hl2).trans (hN1.cell 2)
                  have hM1 : ∀ x : Ext W1.heap.size W1.drew, Calls Try.prog 14 #[.string x2, .string free] x.val fun e w' => e = .returned (.string y2) ∧ x.val = w' := fun x => HI2.out _
                  have hM2 : ∀ x : Ext W1.heap.size W1.drew, Calls Try.prog 14 #[.string x3, .string free] x.val fun e w' => e = .returned (.string y3) ∧ x.val = w' := fun x => HI3.out _
                  rw [← hW1] at hb1 ho1 ⊢
                  clear hN1 hl2
                  refine region_late_wide (m := 1) (C := fun w' => ∃ x : Ext W1.heap.size W1.drew, w' = x.val) (D := fun _ => True) 15 (by kernel_rfl) (by kernel_rfl) _ _ (by rfl) (by rfl) (by rfl) u6 (by intro _ _ _ h; exact h) (yieldsD_move (by rfl) _ (by rfl) u6 (by rfl)) (fun _ _ => trivial) ⟨⟨_, Below.refl _ _⟩, rfl⟩ ?_
                  clear hW1
                  simp only [List.take_succ_cons, List.take_zero, List.drop_succ_cons, List.drop_zero, Nat.reduceSub, Nat.reduceAdd]
                  simp only [Act.put, List.setIfInBounds_toArray, List.set_cons_succ, List.set_cons_zero]
                  gi_big_quiet_step (fail)
                  gi_big_quiet_step (fail)
                  gi_big_quiet_step (fail)
                  gi_big_quiet_step (fail)
                  gi_big_quiet_step (fail)
                  gi_big_quiet_step (fail)
                  (refine BigFrame.wpQuietIn_want (fun _ _ _ _ => trivial) rfl (fun K hK => ?_); gi_big_quiet_op; refine ⟨_, fun _ => callsIn_wide.2 (ext_same _ (hM1 _)), hK _ ?_⟩; clear hK K)
                  gi_big_quiet_step (fail)
                  gi_big_quiet_step (fail)
                  gi_big_quiet_step (fail)
                  gi_big_quiet_step (fail)
                  (refine BigFrame.wpQuietIn_want (fun _ _ _ _ => trivial) rfl (fun K hK => ?_); gi_big_quiet_op; refine ⟨_, fun _ => callsIn_wide.2 (ext_same _ (hM2 _)), hK _ ?_⟩; clear hK K)
                  gi_big_quiet_step (fail)
                  gi_big_quiet_step (fail)
                  refine wpQuietIn_nil ?_
                  intro w3 hw3 K hK
                  obtain ⟨xw, hxw⟩ := hw3
                  have hbw : Below W1.heap.size W1 w3 := by rw [hxw]; exact (Below.refl _ _).drew.trans xw.property
                  clear hxw xw q0 q1 q2 hM1 hM2
                  have ho3 := own_keep ho1 hbw
                  have hb4 := hb1.trans (hbw.mono hb1.size)
                  have hs4 := hb4.size
                  refine sliceIn_st (.tmp 93) rfl x1 y2 y3 (by rfl) ?_
                  refine hK _ _ trivial ?_
                  clear hK K
                  simp only [Act.put, List.setIfInBounds_toArray, List.set_cons_succ, List.set_cons_zero]
                  have hnw := cells_new w3 #[.int .i64 x1, .string y2, .string y3] 40
                  refine listIn_sts rfl (.tmp 79) (.tmp 94) rfl w.heap.size u6 zs [(x1, y2, y3)] ⟨w3.heap.size, 0, none⟩ 1 1 rfl (by decide) (by rfl) (by rfl) (own_keep ho3 ((Below.refl _ _).alloc (Nat.le_refl _) _)) hnw (by simp; omega) (by simp; omega) ?_
                  intro v' w4 hown4 hgrow4
                  have hge := own_block_ge ho3
                  have hb5 := (hb4.alloc hs4 (.cells #[.int .i64 x1, .string y2, .string y3] 40)).trans (below_grown hgrow4 (B := w.heap.size) (by simp; omega) hge)
                  rw [← HSN.out] at hown4
                  clear hgrow4 hnw ho3 hb4 hbw ho1 hb1 hge
                  gi_wp2
                  go_wp2
                  go_roundw
                  case rel => exact ⟨k + 1, by omega, by go_num, hown4, hb5⟩
                  case measure => simp [RowKit.intOf]; omega
                · have ho2 := ho
                  rw [List.take_of_length_le (by omega)] at ho2
                  clear ho
                  go_wp2
                  go_ret2
                  exact ⟨_, by rw [HA.out]; rfl, by rw [HF.out]; exact ho2, hb⟩
      · have HALL : Hid ((∀ j (hj : j < free.size), okF xs free[j] = true) → arF xs free.data.toList = true) := fun h => HAL0.out (hnd.2 (fun h0 h1 => by omega)) (fun k hk => h k (by rw [← hfl]; exact hk))
        have t1 : ¬ (2 : Int) < (free.size : Int) := by omega
        have t1d : decide ((2 : Int) < (free.size : Int)) = false := decide_eq_false t1
        have t2 : ((free.size : Int) == 2) = false := by simp; omega
        clear hnd hfl h3
        go_enter Try.func5, Try.ntmps5
        go_wp2
        refine wp_region_ext (w.alloc (.cells #[] 40)).heap.size (by kernel_rfl) (by kernel_rfl) ?_
        repeat (go_big_quiet_step ((go_at_call 12; exact ext_call _ (Nat.le_refl _) (HSV.out _))))
        refine wpQuiet_nil ?_
        intro w2 hw'
        obtain ⟨xw, hxw⟩ := hw'
        have hb2 := xw.property
        rw [← hxw] at hb2
        clear hxw xw
        have hO := hOE _ hb2
        have hB := hB0.trans (hb2.mono hB0.size)
        have hs2 := hB.size
        clear hb2 hE hB0
        go_wp2
        go_loopw [36] (fun i wr => ∃ (k : Nat), k ≤ free.size ∧ i = .int .i64 k ∧ Hid (∀ j (hj : j < free.size), j < k → okF xs free[j] = true) ∧ Below w2.heap.size w2 wr) (fun i _ => free.size - (RowKit.intOf i).toNat)
        case atStart => exact ⟨0, by omega, rfl, fun j _ hj => absurd hj (Nat.not_lt_zero j), Below.refl _ _⟩
        case round =>
          obtain ⟨k, hk, rfl, hm, hb⟩ := hrel
          have hbs := hb.size
          by_cases hlt : k < free.size
          · have HRG := Lib.hid (reg_in free[k])
            have hu8 := wrap64_u8 free[k]
            have HBK := Lib.hid (fun h => HBAD.out k hlt h)
            have HM : Hid (okF xs free[k] = true → ∀ j (hj : j < free.size), j < k + 1 → okF xs free[j] = true) := by
              intro h j hj hjk
              rcases Nat.lt_succ_iff_lt_or_eq.1 hjk with h1 | h1
              · exact hm.out j hj h1
              · subst h1; exact h
            have HHIT : Hid (∀ j (hj : j < xs.length), (xs[j].2.1 = ⟨#[free[k]]⟩ ∨ xs[j].2.2 = ⟨#[free[k]]⟩) → okF xs free[k] = false) := fun j hj h => okF_hit H1.out j hj h
            have HOKY : Hid (decide (free[k] ∈ regsL) = true → (∀ j (hj : j < xs.length), ¬ (xs[j].2.1 = ⟨#[free[k]]⟩ ∨ xs[j].2.2 = ⟨#[free[k]]⟩)) → okF xs free[k] = true) := fun h h' => okF_yes H1.out h h'
            have HONE : Hid (∀ (a : ByteArray), a.size = 1 → ∀ (h0 : 0 < a.size), (a[0] = free[k] ↔ a = ⟨#[free[k]]⟩)) := fun a h h0 => one_at h h0 free[k]
            rcases Bool.eq_false_or_eq_true (inB (free[k].toNat : Int) 97 102) with b1 | b1
            · have HRY := Lib.hid (HRG.out.trans b1)
              go_wp2_with (go_at_call 13; refine (l1In_c _ _ _ _).mono ?_; rintro e w' ⟨rfl, rfl⟩; simp only [hu8, b1])
              go_loopw [48] (fun i wr => ∃ (j : Nat), j ≤ xs.length ∧ i = .int .i64 j ∧ Hid (∀ i (hi : i < xs.length), i < j → ¬ (xs[i].2.1 = ⟨#[free[k]]⟩ ∨ xs[i].2.2 = ⟨#[free[k]]⟩)) ∧ Below w2.heap.size w2 wr) (fun i _ => xs.length - (RowKit.intOf i).toNat)
              case atStart => exact ⟨0, by omega, rfl, fun j _ hj => absurd hj (Nat.not_lt_zero j), hb⟩
              case round =>
                clear hb hbs
                obtain ⟨j, hj, rfl, hmj, hb⟩ := hrel
                have hbs := hb.size
                by_cases hltj : j < xs.length
                · obtain ⟨b, off, rfl, hbl, hc1, hc2, hc3⟩ := HCELL.out j hltj
                  have hBc := hB.trans (hb.mono hs2)
                  have hd1 := (hBc.cell (p := ⟨b, off + j * 3, none⟩) hbl).trans hc1
                  have hd2 := (hBc.cell (p := ⟨b, off + j * 3 + 1, none⟩) hbl).trans hc2
                  have hd3 := (hBc.cell (p := ⟨b, off + j * 3 + 2, none⟩) hbl).trans hc3
                  clear hBc
                  clear hc1 hc2 hc3
                  obtain ⟨z2, z3⟩ := HSZ.out j hltj
                  have HHJ := Lib.hid (HHIT.out j hltj)
                  have HMJ : Hid (¬ (xs[j].2.1 = ⟨#[free[k]]⟩ ∨ xs[j].2.2 = ⟨#[free[k]]⟩) → ∀ i (hi : i < xs.length), i < j + 1 → ¬ (xs[i].2.1 = ⟨#[free[k]]⟩ ∨ xs[i].2.2 = ⟨#[free[k]]⟩)) := by
                    intro h i hi hij
                    rcases Nat.lt_succ_iff_lt_or_eq.1 hij with h1 | h1
                    · exact hmj.out i hi h1
                    · subst h1; exact h
                  generalize xs[j].1 = x1 at *
                  generalize xs[j].2.1 = x2 at *
                  generalize xs[j].2.2 = x3 at *
                  have p2 : 0 < x2.size := by omega
                  have p3 : 0 < x3.size := by omega
                  have HO2 := Lib.hid (HONE.out x2 z2 p2)
                  have HO3 := Lib.hid (HONE.out x3 z3 p3)
                  have hN1 : At (wr.alloc (.cells #[.int .i64 x1, .string x2, .string x3] 40)) wr.heap.size 40 #[.int .i64 x1, .string x2, .string x3] := At.new _ _ _
                  have hxb : ∀ x : Ext (wr.heap.size + 1) (wr.alloc (.cells #[.int .i64 x1, .string x2, .string x3] 40)), x.val.cell? ⟨wr.heap.size, 1, none⟩ = some (.string x2) := fun x =>
                    (x.property.cell (p := ⟨wr.heap.size, 1, none⟩) (by simp)).trans (hN1.cell 1)
                  have hxc : ∀ x : Ext (wr.heap.size + 1) (wr.alloc (.cells #[.int .i64 x1, .string x2, .string x3] 40)), x.val.cell? ⟨wr.heap.size, 2, none⟩ = some (.string x3) := fun x =>
                    (x.property.cell (p := ⟨wr.heap.size, 2, none⟩) (by simp)).trans (hN1.cell 2)
                  clear hN1
                  have key : ∀ d : UInt8, ((d.toNat : Int) == (free[k].toNat : Int)) = decide (d = free[k]) := fun d => by
                    rw [Bool.eq_iff_iff, beq_iff_eq, decide_eq_true_eq]
                    exact ⟨fun h => UInt8.toNat.inj (by omega), fun h => by rw [h]⟩
                  have hk2 := key x2[0]
                  have hk3 := key x3[0]
                  clear key
                  rcases Bool.eq_false_or_eq_true ((x2[0].toNat : Int) == (free[k].toNat : Int)) with e2 | e2
                  · have HHH : Hid (okF xs free[k] = false) := HHJ.out (.inl (HO2.out.1 (of_decide_eq_true (hk2.symm.trans e2))))
                    clear hk2 hk3
                    go_wp2
                    refine wp_region_ext (wr.heap.size + 1) (by kernel_rfl) (by kernel_rfl) ?_
                    repeat (go_big_quiet_step (fail))
                    refine wpQuiet_nil ?_
                    intro w3 hw'
                    obtain ⟨xw, hxw⟩ := hw'
                    have hb3 := xw.property
                    rw [← hxw] at hb3
                    clear hxw xw hxb hxc hd1 hd2 hd3
                    have hb4 : Below w2.heap.size w2 w3 := (hb.alloc hbs _).trans (hb3.mono (by omega))
                    have hB4 := hB.trans (hb4.mono hs2)
                    have hO4 := HE0 w3 hB4.size
                    have HA := Lib.hid (HFO.out.trans (HBK.out HHH.out))
                    have HF := Lib.hid (HNO.out HA.out)
                    go_wp2
                    go_ret2
                    exact ⟨_, by rw [HA.out]; rfl, by rw [HF.out]; exact hO4, hB4.alloc hB4.size _⟩
                  rcases Bool.eq_false_or_eq_true ((x3[0].toNat : Int) == (free[k].toNat : Int)) with e3 | e3
                  · have HHH : Hid (okF xs free[k] = false) := HHJ.out (.inr (HO3.out.1 (of_decide_eq_true (hk3.symm.trans e3))))
                    clear hk2 hk3
                    go_wp2
                    refine wp_region_ext (wr.heap.size + 1) (by kernel_rfl) (by kernel_rfl) ?_
                    repeat (go_big_quiet_step (fail))
                    refine wpQuiet_nil ?_
                    intro w3 hw'
                    obtain ⟨xw, hxw⟩ := hw'
                    have hb3 := xw.property
                    rw [← hxw] at hb3
                    clear hxw xw hxb hxc hd1 hd2 hd3
                    have hb4 : Below w2.heap.size w2 w3 := (hb.alloc hbs _).trans (hb3.mono (by omega))
                    have hB4 := hB.trans (hb4.mono hs2)
                    have hO4 := HE0 w3 hB4.size
                    have HA := Lib.hid (HFO.out.trans (HBK.out HHH.out))
                    have HF := Lib.hid (HNO.out HA.out)
                    go_wp2
                    go_ret2
                    exact ⟨_, by rw [HA.out]; rfl, by rw [HF.out]; exact hO4, hB4.alloc hB4.size _⟩
                  · have HNN : Hid (¬ (x2 = ⟨#[free[k]]⟩ ∨ x3 = ⟨#[free[k]]⟩)) := by
                      intro h
                      rcases h with h | h
                      · exact of_decide_eq_false (hk2.symm.trans e2) (HO2.out.2 h)
                      · exact of_decide_eq_false (hk3.symm.trans e3) (HO3.out.2 h)
                    have HMM := Lib.hid (HMJ.out HNN.out)
                    clear hk2 hk3
                    go_wp2
                    refine wp_region_ext (wr.heap.size + 1) (by kernel_rfl) (by kernel_rfl) ?_
                    repeat (go_big_quiet_step (fail))
                    refine wpQuiet_nil ?_
                    intro w3 hw'
                    obtain ⟨xw, hxw⟩ := hw'
                    have hb3 := xw.property
                    rw [← hxw] at hb3
                    clear hxw xw hxb hxc hd1 hd2 hd3
                    have hb4 : Below w2.heap.size w2 w3 := (hb.alloc hbs _).trans (hb3.mono (by omega))
                    go_wp2
                    go_roundw
                    case rel => exact ⟨j + 1, by omega, by go_num, HMM.out, hb4⟩
                    case measure => simp [RowKit.intOf]; omega
                · have HOKK := Lib.hid (HM.out (HOKY.out HRY.out (fun i hi => hmj.out i hi (by omega))))
                  go_wp2
                  go_roundw
                  case rel => exact ⟨k + 1, by omega, by go_num, HOKK.out, hb⟩
                  case measure => simp [RowKit.intOf]; omega
            · have HRY := Lib.hid (HRG.out.trans b1)
              have HA := Lib.hid (HFO.out.trans (HBK.out (okF_reg HRY.out)))
              have HF := Lib.hid (HNO.out HA.out)
              go_wp2_with (go_at_call 13; refine (l1In_c _ _ _ _).mono ?_; rintro e w' ⟨rfl, rfl⟩; simp only [hu8, b1])
              go_ret2
              exact ⟨_, by rw [HA.out]; rfl, by rw [HF.out]; exact own_keep hO hb, hB.trans (hb.mono hs2)⟩
          · have HA := Lib.hid (HFO.out.trans (HALL.out (fun j hj => hm.out j hj (by omega))))
            have HF := Lib.hid (HYS.out HA.out)
            have hO5 := own_keep hO hb
            have hB5 := hB.trans (hb.mono hs2)
            clear hO hm
            go_wp2
            go_loopw [6, 75] (fun o i wr => ∃ (k : Nat), k ≤ xs.length ∧ i = .int .i64 k ∧ wr.ownsRow w.heap.size 40 3 o ((xs.take k).map (frX free.data.toList)).length (scells ((xs.take k).map (frX free.data.toList))) ∧ Below w.heap.size w wr) (fun _ i _ => xs.length - (RowKit.intOf i).toNat)
            case atStart => exact ⟨0, by omega, rfl, by rw [List.take_zero]; exact hO5, hB5⟩
            case round =>
              clear hO5 hb hB5
              obtain ⟨k, hk, rfl, ho, hb⟩ := hrel
              have hbs := hb.size
              by_cases hlt : k < xs.length
              · obtain ⟨b, off, rfl, hbl, hc1, hc2, hc3⟩ := HCELL.out k hlt
                have hd1 := (hb.cell (p := ⟨b, off + k * 3, none⟩) hbl).trans hc1
                have hd2 := (hb.cell (p := ⟨b, off + k * 3 + 1, none⟩) hbl).trans hc2
                have hd3 := (hb.cell (p := ⟨b, off + k * 3 + 2, none⟩) hbl).trans hc3
                clear hc1 hc2 hc3
                obtain ⟨z2, z3⟩ := HSZ.out k hlt
                have HSN := Lib.hid (HSNC.out k hlt)
                have hll : ((xs.take k).map (frX free.data.toList)).length ≤ 60 := by rw [List.length_map, List.length_take]; omega
                have HI2 := Lib.hid (fun W => l8Instead_c xs[k].2.1 free z2 h2 W)
                have HI3 := Lib.hid (fun W => l8Instead_c xs[k].2.2 free z3 h2 W)
                generalize xs[k].1 = x1 at *
                generalize xs[k].2.1 = x2 at *
                generalize xs[k].2.2 = x3 at *
                generalize frN free.data.toList x2 = y2 at *
                generalize frN free.data.toList x3 = y3 at *
                generalize (xs.take k).map (frX free.data.toList) = zs at *
                have hN1 : At (wr.alloc (.cells #[.int .i64 x1, .string x2, .string x3] 40)) wr.heap.size 40 #[.int .i64 x1, .string x2, .string x3] := At.new _ _ _
                have hB1 : Below wr.heap.size wr (wr.alloc (.cells #[.int .i64 x1, .string x2, .string x3] 40)) := (Below.refl _ _).alloc (Nat.le_refl _) _
                have ho1 := own_keep ho hB1
                have hb1 := hb.trans (hB1.mono hbs)
                have hl2 := hN1.lt
                clear hB1 ho hb
                go_wp2
                obtain ⟨W1, hW1⟩ : ∃ W1 : World, W1 = wr.alloc (.cells #[.int .i64 x1, .string x2, .string x3] 40) := ⟨_, rfl⟩
                have q0 : ∀ x : Ext W1.heap.size W1.drew, x.val.cell? ⟨wr.heap.size, 0, none⟩ = some (.int .i64 x1) := fun x => by subst hW1; exact (x.property.cell (p := ⟨wr.heap.size, 0, none⟩) hl2).trans (hN1.cell 0)
                have q1 : ∀ x : Ext W1.heap.size W1.drew, x.val.cell? ⟨wr.heap.size, 1, none⟩ = some (.string x2) := fun x => by subst hW1; exact (x.property.cell (p := ⟨wr.heap.size, 1, none⟩) hl2).trans (hN1.cell 1)
                have q2 : ∀ x : Ext W1.heap.size W1.drew, x.val.cell? ⟨wr.heap.size, 2, none⟩ = some (.string x3) := fun x => by subst hW1; exact (x.property.cell (p := ⟨wr.heap.size, 2, none⟩) hl2).trans (hN1.cell 2)
                have hM1 : ∀ x : Ext W1.heap.size W1.drew, Calls Try.prog 14 #[.string x2, .string free] x.val fun e w' => e = .returned (.string y2) ∧ x.val = w' := fun x => HI2.out _
                have hM2 : ∀ x : Ext W1.heap.size W1.drew, Calls Try.prog 14 #[.string x3, .string free] x.val fun e w' => e = .returned (.string y3) ∧ x.val = w' := fun x => HI3.out _
                rw [← hW1] at hb1 ho1 ⊢
                clear hN1 hl2
                refine region_late_wide (m := 1) (C := fun w' => ∃ x : Ext W1.heap.size W1.drew, w' = x.val) (D := fun _ => True) 15 (by kernel_rfl) (by kernel_rfl) _ _ (by rfl) (by rfl) (by rfl) u6 (by intro _ _ _ h; exact h) (yieldsD_move (by rfl) _ (by rfl) u6 (by rfl)) (fun _ _ => trivial) ⟨⟨_, Below.refl _ _⟩, rfl⟩ ?_
                clear hW1
                simp only [List.take_succ_cons, List.take_zero, List.drop_succ_cons, List.drop_zero, Nat.reduceSub, Nat.reduceAdd]
                simp only [Act.put, List.setIfInBounds_toArray, List.set_cons_succ, List.set_cons_zero]
                gi_big_quiet_step (fail)
                gi_big_quiet_step (fail)
                gi_big_quiet_step (fail)
                gi_big_quiet_step (fail)
                gi_big_quiet_step (fail)
                gi_big_quiet_step (fail)
                (refine BigFrame.wpQuietIn_want (fun _ _ _ _ => trivial) rfl (fun K hK => ?_); gi_big_quiet_op; refine ⟨_, fun _ => callsIn_wide.2 (ext_same _ (hM1 _)), hK _ ?_⟩; clear hK K)
                gi_big_quiet_step (fail)
                gi_big_quiet_step (fail)
                gi_big_quiet_step (fail)
                gi_big_quiet_step (fail)
                (refine BigFrame.wpQuietIn_want (fun _ _ _ _ => trivial) rfl (fun K hK => ?_); gi_big_quiet_op; refine ⟨_, fun _ => callsIn_wide.2 (ext_same _ (hM2 _)), hK _ ?_⟩; clear hK K)
                gi_big_quiet_step (fail)
                gi_big_quiet_step (fail)
                refine wpQuietIn_nil ?_
                intro w3 hw3 K hK
                obtain ⟨xw, hxw⟩ := hw3
                have hbw : Below W1.heap.size W1 w3 := by rw [hxw]; exact (Below.refl _ _).drew.trans xw.property
                clear hxw xw q0 q1 q2 hM1 hM2
                have ho3 := own_keep ho1 hbw
                have hb4 := hb1.trans (hbw.mono hb1.size)
                have hs4 := hb4.size
                refine sliceIn_st (.tmp 93) rfl x1 y2 y3 (by rfl) ?_
                refine hK _ _ trivial ?_
                clear hK K
                simp only [Act.put, List.setIfInBounds_toArray, List.set_cons_succ, List.set_cons_zero]
                have hnw := cells_new w3 #[.int .i64 x1, .string y2, .string y3] 40
                refine listIn_sts rfl (.tmp 79) (.tmp 94) rfl w.heap.size u6 zs [(x1, y2, y3)] ⟨w3.heap.size, 0, none⟩ 1 1 rfl (by decide) (by rfl) (by rfl) (own_keep ho3 ((Below.refl _ _).alloc (Nat.le_refl _) _)) hnw (by simp; omega) (by simp; omega) ?_
                intro v' w4 hown4 hgrow4
                have hge := own_block_ge ho3
                have hb5 := (hb4.alloc hs4 (.cells #[.int .i64 x1, .string y2, .string y3] 40)).trans (below_grown hgrow4 (B := w.heap.size) (by simp; omega) hge)
                rw [← HSN.out] at hown4
                clear hgrow4 hnw ho3 hb4 hbw ho1 hb1 hge
                gi_wp2
                go_wp2
                go_roundw
                case rel => exact ⟨k + 1, by omega, by go_num, hown4, hb5⟩
                case measure => simp [RowKit.intOf]; omega
              · have ho2 := ho
                rw [List.take_of_length_le (by omega)] at ho2
                clear ho
                go_wp2
                go_ret2
                exact ⟨_, by rw [HA.out]; rfl, by rw [HF.out]; exact ho2, hb⟩
    · have HA := Lib.hid (HFO.out.trans (ar_no2 (xs := xs) (free := free.data.toList) (by omega)))
      have HF := Lib.hid (HNO.out HA.out)
      have t1 : (2 : Int) < (free.size : Int) := by omega
      clear hcell hfl h2
      go_enter Try.func5, Try.ntmps5
      go_wp2
      refine wp_region_ext (w.alloc (.cells #[] 40)).heap.size (by kernel_rfl) (by kernel_rfl) ?_
      repeat (go_big_quiet_step ((go_at_call 12; exact ext_call _ (Nat.le_refl _) (HSV.out _))))
      refine wpQuiet_nil ?_
      intro w2 hw'
      obtain ⟨xw, hxw⟩ := hw'
      have hb2 := xw.property
      rw [← hxw] at hb2
      clear hxw xw
      have hO := hOE _ hb2
      have hB := hB0.trans (hb2.mono hB0.size)
      go_wp2
      go_ret2
      exact ⟨_, by rw [HA.out]; rfl, by rw [HF.out]; exact hO, hB⟩
  · have HA : Hid (frOk xs free.data.toList = false) := by show _ = _; rw [HFO.out, h1]; rfl
    have HF := Lib.hid (HNO.out HA.out)
    rw [h1] at HSV
    clear hcell hfl
    go_enter Try.func5, Try.ntmps5
    go_wp2
    refine wp_region_ext (w.alloc (.cells #[] 40)).heap.size (by kernel_rfl) (by kernel_rfl) ?_
    repeat (go_big_quiet_step ((go_at_call 12; exact ext_call _ (Nat.le_refl _) (HSV.out _))))
    refine wpQuiet_nil ?_
    intro w2 hw'
    obtain ⟨xw, hxw⟩ := hw'
    have hb2 := xw.property
    rw [← hxw] at hb2
    clear hxw xw
    have hO := hOE _ hb2
    have hB := hB0.trans (hb2.mono hB0.size)
    go_wp2
    go_ret2
    exact ⟨_, by rw [HA.out]; rfl, by rw [HF.out]; exact hO, hB⟩
end Go.Proofs.Ytnhncbhhlbcieaa
