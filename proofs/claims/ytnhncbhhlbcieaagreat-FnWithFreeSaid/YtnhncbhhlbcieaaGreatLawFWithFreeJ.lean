/- Proved: for every input of the form's own reach the law FnWithFree answers true and its arguments read afterwards as before; no further condition. -/
import Derived.Test.YtnhncbhhlbcieaaGreatLawFWithFreeJB
import Derived.Test.YtnhncbhhlbcieaaGreatLawFWithFreeJA
import Derived.Test.YtnhncbhhlbcieaaGreatSlS
import Derived.Test.YtnhncbhhlbcieaaGreatRows
import Derived.Test.YtnhncbhhlbcieaaGreatLib
import Derived.ProofKit
import Derived.OpenShut
import Derived.ShutString
import Derived.ChangeOld
import Derived.Deep.Slices
import Derived.ChangeSame
import Derived.Carry
import Derived.Test.YtnhncbhhlbcieaaGreatDraw
import Derived.Test.YtnhncbhhlbcieaaGreatDraw3
import Derived.Test.YtnhncbhhlbcieaaGreatTouch
import Derived.ChangeKeysEq
import Derived.Test.YtnhncbhhlbcieaaGreatHar
import Derived.Test.YtnhncbhhlbcieaaGreatP2
namespace Go.Proofs.YtnhncbhhlbcieaaGreat
open Go.RowKit Go.PM Go.PD Go.Lib
attribute [local go_sem] Oper.semAt_some

set_option maxRecDepth 100000 in
set_option maxHeartbeats 4000000 in
theorem spWithFree_c (xs : List St) (v : Value) (free : ByteArray) (hf : free.size ≤ 1048576) (w : World) (hx : RdS w v xs) :
    Calls Tryz.prog 6 #[v, .string free] w fun e w' => ∃ v', e = .returned (.tuple #[v', .bool (frOk xs free.data.toList)]) ∧ w'.ownsRow w.heap.size 58 3 v' (frS xs free.data.toList).length (scells (frS xs free.data.toList)) ∧ Below w.heap.size w w' := by
  have hE := World.ownsRow_lit (e := 58) (base := w.heap.size) (size := 3) w #[] 0 (Nat.le_refl _) (Nat.zero_le _) rfl
  have hB0 : Below w.heap.size w (w.alloc (.cells #[] 58)) := (Below.refl _ _).alloc (Nat.le_refl _) _
  have HX := Lib.hid (fun W (hb : Below w.heap.size w W) => hx.below hb)
  have HSV := Lib.hid (fun (x : Ext (w.alloc (.cells #[] 58)).heap.size (w.alloc (.cells #[] 58))) => spSequenceValid_c xs v x.val (HX.out _ (hB0.trans (x.property.mono hB0.size))))
  have HFO := Lib.hid (frOk_ar xs free.data.toList)
  have HNO := Lib.hid (fun h => frS_no (xs := xs) (free := free.data.toList) h)
  have HYS := Lib.hid (fun h => frS_yes (xs := xs) (free := free.data.toList) h)
  have HE0 : ∀ W : World, w.heap.size ≤ W.heap.size → (W.alloc (.cells #[] 58)).ownsRow w.heap.size 58 3 (.slice (some ⟨W.heap.size, 0, none⟩) 0 0) ([] : List St).length (scells []) := fun W hW => World.ownsRow_lit (e := 58) (base := w.heap.size) (size := 3) W #[] 0 hW (Nat.zero_le _) rfl
  obtain ⟨A, cap, rfl, hn, hc, hcell⟩ := hx.open
  have hfl : free.data.toList.length = free.size := size_data free
  have HEF : (World.alloc w (.cells #[] 58)).heap.size = w.heap.size + 1 := by simp
  have hOE : ∀ W : World, Below (w.alloc (.cells #[] 58)).heap.size (w.alloc (.cells #[] 58)) W → W.ownsRow w.heap.size 58 3 (.slice (some ⟨w.heap.size, 0, none⟩) 0 0) ([] : List St).length (scells []) := fun W hW => own_keep hE hW
  clear hx
  rcases Bool.eq_false_or_eq_true (svalid xs) with h1 | h1
  · rw [h1, Bool.true_and] at HFO
    rw [h1] at HSV
    by_cases h2 : free.size ≤ 2
    · have HSZ := Lib.hid (fun k hk => ok_sizes (svalid_at h1 k hk))
      have HSNC := Lib.hid (fun k hk => frX_snoc xs free.data.toList k hk)
      have hlen := svalid_len h1
      have H1 := Lib.hid h1
      have HCELL := Lib.hid hcell
      have HBAD : Hid (∀ k (hk : k < free.size), okF xs free[k] = false → arF xs free.data.toList = false) := fun k hk h => ar_bad k (by rw [hfl]; exact hk) h
      have hnd := nodup_two (f := free) h2
      have HDUP := Lib.hid (fun h => ar_dup (xs := xs) (free := free.data.toList) h)
      have HAL0 := Lib.hid (fun h => ar_all (xs := xs) (free := free.data.toList) (by omega) h)
      clear h1 hcell
      by_cases h3 : free.size = 2
      · have p0 : 0 < free.size := by omega
        have p1 : 1 < free.size := by omega
        have i0 : (0 : Int) < (free.size : Int) := by omega
        have i1 : (1 : Int) < (free.size : Int) := by omega
        have t2 : ((free.size : Int) == 2) = true := by simp [h3]
        have key : ((free[0].toNat : Int) == (free[1].toNat : Int)) = decide (free[0] = free[1]) := by
          rw [Bool.eq_iff_iff, beq_iff_eq, decide_eq_true_eq]
          exact ⟨fun h => UInt8.toNat.inj (by omega), fun h => by rw [h]⟩
        rcases Bool.eq_false_or_eq_true ((free[0].toNat : Int) == (free[1].toNat : Int)) with e01 | e01
        · have HA := Lib.hid (HFO.out.trans (HDUP.out (fun h => hnd.1 h p0 p1 (of_decide_eq_true (key.symm.trans e01)))))
          have HF := Lib.hid (HNO.out HA.out)
          have t1 : ¬ (2 : Int) < (free.size : Int) := by omega
          have t1d : decide ((2 : Int) < (free.size : Int)) = false := decide_eq_false t1
          clear key hnd hfl h3
          go_enter Tryz.func6, Tryz.ntmps6
          go_wp2
          refine wp_region_ext (w.alloc (.cells #[] 58)).heap.size (by kernel_rfl) (by kernel_rfl) ?_
          repeat (go_big_quiet_step ((go_at_call 29; exact ext_call _ (Nat.le_refl _) (HSV.out _))))
          refine wpQuiet_nil ?_
          intro w2 hw'
          obtain ⟨xw, hxw⟩ := hw'
          have hb2 := xw.property
          rw [← hxw] at hb2
          clear hxw xw
          have hO := hOE _ hb2
          have hB := hB0.trans (hb2.mono hB0.size)
          go_wp2
          go_ret2
          exact ⟨_, by rw [HA.out]; rfl, by rw [HF.out]; exact hO, hB⟩
        · have HALL : Hid ((∀ j (hj : j < free.size), okF xs free[j] = true) → arF xs free.data.toList = true) := fun h => HAL0.out (hnd.2 (fun _ _ => of_decide_eq_false (key.symm.trans e01))) (fun k hk => h k (by rw [← hfl]; exact hk))
          have t1 : ¬ (2 : Int) < (free.size : Int) := by omega
          have t1d : decide ((2 : Int) < (free.size : Int)) = false := decide_eq_false t1
          clear key hnd hfl h3
          go_enter Tryz.func6, Tryz.ntmps6
          go_wp2
          refine wp_region_ext (w.alloc (.cells #[] 58)).heap.size (by kernel_rfl) (by kernel_rfl) ?_
          repeat (go_big_quiet_step ((go_at_call 29; exact ext_call _ (Nat.le_refl _) (HSV.out _))))
          refine wpQuiet_nil ?_
          intro w2 hw'
          obtain ⟨xw, hxw⟩ := hw'
          have hb2 := xw.property
          rw [← hxw] at hb2
          clear hxw xw
          have hO := hOE _ hb2
          have hB := hB0.trans (hb2.mono hB0.size)
          have hs2 := hB.size
          clear hb2 hE hB0
          go_wp2
          go_loopw [36] (fun i wr => ∃ (k : Nat), k ≤ free.size ∧ i = .int .i64 k ∧ Hid (∀ j (hj : j < free.size), j < k → okF xs free[j] = true) ∧ Below w2.heap.size w2 wr) (fun i _ => free.size - (RowKit.intOf i).toNat)
          case atStart => exact ⟨0, by omega, rfl, fun j _ hj => absurd hj (Nat.not_lt_zero j), Below.refl _ _⟩
          case round =>
            obtain ⟨k, hk, rfl, hm, hb⟩ := hrel
            have hbs := hb.size
            by_cases hlt : k < free.size
            · have HRG := Lib.hid (reg_in free[k])
              have hu8 := wrap64_u8 free[k]
              have HBK := Lib.hid (fun h => HBAD.out k hlt h)
              have HM : Hid (okF xs free[k] = true → ∀ j (hj : j < free.size), j < k + 1 → okF xs free[j] = true) := by
                intro h j hj hjk
                rcases Nat.lt_succ_iff_lt_or_eq.1 hjk with h1 | h1
                · exact hm.out j hj h1
                · subst h1; exact h
              have HHIT : Hid (∀ j (hj : j < xs.length), (xs[j].2.1 = ⟨#[free[k]]⟩ ∨ xs[j].2.2 = ⟨#[free[k]]⟩) → okF xs free[k] = false) := fun j hj h => okF_hit H1.out j hj h
              have HOKY : Hid (decide (free[k] ∈ regsL) = true → (∀ j (hj : j < xs.length), ¬ (xs[j].2.1 = ⟨#[free[k]]⟩ ∨ xs[j].2.2 = ⟨#[free[k]]⟩)) → okF xs free[k] = true) := fun h h' => okF_yes H1.out h h'
              have HONE : Hid (∀ (a : ByteArray), a.size = 1 → ∀ (h0 : 0 < a.size), (a[0] = free[k] ↔ a = ⟨#[free[k]]⟩)) := fun a h h0 => one_at h h0 free[k]
              rcases Bool.eq_false_or_eq_true (inB (free[k].toNat : Int) 97 102) with b1 | b1
              · have HRY := Lib.hid (HRG.out.trans b1)
                go_wp2_with (go_at_call 30; refine (l1In_c _ _ _ _).mono ?_; rintro e w' ⟨rfl, rfl⟩; simp only [hu8, b1])
                go_loopw [48] (fun i wr => ∃ (j : Nat), j ≤ xs.length ∧ i = .int .i64 j ∧ Hid (∀ i (hi : i < xs.length), i < j → ¬ (xs[i].2.1 = ⟨#[free[k]]⟩ ∨ xs[i].2.2 = ⟨#[free[k]]⟩)) ∧ Below w2.heap.size w2 wr) (fun i _ => xs.length - (RowKit.intOf i).toNat)
                case atStart => exact ⟨0, by omega, rfl, fun j _ hj => absurd hj (Nat.not_lt_zero j), hb⟩
                case round =>
                  clear hb hbs
                  obtain ⟨j, hj, rfl, hmj, hb⟩ := hrel
                  have hbs := hb.size
                  by_cases hltj : j < xs.length
                  · obtain ⟨b, off, rfl, hbl, hc1, hc2, hc3⟩ := HCELL.out j hltj
                    have hBc := hB.trans (hb.mono hs2)
                    have hd1 := (hBc.cell (p := ⟨b, off + j * 3, none⟩) hbl).trans hc1
                    have hd2 := (hBc.cell (p := ⟨b, off + j * 3 + 1, none⟩) hbl).trans hc2
                    have hd3 := (hBc.cell (p := ⟨b, off + j * 3 + 2, none⟩) hbl).trans hc3
                    clear hBc
                    clear hc1 hc2 hc3
                    obtain ⟨z2, z3⟩ := HSZ.out j hltj
                    have HHJ := Lib.hid (HHIT.out j hltj)
                    have HMJ : Hid (¬ (xs[j].2.1 = ⟨#[free[k]]⟩ ∨ xs[j].2.2 = ⟨#[free[k]]⟩) → ∀ i (hi : i < xs.length), i < j + 1 → ¬ (xs[i].2.1 = ⟨#[free[k]]⟩ ∨ xs[i].2.2 = ⟨#[free[k]]⟩)) := by
                      intro h i hi hij
                      rcases Nat.lt_succ_iff_lt_or_eq.1 hij with h1 | h1
                      · exact hmj.out i hi h1
                      · subst h1; exact h
                    generalize xs[j].1 = x1 at *
                    generalize xs[j].2.1 = x2 at *
                    generalize xs[j].2.2 = x3 at *
                    have p2 : 0 < x2.size := by omega
                    have p3 : 0 < x3.size := by omega
                    have HO2 := Lib.hid (HONE.out x2 z2 p2)
                    have HO3 := Lib.hid (HONE.out x3 z3 p3)
                    have hN1 : At (wr.alloc (.cells #[.int .i64 x1, .string x2, .string x3] 58)) wr.heap.size 58 #[.int .i64 x1, .string x2, .string x3] := At.new _ _ _
                    have hxb : ∀ x : Ext (wr.heap.size + 1) (wr.alloc (.cells #[.int .i64 x1, .string x2, .string x3] 58)), x.val.cell? ⟨wr.heap.size, 1, none⟩ = some (.string x2) := fun x =>
                      (x.property.cell (p := ⟨wr.heap.size, 1, none⟩) (by simp)).trans (hN1.cell 1)
                    have hxc : ∀ x : Ext (wr.heap.size + 1) (wr.alloc (.cells #[.int .i64 x1, .string x2, .string x3] 58)), x.val.cell? ⟨wr.heap.size, 2, none⟩ = some (.string x3) := fun x =>
                      (x.property.cell (p := ⟨wr.heap.size, 2, none⟩) (by simp)).trans (hN1.cell 2)
                    clear hN1
                    have key : ∀ d : UInt8, ((d.toNat : Int) == (free[k].toNat : Int)) = decide (d = free[k]) := fun d => by
                      rw [Bool.eq_iff_iff, beq_iff_eq, decide_eq_true_eq]
                      exact ⟨fun h => UInt8.toNat.inj (by omega), fun h => by rw [h]⟩
                    have hk2 := key x2[0]
                    have hk3 := key x3[0]
                    clear key
                    rcases Bool.eq_false_or_eq_true ((x2[0].toNat : Int) == (free[k].toNat : Int)) with e2 | e2
                    · have HHH : Hid (okF xs free[k] = false) := HHJ.out (.inl (HO2.out.1 (of_decide_eq_true (hk2.symm.trans e2))))
                      clear hk2 hk3
                      go_wp2
                      refine wp_region_ext (wr.heap.size + 1) (by kernel_rfl) (by kernel_rfl) ?_
                      repeat (go_big_quiet_step (fail))
                      refine wpQuiet_nil ?_
                      intro w3 hw'
                      obtain ⟨xw, hxw⟩ := hw'
                      have hb3 := xw.property
                      rw [← hxw] at hb3
                      clear hxw xw hxb hxc hd1 hd2 hd3
                      have hb4 : Below w2.heap.size w2 w3 := (hb.alloc hbs _).trans (hb3.mono (by omega))
                      have hB4 := hB.trans (hb4.mono hs2)
                      have hO4 := HE0 w3 hB4.size
                      have HA := Lib.hid (HFO.out.trans (HBK.out HHH.out))
                      have HF := Lib.hid (HNO.out HA.out)
                      go_wp2
                      go_ret2
                      exact ⟨_, by rw [HA.out]; rfl, by rw [HF.out]; exact hO4, hB4.alloc hB4.size _⟩
                    rcases Bool.eq_false_or_eq_true ((x3[0].toNat : Int) == (free[k].toNat : Int)) with e3 | e3
                    · have HHH : Hid (okF xs free[k] = false) := HHJ.out (.inr (HO3.out.1 (of_decide_eq_true (hk3.symm.trans e3))))
                      clear hk2 hk3
                      go_wp2
                      refine wp_region_ext (wr.heap.size + 1) (by kernel_rfl) (by kernel_rfl) ?_
                      repeat (go_big_quiet_step (fail))
                      refine wpQuiet_nil ?_
                      intro w3 hw'
                      obtain ⟨xw, hxw⟩ := hw'
                      have hb3 := xw.property
                      rw [← hxw] at hb3
                      clear hxw xw hxb hxc hd1 hd2 hd3
                      have hb4 : Below w2.heap.size w2 w3 := (hb.alloc hbs _).trans (hb3.mono (by omega))
                      have hB4 := hB.trans (hb4.mono hs2)
                      have hO4 := HE0 w3 hB4.size
                      have HA := Lib.hid (HFO.out.trans (HBK.out HHH.out))
                      have HF := Lib.hid (HNO.out HA.out)
                      go_wp2
                      go_ret2
                      exact ⟨_, by rw [HA.out]; rfl, by rw [HF.out]; exact hO4, hB4.alloc hB4.size _⟩
                    · have HNN : Hid (¬ (x2 = ⟨#[free[k]]⟩ ∨ x3 = ⟨#[free[k]]⟩)) := by
                        intro h
                        rcases h with h | h
                        · exact of_decide_eq_false (hk2.symm.trans e2) (HO2.out.2 h)
                        · exact of_decide_eq_false (hk3.symm.trans e3) (HO3.out.2 h)
                      have HMM := Lib.hid (HMJ.out HNN.out)
                      clear hk2 hk3
                      go_wp2
                      refine wp_region_ext (wr.heap.size + 1) (by kernel_rfl) (by kernel_rfl) ?_
                      repeat (go_big_quiet_step (fail))
                      refine wpQuiet_nil ?_
                      intro w3 hw'
                      obtain ⟨xw, hxw⟩ := hw'
                      have hb3 := xw.property
                      rw [← hxw] at hb3
                      clear hxw xw hxb hxc hd1 hd2 hd3
                      have hb4 : Below w2.heap.size w2 w3 := (hb.alloc hbs _).trans (hb3.mono (by omega))
                      go_wp2
                      go_roundw
                      case rel => exact ⟨j + 1, by omega, by go_num, HMM.out, hb4⟩
                      case measure => simp [RowKit.intOf]; omega
                  · have HOKK := Lib.hid (HM.out (HOKY.out HRY.out (fun i hi => hmj.out i hi (by omega))))
                    go_wp2
                    go_roundw
                    case rel => exact ⟨k + 1, by omega, by go_num, HOKK.out, hb⟩
                    case measure => simp [RowKit.intOf]; omega
              · have HRY := Lib.hid (HRG.out.trans b1)
                have HA := Lib.hid (HFO.out.trans (HBK.out (okF_reg HRY.out)))
                have HF := Lib.hid (HNO.out HA.out)
                go_wp2_with (go_at_call 30; refine (l1In_c _ _ _ _).mono ?_; rintro e w' ⟨rfl, rfl⟩; simp only [hu8, b1])
                go_ret2
                exact ⟨_, by rw [HA.out]; rfl, by rw [HF.out]; exact own_keep hO hb, hB.trans (hb.mono hs2)⟩
            · have HA := Lib.hid (HFO.out.trans (HALL.out (fun j hj => hm.out j hj (by omega))))
              have HF := Lib.hid (HYS.out HA.out)
              have hO5 := own_keep hO hb
              have hB5 := hB.trans (hb.mono hs2)
              clear hO hm
              go_wp2
              go_loopw [6, 75] (fun o i wr => ∃ (k : Nat), k ≤ xs.length ∧ i = .int .i64 k ∧ wr.ownsRow w.heap.size 58 3 o ((xs.take k).map (frX free.data.toList)).length (scells ((xs.take k).map (frX free.data.toList))) ∧ Below w.heap.size w wr) (fun _ i _ => xs.length - (RowKit.intOf i).toNat)
              case atStart => exact ⟨0, by omega, rfl, by rw [List.take_zero]; exact hO5, hB5⟩
              case round =>
                clear hO5 hb hB5
                obtain ⟨k, hk, rfl, ho, hb⟩ := hrel
                have hbs := hb.size
                by_cases hlt : k < xs.length
                · obtain ⟨b, off, rfl, hbl, hc1, hc2, hc3⟩ := HCELL.out k hlt
                  have hd1 := (hb.cell (p := ⟨b, off + k * 3, none⟩) hbl).trans hc1
                  have hd2 := (hb.cell (p := ⟨b, off + k * 3 + 1, none⟩) hbl).trans hc2
                  have hd3 := (hb.cell (p := ⟨b, off + k * 3 + 2, none⟩) hbl).trans hc3
                  clear hc1 hc2 hc3
                  obtain ⟨z2, z3⟩ := HSZ.out k hlt
                  have HSN := Lib.hid (HSNC.out k hlt)
                  have hll : ((xs.take k).map (frX free.data.toList)).length ≤ 60 := by rw [List.length_map, List.length_take]; omega
                  have HI2 := Lib.hid (fun W => l8Instead_c xs[k].2.1 free z2 h2 W)
                  have HI3 := Lib.hid (fun W => l8Instead_c xs[k].2.2 free z3 h2 W)
                  generalize xs[k].1 = x1 at *
                  generalize xs[k].2.1 = x2 at *
                  generalize xs[k].2.2 = x3 at *
                  generalize frN free.data.toList x2 = y2 at *
                  generalize frN free.data.toList x3 = y3 at *
                  generalize (xs.take k).map (frX free.data.toList) = zs at *
                  have hN1 : At (wr.alloc (.cells #[.int .i64 x1, .string x2, .string x3] 58)) wr.heap.size 58 #[.int .i64 x1, .string x2, .string x3] := At.new _ _ _
                  have hB1 : Below wr.heap.size wr (wr.alloc (.cells #[.int .i64 x1, .string x2, .string x3] 58)) := (Below.refl _ _).alloc (Nat.le_refl _) _
                  have ho1 := own_keep ho hB1
                  have hb1 := hb.trans (hB1.mono hbs)
                  have hl2 := hN1.lt
                  clear hB1 ho hb
                  go_wp2
                  obtain ⟨W1, hW1⟩ : ∃ W1 : World, W1 = wr.alloc (.cells #[.int .i64 x1, .string x2, .string x3] 58) := ⟨_, rfl⟩
                  have q0 : ∀ x : Ext W1.heap.size W1.drew, x.val.cell? ⟨wr.heap.size, 0, none⟩ = some (.int .i64 x1) := fun x => by subst hW1; exact (x.property.cell (p := ⟨wr.heap.size, 0, none⟩) hl2).trans (hN1.cell 0)
                  have q1 : ∀ x : Ext W1.heap.size W1.drew, x.val.cell? ⟨wr.heap.size, 1, none⟩ = some (.string x2) := fun x => by subst hW1; exact (x.property.cell (p := ⟨wr.heap.size, 1, none⟩) hl2).trans (hN1.cell 1)
                  have q2 : ∀ x : Ext W1.heap.size W1.drew, x.val.cell? ⟨wr.heap.size, 2, none⟩ = some (.string x3) := fun x => by subst hW1; exact (x.property.cell (p := ⟨wr.heap.size, 2, none⟩) hl2).trans (hN1.cell 2)
                  have hM1 : ∀ x : Ext W1.heap.size W1.drew, Calls Tryz.prog 31 #[.string x2, .string free] x.val fun e w' => e = .returned (.string y2) ∧ x.val = w' := fun x => HI2.out _
                  have hM2 : ∀ x : Ext W1.heap.size W1.drew, Calls Tryz.prog 31 #[.string x3, .string free] x.val fun e w' => e = .returned (.string y3) ∧ x.val = w' := fun x => HI3.out _
                  rw [← hW1] at hb1 ho1 ⊢
                  clear hN1 hl2
                  refine region_late_wide (m := 1) (C := fun w' => ∃ x : Ext W1.heap.size W1.drew, w' = x.val) (D := fun _ => True) 15 (by kernel_rfl) (by kernel_rfl) _ _ (by rfl) (by rfl) (by rfl) u6 (by intro _ _ _ h; exact h) (yieldsD_move (by rfl) _ (by rfl) u6 (by rfl)) (fun _ _ => trivial) ⟨⟨_, Below.refl _ _⟩, rfl⟩ ?_
                  clear hW1
                  simp only [List.take_succ_cons, List.take_zero, List.drop_succ_cons, List.drop_zero, Nat.reduceSub, Nat.reduceAdd]
                  simp only [Act.put, List.setIfInBounds_toArray, List.set_cons_succ, List.set_cons_zero]
                  gi_big_quiet_step (fail)
                  gi_big_quiet_step (fail)
                  gi_big_quiet_step (fail)
                  gi_big_quiet_step (fail)
                  gi_big_quiet_step (fail)
                  gi_big_quiet_step (fail)
                  (refine BigFrame.wpQuietIn_want (fun _ _ _ _ => trivial) rfl (fun K hK => ?_); gi_big_quiet_op; refine ⟨_, fun _ => callsIn_wide.2 (ext_same _ (hM1 _)), hK _ ?_⟩; clear hK K)
                  gi_big_quiet_step (fail)
                  gi_big_quiet_step (fail)
                  gi_big_quiet_step (fail)
                  gi_big_quiet_step (fail)
                  (refine BigFrame.wpQuietIn_want (fun _ _ _ _ => trivial) rfl (fun K hK => ?_); gi_big_quiet_op; refine ⟨_, fun _ => callsIn_wide.2 (ext_same _ (hM2 _)), hK _ ?_⟩; clear hK K)
                  gi_big_quiet_step (fail)
                  gi_big_quiet_step (fail)
                  refine wpQuietIn_nil ?_
                  intro w3 hw3 K hK
                  obtain ⟨xw, hxw⟩ := hw3
                  have hbw : Below W1.heap.size W1 w3 := by rw [hxw]; exact (Below.refl _ _).drew.trans xw.property
                  clear hxw xw q0 q1 q2 hM1 hM2
                  have ho3 := own_keep ho1 hbw
                  have hb4 := hb1.trans (hbw.mono hb1.size)
                  have hs4 := hb4.size
                  refine sliceIn_st (.tmp 93) rfl x1 y2 y3 (by rfl) ?_
                  refine hK _ _ trivial ?_
                  clear hK K
                  simp only [Act.put, List.setIfInBounds_toArray, List.set_cons_succ, List.set_cons_zero]
                  have hnw := cells_new w3 #[.int .i64 x1, .string y2, .string y3] 58
                  refine listIn_sts rfl (.tmp 79) (.tmp 94) rfl w.heap.size u6 zs [(x1, y2, y3)] ⟨w3.heap.size, 0, none⟩ 1 1 rfl (by decide) (by rfl) (by rfl) (own_keep ho3 ((Below.refl _ _).alloc (Nat.le_refl _) _)) hnw (by simp; omega) (by simp; omega) ?_
                  intro v' w4 hown4 hgrow4
                  have hge := own_block_ge ho3
                  have hb5 := (hb4.alloc hs4 (.cells #[.int .i64 x1, .string y2, .string y3] 58)).trans (below_grown hgrow4 (B := w.heap.size) (by simp; omega) hge)
                  rw [← HSN.out] at hown4
                  clear hgrow4 hnw ho3 hb4 hbw ho1 hb1 hge
                  gi_wp2
                  go_wp2
                  go_roundw
                  case rel => exact ⟨k + 1, by omega, by go_num, hown4, hb5⟩
                  case measure => simp [RowKit.intOf]; omega
                · have ho2 := ho
                  rw [List.take_of_length_le (by omega)] at ho2
                  clear ho
                  go_wp2
                  go_ret2
                  exact ⟨_, by rw [HA.out]; rfl, by rw [HF.out]; exact ho2, hb⟩
      · have HALL : Hid ((∀ j (hj : j < free.size), okF xs free[j] = true) → arF xs free.data.toList = true) := fun h => HAL0.out (hnd.2 (fun h0 h1 => by omega)) (fun k hk => h k (by rw [← hfl]; exact hk))
        have t1 : ¬ (2 : Int) < (free.size : Int) := by omega
        have t1d : decide ((2 : Int) < (free.size : Int)) = false := decide_eq_false t1
        have t2 : ((free.size : Int) == 2) = false := by simp; omega
        clear hnd hfl h3
        go_enter Tryz.func6, Tryz.ntmps6
        go_wp2
        refine wp_region_ext (w.alloc (.cells #[] 58)).heap.size (by kernel_rfl) (by kernel_rfl) ?_
        repeat (go_big_quiet_step ((go_at_call 29; exact ext_call _ (Nat.le_refl _) (HSV.out _))))
        refine wpQuiet_nil ?_
        intro w2 hw'
        obtain ⟨xw, hxw⟩ := hw'
        have hb2 := xw.property
        rw [← hxw] at hb2
        clear hxw xw
        have hO := hOE _ hb2
        have hB := hB0.trans (hb2.mono hB0.size)
        have hs2 := hB.size
        clear hb2 hE hB0
        go_wp2
        go_loopw [36] (fun i wr => ∃ (k : Nat), k ≤ free.size ∧ i = .int .i64 k ∧ Hid (∀ j (hj : j < free.size), j < k → okF xs free[j] = true) ∧ Below w2.heap.size w2 wr) (fun i _ => free.size - (RowKit.intOf i).toNat)
        case atStart => exact ⟨0, by omega, rfl, fun j _ hj => absurd hj (Nat.not_lt_zero j), Below.refl _ _⟩
        case round =>
          obtain ⟨k, hk, rfl, hm, hb⟩ := hrel
          have hbs := hb.size
          by_cases hlt : k < free.size
          · have HRG := Lib.hid (reg_in free[k])
            have hu8 := wrap64_u8 free[k]
            have HBK := Lib.hid (fun h => HBAD.out k hlt h)
            have HM : Hid (okF xs free[k] = true → ∀ j (hj : j < free.size), j < k + 1 → okF xs free[j] = true) := by
              intro h j hj hjk
              rcases Nat.lt_succ_iff_lt_or_eq.1 hjk with h1 | h1
              · exact hm.out j hj h1
              · subst h1; exact h
            have HHIT : Hid (∀ j (hj : j < xs.length), (xs[j].2.1 = ⟨#[free[k]]⟩ ∨ xs[j].2.2 = ⟨#[free[k]]⟩) → okF xs free[k] = false) := fun j hj h => okF_hit H1.out j hj h
            have HOKY : Hid (decide (free[k] ∈ regsL) = true → (∀ j (hj : j < xs.length), ¬ (xs[j].2.1 = ⟨#[free[k]]⟩ ∨ xs[j].2.2 = ⟨#[free[k]]⟩)) → okF xs free[k] = true) := fun h h' => okF_yes H1.out h h'
            have HONE : Hid (∀ (a : ByteArray), a.size = 1 → ∀ (h0 : 0 < a.size), (a[0] = free[k] ↔ a = ⟨#[free[k]]⟩)) := fun a h h0 => one_at h h0 free[k]
            rcases Bool.eq_false_or_eq_true (inB (free[k].toNat : Int) 97 102) with b1 | b1
            · have HRY := Lib.hid (HRG.out.trans b1)
              go_wp2_with (go_at_call 30; refine (l1In_c _ _ _ _).mono ?_; rintro e w' ⟨rfl, rfl⟩; simp only [hu8, b1])
              go_loopw [48] (fun i wr => ∃ (j : Nat), j ≤ xs.length ∧ i = .int .i64 j ∧ Hid (∀ i (hi : i < xs.length), i < j → ¬ (xs[i].2.1 = ⟨#[free[k]]⟩ ∨ xs[i].2.2 = ⟨#[free[k]]⟩)) ∧ Below w2.heap.size w2 wr) (fun i _ => xs.length - (RowKit.intOf i).toNat)
              case atStart => exact ⟨0, by omega, rfl, fun j _ hj => absurd hj (Nat.not_lt_zero j), hb⟩
              case round =>
                clear hb hbs
                obtain ⟨j, hj, rfl, hmj, hb⟩ := hrel
                have hbs := hb.size
                by_cases hltj : j < xs.length
                · obtain ⟨b, off, rfl, hbl, hc1, hc2, hc3⟩ := HCELL.out j hltj
                  have hBc := hB.trans (hb.mono hs2)
                  have hd1 := (hBc.cell (p := ⟨b, off + j * 3, none⟩) hbl).trans hc1
                  have hd2 := (hBc.cell (p := ⟨b, off + j * 3 + 1, none⟩) hbl).trans hc2
                  have hd3 := (hBc.cell (p := ⟨b, off + j * 3 + 2, none⟩) hbl).trans hc3
                  clear hBc
                  clear hc1 hc2 hc3
                  obtain ⟨z2, z3⟩ := HSZ.out j hltj
                  have HHJ := Lib.hid (HHIT.out j hltj)
                  have HMJ : Hid (¬ (xs[j].2.1 = ⟨#[free[k]]⟩ ∨ xs[j].2.2 = ⟨#[free[k]]⟩) → ∀ i (hi : i < xs.length), i < j + 1 → ¬ (xs[i].2.1 = ⟨#[free[k]]⟩ ∨ xs[i].2.2 = ⟨#[free[k]]⟩)) := by
                    intro h i hi hij
                    rcases Nat.lt_succ_iff_lt_or_eq.1 hij with h1 | h1
                    · exact hmj.out i hi h1
                    · subst h1; exact h
                  generalize xs[j].1 = x1 at *
                  generalize xs[j].2.1 = x2 at *
                  generalize xs[j].2.2 = x3 at *
                  have p2 : 0 < x2.size := by omega
                  have p3 : 0 < x3.size := by omega
                  have HO2 := Lib.hid (HONE.out x2 z2 p2)
                  have HO3 := Lib.hid (HONE.out x3 z3 p3)
                  have hN1 : At (wr.alloc (.cells #[.int .i64 x1, .string x2, .string x3] 58)) wr.heap.size 58 #[.int .i64 x1, .string x2, .string x3] := At.new _ _ _
                  have hxb : ∀ x : Ext (wr.heap.size + 1) (wr.alloc (.cells #[.int .i64 x1, .string x2, .string x3] 58)), x.val.cell? ⟨wr.heap.size, 1, none⟩ = some (.string x2) := fun x =>
                    (x.property.cell (p := ⟨wr.heap.size, 1, none⟩) (by simp)).trans (hN1.cell 1)
                  have hxc : ∀ x : Ext (wr.heap.size + 1) (wr.alloc (.cells #[.int .i64 x1, .string x2, .string x3] 58)), x.val.cell? ⟨wr.heap.size, 2, none⟩ = some (.string x3) := fun x =>
                    (x.property.cell (p := ⟨wr.heap.size, 2, none⟩) (by simp)).trans (hN1.cell 2)
                  clear hN1
                  have key : ∀ d : UInt8, ((d.toNat : Int) == (free[k].toNat : Int)) = decide (d = free[k]) := fun d => by
                    rw [Bool.eq_iff_iff, beq_iff_eq, decide_eq_true_eq]
                    exact ⟨fun h => UInt8.toNat.inj (by omega), fun h => by rw [h]⟩
                  have hk2 := key x2[0]
                  have hk3 := key x3[0]
                  clear key
                  rcases Bool.eq_false_or_eq_true ((x2[0].toNat : Int) == (free[k].toNat : Int)) with e2 | e2
                  · have HHH : Hid (okF xs free[k] = false) := HHJ.out (.inl (HO2.out.1 (of_decide_eq_true (hk2.symm.trans e2))))
                    clear hk2 hk3
                    go_wp2
                    refine wp_region_ext (wr.heap.size + 1) (by kernel_rfl) (by kernel_rfl) ?_
                    repeat (go_big_quiet_step (fail))
                    refine wpQuiet_nil ?_
                    intro w3 hw'
                    obtain ⟨xw, hxw⟩ := hw'
                    have hb3 := xw.property
                    rw [← hxw] at hb3
                    clear hxw xw hxb hxc hd1 hd2 hd3
                    have hb4 : Below w2.heap.size w2 w3 := (hb.alloc hbs _).trans (hb3.mono (by omega))
                    have hB4 := hB.trans (hb4.mono hs2)
                    have hO4 := HE0 w3 hB4.size
                    have HA := Lib.hid (HFO.out.trans (HBK.out HHH.out))
                    have HF := Lib.hid (HNO.out HA.out)
                    go_wp2
                    go_ret2
                    exact ⟨_, by rw [HA.out]; rfl, by rw [HF.out]; exact hO4, hB4.alloc hB4.size _⟩
                  rcases Bool.eq_false_or_eq_true ((x3[0].toNat : Int) == (free[k].toNat : Int)) with e3 | e3
                  · have HHH : Hid (okF xs free[k] = false) := HHJ.out (.inr (HO3.out.1 (of_decide_eq_true (hk3.symm.trans e3))))
                    clear hk2 hk3
                    go_wp2
                    refine wp_region_ext (wr.heap.size + 1) (by kernel_rfl) (by kernel_rfl) ?_
                    repeat (go_big_quiet_step (fail))
                    refine wpQuiet_nil ?_
                    intro w3 hw'
                    obtain ⟨xw, hxw⟩ := hw'
                    have hb3 := xw.property
                    rw [← hxw] at hb3
                    clear hxw xw hxb hxc hd1 hd2 hd3
                    have hb4 : Below w2.heap.size w2 w3 := (hb.alloc hbs _).trans (hb3.mono (by omega))
                    have hB4 := hB.trans (hb4.mono hs2)
                    have hO4 := HE0 w3 hB4.size
                    have HA := Lib.hid (HFO.out.trans (HBK.out HHH.out))
                    have HF := Lib.hid (HNO.out HA.out)
                    go_wp2
                    go_ret2
                    exact ⟨_, by rw [HA.out]; rfl, by rw [HF.out]; exact hO4, hB4.alloc hB4.size _⟩
                  · have HNN : Hid (¬ (x2 = ⟨#[free[k]]⟩ ∨ x3 = ⟨#[free[k]]⟩)) := by
                      intro h
                      rcases h with h | h
                      · exact of_decide_eq_false (hk2.symm.trans e2) (HO2.out.2 h)
                      · exact of_decide_eq_false (hk3.symm.trans e3) (HO3.out.2 h)
                    have HMM := Lib.hid (HMJ.out HNN.out)
                    clear hk2 hk3
                    go_wp2
                    refine wp_region_ext (wr.heap.size + 1) (by kernel_rfl) (by kernel_rfl) ?_
                    repeat (go_big_quiet_step (fail))
                    refine wpQuiet_nil ?_
                    intro w3 hw'
                    obtain ⟨xw, hxw⟩ := hw'
                    have hb3 := xw.property
                    rw [← hxw] at hb3
                    clear hxw xw hxb hxc hd1 hd2 hd3
                    have hb4 : Below w2.heap.size w2 w3 := (hb.alloc hbs _).trans (hb3.mono (by omega))
                    go_wp2
                    go_roundw
                    case rel => exact ⟨j + 1, by omega, by go_num, HMM.out, hb4⟩
                    case measure => simp [RowKit.intOf]; omega
                · have HOKK := Lib.hid (HM.out (HOKY.out HRY.out (fun i hi => hmj.out i hi (by omega))))
                  go_wp2
                  go_roundw
                  case rel => exact ⟨k + 1, by omega, by go_num, HOKK.out, hb⟩
                  case measure => simp [RowKit.intOf]; omega
            · have HRY := Lib.hid (HRG.out.trans b1)
              have HA := Lib.hid (HFO.out.trans (HBK.out (okF_reg HRY.out)))
              have HF := Lib.hid (HNO.out HA.out)
              go_wp2_with (go_at_call 30; refine (l1In_c _ _ _ _).mono ?_; rintro e w' ⟨rfl, rfl⟩; simp only [hu8, b1])
              go_ret2
              exact ⟨_, by rw [HA.out]; rfl, by rw [HF.out]; exact own_keep hO hb, hB.trans (hb.mono hs2)⟩
          · have HA := Lib.hid (HFO.out.trans (HALL.out (fun j hj => hm.out j hj (by omega))))
            have HF := Lib.hid (HYS.out HA.out)
            have hO5 := own_keep hO hb
            have hB5 := hB.trans (hb.mono hs2)
            clear hO hm
            go_wp2
            go_loopw [6, 75] (fun o i wr => ∃ (k : Nat), k ≤ xs.length ∧ i = .int .i64 k ∧ wr.ownsRow w.heap.size 58 3 o ((xs.take k).map (frX free.data.toList)).length (scells ((xs.take k).map (frX free.data.toList))) ∧ Below w.heap.size w wr) (fun _ i _ => xs.length - (RowKit.intOf i).toNat)
            case atStart => exact ⟨0, by omega, rfl, by rw [List.take_zero]; exact hO5, hB5⟩
            case round =>
              clear hO5 hb hB5
              obtain ⟨k, hk, rfl, ho, hb⟩ := hrel
              have hbs := hb.size
              by_cases hlt : k < xs.length
              · obtain ⟨b, off, rfl, hbl, hc1, hc2, hc3⟩ := HCELL.out k hlt
                have hd1 := (hb.cell (p := ⟨b, off + k * 3, none⟩) hbl).trans hc1
                have hd2 := (hb.cell (p := ⟨b, off + k * 3 + 1, none⟩) hbl).trans hc2
                have hd3 := (hb.cell (p := ⟨b, off + k * 3 + 2, none⟩) hbl).trans hc3
                clear hc1 hc2 hc3
                obtain ⟨z2, z3⟩ := HSZ.out k hlt
                have HSN := Lib.hid (HSNC.out k hlt)
                have hll : ((xs.take k).map (frX free.data.toList)).length ≤ 60 := by rw [List.length_map, List.length_take]; omega
                have HI2 := Lib.hid (fun W => l8Instead_c xs[k].2.1 free z2 h2 W)
                have HI3 := Lib.hid (fun W => l8Instead_c xs[k].2.2 free z3 h2 W)
                generalize xs[k].1 = x1 at *
                generalize xs[k].2.1 = x2 at *
                generalize xs[k].2.2 = x3 at *
                generalize frN free.data.toList x2 = y2 at *
                generalize frN free.data.toList x3 = y3 at *
                generalize (xs.take k).map (frX free.data.toList) = zs at *
                have hN1 : At (wr.alloc (.cells #[.int .i64 x1, .string x2, .string x3] 58)) wr.heap.size 58 #[.int .i64 x1, .string x2, .string x3] := At.new _ _ _
                have hB1 : Below wr.heap.size wr (wr.alloc (.cells #[.int .i64 x1, .string x2, .string x3] 58)) := (Below.refl _ _).alloc (Nat.le_refl _) _
                have ho1 := own_keep ho hB1
                have hb1 := hb.trans (hB1.mono hbs)
                have hl2 := hN1.lt
                clear hB1 ho hb
                go_wp2
                obtain ⟨W1, hW1⟩ : ∃ W1 : World, W1 = wr.alloc (.cells #[.int .i64 x1, .string x2, .string x3] 58) := ⟨_, rfl⟩
                have q0 : ∀ x : Ext W1.heap.size W1.drew, x.val.cell? ⟨wr.heap.size, 0, none⟩ = some (.int .i64 x1) := fun x => by subst hW1; exact (x.property.cell (p := ⟨wr.heap.size, 0, none⟩) hl2).trans (hN1.cell 0)
                have q1 : ∀ x : Ext W1.heap.size W1.drew, x.val.cell? ⟨wr.heap.size, 1, none⟩ = some (.string x2) := fun x => by subst hW1; exact (x.property.cell (p := ⟨wr.heap.size, 1, none⟩) hl2).trans (hN1.cell 1)
                have q2 : ∀ x : Ext W1.heap.size W1.drew, x.val.cell? ⟨wr.heap.size, 2, none⟩ = some (.string x3) := fun x => by subst hW1; exact (x.property.cell (p := ⟨wr.heap.size, 2, none⟩) hl2).trans (hN1.cell 2)
                have hM1 : ∀ x : Ext W1.heap.size W1.drew, Calls Tryz.prog 31 #[.string x2, .string free] x.val fun e w' => e = .returned (.string y2) ∧ x.val = w' := fun x => HI2.out _
                have hM2 : ∀ x : Ext W1.heap.size W1.drew, Calls Tryz.prog 31 #[.string x3, .string free] x.val fun e w' => e = .returned (.string y3) ∧ x.val = w' := fun x => HI3.out _
                rw [← hW1] at hb1 ho1 ⊢
                clear hN1 hl2
                refine region_late_wide (m := 1) (C := fun w' => ∃ x : Ext W1.heap.size W1.drew, w' = x.val) (D := fun _ => True) 15 (by kernel_rfl) (by kernel_rfl) _ _ (by rfl) (by rfl) (by rfl) u6 (by intro _ _ _ h; exact h) (yieldsD_move (by rfl) _ (by rfl) u6 (by rfl)) (fun _ _ => trivial) ⟨⟨_, Below.refl _ _⟩, rfl⟩ ?_
                clear hW1
                simp only [List.take_succ_cons, List.take_zero, List.drop_succ_cons, List.drop_zero, Nat.reduceSub, Nat.reduceAdd]
                simp only [Act.put, List.setIfInBounds_toArray, List.set_cons_succ, List.set_cons_zero]
                gi_big_quiet_step (fail)
                gi_big_quiet_step (fail)
                gi_big_quiet_step (fail)
                gi_big_quiet_step (fail)
                gi_big_quiet_step (fail)
                gi_big_quiet_step (fail)
                (refine BigFrame.wpQuietIn_want (fun _ _ _ _ => trivial) rfl (fun K hK => ?_); gi_big_quiet_op; refine ⟨_, fun _ => callsIn_wide.2 (ext_same _ (hM1 _)), hK _ ?_⟩; clear hK K)
                gi_big_quiet_step (fail)
                gi_big_quiet_step (fail)
                gi_big_quiet_step (fail)
                gi_big_quiet_step (fail)
                (refine BigFrame.wpQuietIn_want (fun _ _ _ _ => trivial) rfl (fun K hK => ?_); gi_big_quiet_op; refine ⟨_, fun _ => callsIn_wide.2 (ext_same _ (hM2 _)), hK _ ?_⟩; clear hK K)
                gi_big_quiet_step (fail)
                gi_big_quiet_step (fail)
                refine wpQuietIn_nil ?_
                intro w3 hw3 K hK
                obtain ⟨xw, hxw⟩ := hw3
                have hbw : Below W1.heap.size W1 w3 := by rw [hxw]; exact (Below.refl _ _).drew.trans xw.property
                clear hxw xw q0 q1 q2 hM1 hM2
                have ho3 := own_keep ho1 hbw
                have hb4 := hb1.trans (hbw.mono hb1.size)
                have hs4 := hb4.size
                refine sliceIn_st (.tmp 93) rfl x1 y2 y3 (by rfl) ?_
                refine hK _ _ trivial ?_
                clear hK K
                simp only [Act.put, List.setIfInBounds_toArray, List.set_cons_succ, List.set_cons_zero]
                have hnw := cells_new w3 #[.int .i64 x1, .string y2, .string y3] 58
                refine listIn_sts rfl (.tmp 79) (.tmp 94) rfl w.heap.size u6 zs [(x1, y2, y3)] ⟨w3.heap.size, 0, none⟩ 1 1 rfl (by decide) (by rfl) (by rfl) (own_keep ho3 ((Below.refl _ _).alloc (Nat.le_refl _) _)) hnw (by simp; omega) (by simp; omega) ?_
                intro v' w4 hown4 hgrow4
                have hge := own_block_ge ho3
                have hb5 := (hb4.alloc hs4 (.cells #[.int .i64 x1, .string y2, .string y3] 58)).trans (below_grown hgrow4 (B := w.heap.size) (by simp; omega) hge)
                rw [← HSN.out] at hown4
                clear hgrow4 hnw ho3 hb4 hbw ho1 hb1 hge
                gi_wp2
                go_wp2
                go_roundw
                case rel => exact ⟨k + 1, by omega, by go_num, hown4, hb5⟩
                case measure => simp [RowKit.intOf]; omega
              · have ho2 := ho
                rw [List.take_of_length_le (by omega)] at ho2
                clear ho
                go_wp2
                go_ret2
                exact ⟨_, by rw [HA.out]; rfl, by rw [HF.out]; exact ho2, hb⟩
    · have HA := Lib.hid (HFO.out.trans (ar_no2 (xs := xs) (free := free.data.toList) (by omega)))
      have HF := Lib.hid (HNO.out HA.out)
      have t1 : (2 : Int) < (free.size : Int) := by omega
      clear hcell hfl h2
      go_enter Tryz.func6, Tryz.ntmps6
      go_wp2
      refine wp_region_ext (w.alloc (.cells #[] 58)).heap.size (by kernel_rfl) (by kernel_rfl) ?_
      repeat (go_big_quiet_step ((go_at_call 29; exact ext_call _ (Nat.le_refl _) (HSV.out _))))
      refine wpQuiet_nil ?_
      intro w2 hw'
      obtain ⟨xw, hxw⟩ := hw'
      have hb2 := xw.property
      rw [← hxw] at hb2
      clear hxw xw
      have hO := hOE _ hb2
      have hB := hB0.trans (hb2.mono hB0.size)
      go_wp2
      go_ret2
      exact ⟨_, by rw [HA.out]; rfl, by rw [HF.out]; exact hO, hB⟩
  · have HA : Hid (frOk xs free.data.toList = false) := by show _ = _; rw [HFO.out, h1]; rfl
    have HF := Lib.hid (HNO.out HA.out)
    rw [h1] at HSV
    clear hcell hfl
    go_enter Tryz.func6, Tryz.ntmps6
    go_wp2
    refine wp_region_ext (w.alloc (.cells #[] 58)).heap.size (by kernel_rfl) (by kernel_rfl) ?_
    repeat (go_big_quiet_step ((go_at_call 29; exact ext_call _ (Nat.le_refl _) (HSV.out _))))
    refine wpQuiet_nil ?_
    intro w2 hw'
    obtain ⟨xw, hxw⟩ := hw'
    have hb2 := xw.property
    rw [← hxw] at hb2
    clear hxw xw
    have hO := hOE _ hb2
    have hB := hB0.trans (hb2.mono hB0.size)
    go_wp2
    go_ret2
    exact ⟨_, by rw [HA.out]; rfl, by rw [HF.out]; exact hO, hB⟩
end Go.Proofs.YtnhncbhhlbcieaaGreat
namespace Go.PD
open Go.PM Go.RowKit Go.Lib
theorem trR_b (k : Int) (a b : ByteArray) : ((trR (k, a, b) : Nat) : Int) = ((bN (slB b) : Nat) : Int) + (if k = 1 then ((bN (slB a) : Nat) : Int) else 0) := by
  by_cases h : k = 1
  · subst h; rw [trR_swap, slN_b, slN_b, if_pos rfl]; push_cast; omega
  · rw [trR_move k a b h, slN_b, if_neg h]; omega
theorem trW_b (k : Int) (a b : ByteArray) : ((trW (k, a, b) : Nat) : Int) = ((bN (slB a) : Nat) : Int) + (if k = 1 then ((bN (slB b) : Nat) : Int) else 0) := by
  by_cases h : k = 1
  · subst h; rw [trW_swap, slN_b, slN_b, if_pos rfl]; push_cast; omega
  · rw [trW_move k a b h, slN_b, if_neg h]; omega
theorem bN_yes : bN true = 1 := rfl
theorem bN_no : bN false = 0 := rfl
end Go.PD
namespace Go.Proofs.YtnhncbhhlbcieaaGreat
open Go.RowKit Go.PM Go.PD Go.Lib
set_option maxRecDepth 100000 in
set_option maxHeartbeats 2000000 in
theorem spSlotTraffic_c (xs : List St) (v : Value) (w : World) (hx : RdS w v xs) :
    Calls Tryz.prog 9 #[v] w fun e w' => e = .returned (.tuple #[.int .i64 (trZ trR xs), .int .i64 (trZ trW xs), .bool (svalid xs)]) ∧ Below w.heap.size w w' := by
  have hsv := Lib.hid (spSequenceValid_c xs v w hx)
  rcases Bool.eq_false_or_eq_true (svalid xs) with h1 | h1
  · have HZ : Hid (trZ trR xs = ((trS trR xs : Nat) : Int) ∧ trZ trW xs = ((trS trW xs : Nat) : Int)) := by
      unfold Hid trZ; rw [h1]; exact ⟨rfl, rfl⟩
    have HR := Lib.hid (fun k hk => trS_succ trR xs k hk)
    have HW := Lib.hid (fun k hk => trS_succ trW xs k hk)
    have HRL := Lib.hid (fun k => trS_le trR (fun x => (tr_le x).1) xs k)
    have HWL := Lib.hid (fun k => trS_le trW (fun x => (tr_le x).2) xs k)
    have HR0 := Lib.hid (trS_zero trR xs)
    have HW0 := Lib.hid (trS_zero trW xs)
    have HSL := Lib.hid (fun s W => l8Slot_c s W)
    have hlen := svalid_len h1
    have H1 := Lib.hid h1
    clear h1
    go_enter Tryz.func9, Tryz.ntmps9
    go_wp2_with fail
    refine hsv.out.mono ?_
    rintro e w1 ⟨rfl, hb1⟩
    rw [H1.out]
    have hs1 := hb1.size
    have hx1 := hx.below hb1
    obtain ⟨A, cap, rfl, hn, hc, hcell⟩ := hx1.open
    clear hx1
    go_wp2
    go_loopw [5, 6, 8, 14] (fun ra qa _ i wr => ∃ (k : Nat) (r q : Int), k ≤ xs.length ∧ i = .int .i64 k ∧ ra = .int .i64 r ∧ qa = .int .i64 q ∧ Hid (r = ((trS trR (xs.take k) : Nat) : Int) ∧ q = ((trS trW (xs.take k) : Nat) : Int)) ∧ Below w1.heap.size w1 wr) (fun _ _ _ i _ => xs.length - (RowKit.intOf i).toNat)
    case atStart => exact ⟨0, 0, 0, by omega, rfl, rfl, rfl, by rw [HR0.out, HW0.out]; exact ⟨rfl, rfl⟩, Below.refl _ _⟩
    case round =>
      obtain ⟨k, r, q, hk, rfl, rfl, rfl, hrq, hb⟩ := hrel
      have hbs := hb.size
      by_cases hlt : k < xs.length
      · obtain ⟨b, off, rfl, hbl, hc1, hc2, hc3⟩ := hcell k hlt
        have hd1 := (hb.cell (p := ⟨b, off + k * 3, none⟩) hbl).trans hc1
        have hd2 := (hb.cell (p := ⟨b, off + k * 3 + 1, none⟩) hbl).trans hc2
        have hd3 := (hb.cell (p := ⟨b, off + k * 3 + 2, none⟩) hbl).trans hc3
        clear hc1 hc2 hc3 hcell
        have hr1 := HRL.out k
        have hw1 := HWL.out k
        have hr0 : 0 ≤ r ∧ r ≤ 200 := by have := hrq.out.1; omega
        have hq0 : 0 ≤ q ∧ q ≤ 200 := by have := hrq.out.2; omega
        have er : Hid (((trS trR (xs.take (k + 1)) : Nat) : Int) = r + ((trR (xs[k].1, xs[k].2.1, xs[k].2.2) : Nat) : Int)) := by show _ = _; rw [HR.out k hlt, hrq.out.1]; push_cast; rfl
        have ew : Hid (((trS trW (xs.take (k + 1)) : Nat) : Int) = q + ((trW (xs[k].1, xs[k].2.1, xs[k].2.2) : Nat) : Int)) := by show _ = _; rw [HW.out k hlt, hrq.out.2]; push_cast; rfl
        rw [trR_b] at er
        rw [trW_b] at ew
        have HA := Lib.hid (fun W => HSL.out xs[k].2.1 W)
        have HB := Lib.hid (fun W => HSL.out xs[k].2.2 W)
        clear hr1 hw1
        generalize xs[k].1 = x1 at *
        generalize xs[k].2.1 = x2 at *
        generalize xs[k].2.2 = x3 at *
        generalize slB x2 = ba at *
        generalize slB x3 = bb at *
        have hb1 : Below w1.heap.size w1 (wr.alloc (.cells #[.int .i64 x1, .string x2, .string x3] 58)) := hb.alloc hbs _
        clear hb
        by_cases h1 : x1 = 1
        · subst h1
          rw [if_pos rfl] at er ew
          cases ba <;> cases bb
          all_goals
            go_wp2_with (first | (go_at_call 34; with_reducible refine (HA.out _).mono ?_; rintro e w' ⟨rfl, rfl⟩) | (go_at_call 34; with_reducible refine (HB.out _).mono ?_; rintro e w' ⟨rfl, rfl⟩))
            go_roundw
            case rel => exact ⟨k + 1, _, _, by omega, by go_num, rfl, rfl, ⟨by have h5 := er.out; simp only [bN_no, bN_yes] at h5; omega, by have h5 := ew.out; simp only [bN_no, bN_yes] at h5; omega⟩, hb1⟩
            case measure => simp [RowKit.intOf]; omega
        · have t1 : (x1 == 1) = false := by simpa using h1
          rw [if_neg h1] at er ew
          clear h1
          cases ba <;> cases bb
          all_goals
            go_wp2_with (first | (go_at_call 34; with_reducible refine (HA.out _).mono ?_; rintro e w' ⟨rfl, rfl⟩) | (go_at_call 34; with_reducible refine (HB.out _).mono ?_; rintro e w' ⟨rfl, rfl⟩))
            go_roundw
            case rel => exact ⟨k + 1, _, _, by omega, by go_num, rfl, rfl, ⟨by have h5 := er.out; simp only [bN_no, bN_yes] at h5; omega, by have h5 := ew.out; simp only [bN_no, bN_yes] at h5; omega⟩, hb1⟩
            case measure => simp [RowKit.intOf]; omega
      · have hk' : k = xs.length := by omega
        have HRQ : Hid (r = trZ trR xs ∧ q = trZ trW xs) := by
          have := hrq.out
          rw [hk', List.take_length] at this
          exact ⟨this.1.trans HZ.out.1.symm, this.2.trans HZ.out.2.symm⟩
        clear hcell hrq hk'
        go_wp2
        go_ret3
        exact ⟨by rw [← HRQ.out.1, ← HRQ.out.2, H1.out]; rfl, hb1.trans (hb.mono hs1)⟩
  · have HZ : Hid (trZ trR xs = 0 ∧ trZ trW xs = 0) := by
      unfold Hid trZ; rw [h1]; exact ⟨rfl, rfl⟩
    have H1 := Lib.hid h1
    clear h1
    go_enter Tryz.func9, Tryz.ntmps9
    go_wp2_with fail
    refine hsv.out.mono ?_
    rintro e w1 ⟨rfl, hb1⟩
    rw [H1.out]
    go_wp2
    go_ret3
    exact ⟨by rw [HZ.out.1, HZ.out.2, H1.out]; rfl, hb1⟩
end Go.Proofs.YtnhncbhhlbcieaaGreat
namespace Go.Proofs.YtnhncbhhlbcieaaGreat
open Go.RowKit Go.PM Go.ChangeShapes Go.WideShapes Go.Deep

theorem own : ownKnob Tryz.prog.godebug = none := by kernel_rfl
theorem laidOut : laidOutB Tryz.prog = true := by kernel_rfl

theorem exists_list {α : Type} (Q : Nat → α → Prop) : ∀ n, (∀ i, i < n → ∃ m, Q i m) → ∃ xs : List α, xs.length = n ∧ ∀ i (h : i < xs.length), Q i xs[i]
  | 0, _ => ⟨[], rfl, fun i h => absurd h (Nat.not_lt_zero _)⟩
  | n + 1, h => by
    obtain ⟨xs, hl, hx⟩ := exists_list Q n fun i hi => h i (by omega)
    obtain ⟨m, hm⟩ := h n (by omega)
    refine ⟨xs ++ [m], by simp [hl], fun i hi => ?_⟩
    by_cases h1 : i < xs.length
    · rw [List.getElem_append_left h1]; exact hx i h1
    · have h2 : i = xs.length := by simp at hi; omega
      subst h2
      rw [List.getElem_append_right (Nat.le_refl _)]
      simpa [hl] using hm

theorem rdM_mk {w : World} {ad : Addr} {cap : Nat} (xs : List Mv) (hc : xs.length ≤ cap) (hn : xs.length ≤ 9223372036854775807)
    (h : ∀ i (hi : i < xs.length), w.cell? (ad.add (i * 2)) = some (.string xs[i].1) ∧ w.cell? ((ad.add (i * 2)).add 1) = some (.string xs[i].2)) : RdM w (.slice (some ad) xs.length cap) xs := by
  refine ⟨some ad, cap, rfl, hc, hn, mcells_length xs, fun h0 => ?_⟩
  have h1 := (h 0 h0).1
  obtain ⟨b, off, spot⟩ := ad
  have hs : spot = none := by
    have := World.cell?_spot h1
    simpa [Addr.add] using this
  subst hs
  have hadd : ∀ o i, (Addr.mk b o none).add i = ⟨b, o + i, none⟩ := fun o i => by
    unfold Addr.add; split
    · next h => subst h; rfl
    · rfl
  refine ⟨b, off, rfl, ?_, fun j u hu => ?_⟩
  · rcases Nat.lt_or_ge b w.heap.size with hlt | hge
    · exact hlt
    · rw [hadd] at h1
      simp [World.cell?, Array.getElem?_eq_none hge] at h1
  · have hj : j < xs.length * 2 := by rw [← mcells_length]; exact (List.getElem?_eq_some_iff.1 hu).1
    have hk : j / 2 < xs.length := by omega
    have hm := mcells_at xs (j / 2) _ (List.getElem?_eq_getElem hk)
    have hh := h (j / 2) hk
    rw [hadd, hadd] at hh
    rcases Nat.mod_two_eq_zero_or_one j with h0 | h0
    · have e : j / 2 * 2 = j := by omega
      rw [e] at hm hh
      rw [hm.1] at hu
      rw [hh.1, hu]
    · have e : j / 2 * 2 + 1 = j := by omega
      rw [e] at hm
      rw [Nat.add_assoc, e] at hh
      rw [hm.2] at hu
      rw [hh.2, hu]

end Go.Proofs.YtnhncbhhlbcieaaGreat
namespace Go.Proofs.YtnhncbhhlbcieaaGreat
open Go.RowKit Go.PM
open Go.ChangeShapes Go.WideShapes Go.Deep in
set_option maxRecDepth 100000 in
theorem open_bytes {H : Type} {enc : TypeId × Value → H} {W : World} {base fuel : Nat} {spare : Nat → Bool} {held : Bool} {a : Option Addr} {n c : Nat} {x : DataW H × List MemPlace}
    (h : DataW.trod enc Tryz.prog W base spare held fuel 22 [.slice a n c] = some x) : RdB W W.heap.size (.slice a n c) n := by
  rcases open_slice Tryz.underlying22 h with ⟨hcs, _⟩ | ⟨ad, len, cap, m, k, D, Pl, hcs, hb, hl, hm, hmm, hx, hi⟩
  · simp at hcs
    obtain ⟨rfl, rfl, rfl⟩ := hcs
    exact ⟨none, 0, rfl, by omega, by omega, fun k hk => absurd hk (Nat.not_lt_zero k)⟩
  · simp at hcs
    obtain ⟨rfl, rfl, rfl⟩ := hcs
    have hC : Tryz.prog.cellsOf 5 = 1 := by kernel_rfl
    have hml : n ≤ m := by rw [hmm]; split <;> omega
    have hM : maxLen = 9223372036854775807 := rfl
    have hcell : ∀ i, i < n → ∃ kk, W.cell? (ad.add i) = some (.int .u8 kk) ∧ 0 ≤ kk ∧ kk ≤ 255 := fun i hin => by
      obtain ⟨cs', hc', ht⟩ := hi i (by omega)
      rw [hC] at hc'
      obtain ⟨kk, hk, _, hwf⟩ := DataW.trod_int Tryz.underlying5 ht
      subst hk
      obtain ⟨_, hcl, hat⟩ := World.cells?_some hc'
      have h1 := hat 0 (by omega)
      refine ⟨kk, by simpa [Addr.add] using h1, ?_⟩
      simpa [Lit.wf, IntKind.min, IntKind.max, IntKind.signed, IntKind.bits] using hwf
    clear hi hx h
    refine ⟨some ad, c, rfl, by omega, by omega, fun i hin => ?_⟩
    obtain ⟨b, off, spot⟩ := ad
    have hs : spot = none := by
      obtain ⟨_, h0, _⟩ := hcell 0 (by omega)
      have := World.cell?_spot h0
      simpa [Addr.add] using this
    subst hs
    obtain ⟨kk, h1, hw1, hw2⟩ := hcell i hin
    have hadd : (Addr.mk b off none).add i = ⟨b, off + i, none⟩ := by
      unfold Addr.add; split
      · next h => subst h; rfl
      · rfl
    rw [hadd] at h1
    have hb : b < W.heap.size := by
      rcases Nat.lt_or_ge b W.heap.size with hlt | hge
      · exact hlt
      · simp [World.cell?, Array.getElem?_eq_none hge] at h1
    exact ⟨b, off, kk, rfl, hb, hb, h1, hw1, by omega⟩
end Go.Proofs.YtnhncbhhlbcieaaGreat
namespace Go.PM
open Go.RowKit
/-- one of a text's letters is the given text -/
def pmH (s c : ByteArray) : Bool := (List.range s.size).any fun i => decide (s.extract i (i + 1) = c)
def pmK (s c : ByteArray) (k : Nat) : Bool := (List.range k).any fun i => decide (s.extract i (i + 1) = c)
theorem pmK_succ (s c : ByteArray) (k : Nat) : pmK s c (k + 1) = (pmK s c k || decide (s.extract k (k + 1) = c)) := by
  simp [pmK, List.range_succ]
theorem pmK_yes {s c : ByteArray} (k : Nat) (hk : k < s.size) (h : s.extract k (k + 1) = c) : pmH s c = true := by
  rw [pmH, List.any_eq_true]
  exact ⟨k, by simpa using hk, decide_eq_true h⟩
theorem extract_at (s : ByteArray) (i : Nat) (h : i < s.size) : s.extract i (i + 1) = ⟨#[s[i]]⟩ := by
  apply ByteArray.ext
  apply Array.ext
  · simp only [ByteArray.data_extract, Array.size_extract]
    have : s.data.size = s.size := rfl
    simp; omega
  · intro j h1 h2
    have hj : j = 0 := by simpa using h2
    subst hj
    simp
    rfl
theorem pmH_one (s : ByteArray) (c : UInt8) : pmH s ⟨#[c]⟩ = decide (c ∈ s.data.toList) := by
  rw [pmH, Bool.eq_iff_iff, List.any_eq_true, decide_eq_true_eq]
  constructor
  · rintro ⟨i, hi, h⟩
    have hi' : i < s.size := by simpa using hi
    have h' := of_decide_eq_true h
    rw [extract_at s i hi'] at h'
    have : s[i] = c := by simpa using h'
    rw [← this]
    exact List.getElem_mem (l := s.data.toList) (n := i) (by simpa using hi')
  · intro h
    obtain ⟨i, hi, e⟩ := List.getElem_of_mem h
    have hi' : i < s.size := by simpa using hi
    refine ⟨i, by simpa using hi', decide_eq_true ?_⟩
    rw [extract_at s i hi', ← e]
    rfl
theorem place_inj : ∀ p < 9, ∀ q < 9, placesL.getD q 0 = placesL.getD p 0 → q = p := by decide +kernel
theorem nm_byte (p : Nat) (hp : p < 9) : nm p = ⟨#[placesL.getD p 0]⟩ := by
  match p, hp with
  | 0, _ | 1, _ | 2, _ | 3, _ | 4, _ | 5, _ | 6, _ | 7, _ | 8, _ => decide +kernel
theorem pmH_names (h : Nat → Bool) (p : Nat) (hp : p < 9) : pmH (namesW h) (nm p) = h p := by
  rw [nm_byte p hp, pmH_one, Bool.eq_iff_iff, decide_eq_true_eq]
  unfold namesW namesL
  simp only [List.mem_map, List.mem_filter, List.mem_range]
  constructor
  · rintro ⟨q, ⟨hq, hh⟩, e⟩
    rw [place_inj p hp q hq e] at hh; exact hh
  · intro hh; exact ⟨p, ⟨hp, hh⟩, rfl⟩
theorem srcM_isS {xs : List Mv} (h : MV xs) {a : ByteArray} (ha : isP a = true) : isS (srcM xs a) = true := by
  unfold srcM
  cases hf : xs.find? (fun m => decide (m.1 = a)) with
  | none => show isS a = true; unfold isS; rw [ha]; rfl
  | some m =>
    have hm := h.1 m (List.mem_of_find?_eq_some hf)
    unfold mok at hm; rw [Bool.and_eq_true] at hm
    exact hm.2
theorem nm_of_isP {a : ByteArray} (h : isP a = true) : ∃ p, p < 9 ∧ a = nm p := by
  obtain ⟨c, rfl⟩ := one_of_size (isP_size h)
  have h2 : c ∈ placesL := by simpa [isP] using h
  simp only [placesL, List.mem_cons, List.not_mem_nil, or_false] at h2
  rcases h2 with rfl | rfl | rfl | rfl | rfl | rfl | rfl | rfl | rfl
  · exact ⟨0, by decide, by decide +kernel⟩
  · exact ⟨1, by decide, by decide +kernel⟩
  · exact ⟨2, by decide, by decide +kernel⟩
  · exact ⟨3, by decide, by decide +kernel⟩
  · exact ⟨4, by decide, by decide +kernel⟩
  · exact ⟨5, by decide, by decide +kernel⟩
  · exact ⟨6, by decide, by decide +kernel⟩
  · exact ⟨7, by decide, by decide +kernel⟩
  · exact ⟨8, by decide, by decide +kernel⟩
end Go.PM
namespace Go.Proofs.YtnhncbhhlbcieaaGreat
open Go.RowKit Go.PM
theorem pmH_rdrs {xs : List Mv} (h : MV xs) (a : ByteArray) (p : Nat) (hp : p < 9) : pmH (rdrs xs a) (nm p) = (decide (nm p ≠ a) && decide (srcM xs (nm p) = a)) := by
  rw [rdrs, ← rsH_rdH h, pmH_names _ p hp]; rfl
theorem pmH_source {xs : List Mv} (h : MV xs) {a : ByteArray} (ha : isP a = true) (hne : ¬ srcM xs a = a) : pmH (rdrs xs (srcM xs a)) a = true := by
  obtain ⟨p, hp, rfl⟩ := nm_of_isP ha
  rw [pmH_rdrs h _ p hp]
  have h1 : nm p ≠ srcM xs (nm p) := fun e => hne e.symm
  simp [h1]
theorem rdrs_size (xs : List Mv) (a : ByteArray) : (rdrs xs a).size ≤ 9 := namesL_size _ 9

set_option maxHeartbeats 800000 in
theorem pmHas_c (s c : ByteArray) (w : World) (hs : s.size ≤ 1000) :
    Calls Tryz.prog 15 #[.string s, .string c] w fun e w' => e = .returned (.bool (pmH s c)) ∧ Below w.heap.size w w' := by
  have HF : Hid (pmK s c s.size = pmH s c) := rfl
  go_enter Tryz.func15, Tryz.ntmps15
  go_wp2
  go_loopw [5, 8] (fun _ i wr => ∃ (k : Nat), k ≤ s.size ∧ i = .int .i64 k ∧ Hid (pmK s c k = false) ∧ Below w.heap.size w wr) (fun _ i _ => s.size - (intOf i).toNat)
  case atStart => exact ⟨0, by omega, rfl, rfl, Below.refl _ _⟩
  case round =>
    obtain ⟨k, hk, rfl, hp, hb⟩ := hrel
    have hbs := hb.size
    by_cases hlt : k < s.size
    · have i1 : (k : Int) < (s.size : Int) := by omega
      have HS := Lib.hid (pmK_succ s c k)
      have HY := Lib.hid (fun h => pmK_yes (s := s) (c := c) k hlt h)
      have hb2 := beq_str (s.extract k (k + 1)) c
      by_cases he : s.extract k (k + 1) = c
      · have H1 := Lib.hid (HY.out he)
        have q : ((s.extract k (k + 1)).toList == c.toList) = true := by rw [hb2, decide_eq_true he]
        clear hb2 he
        go_wp2
        go_ret
        exact ⟨by rw [H1.out]; rfl, hb⟩
      · have H1 : Hid (pmK s c (k + 1) = false) := by show _ = _; rw [HS.out, hp.out, decide_eq_false he]; rfl
        have q : ((s.extract k (k + 1)).toList == c.toList) = false := by rw [hb2, decide_eq_false he]
        clear hb2 he
        go_wp2
        go_roundw
        case rel => exact ⟨k + 1, by omega, by go_num, H1, hb⟩
        case measure => simp [intOf] <;> omega
    · have hk' : k = s.size := by omega
      have H1 : Hid (pmH s c = false) := by show _ = _; rw [← HF.out, ← hk']; exact hp.out
      clear hk'
      go_wp2
      go_ret
      exact ⟨by rw [H1.out]; rfl, hb⟩
end Go.Proofs.YtnhncbhhlbcieaaGreat
namespace Go.PM
open Go.RowKit
theorem cell_inj : ∀ p < 11, ∀ q < 11, cellsL.getD q 0 = cellsL.getD p 0 → q = p := by decide +kernel
theorem pmH_pick (h : Nat → Bool) (p : Nat) (hp : p < 11) : pmH (pickB cellsL h 11) ⟨#[cellsL.getD p 0]⟩ = h p := by
  rw [pmH_one, Bool.eq_iff_iff, decide_eq_true_eq]
  unfold pickB pickL
  simp only [List.mem_map, List.mem_filter, List.mem_range]
  constructor
  · rintro ⟨q, ⟨hq, hh⟩, e⟩
    rw [cell_inj p hp q hq e] at hh; exact hh
  · intro hh; exact ⟨p, ⟨hp, hh⟩, rfl⟩
theorem nm_tq {p : Nat} (hp : p < 9) : nm p = tq p := by
  match p, hp with
  | 0, _ | 1, _ | 2, _ | 3, _ | 4, _ | 5, _ | 6, _ | 7, _ | 8, _ => decide +kernel
theorem tq_cell {p : Nat} (hp : p < 11) : isC (tq p) = true ∧ cidx (tq p) = p := by
  match p, hp with
  | 0, _ | 1, _ | 2, _ | 3, _ | 4, _ | 5, _ | 6, _ | 7, _ | 8, _ | 9, _ | 10, _ => decide +kernel
theorem tq_of {a : ByteArray} (h : isC a = true) : tq (cidx a) = a := by
  obtain ⟨c, rfl⟩ := one_of_size (isC_size h)
  have h2 : c ∈ cellsL := by simpa [isC] using h
  show (⟨#[cellsL.getD (cidx ⟨#[c]⟩) 0]⟩ : ByteArray) = _
  rw [(cidx_one h2).2.2]
theorem st_kind {x : St} (h : stOk x = true) : (x.1 = 0 ∧ isC x.2.1 = true ∧ okC x.2.2 = true) ∨ (x.1 = 1 ∧ isC x.2.1 = true ∧ isC x.2.2 = true) := by
  unfold stOk at h
  rw [Bool.or_eq_true] at h
  rcases h with h | h
  · simp only [Bool.and_eq_true, decide_eq_true_eq] at h
    exact .inl ⟨h.1, h.2.1, h.2.2⟩
  · simp only [Bool.and_eq_true, decide_eq_true_eq] at h
    exact .inr ⟨h.1, h.2.1, h.2.2⟩
/-- steps give in every state what they give to names -/
theorem run_names (xs : List St) (h : svalid xs = true) (f : Nat → UInt8) : ∀ k, k ≤ xs.length → ∀ p, p < 11 → runS xs k f p = rdS f ⟨#[runS xs k nmT p]⟩ := by
  intro k
  induction k with
  | zero =>
    intro _ p hp
    rw [runS_zero, runS_zero]
    have := tq_cell hp
    show f p = rdS f (tq p)
    rw [rdS_cell this.1, this.2]
  | succ k ih =>
    intro hk p hp
    have ih := ih (by omega)
    have hkl : k < xs.length := by omega
    rw [runS_succ xs k hkl, runS_succ xs k hkl]
    have hv := svalid_at h k hkl
    generalize xs[k] = x at hv
    generalize runS xs k f = f1 at ih
    generalize runS xs k nmT = g1 at ih
    unfold doS
    rcases st_kind hv with ⟨h1, h2, h3⟩ | ⟨h1, h2, h3⟩
    · rw [if_neg (by omega), if_neg (by omega)]
      unfold updS
      by_cases hpq : p = cidx x.2.1
      · rw [if_pos hpq, if_pos hpq]
        by_cases hc : isC x.2.2 = true
        · rw [rdS_cell hc, rdS_cell hc, ih _ (cidx_lt hc)]
        · have hc' : isC x.2.2 = false := by simpa using hc
          have h4 := fc_one (okC_size h3)
          rw [rdS_digit hc', rdS_digit hc', ← h4, rdS_digit hc']
      · rw [if_neg hpq, if_neg hpq]; exact ih p hp
    · rw [if_pos h1, if_pos h1]
      unfold swS
      by_cases hp1 : p = cidx x.2.1
      · rw [if_pos hp1, if_pos hp1]; exact ih _ (cidx_lt h3)
      · rw [if_neg hp1, if_neg hp1]
        by_cases hp2 : p = cidx x.2.2
        · rw [if_pos hp2, if_pos hp2]; exact ih _ (cidx_lt h2)
        · rw [if_neg hp2, if_neg hp2]; exact ih p hp
/-- what is not touched stays -/
theorem run_stays (xs : List St) (h : svalid xs = true) (f : Nat → UInt8) {p : Nat} (_hp : p < 11) : ∀ k, k ≤ xs.length → tcI xs p k = false → runS xs k f p = f p := by
  intro k
  induction k with
  | zero => intro _ _; rw [runS_zero]
  | succ k ih =>
    intro hk ht
    have hkl : k < xs.length := by omega
    rw [tcI_succ xs p k hkl, Bool.or_eq_false_iff] at ht
    have ih := ih (by omega) ht.1
    rw [runS_succ xs k hkl]
    have hv := svalid_at h k hkl
    have ht2 := ht.2
    generalize xs[k] = x at hv ht2
    generalize runS xs k f = f1 at ih
    unfold tcX at ht2
    rw [Bool.or_eq_false_iff, decide_eq_false_iff_not] at ht2
    have hne : ∀ a, isC a = true → a ≠ tq p → p ≠ cidx a := fun a ha hn e => hn (by rw [e, tq_of ha])
    unfold doS
    rcases st_kind hv with ⟨h1, h2, h3⟩ | ⟨h1, h2, h3⟩
    · rw [if_neg (by omega)]
      unfold updS
      rw [if_neg (hne _ h2 ht2.1)]; exact ih
    · rw [if_pos h1]
      have h4 : x.2.2 ≠ tq p := by simpa [h1] using ht2.2
      unfold swS
      rw [if_neg (hne _ h2 ht2.1), if_neg (hne _ h3 h4)]; exact ih
theorem tcB_pmH {xs : List St} (h : svalid xs = true) {p : Nat} (hp : p < 9) : pmH (tcB xs) (nm p) = tcH xs p := by
  have e : tcB xs = pickB cellsL (tcH xs) 11 := by unfold tcB; rw [h]; rfl
  rw [e, nm_tq hp]
  exact pmH_pick (tcH xs) p (by omega)
/-- the moves that steps do are of touched places -/
theorem eff_touched (xs : List St) : ∀ m ∈ effM xs, m.1 ≠ m.2 ∧ pmH (tcB xs) m.1 = true := by
  intro m hm
  rcases Bool.eq_false_or_eq_true (effOk xs) with ho | ho
  · rw [effM_yes ho] at hm
    have hv : svalid xs = true := by unfold effOk at ho; rw [Bool.and_eq_true] at ho; exact ho.1
    obtain ⟨h1, h2⟩ := List.mem_filter.1 hm
    have h2 : m.1 ≠ m.2 := by simpa using h2
    refine ⟨h2, ?_⟩
    obtain ⟨p, hp, rfl⟩ := List.mem_map.1 h1
    have hp9 : p < 9 := by simpa using hp
    show pmH (tcB xs) (nm p) = true
    rw [tcB_pmH hv hp9, ← tcI_full hv p]
    rcases Bool.eq_false_or_eq_true (tcI xs p xs.length) with ht | ht
    · exact ht
    · exfalso
      have := run_stays xs hv nmT (show p < 11 by omega) xs.length (Nat.le_refl _) ht
      apply h2
      show nm p = ⟨#[effG xs p]⟩
      rw [nm_tq hp9]
      show tq p = ⟨#[runS xs xs.length nmT p]⟩
      rw [this]; rfl
  · rw [effM_no ho] at hm; cases hm
/-- done at once they give to places what the steps give -/
theorem eff_once {xs : List St} (ho : effOk xs = true) {s : ByteArray} (hs : stateV s = true) :
    (mvalid (effM xs) && stateV s) = true ∧ (aoB (effM xs) s).extract 0 9 = (ioB xs s).extract 0 9 ∧ irB xs (effM xs) = true ∧ (aoB (effM xs) s).size = 11 ∧ (ioB xs s).size = 11 := by
  have hv : svalid xs = true := by unfold effOk at ho; rw [Bool.and_eq_true] at ho; exact ho.1
  have hmv : MV (effL (effG xs) 9) := by
    unfold effOk at ho; rw [Bool.and_eq_true] at ho
    simpa [mvalid] using ho.2
  have hM : MV (effM xs) := by rw [effM_yes ho]; exact busyM_MV hmv
  have m1 : mvalid (effM xs) = true := by simpa [mvalid] using hM
  have e1 : aoB (effM xs) s = stB (aoS (tabOf (effM xs)) (ofB s)) := by unfold aoB; rw [m1, hs]; rfl
  have e2 : ioB xs s = stB (runS xs xs.length (ofB s)) := by unfold ioB; rw [hv, hs]; rfl
  refine ⟨by rw [m1, hs]; rfl, ?_, ?_, by rw [e1]; rfl, by rw [e2]; rfl⟩
  · have key : ∀ p, p < 9 → aoS (tabOf (effM xs)) (ofB s) p = runS xs xs.length (ofB s) p := fun p hp => by
      have hk : srcM (effM xs) (nm p) = ⟨#[effG xs p]⟩ := by rw [effM_yes ho, srcM_busy _ _ hmv.2, srcM_effL _ p hp]
      unfold aoS
      rw [if_pos hp, srcM_nm hM hp, hk, run_names xs hv (ofB s) xs.length (Nat.le_refl _) p (by omega)]
      rfl
    rw [e1, e2]
    have e3 : ∀ f : Nat → UInt8, (stB f).extract 0 9 = ⟨#[f 0, f 1, f 2, f 3, f 4, f 5, f 6, f 7, f 8]⟩ := fun f => by
      apply ByteArray.ext
      simp [stB, ByteArray.data_extract]
    rw [e3, e3, key 0 (by omega), key 1 (by omega), key 2 (by omega), key 3 (by omega), key 4 (by omega), key 5 (by omega), key 6 (by omega), key 7 (by omega), key 8 (by omega)]
  · unfold irB sameM
    rw [ho, m1, Bool.true_and, Bool.true_and, Bool.true_and, List.all_eq_true]
    intro p _
    unfold sameAt
    exact decide_eq_true rfl
theorem effM_len (xs : List St) : (effM xs).length ≤ 9 := by
  rcases Bool.eq_false_or_eq_true (effOk xs) with h | h
  · rw [effM_yes h]; exact busyE_le _ 9
  · rw [effM_no h]; exact Nat.zero_le _
theorem ioB_out (xs : List St) (s : ByteArray) (h : (svalid xs && stateV s) = false) : ioB xs s = ⟨#[]⟩ := by unfold ioB; rw [h]; rfl
theorem tcB_size (xs : List St) : (tcB xs).size ≤ 11 := by
  unfold tcB okS
  split
  · exact pickB_size _ _ _
  · exact Nat.zero_le _
end Go.PM
namespace Go.PD
open Go.PM Go.RowKit Go.Lib
open Go.Proofs.YtnhncbhhlbcieaaGreat
theorem reg_facts {c : UInt8} (h : c ∈ regsL) : isC ⟨#[c]⟩ = true ∧ slB ⟨#[c]⟩ = false ∧ (⟨#[c]⟩ : ByteArray) ≠ ⟨#[116]⟩ ∧ (⟨#[c]⟩ : ByteArray) ≠ ⟨#[117]⟩ := by
  simp only [regsL, List.mem_cons, List.not_mem_nil, or_false] at h
  rcases h with rfl | rfl | rfl | rfl | rfl | rfl <;> (refine ⟨?_, ?_, ?_, ?_⟩ <;> decide +kernel)
theorem getD_reg {fl : List UInt8} (h : ∀ c ∈ fl, c ∈ regsL) {i : Nat} (hi : i < fl.length) : fl.getD i 0 ∈ regsL := by
  rw [List.getD_eq_getElem?_getD, List.getElem?_eq_getElem hi]
  exact h _ (List.getElem_mem hi)
theorem t_facts : isC ⟨#[116]⟩ = true ∧ slB ⟨#[116]⟩ = false ∧ (⟨#[116]⟩ : ByteArray) ≠ ⟨#[117]⟩ ∧ isD ⟨#[116]⟩ = false ∧ isD spU = false := by
  refine ⟨?_, ?_, ?_, ?_, ?_⟩ <;> decide +kernel
theorem frN_cases (fl : List UInt8) (h : ∀ c ∈ fl, c ∈ regsL) (a : ByteArray) :
    (frN fl a = a ∧ (0 < fl.length → a ≠ ⟨#[116]⟩) ∧ (1 < fl.length → a ≠ spU)) ∨ (∃ c, c ∈ regsL ∧ frN fl a = ⟨#[c]⟩ ∧ (a = ⟨#[116]⟩ ∨ a = spU)) := by
  by_cases ht : a = ⟨#[116]⟩
  · subst ht
    by_cases h0 : 0 < fl.length
    · exact .inr ⟨_, getD_reg h h0, frN_t h0, .inl rfl⟩
    · exact .inl ⟨frN_t0 h0, fun h1 => absurd h1 h0, fun h1 => by omega⟩
  by_cases hu : a = spU
  · subst hu
    by_cases h0 : 1 < fl.length
    · exact .inr ⟨_, getD_reg h h0, frN_u h0, .inr rfl⟩
    · exact .inl ⟨frN_u0 h0, fun _ => ht, fun h1 => absurd h1 h0⟩
  · exact .inl ⟨frN_other ht hu, fun _ => ht, fun _ => hu⟩
theorem frN_slot (fl : List UInt8) (h : ∀ c ∈ fl, c ∈ regsL) (a : ByteArray) : slB (frN fl a) = slB a := by
  rcases frN_cases fl h a with ⟨e, _⟩ | ⟨c, hc, e, ha⟩
  · rw [e]
  · rw [e, (reg_facts hc).2.1]
    rcases ha with rfl | rfl
    · exact t_facts.2.1.symm
    · exact slB_u.symm
theorem frN_cell (fl : List UInt8) (h : ∀ c ∈ fl, c ∈ regsL) {a : ByteArray} (ha : isC a = true) : isC (frN fl a) = true := by
  rcases frN_cases fl h a with ⟨e, _⟩ | ⟨c, hc, e, _⟩
  · rw [e]; exact ha
  · rw [e]; exact (reg_facts hc).1
theorem frN_okC (fl : List UInt8) (h : ∀ c ∈ fl, c ∈ regsL) {a : ByteArray} (ha : okC a = true) : okC (frN fl a) = true := by
  rcases frN_cases fl h a with ⟨e, _⟩ | ⟨c, hc, e, _⟩
  · rw [e]; exact ha
  · rw [e]; exact isC_okC (reg_facts hc).1
theorem frN_no_t (fl : List UInt8) (h : ∀ c ∈ fl, c ∈ regsL) (a : ByteArray) (h0 : 0 < fl.length) : frN fl a ≠ ⟨#[116]⟩ := by
  rcases frN_cases fl h a with ⟨e, h1, _⟩ | ⟨c, hc, e, _⟩
  · rw [e]; exact h1 h0
  · rw [e]; exact (reg_facts hc).2.2.1
theorem frN_no_u (fl : List UInt8) (h : ∀ c ∈ fl, c ∈ regsL) (a : ByteArray) (h0 : 1 < fl.length) : frN fl a ≠ ⟨#[117]⟩ := by
  rcases frN_cases fl h a with ⟨e, _, h1⟩ | ⟨c, hc, e, _⟩
  · rw [e]; exact h1 h0
  · rw [e]; exact (reg_facts hc).2.2.2
theorem stOk_mk0 {a b : ByteArray} (h1 : isC a = true) (h2 : okC b = true) : stOk (0, a, b) = true := by
  unfold stOk
  unfold okC at h2
  simp only [h1, Bool.true_and, decide_true]
  rw [h2]; rfl
theorem stOk_mk1 {a b : ByteArray} (h1 : isC a = true) (h2 : isC b = true) : stOk (1, a, b) = true := by
  unfold stOk
  simp [h1, h2]
theorem frX_ok (fl : List UInt8) (h : ∀ c ∈ fl, c ∈ regsL) {x : St} (hx : stOk x = true) : stOk (frX fl x) = true := by
  obtain ⟨k, a, b⟩ := x
  rcases stOk_kind hx with rfl | rfl
  · exact stOk_mk0 (frN_cell fl h (stOk_move hx).1) (frN_okC fl h (stOk_move hx).2)
  · exact stOk_mk1 (frN_cell fl h (stOk_swap hx).1) (frN_cell fl h (stOk_swap hx).2)
theorem frX_tr (fl : List UInt8) (h : ∀ c ∈ fl, c ∈ regsL) (x : St) : trR (frX fl x) = trR x ∧ trW (frX fl x) = trW x := by
  obtain ⟨k, a, b⟩ := x
  have ea : slN (frN fl a) = slN a := by unfold slN; rw [frN_slot fl h]
  have eb : slN (frN fl b) = slN b := by unfold slN; rw [frN_slot fl h]
  by_cases hk : k = 1
  · subst hk
    exact ⟨by show trR (1, frN fl a, frN fl b) = _; rw [trR_swap, trR_swap, ea, eb], by show trW (1, frN fl a, frN fl b) = _; rw [trW_swap, trW_swap, ea, eb]⟩
  · exact ⟨by show trR (k, frN fl a, frN fl b) = _; rw [trR_move _ _ _ hk, trR_move _ _ _ hk, eb], by show trW (k, frN fl a, frN fl b) = _; rw [trW_move _ _ _ hk, trW_move _ _ _ hk, ea]⟩
theorem fr_regs {xs : List St} {fl : List UInt8} (h : frOk xs fl = true) : svalid xs = true ∧ (∀ c ∈ fl, c ∈ regsL) ∧ fl.length ≤ 2 := by
  unfold frOk at h
  rw [Bool.and_eq_true, Bool.and_eq_true, decide_eq_true_eq, List.all_eq_true] at h
  refine ⟨h.1, fun c hc => ?_, h.2.1.1⟩
  have := h.2.2 c hc
  rw [Bool.and_eq_true, decide_eq_true_eq] at this
  exact this.1
theorem tch_no {ss : List St} (hv : svalid ss = true) (p : Nat) (hp : p < 11) (h : ∀ x ∈ ss, x.2.1 ≠ tq p ∧ x.2.2 ≠ tq p) : pmH (tcB ss) (tq p) = false := by
  have e : tcB ss = pickB cellsL (tcH ss) 11 := by unfold tcB; rw [hv]; rfl
  have key : tcH ss p = false := by
    rw [← tcI_full hv p]
    unfold tcI
    rw [List.take_length, List.any_eq_false]
    intro x hx
    obtain ⟨h1, h2⟩ := h x hx
    unfold tcX
    rw [Bool.or_eq_true, Bool.and_eq_true, decide_eq_true_eq, decide_eq_true_eq, decide_eq_true_eq]
    rintro (e | ⟨_, e2⟩)
    · exact h1 e
    · exact h2 e2
  rw [e]
  have := pmH_pick (tcH ss) p hp
  rw [key] at this
  exact this
/-- steps with free registers -/
theorem fr_facts {xs : List St} {fl : List UInt8} (h : frOk xs fl = true) :
    svalid (frS xs fl) = true ∧ (frS xs fl).length = xs.length ∧ trZ trR (frS xs fl) = trZ trR xs ∧ trZ trW (frS xs fl) = trZ trW xs ∧
    (0 < fl.length → pmH (tcB (frS xs fl)) ⟨#[116]⟩ = false) ∧ (1 < fl.length → pmH (tcB (frS xs fl)) ⟨#[117]⟩ = false) := by
  obtain ⟨hv, hr, _⟩ := fr_regs h
  rw [frS_yes h]
  have hok : ∀ x ∈ xs.map (frX fl), stOk x = true := by
    intro x hx
    obtain ⟨y, hy, rfl⟩ := List.mem_map.1 hx
    exact frX_ok fl hr (sv_mem hv y hy)
  have hv2 : svalid (xs.map (frX fl)) = true := by
    rw [svalid_all fun k hk => hok _ (List.getElem_mem hk), List.length_map, decide_eq_true (svalid_len hv)]
  have hs : ∀ f : St → Nat, (∀ x, f (frX fl x) = f x) → trS f (xs.map (frX fl)) = trS f xs := fun f hf => by
    unfold trS
    rw [List.map_map]
    congr 1
    exact List.map_congr_left fun x _ => hf x
  refine ⟨hv2, List.length_map .., ?_, ?_, ?_, ?_⟩
  · unfold trZ; rw [hv2, hv, hs trR fun x => (frX_tr fl hr x).1]
  · unfold trZ; rw [hv2, hv, hs trW fun x => (frX_tr fl hr x).2]
  · intro h0
    refine tch_no hv2 9 (by omega) fun x hx => ?_
    obtain ⟨y, _, rfl⟩ := List.mem_map.1 hx
    exact ⟨frN_no_t fl hr _ h0, frN_no_t fl hr _ h0⟩
  · intro h0
    refine tch_no hv2 10 (by omega) fun x hx => ?_
    obtain ⟨y, _, rfl⟩ := List.mem_map.1 hx
    exact ⟨frN_no_u fl hr _ h0, frN_no_u fl hr _ h0⟩
theorem reg_or (xs : List Mv) (i : Nat) (hi : i < 6) : pmH (frR xs) (nm i) = !pmH (plcs xs) (nm i) := by
  unfold frR plcs
  rw [pmH_names _ i (by omega), pmH_names _ i (by omega)]
  unfold frP
  rw [decide_eq_true hi, Bool.true_and]
theorem namesW_le (h : Nat → Bool) : (namesW h).size ≤ 9 := by
  have h1 : (namesL h (List.range 9)).length ≤ 9 := by
    simp only [namesL, List.length_map]
    have := List.length_filter_le h (List.range 9)
    simpa using this
  simpa [namesW, ByteArray.size] using h1
end Go.PD
namespace Go.Proofs.YtnhncbhhlbcieaaGreat
open Go.RowKit Go.PM
set_option maxRecDepth 100000 in
set_option maxHeartbeats 2000000 in
theorem eq_str (d : Nat) (a b : ByteArray) (W : World) : (Op.equalIn (d + 1) 9 (.string a) (.string b)).run Tryz.prog W = .ok (a == b) W := by
  simp [Op.equalIn, go_sem]
theorem eq_items (f g : Nat → ByteArray) (W : World) : ∀ is : List Nat, (∀ i ∈ is, i < 9) → (Op.eqItems 9999 9 1 (tabA f) (tabA g) is).run Tryz.prog W = .ok (is.all fun p => f p == g p) W := by
  intro is
  induction is with
  | nil => intro _; rfl
  | cons i is ih =>
    intro h
    have hi := h i (List.mem_cons_self ..)
    have h1 : (part 9 (tabA f) (i * 1)).run Tryz.prog W = .ok (.string (f i)) W := run_part_plain (P := Tryz.prog) W (by kernel_rfl) (by rw [Nat.mul_one]; exact tabC_at f i hi)
    have h2 : (part 9 (tabA g) (i * 1)).run Tryz.prog W = .ok (.string (g i)) W := run_part_plain (P := Tryz.prog) W (by kernel_rfl) (by rw [Nat.mul_one]; exact tabC_at g i hi)
    have h3 := eq_str 9998 (f i) (g i) W
    rw [Op.eqItems, Sem.run_bind, h1, Result.andThen_ok, Sem.run_bind, h2, Result.andThen_ok, Sem.run_bind, h3, Result.andThen_ok, List.all_cons]
    cases hb : (f i == g i)
    · rfl
    · rw [if_neg (by decide), ih (fun j hj => h j (List.mem_cons_of_mem _ hj)), Bool.true_and]
theorem eq_tab (f g : Nat → ByteArray) (W : World) : (Op.equal 72 (tabX f) (tabX g)).run Tryz.prog W = .ok ((List.range 9).all fun p => f p == g p) W := by
  have his : (Tryz.prog.info? 9).isSome = true := by kernel_rfl
  obtain ⟨i, hi⟩ := Option.isSome_iff_exists.1 his
  have hc : Tryz.prog.cellsOf 9 = 1 := by kernel_rfl
  have h := run_equalIn_array (P := Tryz.prog) (w := W) 9999 (t := 72) (e := 9) (n := 9) (tabA f) (tabA g) Tryz.underlying72 hi
  rw [hc] at h
  exact h.trans (eq_items f g W _ (fun i hi => by simpa using hi))
theorem beq_ba (a b : ByteArray) : (a == b) = decide (a = b) := by
  cases a with | mk a =>
  cases b with | mk b =>
  have h : ((ByteArray.mk a) == (ByteArray.mk b)) = (a == b) := rfl
  rw [h]
  by_cases e : a = b
  · subst e; simp
  · have : ¬ (ByteArray.mk a) = (ByteArray.mk b) := fun x => e (congrArg ByteArray.data x)
    simp [e]
theorem all_beq (f g : Nat → ByteArray) (l : List Nat) : (l.all fun p => f p == g p) = l.all fun p => decide (f p = g p) := by
  have : (fun p => f p == g p) = fun p => decide (f p = g p) := by funext p; exact beq_ba _ _
  rw [this]
end Go.Proofs.YtnhncbhhlbcieaaGreat
namespace Go.Proofs.YtnhncbhhlbcieaaGreat
open Go.RowKit Go.PM

set_option maxRecDepth 100000 in
set_option maxHeartbeats 1000000 in
/-- two moves as values are compared text by text -/
theorem eq_mv (a b c d : ByteArray) (W : World) : (Op.equalIn 10000 56 (.agg #[.string a, .string b]) (.agg #[.string c, .string d])).run Tryz.prog W = .ok (mvEq a b c d) W := by
  have hs : Tryz.prog.stoodInHeld 56 = false := by kernel_rfl
  have e1 : (a == c) = decide (a = c) := beq_ba _ _
  have e2 : (b == d) = decide (b = d) := beq_ba _ _
  have q1 := eq_str 9998 a c
  have q2 := eq_str 9998 b d
  rw [Op.equalIn]
  generalize hE : Op.equalIn 9999 = E at *
  simp only [mvEq]
  rw [e1] at q1
  rw [e2] at q2
  clear e1 e2 hE
  by_cases h1 : a = c
  · by_cases h2 : b = d
    · subst h1; subst h2
      simp at q1 q2
      simp [go_sem, hs, q1, q2]
    · subst h1
      simp [h2] at q1 q2
      simp [go_sem, hs, q1, q2, h2]
  · simp [h1] at q1
    simp [go_sem, hs, q1, h1]

end Go.Proofs.YtnhncbhhlbcieaaGreat
namespace Go.PM
def stpEq (a b : St) : Bool := decide (a = b)
theorem stpEq_no {a b : St} (h : (!stpEq a b) = true) : a ≠ b := by simpa [stpEq] using h
theorem stpEq_yes {a b : St} (h : (!stpEq a b) = false) : a = b := by simpa [stpEq] using h
end Go.PM
namespace Go.Proofs.YtnhncbhhlbcieaaGreat
open Go.RowKit Go.PM

set_option maxRecDepth 100000 in
set_option maxHeartbeats 1000000 in
theorem eq_mvD (d : Nat) (a b c e : ByteArray) (W : World) : (Op.equalIn (d + 2) 56 (.agg #[.string a, .string b]) (.agg #[.string c, .string e])).run Tryz.prog W = .ok (mvEq a b c e) W := by
  have hs : Tryz.prog.stoodInHeld 56 = false := by kernel_rfl
  have e1 : (a == c) = decide (a = c) := beq_ba _ _
  have e2 : (b == e) = decide (b = e) := beq_ba _ _
  have q1 := eq_str d a c
  have q2 := eq_str d b e
  rw [Op.equalIn]
  generalize hE : Op.equalIn (d + 1) = E at *
  simp only [mvEq]
  rw [e1] at q1
  rw [e2] at q2
  clear e1 e2 hE
  by_cases h1 : a = c
  · by_cases h2 : b = e
    · subst h1; subst h2
      simp at q1 q2
      simp [go_sem, hs, q1, q2]
    · subst h1
      simp [h2] at q1 q2
      simp [go_sem, hs, q1, q2, h2]
  · simp [h1] at q1
    simp [go_sem, hs, q1, h1]
theorem eq_i64 (d : Nat) (a b : Int) (W : World) : (Op.equalIn (d + 1) 3 (.int .i64 a) (.int .i64 b)).run Tryz.prog W = .ok (decide (a = b)) W := by
  have : (a == b) = decide (a = b) := by rw [Bool.eq_iff_iff, beq_iff_eq, decide_eq_true_eq]
  simp [Op.equalIn, go_sem, this]
set_option maxRecDepth 100000 in
set_option maxHeartbeats 1000000 in
/-- two steps as values are compared kind by kind and text by text -/
theorem eq_stp (x y : St) (W : World) : (Op.equalIn 10000 58 (.agg #[.int .i64 x.1, .string x.2.1, .string x.2.2]) (.agg #[.int .i64 y.1, .string y.2.1, .string y.2.2])).run Tryz.prog W = .ok (stpEq x y) W := by
  obtain ⟨k, a, b⟩ := x
  obtain ⟨l, c, e⟩ := y
  have hs : Tryz.prog.stoodInHeld 58 = false := by kernel_rfl
  have q0 := eq_i64 9998 k l
  have q1 := eq_mvD 9997 a b c e
  rw [Op.equalIn]
  generalize hE : Op.equalIn 9999 = E at *
  clear hE
  by_cases h1 : k = l
  · by_cases h2 : a = c ∧ b = e
    · obtain ⟨h2, h3⟩ := h2
      subst h1; subst h2; subst h3
      simp [mvEq] at q0 q1
      simp [go_sem, hs, q0, q1, stpEq]
    · subst h1
      have h3 : mvEq a b c e = false := by unfold mvEq; exact decide_eq_false h2
      have h4 : stpEq (k, a, b) (k, c, e) = false := by
        unfold stpEq
        rw [decide_eq_false_iff_not]
        intro e; cases e; exact h2 ⟨rfl, rfl⟩
      rw [h3] at q1
      simp at q0
      simp [go_sem, hs, q0, q1, h4]
  · have h4 : stpEq (k, a, b) (l, c, e) = false := by
      unfold stpEq
      rw [decide_eq_false_iff_not]
      intro e; cases e; exact h1 rfl
    simp [h1] at q0
    simp [go_sem, hs, q0, h4]

set_option maxRecDepth 100000 in
set_option maxHeartbeats 1600000 in
theorem pmSteps_c (xs ys : List St) (v u : Value) (w : World) (hx : RdS w v xs) (hy : RdS w u ys) :
    Calls Tryz.prog 13 #[v, u] w fun e w' => e = .returned (.bool (decide (xs = ys))) ∧ Below w.heap.size w w' := by
  obtain ⟨A, cap, rfl, hn, hc, hcell⟩ := hx.open
  obtain ⟨A', cap', rfl, hn', hc', hcell'⟩ := hy.open
  clear hx hy
  rcases Nat.lt_or_ge ys.length xs.length with hle | hle
  · have hm : min (xs.length : Int) (ys.length : Int) = ys.length := by omega
    have HLE := Lib.hid hle
    clear hle
    go_enter Tryz.func13, Tryz.ntmps13
    go_wp2
    go_loopw [11] (fun i wr => ∃ (k : Nat), k ≤ ys.length ∧ i = .int .i64 k ∧ Hid (xs.take k = ys.take k) ∧ Below w.heap.size w wr) (fun i _ => ys.length - (intOf i).toNat)
    case atStart => exact ⟨0, by omega, rfl, by show _ = _; simp, Below.refl _ _⟩
    case round =>
      obtain ⟨k, hk, rfl, ht, hb⟩ := hrel
      by_cases hlt : k < ys.length
      · have hlt1 : k < xs.length := by have := HLE.out; omega
        have hlt2 : k < ys.length := by have := HLE.out; omega
        obtain ⟨b, off, rfl, hbl, hc0, hc1, hc2⟩ := hcell k hlt1
        obtain ⟨b', off', rfl, hbl', hc0', hc1', hc2'⟩ := hcell' k hlt2
        have hd0 := (hb.cell (p := ⟨b, off + k * 3, none⟩) hbl).trans hc0
        have hd1 := (hb.cell (p := ⟨b, off + k * 3 + 1, none⟩) hbl).trans hc1
        have hd2 := (hb.cell (p := ⟨b, off + k * 3 + 2, none⟩) hbl).trans hc2
        have hd5 := (hb.cell (p := ⟨b', off' + k * 3, none⟩) hbl').trans hc0'
        have hd3 := (hb.cell (p := ⟨b', off' + k * 3 + 1, none⟩) hbl').trans hc1'
        have hd4 := (hb.cell (p := ⟨b', off' + k * 3 + 2, none⟩) hbl').trans hc2'
        clear hc0 hc1 hc2 hcell hc0' hc1' hc2' hcell'
        have i1 : (k : Int) < (ys.length : Int) := by omega
        go_wp2
        have hx0 : ∀ x : Ext w.heap.size wr, x.val.cell? ⟨b, off + k * 3, none⟩ = some (.int .i64 xs[k].1) := fun x => (x.property.cell (p := ⟨b, _, none⟩) hbl).trans hd0
        have hx1 : ∀ x : Ext w.heap.size wr, x.val.cell? ⟨b, off + k * 3 + 1, none⟩ = some (.string xs[k].2.1) := fun x => (x.property.cell (p := ⟨b, _, none⟩) hbl).trans hd1
        have hx2 : ∀ x : Ext w.heap.size wr, x.val.cell? ⟨b, off + k * 3 + 2, none⟩ = some (.string xs[k].2.2) := fun x => (x.property.cell (p := ⟨b, _, none⟩) hbl).trans hd2
        have hx5 : ∀ x : Ext w.heap.size wr, x.val.cell? ⟨b', off' + k * 3, none⟩ = some (.int .i64 ys[k].1) := fun x => (x.property.cell (p := ⟨b', _, none⟩) hbl').trans hd5
        have hx3 : ∀ x : Ext w.heap.size wr, x.val.cell? ⟨b', off' + k * 3 + 1, none⟩ = some (.string ys[k].2.1) := fun x => (x.property.cell (p := ⟨b', _, none⟩) hbl').trans hd3
        have hx4 : ∀ x : Ext w.heap.size wr, x.val.cell? ⟨b', off' + k * 3 + 2, none⟩ = some (.string ys[k].2.2) := fun x => (x.property.cell (p := ⟨b', _, none⟩) hbl').trans hd4
        clear hd0 hd1 hd2 hd3 hd4 hd5
        have i0 : (0 : Int) ≤ (k : Int) := by omega
        have i2 : (k : Int) < xs.length := by omega
        have i3 : (k : Int) < ys.length := by omega
        have hE := fun W => eq_stp xs[k] ys[k] W
        refine wp_region_ext w.heap.size (by kernel_rfl) (by kernel_rfl) ?_
        repeat (go_big_quiet_step (fail))
        refine wpQuiet_nil ?_
        intro w2 hw'
        obtain ⟨xw, hxw⟩ := hw'
        have hb2 := xw.property
        rw [← hxw] at hb2
        clear hxw xw
        clear hx0 hx1 hx2 hx3 hx4 hx5 hE
        go_wp2
        · have h : (!stpEq xs[k] ys[k]) = true := by assumption
          go_ret
          refine ⟨?_, hb.trans hb2⟩
          have : ¬ xs = ys := by
            intro e; subst e; exact stpEq_no h rfl
          simp [this]
        · have h : (!stpEq xs[k] ys[k]) = false := by assumption
          go_roundw
          case rel =>
            refine ⟨k + 1, by omega, by go_num, ?_, hb.trans hb2⟩
            show _ = _
            rw [take_snoc xs k hlt1, take_snoc ys k hlt2, ht.out, stpEq_yes h]
          case measure => simp [intOf]; omega
      · have hk' : k = ys.length := by omega
        have h2 := ht.out
        have h3 := HLE.out
        rw [hk'] at h2
        have HD : Hid (((xs.length : Int) == (ys.length : Int)) = decide (xs = ys)) := by
          show _ = _
          by_cases he : xs.length = ys.length
          · rw [List.take_of_length_le (by omega), List.take_of_length_le (by omega)] at h2
            rw [h2]; simp
          · have h4 : ¬ xs = ys := fun e => he (by rw [e])
            have h5 : ¬ ((xs.length : Int) = (ys.length : Int)) := by omega
            rw [decide_eq_false h4]
            simpa using h5
        clear h2 h3 ht
        go_wp2
        go_ret
        exact ⟨by rw [← HD.out]; rfl, hb⟩
  · have hm : min (xs.length : Int) (ys.length : Int) = xs.length := by omega
    have HLE := Lib.hid hle
    clear hle
    go_enter Tryz.func13, Tryz.ntmps13
    go_wp2
    go_loopw [11] (fun i wr => ∃ (k : Nat), k ≤ xs.length ∧ i = .int .i64 k ∧ Hid (xs.take k = ys.take k) ∧ Below w.heap.size w wr) (fun i _ => xs.length - (intOf i).toNat)
    case atStart => exact ⟨0, by omega, rfl, by show _ = _; simp, Below.refl _ _⟩
    case round =>
      obtain ⟨k, hk, rfl, ht, hb⟩ := hrel
      by_cases hlt : k < xs.length
      · have hlt1 : k < xs.length := by have := HLE.out; omega
        have hlt2 : k < ys.length := by have := HLE.out; omega
        obtain ⟨b, off, rfl, hbl, hc0, hc1, hc2⟩ := hcell k hlt1
        obtain ⟨b', off', rfl, hbl', hc0', hc1', hc2'⟩ := hcell' k hlt2
        have hd0 := (hb.cell (p := ⟨b, off + k * 3, none⟩) hbl).trans hc0
        have hd1 := (hb.cell (p := ⟨b, off + k * 3 + 1, none⟩) hbl).trans hc1
        have hd2 := (hb.cell (p := ⟨b, off + k * 3 + 2, none⟩) hbl).trans hc2
        have hd5 := (hb.cell (p := ⟨b', off' + k * 3, none⟩) hbl').trans hc0'
        have hd3 := (hb.cell (p := ⟨b', off' + k * 3 + 1, none⟩) hbl').trans hc1'
        have hd4 := (hb.cell (p := ⟨b', off' + k * 3 + 2, none⟩) hbl').trans hc2'
        clear hc0 hc1 hc2 hcell hc0' hc1' hc2' hcell'
        have i1 : (k : Int) < (xs.length : Int) := by omega
        go_wp2
        have hx0 : ∀ x : Ext w.heap.size wr, x.val.cell? ⟨b, off + k * 3, none⟩ = some (.int .i64 xs[k].1) := fun x => (x.property.cell (p := ⟨b, _, none⟩) hbl).trans hd0
        have hx1 : ∀ x : Ext w.heap.size wr, x.val.cell? ⟨b, off + k * 3 + 1, none⟩ = some (.string xs[k].2.1) := fun x => (x.property.cell (p := ⟨b, _, none⟩) hbl).trans hd1
        have hx2 : ∀ x : Ext w.heap.size wr, x.val.cell? ⟨b, off + k * 3 + 2, none⟩ = some (.string xs[k].2.2) := fun x => (x.property.cell (p := ⟨b, _, none⟩) hbl).trans hd2
        have hx5 : ∀ x : Ext w.heap.size wr, x.val.cell? ⟨b', off' + k * 3, none⟩ = some (.int .i64 ys[k].1) := fun x => (x.property.cell (p := ⟨b', _, none⟩) hbl').trans hd5
        have hx3 : ∀ x : Ext w.heap.size wr, x.val.cell? ⟨b', off' + k * 3 + 1, none⟩ = some (.string ys[k].2.1) := fun x => (x.property.cell (p := ⟨b', _, none⟩) hbl').trans hd3
        have hx4 : ∀ x : Ext w.heap.size wr, x.val.cell? ⟨b', off' + k * 3 + 2, none⟩ = some (.string ys[k].2.2) := fun x => (x.property.cell (p := ⟨b', _, none⟩) hbl').trans hd4
        clear hd0 hd1 hd2 hd3 hd4 hd5
        have i0 : (0 : Int) ≤ (k : Int) := by omega
        have i2 : (k : Int) < xs.length := by omega
        have i3 : (k : Int) < ys.length := by omega
        have hE := fun W => eq_stp xs[k] ys[k] W
        refine wp_region_ext w.heap.size (by kernel_rfl) (by kernel_rfl) ?_
        repeat (go_big_quiet_step (fail))
        refine wpQuiet_nil ?_
        intro w2 hw'
        obtain ⟨xw, hxw⟩ := hw'
        have hb2 := xw.property
        rw [← hxw] at hb2
        clear hxw xw
        clear hx0 hx1 hx2 hx3 hx4 hx5 hE
        go_wp2
        · have h : (!stpEq xs[k] ys[k]) = true := by assumption
          go_ret
          refine ⟨?_, hb.trans hb2⟩
          have : ¬ xs = ys := by
            intro e; subst e; exact stpEq_no h rfl
          simp [this]
        · have h : (!stpEq xs[k] ys[k]) = false := by assumption
          go_roundw
          case rel =>
            refine ⟨k + 1, by omega, by go_num, ?_, hb.trans hb2⟩
            show _ = _
            rw [take_snoc xs k hlt1, take_snoc ys k hlt2, ht.out, stpEq_yes h]
          case measure => simp [intOf]; omega
      · have hk' : k = xs.length := by omega
        have h2 := ht.out
        have h3 := HLE.out
        rw [hk'] at h2
        have HD : Hid (((xs.length : Int) == (ys.length : Int)) = decide (xs = ys)) := by
          show _ = _
          by_cases he : xs.length = ys.length
          · rw [List.take_of_length_le (by omega), List.take_of_length_le (by omega)] at h2
            rw [h2]; simp
          · have h4 : ¬ xs = ys := fun e => he (by rw [e])
            have h5 : ¬ ((xs.length : Int) = (ys.length : Int)) := by omega
            rw [decide_eq_false h4]
            simpa using h5
        clear h2 h3 ht
        go_wp2
        go_ret
        exact ⟨by rw [← HD.out]; rfl, hb⟩
end Go.Proofs.YtnhncbhhlbcieaaGreat
namespace Go.Proofs.YtnhncbhhlbcieaaGreat
open Go.RowKit Go.PM Go.PD
attribute [local go_sem] Oper.semAt_some
set_option maxRecDepth 100000 in
set_option maxHeartbeats 12800000 in
theorem exWithFree (w : World) (v0 : Value) (n0 : Nat) (hv : RdB w w.heap.size v0 n0) (v1 : Value) (n1 : Nat) (hu : RdB w w.heap.size v1 n1) :
    Calls Tryz.prog 3 #[v0, v1] w fun e w' => e = .returned (.bool true) ∧ Below w.heap.size w w' := by
  have hv0 := hv
  have hu0 := hu
  obtain ⟨A, cap, rfl, hc, hn, _⟩ := hv
  obtain ⟨A1, cap1, rfl, hc1, hn1, _⟩ := hu
  by_cases hbig : 1048576 < n0
  · have t : decide ((n0 : Int) > 1048576) = true := by simp; omega
    go_enter Tryz.func3, Tryz.ntmps3
    go_wp2
    go_ret
    exact ⟨rfl, Below.refl _ _⟩
  have t : decide ((n0 : Int) > 1048576) = false := by simp; omega
  by_cases hbig1 : 1048576 < n1
  · have t1 : decide ((n1 : Int) > 1048576) = true := by simp; omega
    go_enter Tryz.func3, Tryz.ntmps3
    go_wp2
    go_ret
    exact ⟨rfl, Below.refl _ _⟩
  have t1 : decide ((n1 : Int) > 1048576) = false := by simp; omega
  have HD := Lib.hid (drawWithFree_c w _ n0 hv0)
  have HDX := Lib.hid (fun W (hW : Below w.heap.size w W) => drawSlotTraffic_c W _ n1 (rdB_nowD hu0 hW))
  have HDP := Lib.hid (fun W (hW : Below w.heap.size w W) => drawFreeRegisters_c W _ n1 (rdB_nowD hu0 hW))
  clear hv0 hu0
  go_enter Tryz.func3, Tryz.ntmps3
  go_wp2_with fail
  refine HD.out.mono ?_
  rintro e w1 ⟨u, xs, free, rfl, ho, ⟨hl, hz⟩, hfz, b1⟩
  have R1 : RdS w1 u xs := Rd.of_own ho
  have HI1 := Lib.hid (fun W (R : RdS W u xs) => imWithFree_c xs u free (by omega) W R)
  have HS1 := Lib.hid (fun W (R : RdS W u xs) => spWithFree_c xs u free (by omega) W R)
  have HIT := Lib.hid (fun zs v W (R : RdS W v zs) => imSlotTraffic_c zs v W R)
  have HST := Lib.hid (fun zs v W (R : RdS W v zs) => spSlotTraffic_c zs v W R)
  have HIF := Lib.hid (fun zs v W (R : RdM W v zs) => imFreeRegisters_c zs v W R)
  have HSF := Lib.hid (fun zs v W (R : RdM W v zs) hz hn => spFreeRegisters_c zs v W R hz hn)
  have HIP := Lib.hid (fun zs v W (R : RdM W v zs) => imPlacesIn_c zs v W R)
  have HTB := Lib.hid (fun zs v W (R : RdS W v zs) => imTouchedBy_c zs v W R)
  have HSV := Lib.hid (fun zs v W (R : RdS W v zs) => imSequenceValid_c zs v W R)
  have HPH := Lib.hid (fun s c W h => pmHas_c s c W h)
  have HQ0 : Hid (∀ zs v u W, RdS W v zs → RdS W u zs → Calls Tryz.prog 13 #[v, u] W fun e w' => e = .returned (.bool true) ∧ Below W.heap.size W w') := fun zs v u W P Q => by
    have := pmSteps_c zs zs v u W P Q
    rwa [show decide (zs = zs) = true by simp] at this
  have hflen : free.data.toList.length = free.size := size_data free
  have HFF := Lib.hid (fun h => fr_facts (xs := xs) (fl := free.data.toList) h)
  have HFN := Lib.hid (fun h => frS_no (xs := xs) (free := free.data.toList) h)
  have HFL : Hid (frOk xs free.data.toList = true → free.size ≤ 2) := fun h => by rw [← hflen]; exact (fr_regs h).2.2
  rw [hflen] at HFF
  clear HD ho hz hflen
  generalize free.data.toList = fl at *
  go_wp2_with fail
  refine (HI1.out _ R1).mono ?_
  rintro e w2 ⟨vd, rfl, od, h2⟩
  have b2 := b1.trans (h2.mono b1.size)
  have R2 := R1.below h2
  have D2 : RdS w2 vd (frS xs fl) := Rd.of_own od
  clear od h2 b1 R1 HI1
  go_wp2_with fail
  refine (HS1.out _ R2).mono ?_
  rintro e w3 ⟨ve, rfl, oe, h3⟩
  have b3 := b2.trans (h3.mono b2.size)
  have R3 := R2.below h3
  have D3 := D2.below h3
  have E3 : RdS w3 ve (frS xs fl) := Rd.of_own oe
  clear oe h3 b2 R2 D2 HS1
  go_wp2_with fail
  refine (HDX.out _ b3).mono ?_
  rintro e w4 ⟨ux, zs, rfl, ox, _, h4⟩
  have b4 := b3.trans (h4.mono b3.size)
  have R4 := R3.below h4
  have D4 := D3.below h4
  have E4 := E3.below h4
  have X4 : RdS w4 ux zs := Rd.of_own ox
  clear ox h4 b3 R3 D3 E3 HDX
  go_wp2_with fail
  refine (HIT.out _ _ _ X4).mono ?_
  rintro e w5 ⟨rfl, h5⟩
  have b5 := b4.trans (h5.mono b4.size)
  have R5 := R4.below h5
  have D5 := D4.below h5
  have E5 := E4.below h5
  have X5 := X4.below h5
  clear h5 b4 R4 D4 E4 X4
  go_wp2_with fail
  refine (HST.out _ _ _ X5).mono ?_
  rintro e w6 ⟨rfl, h6⟩
  have b6 := b5.trans (h6.mono b5.size)
  have R6 := R5.below h6
  have D6 := D5.below h6
  have E6 := E5.below h6
  clear h6 b5 R5 D5 E5 X5 HST
  generalize trZ trR zs = r1 at *
  generalize trZ trW zs = r2 at *
  generalize svalid zs = r3 at *
  go_wp2_with fail
  refine (HDP.out _ b6).mono ?_
  rintro e w7 ⟨um, ms, rfl, om, ⟨hml, hmz⟩, h7⟩
  have b7 := b6.trans (h7.mono b6.size)
  have R7 := R6.below h7
  have D7 := D6.below h7
  have E7 := E6.below h7
  have M7 : RdM w7 um ms := Rd.of_own om
  have hmz1 : ∀ m ∈ ms, m.1.size ≤ 9223372036854775807 ∧ m.2.size ≤ 9223372036854775807 := fun m hm => by have := hmz m hm; omega
  have HSF2 := Lib.hid (fun W (R : RdM W um ms) => HSF.out ms um W R hmz1 (by omega))
  clear om h7 b6 R6 D6 E6 HDP hmz hmz1 HSF
  go_wp2_with fail
  refine (HIF.out _ _ _ M7).mono ?_
  rintro e w8 ⟨rfl, h8⟩
  have b8 := b7.trans (h8.mono b7.size)
  have R8 := R7.below h8
  have D8 := D7.below h8
  have E8 := E7.below h8
  have M8 := M7.below h8
  clear h8 b7 R7 D7 E7 M7 HIF
  go_wp2_with fail
  refine (HSF2.out _ M8).mono ?_
  rintro e w9 ⟨rfl, h9⟩
  have b9 := b8.trans (h9.mono b8.size)
  have R9 := R8.below h9
  have D9 := D8.below h9
  have E9 := E8.below h9
  have M9 := M8.below h9
  clear h9 b8 R8 D8 E8 M8 HSF2
  have HPL := Lib.hid (fun W (R : RdM W um ms) => HIP.out ms um W R)
  have HOR : Hid (mvalid ms = true → okS (mvalid ms) (frR ms) = frR ms ∧ okS (mvalid ms) (plcs ms) = plcs ms) := fun h => by rw [h]; exact ⟨rfl, rfl⟩
  have HRO := Lib.hid (fun i hi => reg_or ms i hi)
  have HZR : Hid ((frR ms).size ≤ 9 ∧ (plcs ms).size ≤ 9) := ⟨namesW_le _, namesW_le _⟩
  generalize okS (mvalid ms) (frR ms) = rg at *
  generalize okS (mvalid ms) (plcs ms) = pl at *
  generalize hmv : mvalid ms = mv at *
  have HMV := Lib.hid hmv
  clear hmv HIP
  generalize hfo : frOk xs fl = fo at *
  have HFOO := Lib.hid hfo
  clear hfo
  have q1 : (fo != fo) = false := by simp
  have q2 : (r1 != r1) = false := by simp
  have q3 : (r2 != r2) = false := by simp
  have q4 : (r3 != r3) = false := by simp
  have q5 : (rg.toList == rg.toList) = true := by simp
  have q6 : (mv != mv) = false := by simp
  go_wp2_with fail
  refine (HQ0.out _ _ _ _ D9 E9).mono ?_
  rintro e w10 ⟨rfl, h10⟩
  have b10 := b9.trans (h10.mono b9.size)
  have R10 := R9.below h10
  have D10 := D9.below h10
  have M10 := M9.below h10
  clear h10 b9 R9 D9 E9 M9 HQ0
  obtain ⟨Au, cu, eu, _⟩ := R10.open
  subst eu
  obtain ⟨Ad, cd, ed, _⟩ := D10.open
  subst ed
  cases mv with
  | false =>
    clear HPL HOR HRO HZR M10
    cases fo with
    | false =>
      have HNN := Lib.hid (HFN.out rfl)
      rw [HNN.out] at D10 ⊢
      clear R10 D10 HFF HFN HFL HTB HSV HIT HPH
      go_wp2
      go_ret
      exact ⟨rfl, b10⟩
    | true =>
      obtain ⟨f1, f2, f3, f4, f5, f6⟩ := HFF.out rfl
      have hf2 := HFL.out rfl
      have HTB2 := Lib.hid (fun W (R : RdS W (.slice Ad (frS xs fl).length cd) (frS xs fl)) => HTB.out _ _ W R)
      have HSV2 := Lib.hid (fun W (R : RdS W (.slice Ad (frS xs fl).length cd) (frS xs fl)) => HSV.out _ _ W R)
      have HI2 := Lib.hid (fun W (R : RdS W (.slice Au xs.length cu) xs) => HIT.out _ _ W R)
      have HI3 := Lib.hid (fun W (R : RdS W (.slice Ad (frS xs fl).length cd) (frS xs fl)) => HIT.out _ _ W R)
      have HTZ : Hid ((tcB (frS xs fl)).size ≤ 1000) := by
        show _ ≤ _
        have hpk := pickB_size cellsL (tcH (frS xs fl)) 11
        unfold tcB okS
        split <;> first | omega | (show (0:Nat) ≤ 1000; omega)
      rw [f3, f4] at HI3
      rw [f1] at HSV2 HTB2 HI3
      generalize trZ trR xs = s1 at *
      generalize trZ trW xs = s2 at *
      generalize svalid xs = s3 at *
      have k1 : (s1 == s1) = true := by simp
      have k2 : (s2 == s2) = true := by simp
      have k3 : (((frS xs fl).length : Int) == (xs.length : Int)) = true := by rw [f2]; simp
      clear HFF HFN HFL HTB HSV HIT f1 f2 f3 f4
      go_wp2_with fail
      refine (HTB2.out _ D10).mono ?_
      rintro e x1 ⟨rfl, h1⟩
      have c1 := b10.trans (h1.mono b10.size)
      have P1 := R10.below h1
      have Q1 := D10.below h1
      clear h1 b10 R10 D10 HTB2
      go_wp2_with fail
      refine (HI2.out _ P1).mono ?_
      rintro e x2 ⟨rfl, h2⟩
      have c2 := c1.trans (h2.mono c1.size)
      have Q2 := Q1.below h2
      clear h2 c1 P1 Q1 HI2
      go_wp2_with fail
      refine (HI3.out _ Q2).mono ?_
      rintro e x3 ⟨rfl, h3⟩
      have c3 := c2.trans (h3.mono c2.size)
      have Q3 := Q2.below h3
      clear h3 c2 Q2 HI3
      have HP1 := Lib.hid (fun W => HPH.out (tcB (frS xs fl)) ⟨#[116]⟩ W HTZ.out)
      have HP2 := Lib.hid (fun W => HPH.out (tcB (frS xs fl)) ⟨#[117]⟩ W HTZ.out)
      have hcs : free.size = 0 ∨ free.size = 1 ∨ free.size = 2 := by omega
      rcases hcs with hs | hs | hs
      · have g1 : decide ((free.size : Int) < 1) = true := decide_eq_true (by omega)
        have g2 : decide ((free.size : Int) < 2) = true := decide_eq_true (by omega)
        clear hs hf2 HP1 HP2 f5 f6 HTZ
        go_wp2_with fail
        refine (HSV2.out _ Q3).mono ?_
        rintro e x4 ⟨rfl, h4⟩
        have c4 := c3.trans (h4.mono c3.size)
        go_wp2
        go_ret
        exact ⟨rfl, c4⟩
      · have g1 : decide ((free.size : Int) < 1) = false := decide_eq_false (by omega)
        have g2 : decide ((free.size : Int) < 2) = true := decide_eq_true (by omega)
        rw [f5 (by omega)] at HP1
        clear hs hf2 HP2 f5 f6 HTZ
        go_wp2_with fail
        refine (HP1.out _).mono ?_
        rintro e x4 ⟨rfl, h4⟩
        have c4 := c3.trans (h4.mono c3.size)
        have Q4 := Q3.below h4
        go_wp2_with fail
        refine (HSV2.out _ Q4).mono ?_
        rintro e x5 ⟨rfl, h5⟩
        have c5 := c4.trans (h5.mono c4.size)
        go_wp2
        go_ret
        exact ⟨rfl, c5⟩
      · have g1 : decide ((free.size : Int) < 1) = false := decide_eq_false (by omega)
        have g2 : decide ((free.size : Int) < 2) = false := decide_eq_false (by omega)
        rw [f5 (by omega)] at HP1
        rw [f6 (by omega)] at HP2
        clear hs hf2 f5 f6 HTZ
        go_wp2_with fail
        refine (HP1.out _).mono ?_
        rintro e x4 ⟨rfl, h4⟩
        have c4 := c3.trans (h4.mono c3.size)
        have Q4 := Q3.below h4
        go_wp2_with fail
        refine (HP2.out _).mono ?_
        rintro e x5 ⟨rfl, h5⟩
        have c5 := c4.trans (h5.mono c4.size)
        have Q5 := Q4.below h5
        go_wp2_with fail
        refine (HSV2.out _ Q5).mono ?_
        rintro e x6 ⟨rfl, h6⟩
        have c6 := c5.trans (h6.mono c5.size)
        go_wp2
        go_ret
        exact ⟨rfl, c6⟩
  | true =>
    obtain ⟨o1, o2⟩ := HOR.out rfl
    subst o1
    subst o2
    clear HOR
    go_wp2_with fail
    refine (HPL.out _ M10).mono ?_
    rintro e w11 ⟨rfl, h11⟩
    have b11 := b10.trans (h11.mono b10.size)
    have R11 := R10.below h11
    have D11 := D10.below h11
    have hb0 : Below w11.heap.size w11 w11 := Below.refl _ _
    clear h11 b10 R10 D10 M10 HPL
    have HNM : Hid (∀ q, q < 6 → (ByteArray.mk #[97, 98, 99, 100, 101, 102]).extract q (q+1) = nm q) := by
      show ∀ q, _
      intro q hq
      match q, hq with
      | 0, _ | 1, _ | 2, _ | 3, _ | 4, _ | 5, _ => decide +kernel
    have hz1 := HZR.out.1
    have hz2 := HZR.out.2
    generalize frR ms = rg at *
    generalize plcs ms = pl at *
    go_wp2_with fail
    go_loopw [25, 26, 126] (fun _ _ i wr => ∃ (k : Nat), k ≤ 6 ∧ i = .int .i64 k ∧ Below w11.heap.size w11 wr) (fun _ _ i _ => 6 - (intOf i).toNat)
    case atStart => exact ⟨0, by omega, rfl, hb0⟩
    case round =>
      clear hb0
      obtain ⟨k, hk, rfl, hb⟩ := hrel
      have hbs := hb.size
      by_cases hlt : k < 6
      · have hex := HNM.out k hlt
        have HA := Lib.hid (fun W => HPH.out rg (nm k) W (by omega))
        have HB := Lib.hid (fun W => HPH.out pl (nm k) W (by omega))
        rw [HRO.out k hlt] at HA
        generalize pmH pl (nm k) = pb at *
        generalize nm k = q at *
        have e1 : ((!pb) == pb) = false := by cases pb <;> rfl
        go_wp2_with fail
        refine (HA.out _).mono ?_
        rintro e w12 ⟨rfl, h12⟩
        have b12 := hb.trans (h12.mono hbs)
        go_wp2_with fail
        refine (HB.out _).mono ?_
        rintro e w13 ⟨rfl, h13⟩
        have b13 := b12.trans (h13.mono b12.size)
        go_wp2
        go_roundw
        case rel => exact ⟨k + 1, by omega, by go_num, b13⟩
        case measure => simp [intOf]; omega
      · have b14 := b11.trans (hb.mono b11.size)
        have R14 := R11.below hb
        have D14 := D11.below hb
        clear b11 R11 D11 hb HNM HRO hz1 hz2 HZR hbs
        cases fo with
        | false =>
          have HNN := Lib.hid (HFN.out rfl)
          rw [HNN.out] at D14 ⊢
          clear R14 D14 HFF HFN HFL HTB HSV HIT HPH
          go_wp2
          go_ret
          exact ⟨rfl, b14⟩
        | true =>
          obtain ⟨f1, f2, f3, f4, f5, f6⟩ := HFF.out rfl
          have hf2 := HFL.out rfl
          have HTB2 := Lib.hid (fun W (R : RdS W (.slice Ad (frS xs fl).length cd) (frS xs fl)) => HTB.out _ _ W R)
          have HSV2 := Lib.hid (fun W (R : RdS W (.slice Ad (frS xs fl).length cd) (frS xs fl)) => HSV.out _ _ W R)
          have HI2 := Lib.hid (fun W (R : RdS W (.slice Au xs.length cu) xs) => HIT.out _ _ W R)
          have HI3 := Lib.hid (fun W (R : RdS W (.slice Ad (frS xs fl).length cd) (frS xs fl)) => HIT.out _ _ W R)
          have HTZ : Hid ((tcB (frS xs fl)).size ≤ 1000) := by
            show _ ≤ _
            have hpk := pickB_size cellsL (tcH (frS xs fl)) 11
            unfold tcB okS
            split <;> first | omega | (show (0:Nat) ≤ 1000; omega)
          rw [f3, f4] at HI3
          rw [f1] at HSV2 HTB2 HI3
          generalize trZ trR xs = s1 at *
          generalize trZ trW xs = s2 at *
          generalize svalid xs = s3 at *
          have k1 : (s1 == s1) = true := by simp
          have k2 : (s2 == s2) = true := by simp
          have k3 : (((frS xs fl).length : Int) == (xs.length : Int)) = true := by rw [f2]; simp
          clear HFF HFN HFL HTB HSV HIT f1 f2 f3 f4
          go_wp2_with fail
          refine (HTB2.out _ D14).mono ?_
          rintro e x1 ⟨rfl, h1⟩
          have c1 := b14.trans (h1.mono b14.size)
          have P1 := R14.below h1
          have Q1 := D14.below h1
          clear h1 b14 R14 D14 HTB2
          go_wp2_with fail
          refine (HI2.out _ P1).mono ?_
          rintro e x2 ⟨rfl, h2⟩
          have c2 := c1.trans (h2.mono c1.size)
          have Q2 := Q1.below h2
          clear h2 c1 P1 Q1 HI2
          go_wp2_with fail
          refine (HI3.out _ Q2).mono ?_
          rintro e x3 ⟨rfl, h3⟩
          have c3 := c2.trans (h3.mono c2.size)
          have Q3 := Q2.below h3
          clear h3 c2 Q2 HI3
          have HP1 := Lib.hid (fun W => HPH.out (tcB (frS xs fl)) ⟨#[116]⟩ W HTZ.out)
          have HP2 := Lib.hid (fun W => HPH.out (tcB (frS xs fl)) ⟨#[117]⟩ W HTZ.out)
          have hcs : free.size = 0 ∨ free.size = 1 ∨ free.size = 2 := by omega
          rcases hcs with hs | hs | hs
          · have g1 : decide ((free.size : Int) < 1) = true := decide_eq_true (by omega)
            have g2 : decide ((free.size : Int) < 2) = true := decide_eq_true (by omega)
            clear hs hf2 HP1 HP2 f5 f6 HTZ
            go_wp2_with fail
            refine (HSV2.out _ Q3).mono ?_
            rintro e x4 ⟨rfl, h4⟩
            have c4 := c3.trans (h4.mono c3.size)
            go_wp2
            go_ret
            exact ⟨rfl, c4⟩
          · have g1 : decide ((free.size : Int) < 1) = false := decide_eq_false (by omega)
            have g2 : decide ((free.size : Int) < 2) = true := decide_eq_true (by omega)
            rw [f5 (by omega)] at HP1
            clear hs hf2 HP2 f5 f6 HTZ
            go_wp2_with fail
            refine (HP1.out _).mono ?_
            rintro e x4 ⟨rfl, h4⟩
            have c4 := c3.trans (h4.mono c3.size)
            have Q4 := Q3.below h4
            go_wp2_with fail
            refine (HSV2.out _ Q4).mono ?_
            rintro e x5 ⟨rfl, h5⟩
            have c5 := c4.trans (h5.mono c4.size)
            go_wp2
            go_ret
            exact ⟨rfl, c5⟩
          · have g1 : decide ((free.size : Int) < 1) = false := decide_eq_false (by omega)
            have g2 : decide ((free.size : Int) < 2) = false := decide_eq_false (by omega)
            rw [f5 (by omega)] at HP1
            rw [f6 (by omega)] at HP2
            clear hs hf2 f5 f6 HTZ
            go_wp2_with fail
            refine (HP1.out _).mono ?_
            rintro e x4 ⟨rfl, h4⟩
            have c4 := c3.trans (h4.mono c3.size)
            have Q4 := Q3.below h4
            go_wp2_with fail
            refine (HP2.out _).mono ?_
            rintro e x5 ⟨rfl, h5⟩
            have c5 := c4.trans (h5.mono c4.size)
            have Q5 := Q4.below h5
            go_wp2_with fail
            refine (HSV2.out _ Q5).mono ?_
            rintro e x6 ⟨rfl, h6⟩
            have c6 := c5.trans (h6.mono c5.size)
            go_wp2
            go_ret
            exact ⟨rfl, c6⟩

namespace fnWithFree
open Go.RowKit Go.PM Go.ChangeShapes Go.WideShapes Go.ChangeAt
open Go.ChangeMaps (open_string shut_string)
set_option maxRecDepth 100000 in
theorem lifted (os : Os) (started : os.Started) (H : Type) (enc : TypeId × Value → H) :
    ReturnsInHanded {} Tryz.checked os 3 .any (Rows.fnWithFreeSpec.pre6 enc Tryz.prog Tryz.f3 Rows.fnWithFreeRow.domain false) (Rows.fnWithFreeSpec.post enc Tryz.prog Tryz.f3 false true false false) := by
  refine returnsInHanded_of_change (C := Tryz.checked) own started (by kernel_rfl) Tryz.func3
    (ChangeSpec.witness6 (enc := enc) (C := Tryz.checked) false ⟨#[], #[.slice none 0 0, .slice none 0 0], []⟩ 8 (by kernel_rfl) (by kernel_rfl) (by kernel_rfl) (by kernel_rfl)) ?_
  intro W base args ds gs before hval0 hW hcnd _
  have hval : ∀ (j : Nat) t v, Tryz.f3.params[j]? = some t → args[j]? = some v → Value.okWide Tryz.prog W .any base t v := hval0
  have hW' := hW
  obtain ⟨p, q, hA0, hV, rfl, hfz, hnd⟩ := hW
  have hA : DataW.TrodAll enc Tryz.prog W 0 (fun _ => true) true Tryz.f3.params.toList args.toList ds p := hA0
  rw [Tryz.params3] at hA hval
  obtain ⟨v0, vs0, d0, ds0, p0, q0, hargs, rfl, rfl, h0, r0⟩ := trodAll_cons hA
  obtain ⟨v1, vs1, d1, ds1, p1, q1, rfl, rfl, rfl, h1, r1⟩ := trodAll_cons r0
  obtain ⟨rfl, rfl, rfl⟩ := trodAll_nil r1
  obtain rfl : args = #[v0, v1] := by cases args; simp_all
  obtain ⟨rfl, rfl⟩ := trodVars_none hV
  have k0 := h0
  have lt0 : ∀ x ∈ p0, x.block < W.heap.size := by obtain ⟨m, hm⟩ := k0; exact DataW.trod_lt m _ _ _ hm
  have k1 := h1
  have lt1 : ∀ x ∈ p1, x.block < W.heap.size := by obtain ⟨m, hm⟩ := k1; exact DataW.trod_lt m _ _ _ hm
  obtain ⟨a0, len0, cap0, rfl⟩ := okWide_slice Tryz.underlying22 (hval 0 22 v0 rfl rfl)
  have hx0 : RdB W W.heap.size (.slice a0 len0 cap0) len0 := by obtain ⟨fuel, hf⟩ := h0; exact open_bytes hf
  obtain ⟨a1, len1, cap1, rfl⟩ := okWide_slice Tryz.underlying22 (hval 1 22 v1 rfl rfl)
  have hx1 : RdB W W.heap.size (.slice a1 len1 cap1) len1 := by obtain ⟨fuel, hf⟩ := h1; exact open_bytes hf
  clear hA0 hval0
  refine (exWithFree W _ len0 hx0 _ len1 hx1).mono fun e W' ⟨he, bel⟩ => ?_
  subst he
  exact ⟨_, rfl, _, _, _, [], _, [], hW', trodAll_mk1 (shut_bool Tryz.underlying4 _), (trodAll_cons_mk (Below.trod laidOut (by kernel_rfl) (of_decide_eq_true (by kernel_rfl)) k0 bel lt0) (trodAll_cons_mk (Below.trod laidOut (by kernel_rfl) (of_decide_eq_true (by kernel_rfl)) k1 bel lt1) trodAll_mk0)), rfl, bel.frame _, fun h => by cases h⟩

theorem over : Rows.fnWithFreeRow.holds Tryz.pinned (OpenSpec.ofChange Rows.fnWithFreeSpec) :=
  OpenClaim.holds_of_wide 3 Tryz.f3 rfl rfl rfl rfl rfl rfl rfl ⟨rfl, rfl, rfl, rfl, rfl⟩ rfl rfl rfl rfl rfl (by kernel_rfl) Tryz.func3 (by kernel_rfl)
    (of_decide_eq_true (by kernel_rfl)) (by unfold Func.isWrapper; first | (rw [if_pos (by decide +kernel)]; kernel_rfl) | (rw [if_neg (by decide +kernel)]; exact ⟨rfl, rfl⟩))
    (fun os started H enc _ => lifted os started H enc)

/-- The statement. -/
theorem proved : Rows.FnWithFreeSaid := over
end fnWithFree

end Go.Proofs.YtnhncbhhlbcieaaGreat
