import Derived.Test.YtijakmcilleplaaSameS
import Derived.Test.YtijakmcilleplaaEqTab
namespace Go.PM
open Go.RowKit
theorem sameM_tab {xs ys : List Mv} (h1 : MV xs) (h2 : MV ys) : sameM xs ys = (List.range 9).all (fun p => decide (mix (tabOf xs) 9 p = mix (tabOf ys) 9 p)) := by
  have m1 : mvalid xs = true := by simpa [mvalid] using h1
  have m2 : mvalid ys = true := by simpa [mvalid] using h2
  rw [sameM, m1, m2, Bool.true_and, Bool.true_and]
  apply Bool.eq_iff_iff.2
  rw [List.all_eq_true, List.all_eq_true]
  have key : ∀ p, p ∈ List.range 9 → sameAt xs ys p = decide (mix (tabOf xs) 9 p = mix (tabOf ys) 9 p) := fun p hp => by
    have hp9 : p < 9 := by simpa using hp
    simp only [sameAt, mix, if_pos hp9]
    rw [srcM_nm h1 hp9, srcM_nm h2 hp9]
  constructor
  · intro h p hp; rw [← key p hp]; exact h p hp
  · intro h p hp; rw [key p hp]; exact h p hp
end Go.PM
namespace Go.Proofs.Ytijakmcilleplaa
open Go.RowKit Go.PM

set_option maxRecDepth 100000 in
set_option maxHeartbeats 2000000 in
theorem imSameMoves_c (xs ys : List Mv) (v u : Value) (w : World) (hx : RdM w v xs) (hy : RdM w u ys) :
    Calls Try.prog 38 #[v, u] w fun e w' => e = .returned (.bool (sameM xs ys)) ∧ Below w.heap.size w w' := by
  by_cases h1 : MV xs
  · have HM1 := Lib.hid (show mvalid xs = true by simpa [mvalid] using h1)
    by_cases h2 : MV ys
    · have HM2 := Lib.hid (show mvalid ys = true by simpa [mvalid] using h2)
      have HX := Lib.hid (tableOf_yes xs h1 v w hx)
      have HY := Lib.hid (fun W hW => tableOf_yes ys h2 u W hW)
      have HE := Lib.hid (sameM_tab h1 h2)
      clear h1 h2
      generalize tabOf xs = f at *
      generalize tabOf ys = g at *
      go_enter Try.func38, Try.ntmps38
      go_wp2_with fail
      refine HX.out.mono ?_
      rintro e w1 ⟨rfl, hb1⟩
      have hs1 := hb1.size
      go_wp2_with fail
      have hy1 : RdM (w1.alloc (.cells (tabA f) 59)) u ys := (hy.below hb1).below ((Below.refl _ _).alloc (Nat.le_refl _) _)
      have k1 : At (w1.alloc (.cells (tabA f) 59)) w1.heap.size 59 (tabA f) := At.new w1 _ _
      refine (HY.out _ hy1).mono ?_
      rintro e w2 ⟨rfl, hb2⟩
      have hs2 := hb2.size
      have k2 := k1.keep hb2
      clear hy1
      have hW : ∃ W3 : World, W3 = w2.alloc (.cells (tabA g) 59) := ⟨_, rfl⟩
      obtain ⟨W3, hW3⟩ := hW
      have K1 : At W3 w1.heap.size 59 (tabA f) := by rw [hW3]; exact k2.alloc _
      have K2 : At W3 w2.heap.size 59 (tabA g) := by rw [hW3]; exact At.new w2 _ _
      have B1 := K1.lt
      have B2 := K2.lt
      have hB3 : Below w.heap.size w W3 := by
        rw [hW3]
        have e1 := (hb1.alloc hs1 (.cells (tabA f) 59)).trans (hb2.mono (by simp [World.size_alloc]; omega))
        exact e1.alloc e1.size _
      have hs3 := hB3.size
      have hc0 : ∀ x : Ext W3.heap.size W3, x.val.cell? ⟨w1.heap.size, 0, none⟩ = some (.string (f 0)) := fun x => (x.property.cell (p := ⟨w1.heap.size, 0, none⟩) B1).trans (K1.cell 0)
      have hc1 : ∀ x : Ext W3.heap.size W3, x.val.cell? ⟨w1.heap.size, 1, none⟩ = some (.string (f 1)) := fun x => (x.property.cell (p := ⟨w1.heap.size, 1, none⟩) B1).trans (K1.cell 1)
      have hc2 : ∀ x : Ext W3.heap.size W3, x.val.cell? ⟨w1.heap.size, 2, none⟩ = some (.string (f 2)) := fun x => (x.property.cell (p := ⟨w1.heap.size, 2, none⟩) B1).trans (K1.cell 2)
      have hc3 : ∀ x : Ext W3.heap.size W3, x.val.cell? ⟨w1.heap.size, 3, none⟩ = some (.string (f 3)) := fun x => (x.property.cell (p := ⟨w1.heap.size, 3, none⟩) B1).trans (K1.cell 3)
      have hc4 : ∀ x : Ext W3.heap.size W3, x.val.cell? ⟨w1.heap.size, 4, none⟩ = some (.string (f 4)) := fun x => (x.property.cell (p := ⟨w1.heap.size, 4, none⟩) B1).trans (K1.cell 4)
      have hc5 : ∀ x : Ext W3.heap.size W3, x.val.cell? ⟨w1.heap.size, 5, none⟩ = some (.string (f 5)) := fun x => (x.property.cell (p := ⟨w1.heap.size, 5, none⟩) B1).trans (K1.cell 5)
      have hc6 : ∀ x : Ext W3.heap.size W3, x.val.cell? ⟨w1.heap.size, 6, none⟩ = some (.string (f 6)) := fun x => (x.property.cell (p := ⟨w1.heap.size, 6, none⟩) B1).trans (K1.cell 6)
      have hc7 : ∀ x : Ext W3.heap.size W3, x.val.cell? ⟨w1.heap.size, 7, none⟩ = some (.string (f 7)) := fun x => (x.property.cell (p := ⟨w1.heap.size, 7, none⟩) B1).trans (K1.cell 7)
      have hc8 : ∀ x : Ext W3.heap.size W3, x.val.cell? ⟨w1.heap.size, 8, none⟩ = some (.string (f 8)) := fun x => (x.property.cell (p := ⟨w1.heap.size, 8, none⟩) B1).trans (K1.cell 8)
      have hd0 : ∀ x : Ext W3.heap.size W3, x.val.cell? ⟨w2.heap.size, 0, none⟩ = some (.string (g 0)) := fun x => (x.property.cell (p := ⟨w2.heap.size, 0, none⟩) B2).trans (K2.cell 0)
      have hd1 : ∀ x : Ext W3.heap.size W3, x.val.cell? ⟨w2.heap.size, 1, none⟩ = some (.string (g 1)) := fun x => (x.property.cell (p := ⟨w2.heap.size, 1, none⟩) B2).trans (K2.cell 1)
      have hd2 : ∀ x : Ext W3.heap.size W3, x.val.cell? ⟨w2.heap.size, 2, none⟩ = some (.string (g 2)) := fun x => (x.property.cell (p := ⟨w2.heap.size, 2, none⟩) B2).trans (K2.cell 2)
      have hd3 : ∀ x : Ext W3.heap.size W3, x.val.cell? ⟨w2.heap.size, 3, none⟩ = some (.string (g 3)) := fun x => (x.property.cell (p := ⟨w2.heap.size, 3, none⟩) B2).trans (K2.cell 3)
      have hd4 : ∀ x : Ext W3.heap.size W3, x.val.cell? ⟨w2.heap.size, 4, none⟩ = some (.string (g 4)) := fun x => (x.property.cell (p := ⟨w2.heap.size, 4, none⟩) B2).trans (K2.cell 4)
      have hd5 : ∀ x : Ext W3.heap.size W3, x.val.cell? ⟨w2.heap.size, 5, none⟩ = some (.string (g 5)) := fun x => (x.property.cell (p := ⟨w2.heap.size, 5, none⟩) B2).trans (K2.cell 5)
      have hd6 : ∀ x : Ext W3.heap.size W3, x.val.cell? ⟨w2.heap.size, 6, none⟩ = some (.string (g 6)) := fun x => (x.property.cell (p := ⟨w2.heap.size, 6, none⟩) B2).trans (K2.cell 6)
      have hd7 : ∀ x : Ext W3.heap.size W3, x.val.cell? ⟨w2.heap.size, 7, none⟩ = some (.string (g 7)) := fun x => (x.property.cell (p := ⟨w2.heap.size, 7, none⟩) B2).trans (K2.cell 7)
      have hd8 : ∀ x : Ext W3.heap.size W3, x.val.cell? ⟨w2.heap.size, 8, none⟩ = some (.string (g 8)) := fun x => (x.property.cell (p := ⟨w2.heap.size, 8, none⟩) B2).trans (K2.cell 8)
      have HSf : ∀ x : Ext W3.heap.size W3, Calls Try.prog 70 #[tabX f] x.val fun e w' => e = .returned (tabX (mix f 9)) ∧ Below x.val.heap.size x.val w' := fun x => sources_c f x.val
      have HSg : ∀ x : Ext W3.heap.size W3, Calls Try.prog 70 #[tabX g] x.val fun e w' => e = .returned (tabX (mix g 9)) ∧ Below x.val.heap.size x.val w' := fun x => sources_c g x.val
      generalize mix f 9 = f9 at *
      generalize mix g 9 = g9 at *
      have hEq : ∀ W, (Op.equalIn 10000 59 (tabX f9) (tabX g9)).run Try.prog W = .ok ((List.range 9).all fun p => decide (f9 p = g9 p)) W := fun W => by rw [← all_beq]; exact eq_tab f9 g9 W
      generalize ((List.range 9).all fun p => decide (f9 p = g9 p)) = r at *
      go_wp2
      rw [← hW3]
      refine wp_region_ext W3.heap.size (by kernel_rfl) (by kernel_rfl) ?_
      repeat (go_big_quiet_step ((go_at_call 70; first | (with_reducible exact ext_call _ (Nat.le_refl _) (HSf _)) | (with_reducible exact ext_call _ (Nat.le_refl _) (HSg _)))))
      refine wpQuiet_nil ?_
      intro w4 hw'
      obtain ⟨xw, hxw⟩ := hw'
      have hb4 := xw.property
      rw [← hxw] at hb4
      clear hxw xw
      clear hEq HSf HSg hc0 hd0 hc1 hd1 hc2 hd2 hc3 hd3 hc4 hd4 hc5 hd5 hc6 hd6 hc7 hd7 hc8 hd8
      go_wp2
      go_ret
      exact ⟨by rw [HE.out]; rfl, hB3.trans (hb4.mono hs3)⟩
    · have HNO : Hid (sameM xs ys = false) := by
        have : mvalid ys = false := by simpa [mvalid] using h2
        show _ = _
        rw [sameM, this, Bool.and_false, Bool.false_and]
      go_enter Try.func38, Try.ntmps38
      go_wp2_with fail
      refine (tableOf_yes xs h1 v w hx).mono ?_
      rintro e w1 ⟨rfl, hb1⟩
      have hs1 := hb1.size
      go_wp2_with fail
      have hy1 : RdM (w1.alloc (.cells (tabA (tabOf xs)) 59)) u ys := (hy.below hb1).below ((Below.refl _ _).alloc (Nat.le_refl _) _)
      refine (tableOf_no ys h2 u _ hy1).mono ?_
      rintro e w2 ⟨rfl, hb2⟩
      have hs2 := hb2.size
      clear hy1
      have hW : ∃ W3 : World, W3 = w2.alloc (.cells zA 59) := ⟨_, rfl⟩
      obtain ⟨W3, hW3⟩ := hW
      have hB3 : Below w.heap.size w W3 := by
        rw [hW3]
        have e1 := (hb1.alloc hs1 (.cells (tabA (tabOf xs)) 59)).trans (hb2.mono (by simp [World.size_alloc]; omega))
        exact e1.alloc e1.size _
      have hs3 := hB3.size
      go_wp2
      rw [← hW3]
      refine wp_region_ext W3.heap.size (by kernel_rfl) (by kernel_rfl) ?_
      repeat (go_big_quiet_step (fail))
      refine wpQuiet_nil ?_
      intro w4 hw'
      obtain ⟨xw, hxw⟩ := hw'
      have hb4 := xw.property
      rw [← hxw] at hb4
      clear hxw xw
      go_wp2
      go_ret
      exact ⟨by rw [HNO.out]; rfl, hB3.trans (hb4.mono hs3)⟩
  · have HNO : Hid (sameM xs ys = false) := by
      have : mvalid xs = false := by simpa [mvalid] using h1
      show _ = _
      rw [sameM, this, Bool.false_and, Bool.false_and]
    by_cases h2 : MV ys
    · go_enter Try.func38, Try.ntmps38
      go_wp2_with fail
      refine (tableOf_no xs h1 v w hx).mono ?_
      rintro e w1 ⟨rfl, hb1⟩
      have hs1 := hb1.size
      go_wp2_with fail
      have hy1 : RdM (w1.alloc (.cells zA 59)) u ys := (hy.below hb1).below ((Below.refl _ _).alloc (Nat.le_refl _) _)
      refine (tableOf_yes ys h2 u _ hy1).mono ?_
      rintro e w2 ⟨rfl, hb2⟩
      have hs2 := hb2.size
      clear hy1
      have hW : ∃ W3 : World, W3 = w2.alloc (.cells (tabA (tabOf ys)) 59) := ⟨_, rfl⟩
      obtain ⟨W3, hW3⟩ := hW
      have hB3 : Below w.heap.size w W3 := by
        rw [hW3]
        have e1 := (hb1.alloc hs1 (.cells zA 59)).trans (hb2.mono (by simp [World.size_alloc]; omega))
        exact e1.alloc e1.size _
      have hs3 := hB3.size
      go_wp2
      rw [← hW3]
      refine wp_region_ext W3.heap.size (by kernel_rfl) (by kernel_rfl) ?_
      repeat (go_big_quiet_step (fail))
      refine wpQuiet_nil ?_
      intro w4 hw'
      obtain ⟨xw, hxw⟩ := hw'
      have hb4 := xw.property
      rw [← hxw] at hb4
      clear hxw xw
      go_wp2
      go_ret
      exact ⟨by rw [HNO.out]; rfl, hB3.trans (hb4.mono hs3)⟩
    · go_enter Try.func38, Try.ntmps38
      go_wp2_with fail
      refine (tableOf_no xs h1 v w hx).mono ?_
      rintro e w1 ⟨rfl, hb1⟩
      have hs1 := hb1.size
      go_wp2_with fail
      have hy1 : RdM (w1.alloc (.cells zA 59)) u ys := (hy.below hb1).below ((Below.refl _ _).alloc (Nat.le_refl _) _)
      refine (tableOf_no ys h2 u _ hy1).mono ?_
      rintro e w2 ⟨rfl, hb2⟩
      have hs2 := hb2.size
      clear hy1
      have hW : ∃ W3 : World, W3 = w2.alloc (.cells zA 59) := ⟨_, rfl⟩
      obtain ⟨W3, hW3⟩ := hW
      have hB3 : Below w.heap.size w W3 := by
        rw [hW3]
        have e1 := (hb1.alloc hs1 (.cells zA 59)).trans (hb2.mono (by simp [World.size_alloc]; omega))
        exact e1.alloc e1.size _
      have hs3 := hB3.size
      go_wp2
      rw [← hW3]
      refine wp_region_ext W3.heap.size (by kernel_rfl) (by kernel_rfl) ?_
      repeat (go_big_quiet_step (fail))
      refine wpQuiet_nil ?_
      intro w4 hw'
      obtain ⟨xw, hxw⟩ := hw'
      have hb4 := xw.property
      rw [← hxw] at hb4
      clear hxw xw
      go_wp2
      go_ret
      exact ⟨by rw [HNO.out]; rfl, hB3.trans (hb4.mono hs3)⟩
end Go.Proofs.Ytijakmcilleplaa
