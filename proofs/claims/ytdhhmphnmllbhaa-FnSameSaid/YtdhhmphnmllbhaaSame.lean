import Derived.Test.YtdhhmphnmllbhaaSameS
import Derived.Test.YtdhhmphnmllbhaaEqTab
namespace Go.PM
open Go.RowKit
theorem sameM_tab {xs ys : List Mv} (h1 : MV xs) (h2 : MV ys) : sameM xs ys = (List.range 9).all (fun p => decide (mix (tabOf xs) 9 p = mix (tabOf ys) 9 p)) := by
  have m1 : mvalid xs = true := by simpa [mvalid] using h1
  have m2 : mvalid ys = true := by simpa [mvalid] using h2
  rw [sameM, m1, m2, Bool.true_and, Bool.true_and]
  apply Bool.eq_iff_iff.2
  rw [List.all_eq_true, List.all_eq_true]
  have key : ∀ p, p ∈ List.range 9 → sameAt xs ys p = decide (mix (tabOf xs) 9 p = mix (tabOf ys) 9 p) := fun p hp => by
    have hp9 : p < 9 := by simpa using hp
    simp only [sameAt, mix, if_pos hp9]
    rw [srcM_nm h1 hp9, srcM_nm h2 hp9]
  constructor
  · intro h p hp; rw [← key p hp]; exact h p hp
  · intro h p hp; rw [key p hp]; exact h p hp
end Go.PM
namespace Go.Proofs.Ytdhhmphnmllbhaa
open Go.RowKit Go.PM

set_option maxRecDepth 100000 in
set_option maxHeartbeats 2000000 in
theorem same_c (f g : Nat → ByteArray) (w : World) :
    Calls Try.prog 53 #[tabX f, tabX g] w fun e w' => e = .returned (.bool ((List.range 9).all fun p => decide (mix f 9 p = mix g 9 p))) ∧ Below w.heap.size w w' := by
  have hW : ∃ W3 : World, W3 = (w.alloc (.cells (tabA f) 62)).alloc (.cells (tabA g) 62) := ⟨_, rfl⟩
  obtain ⟨W3, hW3⟩ := hW
  have K1 : At W3 w.heap.size 62 (tabA f) := by rw [hW3]; exact (At.new w _ _).alloc _
  have K2 : At W3 (w.heap.size + 1) 62 (tabA g) := by
    rw [hW3]; have := At.new (w.alloc (.cells (tabA f) 62)) 62 (tabA g)
    rwa [World.size_alloc] at this
  have hB3 : Below w.heap.size w W3 := by rw [hW3]; (repeat' (first | (with_reducible exact Below.refl _ _) | (with_reducible assumption) | (with_reducible refine Below.alloc ?_ ?_ _) | (with_reducible refine Below.drew ?_) | (with_reducible refine Below.setCell ?_ ?_ _) | (with_reducible exact Nat.le_refl _) | omega | ((repeat (first | rewrite [World.size_alloc] | rewrite [World.size_setCell] | rewrite [World.size_drew])); omega) | (simp; omega) | (simp; done)))
  have B1 := K1.lt
  have B2 := K2.lt
  have hs3 := hB3.size
  have hc0 : ∀ x : Ext W3.heap.size W3, x.val.cell? ⟨w.heap.size, 0, none⟩ = some (.string (f 0)) := fun x => (x.property.cell (p := ⟨w.heap.size, 0, none⟩) B1).trans (K1.cell 0)
  have hc1 : ∀ x : Ext W3.heap.size W3, x.val.cell? ⟨w.heap.size, 1, none⟩ = some (.string (f 1)) := fun x => (x.property.cell (p := ⟨w.heap.size, 1, none⟩) B1).trans (K1.cell 1)
  have hc2 : ∀ x : Ext W3.heap.size W3, x.val.cell? ⟨w.heap.size, 2, none⟩ = some (.string (f 2)) := fun x => (x.property.cell (p := ⟨w.heap.size, 2, none⟩) B1).trans (K1.cell 2)
  have hc3 : ∀ x : Ext W3.heap.size W3, x.val.cell? ⟨w.heap.size, 3, none⟩ = some (.string (f 3)) := fun x => (x.property.cell (p := ⟨w.heap.size, 3, none⟩) B1).trans (K1.cell 3)
  have hc4 : ∀ x : Ext W3.heap.size W3, x.val.cell? ⟨w.heap.size, 4, none⟩ = some (.string (f 4)) := fun x => (x.property.cell (p := ⟨w.heap.size, 4, none⟩) B1).trans (K1.cell 4)
  have hc5 : ∀ x : Ext W3.heap.size W3, x.val.cell? ⟨w.heap.size, 5, none⟩ = some (.string (f 5)) := fun x => (x.property.cell (p := ⟨w.heap.size, 5, none⟩) B1).trans (K1.cell 5)
  have hc6 : ∀ x : Ext W3.heap.size W3, x.val.cell? ⟨w.heap.size, 6, none⟩ = some (.string (f 6)) := fun x => (x.property.cell (p := ⟨w.heap.size, 6, none⟩) B1).trans (K1.cell 6)
  have hc7 : ∀ x : Ext W3.heap.size W3, x.val.cell? ⟨w.heap.size, 7, none⟩ = some (.string (f 7)) := fun x => (x.property.cell (p := ⟨w.heap.size, 7, none⟩) B1).trans (K1.cell 7)
  have hc8 : ∀ x : Ext W3.heap.size W3, x.val.cell? ⟨w.heap.size, 8, none⟩ = some (.string (f 8)) := fun x => (x.property.cell (p := ⟨w.heap.size, 8, none⟩) B1).trans (K1.cell 8)
  have hd0 : ∀ x : Ext W3.heap.size W3, x.val.cell? ⟨w.heap.size + 1, 0, none⟩ = some (.string (g 0)) := fun x => (x.property.cell (p := ⟨w.heap.size + 1, 0, none⟩) B2).trans (K2.cell 0)
  have hd1 : ∀ x : Ext W3.heap.size W3, x.val.cell? ⟨w.heap.size + 1, 1, none⟩ = some (.string (g 1)) := fun x => (x.property.cell (p := ⟨w.heap.size + 1, 1, none⟩) B2).trans (K2.cell 1)
  have hd2 : ∀ x : Ext W3.heap.size W3, x.val.cell? ⟨w.heap.size + 1, 2, none⟩ = some (.string (g 2)) := fun x => (x.property.cell (p := ⟨w.heap.size + 1, 2, none⟩) B2).trans (K2.cell 2)
  have hd3 : ∀ x : Ext W3.heap.size W3, x.val.cell? ⟨w.heap.size + 1, 3, none⟩ = some (.string (g 3)) := fun x => (x.property.cell (p := ⟨w.heap.size + 1, 3, none⟩) B2).trans (K2.cell 3)
  have hd4 : ∀ x : Ext W3.heap.size W3, x.val.cell? ⟨w.heap.size + 1, 4, none⟩ = some (.string (g 4)) := fun x => (x.property.cell (p := ⟨w.heap.size + 1, 4, none⟩) B2).trans (K2.cell 4)
  have hd5 : ∀ x : Ext W3.heap.size W3, x.val.cell? ⟨w.heap.size + 1, 5, none⟩ = some (.string (g 5)) := fun x => (x.property.cell (p := ⟨w.heap.size + 1, 5, none⟩) B2).trans (K2.cell 5)
  have hd6 : ∀ x : Ext W3.heap.size W3, x.val.cell? ⟨w.heap.size + 1, 6, none⟩ = some (.string (g 6)) := fun x => (x.property.cell (p := ⟨w.heap.size + 1, 6, none⟩) B2).trans (K2.cell 6)
  have hd7 : ∀ x : Ext W3.heap.size W3, x.val.cell? ⟨w.heap.size + 1, 7, none⟩ = some (.string (g 7)) := fun x => (x.property.cell (p := ⟨w.heap.size + 1, 7, none⟩) B2).trans (K2.cell 7)
  have hd8 : ∀ x : Ext W3.heap.size W3, x.val.cell? ⟨w.heap.size + 1, 8, none⟩ = some (.string (g 8)) := fun x => (x.property.cell (p := ⟨w.heap.size + 1, 8, none⟩) B2).trans (K2.cell 8)
  have HSf : ∀ x : Ext W3.heap.size W3, Calls Try.prog 89 #[tabX f] x.val fun e w' => e = .returned (tabX (mix f 9)) ∧ Below x.val.heap.size x.val w' := fun x => sources_c f x.val
  have HSg : ∀ x : Ext W3.heap.size W3, Calls Try.prog 89 #[tabX g] x.val fun e w' => e = .returned (tabX (mix g 9)) ∧ Below x.val.heap.size x.val w' := fun x => sources_c g x.val
  generalize mix f 9 = f9 at *
  generalize mix g 9 = g9 at *
  have hEq : ∀ W, (Op.equalIn 10000 62 (tabX f9) (tabX g9)).run Try.prog W = .ok ((List.range 9).all fun p => decide (f9 p = g9 p)) W := fun W => by rw [← all_beq]; exact eq_tab f9 g9 W
  generalize ((List.range 9).all fun p => decide (f9 p = g9 p)) = r at *
  go_enter Try.func53, Try.ntmps53
  go_wp2
  rw [← hW3]
  refine wp_region_ext W3.heap.size (by kernel_rfl) (by kernel_rfl) ?_
  repeat (go_big_quiet_step ((go_at_call 89; first | (with_reducible exact ext_call _ (Nat.le_refl _) (HSf _)) | (with_reducible exact ext_call _ (Nat.le_refl _) (HSg _)))))
  refine wpQuiet_nil ?_
  intro w4 hw'
  obtain ⟨xw, hxw⟩ := hw'
  have hb4 := xw.property
  rw [← hxw] at hb4
  clear hxw xw
  clear hEq HSf HSg hc0 hd0 hc1 hd1 hc2 hd2 hc3 hd3 hc4 hd4 hc5 hd5 hc6 hd6 hc7 hd7 hc8 hd8
  go_wp2
  go_ret
  exact ⟨rfl, hB3.trans (hb4.mono hs3)⟩

set_option maxRecDepth 100000 in
set_option maxHeartbeats 2000000 in
theorem imSameMoves_c (xs ys : List Mv) (v u : Value) (w : World) (hx : RdM w v xs) (hy : RdM w u ys) :
    Calls Try.prog 19 #[v, u] w fun e w' => e = .returned (.bool (sameM xs ys)) ∧ Below w.heap.size w w' := by
  have HY := Lib.hid (fun W (hW : Below w.heap.size w W) => hy.below hW)
  by_cases h1 : MV xs
  · have HX := Lib.hid (tableOf_yes xs h1 v w hx)
    by_cases h2 : MV ys
    · have HT := Lib.hid (fun W hW => tableOf_yes ys h2 u W hW)
      have HE := Lib.hid (sameM_tab h1 h2)
      clear h1 h2 hx hy
      go_enter Try.func19, Try.ntmps19
      go_wp2_with fail
      refine HX.out.mono ?_
      rintro e w1 ⟨rfl, hb1⟩
      have hs1 := hb1.size
      have hy1 := HY.out _ (hb1.alloc hs1 (.cells (tabA (tabOf xs)) 62))
      go_wp2_with fail
      refine (HT.out _ hy1).mono ?_
      rintro e w2 ⟨rfl, hb2⟩
      have k1 : At (w1.alloc (.cells (tabA (tabOf xs)) 62)) w1.heap.size 62 (tabA (tabOf xs)) := At.new w1 _ _
      have k2 := k1.keep hb2
      have hB2 := (hb1.alloc hs1 (.cells (tabA (tabOf xs)) 62)).trans (hb2.mono (by simp [World.size_alloc]; omega))
      have hs2 := hB2.size
      have hB3 := hB2.alloc hs2 (.cells (tabA (tabOf ys)) 62)
      have hs3 := hB3.size
      clear hb2 k1 hy1
      generalize tabOf xs = f at *
      generalize tabOf ys = g at *
      obtain ⟨r, hr⟩ : ∃ r, r = ((List.range 9).all fun p => decide (mix f 9 p = mix g 9 p)) := ⟨_, rfl⟩
      have HS := Lib.hid (fun W => same_c f g W)
      rw [← hr] at HS HE
      clear hr
      have q0 : w2.cell? ⟨w1.heap.size, 0, none⟩ = some (.string (f 0)) := k2.cell 0
      have q1 : w2.cell? ⟨w1.heap.size, 1, none⟩ = some (.string (f 1)) := k2.cell 1
      have q2 : w2.cell? ⟨w1.heap.size, 2, none⟩ = some (.string (f 2)) := k2.cell 2
      have q3 : w2.cell? ⟨w1.heap.size, 3, none⟩ = some (.string (f 3)) := k2.cell 3
      have q4 : w2.cell? ⟨w1.heap.size, 4, none⟩ = some (.string (f 4)) := k2.cell 4
      have q5 : w2.cell? ⟨w1.heap.size, 5, none⟩ = some (.string (f 5)) := k2.cell 5
      have q6 : w2.cell? ⟨w1.heap.size, 6, none⟩ = some (.string (f 6)) := k2.cell 6
      have q7 : w2.cell? ⟨w1.heap.size, 7, none⟩ = some (.string (f 7)) := k2.cell 7
      have q8 : w2.cell? ⟨w1.heap.size, 8, none⟩ = some (.string (f 8)) := k2.cell 8
      have hl := k2.lt
      go_wp2_with fail
      refine (HS.out _).mono ?_
      rintro e w4 ⟨rfl, hb4⟩
      clear q0 q1 q2 q3 q4 q5 q6 q7 q8
      have HB := Lib.hid (hB3.trans (hb4.mono hs3))
      clear hb4 hB3 hB2
      go_wp2
      go_ret
      exact ⟨by rw [HE.out]; rfl, HB.out⟩
    · have HT := Lib.hid (fun W hW => tableOf_no ys h2 u W hW)
      have HNO : Hid (sameM xs ys = false) := by
        have : mvalid ys = false := by simpa [mvalid] using h2
        show _ = _
        rw [sameM, this, Bool.and_false, Bool.false_and]
      clear h1 h2 hx hy
      go_enter Try.func19, Try.ntmps19
      go_wp2_with fail
      refine HX.out.mono ?_
      rintro e w1 ⟨rfl, hb1⟩
      have hs1 := hb1.size
      have hy1 := HY.out _ (hb1.alloc hs1 (.cells (tabA (tabOf xs)) 62))
      go_wp2_with fail
      refine (HT.out _ hy1).mono ?_
      rintro e w2 ⟨rfl, hb2⟩
      have hB2 := (hb1.alloc hs1 (.cells (tabA (tabOf xs)) 62)).trans (hb2.mono (by simp [World.size_alloc]; omega))
      have hs2 := hB2.size
      clear hb2 hy1
      go_wp2
      go_ret
      exact ⟨by rw [HNO.out]; rfl, by (repeat' (first | (with_reducible exact Below.refl _ _) | (with_reducible assumption) | (with_reducible refine Below.alloc ?_ ?_ _) | (with_reducible refine Below.drew ?_) | (with_reducible refine Below.setCell ?_ ?_ _) | (with_reducible exact Nat.le_refl _) | omega | ((repeat (first | rewrite [World.size_alloc] | rewrite [World.size_setCell] | rewrite [World.size_drew])); omega) | (simp; omega) | (simp; done)))⟩
  · have HNO : Hid (sameM xs ys = false) := by
      have : mvalid xs = false := by simpa [mvalid] using h1
      show _ = _
      rw [sameM, this, Bool.false_and, Bool.false_and]
    have HX := Lib.hid (tableOf_no xs h1 v w hx)
    by_cases h2 : MV ys
    all_goals
      first | (have HT := Lib.hid (fun W hW => tableOf_yes ys h2 u W hW)) | (have HT := Lib.hid (fun W hW => tableOf_no ys h2 u W hW))
      clear h1 h2 hx hy
      go_enter Try.func19, Try.ntmps19
      go_wp2_with fail
      refine HX.out.mono ?_
      rintro e w1 ⟨rfl, hb1⟩
      have hs1 := hb1.size
      have hy1 := HY.out _ (hb1.alloc hs1 (.cells (tabA (fun _ => emp)) 62))
      go_wp2_with fail
      refine (HT.out _ hy1).mono ?_
      rintro e w2 ⟨rfl, hb2⟩
      have hB2 := (hb1.alloc hs1 (.cells (tabA (fun _ => emp)) 62)).trans (hb2.mono (by simp [World.size_alloc]; omega))
      have hs2 := hB2.size
      clear hb2 hy1
      go_wp2
      go_ret
      exact ⟨by rw [HNO.out]; rfl, by (repeat' (first | (with_reducible exact Below.refl _ _) | (with_reducible assumption) | (with_reducible refine Below.alloc ?_ ?_ _) | (with_reducible refine Below.drew ?_) | (with_reducible refine Below.setCell ?_ ?_ _) | (with_reducible exact Nat.le_refl _) | omega | ((repeat (first | rewrite [World.size_alloc] | rewrite [World.size_setCell] | rewrite [World.size_drew])); omega) | (simp; omega) | (simp; done)))⟩
end Go.Proofs.Ytdhhmphnmllbhaa
