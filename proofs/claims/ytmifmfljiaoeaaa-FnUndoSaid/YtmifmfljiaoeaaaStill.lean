import Derived.Test.YtmifmfljiaoeaaaSame
import Derived.Test.YtmifmfljiaoeaaaExch
namespace Go.PM
open Go.RowKit
def stillB (xs : List Mv) : Bool := mvalid xs && sameM (pwL xs 2) xs
theorem pwL_MV {xs : List Mv} (h : MV xs) (n : Nat) : MV (pwL xs n) := lsF_MV (SVal_pw (SVal_M h) n)
theorem pwL_short {xs : List Mv} (h : MV xs) (n : Nat) : ∀ m ∈ pwL xs n, m.1.size ≤ 9223372036854775807 ∧ m.2.size ≤ 9223372036854775807 := fun m hm => by
  have h1 := (pwL_MV h n).1 m hm
  unfold mok at h1
  rw [Bool.and_eq_true] at h1
  have h2 := isP_size h1.1
  have h3 := isS_size h1.2
  omega
theorem still_tab {xs : List Mv} (h : MV xs) : stillB xs = (List.range 9).all fun p => decide (mix (thenF (tabOf xs) (tabOf xs)) 9 p = mix (tabOf xs) 9 p) := by
  have m1 : mvalid xs = true := by simpa [mvalid] using h
  rw [stillB, m1, Bool.true_and, sameM_tab (pwL_MV h 2) h]
  apply Bool.eq_iff_iff.2
  rw [List.all_eq_true, List.all_eq_true]
  have key : ∀ p, p < 9 → mix (tabOf (pwL xs 2)) 9 p = mix (thenF (tabOf xs) (tabOf xs)) 9 p := fun p hp => by
    simp only [mix, if_pos hp]
    rw [srcT_M (pwL_MV h 2) hp, srcT_then]
    unfold pwL
    rw [lsF_src _ hp]
    show cmpF (cmpF nm (fun q => srcM xs (nm q))) (fun q => srcM xs (nm q)) p = _
    refine cmpF_congr (fun q hq => ?_) (fun q hq => (srcT_M h hq).symm) hp
    rw [cmpF_id]; exact (srcT_M h hq).symm
  constructor
  · intro g p hp; rw [← key p (by simpa using hp)]; exact g p hp
  · intro g p hp; rw [key p (by simpa using hp)]; exact g p hp
end Go.PM
namespace Go.Proofs.Ytmifmfljiaoeaaa
open Go.RowKit Go.PM

set_option maxRecDepth 100000 in
set_option maxHeartbeats 1000000 in
theorem spIsStill_c (xs : List Mv) (v : Value) (w : World) (hx : RdM w v xs) (hz : ∀ m ∈ xs, m.1.size ≤ 9223372036854775807 ∧ m.2.size ≤ 9223372036854775807) (hn' : xs.length ≤ 1048576) :
    Calls Try.prog 26 #[v] w fun e w' => e = .returned (.bool (stillB xs)) ∧ Below w.heap.size w w' := by
  have HV := Lib.hid (spMovesValid_c xs v w hx hz hn')
  have HX := Lib.hid (fun W (hW : Below w.heap.size w W) => hx.below hW)
  have HO : Hid (stillB xs = (mvalid xs && sameM (pwL xs 2) xs)) := rfl
  rcases Bool.eq_false_or_eq_true (mvalid xs) with h1 | h1
  · have hM : MV xs := by simpa [mvalid] using h1
    have HP := Lib.hid (fun W hW => l4Power_c xs v 2 (by decide) W hW)
    have HSM := Lib.hid (fun W v' h1 h2 => spSameMoves_c (pwL xs 2) xs v' v W h1 h2 (pwL_short hM 2) (Nat.le_trans (pwL_len xs 2) (by decide)) hz hn')
    have H1 := Lib.hid h1
    clear hx hz h1 hM
    go_enter Try.func26, Try.ntmps26
    go_wp2_with fail
    refine HV.out.mono ?_
    rintro e w1 ⟨he, hb1⟩
    rw [H1.out] at he
    subst he
    have hs1 := hb1.size
    have hx1 := HX.out w1 hb1
    go_wp2_with fail
    refine (HP.out w1 hx1).mono ?_
    rintro e w2 ⟨v', rfl, ho, hb2⟩
    have hbw := hb1.trans (hb2.mono hs1)
    have hs2 := hbw.size
    have hx2 := HX.out w2 hbw
    have hr2 : RdM w2 v' (pwL xs 2) := Rd.of_own ho
    clear ho hb2 hx1 hb1
    go_wp2_with fail
    refine (HSM.out w2 v' hr2 hx2).mono ?_
    rintro e w3 ⟨rfl, hb3⟩
    have hB := hbw.trans (hb3.mono hs2)
    clear hb3 hbw hr2 hx2
    go_wp2
    go_ret
    exact ⟨by rw [HO.out, H1.out]; rfl, hB⟩
  · go_enter Try.func26, Try.ntmps26
    go_wp2_with fail
    refine HV.out.mono ?_
    rintro e w1 ⟨rfl, hb1⟩
    go_wp2
    go_ret
    exact ⟨by rw [HO.out, h1]; rfl, hb1⟩

set_option maxRecDepth 100000 in
set_option maxHeartbeats 2000000 in
theorem imIsStill_c (xs : List Mv) (v : Value) (w : World) (hx : RdM w v xs) :
    Calls Try.prog 25 #[v] w fun e w' => e = .returned (.bool (stillB xs)) ∧ Below w.heap.size w w' := by
  by_cases h1 : MV xs
  · have HT := Lib.hid (tableOf_yes xs h1 v w hx)
    have HE := Lib.hid (still_tab h1)
    have HTH := Lib.hid (fun W => then_v (tabOf xs) (tabOf xs) (SVal_tab h1) W)
    clear h1 hx
    obtain ⟨r, hr⟩ : ∃ r, r = ((List.range 9).all fun p => decide (mix (thenF (tabOf xs) (tabOf xs)) 9 p = mix (tabOf xs) 9 p)) := ⟨_, rfl⟩
    have HS := Lib.hid (fun W => same_c (thenF (tabOf xs) (tabOf xs)) (tabOf xs) W)
    rw [← hr] at HS HE
    clear hr
    generalize thenF (tabOf xs) (tabOf xs) = g at *
    generalize tabOf xs = f at *
    go_enter Try.func25, Try.ntmps25
    go_wp2_with fail
    refine HT.out.mono ?_
    rintro e w1 ⟨rfl, hb1⟩
    have hs1 := hb1.size
    obtain ⟨W3, hW3⟩ : ∃ W3 : World, W3 = w1.alloc (.cells (tabA f) 52) := ⟨_, rfl⟩
    have K1 : At W3 w1.heap.size 52 (tabA f) := by rw [hW3]; exact At.new w1 _ _
    have hB3 : Below w.heap.size w W3 := by rw [hW3]; exact hb1.alloc hs1 _
    have hs3 := hB3.size
    have B1 := K1.lt
    have hc0 : ∀ x : Ext W3.heap.size W3, x.val.cell? ⟨w1.heap.size, 0, none⟩ = some (.string (f 0)) := fun x => (x.property.cell (p := ⟨w1.heap.size, 0, none⟩) B1).trans (K1.cell 0)
    have hc1 : ∀ x : Ext W3.heap.size W3, x.val.cell? ⟨w1.heap.size, 1, none⟩ = some (.string (f 1)) := fun x => (x.property.cell (p := ⟨w1.heap.size, 1, none⟩) B1).trans (K1.cell 1)
    have hc2 : ∀ x : Ext W3.heap.size W3, x.val.cell? ⟨w1.heap.size, 2, none⟩ = some (.string (f 2)) := fun x => (x.property.cell (p := ⟨w1.heap.size, 2, none⟩) B1).trans (K1.cell 2)
    have hc3 : ∀ x : Ext W3.heap.size W3, x.val.cell? ⟨w1.heap.size, 3, none⟩ = some (.string (f 3)) := fun x => (x.property.cell (p := ⟨w1.heap.size, 3, none⟩) B1).trans (K1.cell 3)
    have hc4 : ∀ x : Ext W3.heap.size W3, x.val.cell? ⟨w1.heap.size, 4, none⟩ = some (.string (f 4)) := fun x => (x.property.cell (p := ⟨w1.heap.size, 4, none⟩) B1).trans (K1.cell 4)
    have hc5 : ∀ x : Ext W3.heap.size W3, x.val.cell? ⟨w1.heap.size, 5, none⟩ = some (.string (f 5)) := fun x => (x.property.cell (p := ⟨w1.heap.size, 5, none⟩) B1).trans (K1.cell 5)
    have hc6 : ∀ x : Ext W3.heap.size W3, x.val.cell? ⟨w1.heap.size, 6, none⟩ = some (.string (f 6)) := fun x => (x.property.cell (p := ⟨w1.heap.size, 6, none⟩) B1).trans (K1.cell 6)
    have hc7 : ∀ x : Ext W3.heap.size W3, x.val.cell? ⟨w1.heap.size, 7, none⟩ = some (.string (f 7)) := fun x => (x.property.cell (p := ⟨w1.heap.size, 7, none⟩) B1).trans (K1.cell 7)
    have hc8 : ∀ x : Ext W3.heap.size W3, x.val.cell? ⟨w1.heap.size, 8, none⟩ = some (.string (f 8)) := fun x => (x.property.cell (p := ⟨w1.heap.size, 8, none⟩) B1).trans (K1.cell 8)
    have hTH : ∀ x : Ext W3.heap.size W3, Calls Try.prog 48 #[tabX f, tabX f] x.val fun e w' => e = .returned (tabX g) ∧ Below x.val.heap.size x.val w' := fun x => HTH.out x.val
    have hS : ∀ x : Ext W3.heap.size W3, Calls Try.prog 65 #[tabX g, tabX f] x.val fun e w' => e = .returned (.bool r) ∧ Below x.val.heap.size x.val w' := fun x => HS.out x.val
    clear hb1
    go_wp2
    rw [← hW3]
    clear hW3
    refine wp_region_ext W3.heap.size (by kernel_rfl) (by kernel_rfl) ?_
    repeat (go_big_quiet_step (first | (go_at_call 48; exact ext_call _ (Nat.le_refl _) (hTH _)) | (go_at_call 65; exact ext_call _ (Nat.le_refl _) (hS _))))
    refine wpQuiet_nil ?_
    intro w4 hw'
    obtain ⟨xw, hxw⟩ := hw'
    have hb4 := xw.property
    rw [← hxw] at hb4
    clear hxw xw hTH hS hc0 hc1 hc2 hc3 hc4 hc5 hc6 hc7 hc8
    go_wp2
    go_ret
    exact ⟨by rw [HE.out]; rfl, hB3.trans (hb4.mono hs3)⟩
  · have HNO : Hid (stillB xs = false) := by
      have : mvalid xs = false := by simpa [mvalid] using h1
      show _ = _
      rw [stillB, this, Bool.false_and]
    have HT := Lib.hid (tableOf_no xs h1 v w hx)
    clear h1 hx
    go_enter Try.func25, Try.ntmps25
    go_wp2_with fail
    refine HT.out.mono ?_
    rintro e w1 ⟨rfl, hb1⟩
    have hs1 := hb1.size
    obtain ⟨W3, hW3⟩ : ∃ W3 : World, W3 = w1.alloc (.cells zA 52) := ⟨_, rfl⟩
    have hB3 : Below w.heap.size w W3 := by rw [hW3]; exact hb1.alloc hs1 _
    have hs3 := hB3.size
    clear hb1
    go_wp2
    rw [← hW3]
    refine wp_region_ext W3.heap.size (by kernel_rfl) (by kernel_rfl) ?_
    repeat (go_big_quiet_step (fail))
    refine wpQuiet_nil ?_
    intro w4 hw'
    obtain ⟨xw, hxw⟩ := hw'
    have hb4 := xw.property
    rw [← hxw] at hb4
    clear hxw xw
    go_wp2
    go_ret
    exact ⟨by rw [HNO.out]; rfl, hB3.trans (hb4.mono hs3)⟩
end Go.Proofs.Ytmifmfljiaoeaaa
