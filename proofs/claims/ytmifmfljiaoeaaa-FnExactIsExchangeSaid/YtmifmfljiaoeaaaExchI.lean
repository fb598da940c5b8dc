import Derived.Test.YtmifmfljiaoeaaaExch
import Derived.Test.YtmifmfljiaoeaaaHeld
namespace Go.Proofs.Ytmifmfljiaoeaaa
open Go.RowKit Go.PM

set_option maxRecDepth 100000 in
set_option maxHeartbeats 2000000 in
theorem exchOf_yes (xs : List Mv) (h1 : MV xs) (v : Value) (w : World) (hx : RdM w v xs) :
    Calls Try.prog 68 #[v] w fun e w' => e = .returned (.tuple #[tabX (tabOf xs), .bool (exchB xs)]) ∧ Below w.heap.size w w' := by
  have HX := Lib.hid (fun W (hW : Below w.heap.size w W) => hx.below hW)
  have HT := Lib.hid (fun W hW => tableOf_yes xs h1 v W hW)
  have HE : Hid (exchB xs = decide (namesW (leafH (tabOf xs)) = emp)) := by
    have m1 : mvalid xs = true := by simpa [mvalid] using h1
    show _ = _
    rw [exchB, m1]; rfl
  have HL := Lib.hid (fun W => leaves_c (tabOf xs) W)
  clear h1 hx
  generalize namesW (leafH (tabOf xs)) = lv at *
  generalize tabOf xs = f at *
  have hb0 : Below w.heap.size w (w.alloc (.cells zA 52)) := (Below.refl _ _).alloc (Nat.le_refl _) _
  have hA0 : At (w.alloc (.cells zA 52)) w.heap.size 52 zA := At.new w _ _
  have hx0 := HX.out _ hb0
  go_enter Try.func68, Try.ntmps68
  go_wp2_with fail
  refine (HT.out _ hx0).mono ?_
  rintro e w1 ⟨rfl, hb1⟩
  have hbw := hb0.trans (hb1.mono hb0.size)
  have hA1 := hA0.keep hb1
  have hs1 := hbw.size
  clear hx0 hA0 hb0 hb1
  obtain ⟨W3, hW3⟩ : ∃ W3 : World, W3 = w1.alloc (.cells (tabA f) 52) := ⟨_, rfl⟩
  have K1 : At W3 w1.heap.size 52 (tabC f) := by rw [hW3]; exact At.new w1 _ _
  have K2 : At W3 w.heap.size 52 zA := by rw [hW3]; exact hA1.alloc _
  have hB3 : Below w.heap.size w W3 := by rw [hW3]; exact hbw.alloc hs1 _
  have hs3 := hB3.size
  have hne : w1.heap.size ≠ w.heap.size := Nat.ne_of_gt hA1.lt
  clear hbw hA1
  go_wp2
  rw [← hW3]
  clear hW3
  refine wp_region_held_drew (S := fun W => At W w1.heap.size 52 (tabC f)) (by kernel_rfl) K1 (fun hHeld => ?_)
  refine wpAnyH_take (i := 0) (oi := _) (v := .agg (tabC f)) rfl (by kernel_rfl) (by kernel_rfl) (by kernel_rfl) (fun _ _ _ h => h) (yieldsIf_row rfl 52 (.tmp 4) rfl w1.heap.size 52 (tabC f) (by rfl) (fun _ h => h) 9 9 Try.underlying52 (by kernel_rfl)) hHeld ?_
  simp only [Act.put, List.getElem_toArray, List.getElem_cons_zero, List.setIfInBounds_toArray, List.set_cons_succ, List.set_cons_zero]
  refine wpAnyH_take (i := 1) (oi := _) (v := ?_) rfl (by kernel_rfl) (by kernel_rfl) (by kernel_rfl) (fun _ _ _ h => h) (Or.inl ⟨by rfl, by intro w0 _; go_simp; rfl⟩) hHeld ?_
  simp only [Act.put, List.getElem_toArray, List.getElem_cons_succ, List.getElem_cons_zero, List.setIfInBounds_toArray, List.set_cons_succ, List.set_cons_zero]
  refine wpAnyH_take (i := 2) (oi := _) (v := ?_) rfl (by kernel_rfl) (by kernel_rfl) (by kernel_rfl) (fun _ _ _ h => h) (Or.inl ⟨by rfl, by intro w0 _; go_simp; rfl⟩) hHeld ?_
  simp only [Act.put, List.getElem_toArray, List.getElem_cons_succ, List.getElem_cons_zero, List.setIfInBounds_toArray, List.set_cons_succ, List.set_cons_zero]
  refine wpAnyH_take (i := 3) (oi := _) (v := .agg (tabC f)) rfl (by kernel_rfl) (by kernel_rfl) (by kernel_rfl) (fun _ _ _ h => h) (yieldsIf_row rfl 52 (.tmp 4) rfl w1.heap.size 52 (tabC f) (by rfl) (fun _ h => h) 9 9 Try.underlying52 (by kernel_rfl)) hHeld ?_
  simp only [Act.put, List.getElem_toArray, List.getElem_cons_succ, List.getElem_cons_zero, List.setIfInBounds_toArray, List.set_cons_succ, List.set_cons_zero]
  refine wpAnyH_ready (rs := [4]) (by kernel_rfl) (by simp) ?_
  refine AllReadyH.cons rfl (fun K hK => ?_) AllReadyH.nil
  go_simp
  go_at_call 73
  refine (HL.out _).mono ?_
  rintro e W4 ⟨rfl, hb4⟩
  replace hb4 : Below W3.heap.size W3 W4 := (Below.refl _ _).drew.trans hb4
  have m1 := K1.keep hb4
  have m2 := K2.keep hb4
  have hB4 := hB3.trans (hb4.mono hs3)
  have hs4 := hB4.size
  refine hK.out _ _ m1 (fun hHeld2 => ?_)
  clear hK K hb4 hHeld
  try simp only [Act.put, List.getElem_toArray, List.getElem_cons_succ, List.getElem_cons_zero, List.setIfInBounds_toArray, List.set_cons_succ, List.set_cons_zero]
  refine wpAnyH_take (i := 5) (oi := _) (v := ?_) rfl (by kernel_rfl) (by kernel_rfl) (by kernel_rfl) (fun _ _ _ h => h) (Or.inl ⟨by rfl, by intro w0 _; go_simp; rfl⟩) m1 ?_
  simp only [Act.put, List.getElem_toArray, List.getElem_cons_succ, List.getElem_cons_zero, List.setIfInBounds_toArray, List.set_cons_succ, List.set_cons_zero]
  refine wpAnyH_take (i := 6) (oi := _) (v := ?_) rfl (by kernel_rfl) (by kernel_rfl) (by kernel_rfl) (fun _ _ _ h => h) (Or.inl ⟨by rfl, by intro w0 _; go_simp; rfl⟩) m1 ?_
  simp only [Act.put, List.getElem_toArray, List.getElem_cons_succ, List.getElem_cons_zero, List.setIfInBounds_toArray, List.set_cons_succ, List.set_cons_zero]
  refine wpAnyH_ready (rs := [7]) (by kernel_rfl) (by simp) ?_
  refine AllReadyH.cons rfl (fun K hK => ?_) AllReadyH.nil
  rw [if_pos (by rfl)]
  refine wp_store_row 52 (.tmp 2) (.tmp 11) rfl w.heap.size (tabC f) (by rfl) (by rfl) 52 zA m2 (by kernel_rfl) rfl (tabC_all _) ?_
  have hg5 := grown_setRow W4 w.heap.size (tabC f)
  have hA5 := m2.setRow (tabC f)
  have n1 := m1.grown hg5 (fun e => hne (Option.some.inj e))
  have hB5 := hB4.trans (below_grown hg5 (B := w.heap.size) hs4 (fun g e => by cases e; omega))
  refine hK.out _ _ n1 (fun hHeld3 => ?_)
  clear hK K
  try simp only [Act.put, List.getElem_toArray, List.getElem_cons_succ, List.getElem_cons_zero]
  refine wpAnyH_take (i := 8) (oi := _) (v := ?_) rfl (by kernel_rfl) (by kernel_rfl) (by kernel_rfl) (fun _ _ _ h => h) (Or.inl ⟨by rfl, by intro w0 _; go_simp; rfl⟩) n1 ?_
  simp only [Act.put, List.getElem_toArray, List.getElem_cons_succ, List.getElem_cons_zero, List.setIfInBounds_toArray, List.set_cons_succ, List.set_cons_zero]
  refine wpAnyH_done (by kernel_rfl) ?_ _
  go_wp2
  refine bodyPost_ret (v := .tuple #[tabV f, .bool lv.toList.isEmpty]) (results_row2 Try.results68 _ _ w.heap.size 52 (tabC f) (by rfl) (by rfl) hA5 9 9 Try.underlying52 (by kernel_rfl)) rfl ⟨by rw [HE.out, emp_iff]; rfl, hB5⟩

set_option maxRecDepth 100000 in
set_option maxHeartbeats 2000000 in
theorem exchOf_no (xs : List Mv) (h1 : ¬ MV xs) (v : Value) (w : World) (hx : RdM w v xs) :
    Calls Try.prog 68 #[v] w fun e w' => e = .returned (.tuple #[zX, .bool false]) ∧ Below w.heap.size w w' := by
  have HX := Lib.hid (fun W (hW : Below w.heap.size w W) => hx.below hW)
  have HT := Lib.hid (fun W hW => tableOf_no xs h1 v W hW)
  clear h1 hx
  have hb0 : Below w.heap.size w (w.alloc (.cells zA 52)) := (Below.refl _ _).alloc (Nat.le_refl _) _
  have hA0 : At (w.alloc (.cells zA 52)) w.heap.size 52 zA := At.new w _ _
  have hx0 := HX.out _ hb0
  go_enter Try.func68, Try.ntmps68
  go_wp2_with fail
  refine (HT.out _ hx0).mono ?_
  rintro e w1 ⟨rfl, hb1⟩
  have hbw := hb0.trans (hb1.mono hb0.size)
  have hA1 := hA0.keep hb1
  have hs1 := hbw.size
  clear hx0 hA0 hb0 hb1
  obtain ⟨W3, hW3⟩ : ∃ W3 : World, W3 = w1.alloc (.cells zA 52) := ⟨_, rfl⟩
  have K1 : At W3 w1.heap.size 52 zA := by rw [hW3]; exact At.new w1 _ _
  have K2 : At W3 w.heap.size 52 zA := by rw [hW3]; exact hA1.alloc _
  have hB3 : Below w.heap.size w W3 := by rw [hW3]; exact hbw.alloc hs1 _
  have hs3 := hB3.size
  have hne : w1.heap.size ≠ w.heap.size := Nat.ne_of_gt hA1.lt
  clear hbw hA1
  go_wp2
  rw [← hW3]
  clear hW3
  refine wp_region_held_drew (S := fun W => At W w1.heap.size 52 (tabC (fun _ => emp))) (by kernel_rfl) K1 (fun hHeld => ?_)
  refine wpAnyH_take (i := 0) (oi := _) (v := .agg (tabC (fun _ => emp))) rfl (by kernel_rfl) (by kernel_rfl) (by kernel_rfl) (fun _ _ _ h => h) (yieldsIf_row rfl 52 (.tmp 4) rfl w1.heap.size 52 (tabC (fun _ => emp)) (by rfl) (fun _ h => h) 9 9 Try.underlying52 (by kernel_rfl)) hHeld ?_
  simp only [Act.put, List.getElem_toArray, List.getElem_cons_zero, List.setIfInBounds_toArray, List.set_cons_succ, List.set_cons_zero]
  refine wpAnyH_take (i := 1) (oi := _) (v := ?_) rfl (by kernel_rfl) (by kernel_rfl) (by kernel_rfl) (fun _ _ _ h => h) (Or.inl ⟨by rfl, by intro w0 _; go_simp; rfl⟩) hHeld ?_
  simp only [Act.put, List.getElem_toArray, List.getElem_cons_succ, List.getElem_cons_zero, List.setIfInBounds_toArray, List.set_cons_succ, List.set_cons_zero]
  refine wpAnyH_take (i := 2) (oi := _) (v := ?_) rfl (by kernel_rfl) (by kernel_rfl) (by kernel_rfl) (fun _ _ _ h => h) (Or.inl ⟨by rfl, by intro w0 _; go_simp; rfl⟩) hHeld ?_
  simp only [Act.put, List.getElem_toArray, List.getElem_cons_succ, List.getElem_cons_zero, List.setIfInBounds_toArray, List.set_cons_succ, List.set_cons_zero]
  refine wpAnyH_take (i := 3) (oi := _) (v := undef) rfl (by kernel_rfl) (by kernel_rfl) (by kernel_rfl) (fun _ _ _ h => h) (Or.inr ⟨by rfl, rfl⟩) hHeld ?_
  simp only [Act.put, List.getElem_toArray, List.getElem_cons_succ, List.getElem_cons_zero, List.setIfInBounds_toArray, List.set_cons_succ, List.set_cons_zero]
  refine wpAnyH_take (i := 4) (oi := _) (v := undef) rfl (by kernel_rfl) (by kernel_rfl) (by kernel_rfl) (fun _ _ _ h => h) (Or.inr ⟨by rfl, rfl⟩) hHeld ?_
  simp only [Act.put, List.getElem_toArray, List.getElem_cons_succ, List.getElem_cons_zero, List.setIfInBounds_toArray, List.set_cons_succ, List.set_cons_zero]
  refine wpAnyH_take (i := 5) (oi := _) (v := undef) rfl (by kernel_rfl) (by kernel_rfl) (by kernel_rfl) (fun _ _ _ h => h) (Or.inr ⟨by rfl, rfl⟩) hHeld ?_
  simp only [Act.put, List.getElem_toArray, List.getElem_cons_succ, List.getElem_cons_zero, List.setIfInBounds_toArray, List.set_cons_succ, List.set_cons_zero]
  refine wpAnyH_take (i := 6) (oi := _) (v := ?_) rfl (by kernel_rfl) (by kernel_rfl) (by kernel_rfl) (fun _ _ _ h => h) (Or.inl ⟨by rfl, by intro w0 _; go_simp; rfl⟩) hHeld ?_
  simp only [Act.put, List.getElem_toArray, List.getElem_cons_succ, List.getElem_cons_zero, List.setIfInBounds_toArray, List.set_cons_succ, List.set_cons_zero]
  have m1 : At W3.drew w1.heap.size 52 zA := K1
  have m2 : At W3.drew w.heap.size 52 zA := K2
  have hB4 : Below w.heap.size w W3.drew := hB3.drew
  have hs4 := hB4.size
  refine wpAnyH_ready (rs := [7]) (by kernel_rfl) (by simp) ?_
  refine AllReadyH.cons rfl (fun K hK => ?_) AllReadyH.nil
  rw [if_pos (by rfl)]
  refine wp_store_row 52 (.tmp 2) (.tmp 11) rfl w.heap.size (tabC (fun _ => emp)) (by rfl) (by rfl) 52 zA m2 (by kernel_rfl) rfl (tabC_all _) ?_
  have hg5 := grown_setRow W3.drew w.heap.size (tabC (fun _ => emp))
  have hA5 := m2.setRow (tabC (fun _ => emp))
  have n1 := m1.grown hg5 (fun e => hne (Option.some.inj e))
  have hB5 := hB4.trans (below_grown hg5 (B := w.heap.size) hs4 (fun g e => by cases e; omega))
  refine hK.out _ _ n1 (fun hHeld3 => ?_)
  clear hK K
  try simp only [Act.put, List.getElem_toArray, List.getElem_cons_succ, List.getElem_cons_zero]
  refine wpAnyH_take (i := 8) (oi := _) (v := ?_) rfl (by kernel_rfl) (by kernel_rfl) (by kernel_rfl) (fun _ _ _ h => h) (Or.inl ⟨by rfl, by intro w0 _; go_simp; rfl⟩) n1 ?_
  simp only [Act.put, List.getElem_toArray, List.getElem_cons_succ, List.getElem_cons_zero, List.setIfInBounds_toArray, List.set_cons_succ, List.set_cons_zero]
  refine wpAnyH_done (by kernel_rfl) ?_ _
  go_wp2
  refine bodyPost_ret (v := .tuple #[.agg (tabC (fun _ => emp)), .bool false]) (results_row2 Try.results68 _ _ w.heap.size 52 (tabC (fun _ => emp)) (by rfl) (by rfl) hA5 9 9 Try.underlying52 (by kernel_rfl)) rfl ⟨rfl, hB5⟩

theorem imIsExchange_c (xs : List Mv) (v : Value) (w : World) (hx : RdM w v xs) :
    Calls Try.prog 36 #[v] w fun e w' => e = .returned (.bool (exchB xs)) ∧ Below w.heap.size w w' := by
  by_cases h1 : MV xs
  · have HT := Lib.hid (exchOf_yes xs h1 v w hx)
    clear hx h1
    go_enter Try.func36, Try.ntmps36
    go_wp2_with fail
    refine HT.out.mono ?_
    rintro e w1 ⟨rfl, hb1⟩
    have hs1 := hb1.size
    go_wp2
    go_ret
    exact ⟨rfl, by (repeat' (first | (with_reducible exact Below.refl _ _) | (with_reducible assumption) | (with_reducible refine Below.alloc ?_ ?_ _) | (with_reducible refine Below.drew ?_) | (with_reducible refine Below.setCell ?_ ?_ _) | (with_reducible exact Nat.le_refl _) | omega | ((repeat (first | rewrite [World.size_alloc] | rewrite [World.size_setCell] | rewrite [World.size_drew])); omega) | (simp; omega) | (simp; done)))⟩
  · have HT := Lib.hid (exchOf_no xs h1 v w hx)
    have HE : Hid (exchB xs = false) := by
      have : mvalid xs = false := by simpa [mvalid] using h1
      show _ = _
      rw [exchB, this]; rfl
    clear hx h1
    go_enter Try.func36, Try.ntmps36
    go_wp2_with fail
    refine HT.out.mono ?_
    rintro e w1 ⟨rfl, hb1⟩
    have hs1 := hb1.size
    go_wp2
    go_ret
    exact ⟨by rw [HE.out]; rfl, by (repeat' (first | (with_reducible exact Below.refl _ _) | (with_reducible assumption) | (with_reducible refine Below.alloc ?_ ?_ _) | (with_reducible refine Below.drew ?_) | (with_reducible refine Below.setCell ?_ ?_ _) | (with_reducible exact Nat.le_refl _) | omega | ((repeat (first | rewrite [World.size_alloc] | rewrite [World.size_setCell] | rewrite [World.size_drew])); omega) | (simp; omega) | (simp; done)))⟩
set_option maxRecDepth 100000 in
theorem imLostBy_c (xs : List Mv) (v : Value) (w : World) (hx : RdM w v xs) :
    Calls Try.prog 33 #[v] w fun e w' => e = .returned (.tuple #[.string (lostB xs), .bool (mvalid xs)]) ∧ Below w.heap.size w w' := by
  have HO : Hid (lostB xs = if mvalid xs then leavesB xs else ⟨#[]⟩) := rfl
  by_cases h1 : MV xs
  · have hm : mvalid xs = true := by simpa [mvalid] using h1
    go_enter Try.func33, Try.ntmps33
    go_wp2_with fail
    refine (tableOf_yes xs h1 v _ hx).mono ?_
    rintro e w1 ⟨rfl, hb1⟩
    have hs1 := hb1.size
    go_wp2_with fail
    refine (leaves_c (tabOf xs) _).mono ?_
    rintro e w3 ⟨rfl, hb3⟩
    have b3 := (hb1.alloc hs1 (.cells (tabA (tabOf xs)) 52)).trans (hb3.mono (by simp [World.size_alloc]; omega))
    clear hb3
    go_wp2
    go_ret2
    exact ⟨by rw [HO.out, hm]; rfl, b3⟩
  · have hm : mvalid xs = false := by simpa [mvalid] using h1
    go_enter Try.func33, Try.ntmps33
    go_wp2_with fail
    refine (tableOf_no xs h1 v _ hx).mono ?_
    rintro e w1 ⟨rfl, hb1⟩
    have hs1 := hb1.size
    go_wp2
    go_ret2
    exact ⟨by rw [HO.out, hm]; rfl, by (repeat' (first | (with_reducible exact Below.refl _ _) | (with_reducible assumption) | (with_reducible refine Below.alloc ?_ ?_ _) | (with_reducible refine Below.drew ?_) | (with_reducible refine Below.setCell ?_ ?_ _) | (with_reducible exact Nat.le_refl _) | omega | ((repeat (first | rewrite [World.size_alloc] | rewrite [World.size_setCell] | rewrite [World.size_drew])); omega) | (simp; omega) | (simp; done)))⟩
set_option maxRecDepth 100000 in
set_option maxHeartbeats 2000000 in
theorem imUndoMoves_c (xs : List Mv) (v : Value) (w : World) (hx : RdM w v xs) :
    Calls Try.prog 30 #[v] w fun e w' => ∃ v', e = .returned (.tuple #[v', .bool (exchB xs)]) ∧ w'.ownsRow w.heap.size 60 2 v' (undoM xs).length (mcells (undoM xs)) ∧ Below w.heap.size w w' := by
  by_cases h1 : MV xs
  · have HT := Lib.hid (exchOf_yes xs h1 v w hx)
    rcases Bool.eq_false_or_eq_true (exchB xs) with h2 | h2
    · have HR := Lib.hid (undoM_tab h2)
      have HU := Lib.hid (fun W => undone_c (tabOf xs) (exchB_iff.1 h2).2 W)
      have H2 := Lib.hid h2
      clear hx h1 h2
      generalize tabOf xs = f at *
      go_enter Try.func30, Try.ntmps30
      go_wp2_with fail
      refine HT.out.mono ?_
      rw [H2.out]
      rintro e w1 ⟨rfl, hb1⟩
      have hs1 := hb1.size
      have k1 : At (w1.alloc (.cells (tabA f) 52)) w1.heap.size 52 (tabA f) := At.new w1 _ _
      have hB2 := hb1.alloc hs1 (.cells (tabA f) 52)
      have hs2 := hB2.size
      clear hb1
      go_wp2_with (first | (refine ld_row rfl 52 (.tmp 4) rfl w1.heap.size 52 (tabC f) k1 (by rfl) 9 9 Try.underlying52 (by kernel_rfl) ?_) | (go_at_call 69; refine (HU.out _).mono ?_; rintro e w4 ⟨rfl, hb4⟩; refine held ?_))
      unfold Held
      have hB4 := hB2.trans (hb4.mono hs2)
      have hs4 := hB4.size
      clear hb4 k1 hB2
      go_wp2_with (go_at_call 49; refine (idle_v (bkF f 9) _).mono ?_; rintro e w5 ⟨rfl, hb5⟩; refine held ?_)
      unfold Held
      have hB5 := hB4.trans (hb5.mono hs4)
      have hs5 := hB5.size
      clear hb5 hB4
      have HLI := Lib.hid (fun W => list_c (noIdle (bkF f 9)) W)
      rw [HR.out] at HLI
      go_wp2_with (go_at_call 50; refine (HLI.out _).mono ?_; rintro e w6 ⟨v', rfl, ho, hb6⟩; refine held ?_)
      unfold Held
      have hB6 := hB5.trans (hb6.mono hs5)
      have ho6 := own_more ho hs5
      clear hb6 hB5 ho
      go_wp2
      go_ret2
      exact ⟨_, by rw [H2.out]; rfl, ho6, hB6⟩
    · have HNO := Lib.hid (undoM_no h2)
      have H2 := Lib.hid h2
      clear hx h1 h2
      generalize tabOf xs = f at *
      go_enter Try.func30, Try.ntmps30
      go_wp2_with fail
      refine HT.out.mono ?_
      rw [H2.out]
      rintro e w1 ⟨rfl, hb1⟩
      have hs1 := hb1.size
      go_wp2
      go_ret2
      exact ⟨_, by rw [H2.out]; rfl, by rw [HNO.out]; exact ⟨rfl, .inl ⟨rfl, rfl⟩⟩, by (repeat' (first | (with_reducible exact Below.refl _ _) | (with_reducible assumption) | (with_reducible refine Below.alloc ?_ ?_ _) | (with_reducible refine Below.drew ?_) | (with_reducible refine Below.setCell ?_ ?_ _) | (with_reducible exact Nat.le_refl _) | omega | ((repeat (first | rewrite [World.size_alloc] | rewrite [World.size_setCell] | rewrite [World.size_drew])); omega) | (simp; omega) | (simp; done)))⟩
  · have HT := Lib.hid (exchOf_no xs h1 v w hx)
    have HE : Hid (exchB xs = false) := by
      have : mvalid xs = false := by simpa [mvalid] using h1
      show _ = _
      rw [exchB, this]; rfl
    have HNO := Lib.hid (undoM_no HE.out)
    clear hx h1
    go_enter Try.func30, Try.ntmps30
    go_wp2_with fail
    refine HT.out.mono ?_
    rintro e w1 ⟨rfl, hb1⟩
    have hs1 := hb1.size
    go_wp2
    go_ret2
    exact ⟨_, by rw [HE.out]; rfl, by rw [HNO.out]; exact ⟨rfl, .inl ⟨rfl, rfl⟩⟩, by (repeat' (first | (with_reducible exact Below.refl _ _) | (with_reducible assumption) | (with_reducible refine Below.alloc ?_ ?_ _) | (with_reducible refine Below.drew ?_) | (with_reducible refine Below.setCell ?_ ?_ _) | (with_reducible exact Nat.le_refl _) | omega | ((repeat (first | rewrite [World.size_alloc] | rewrite [World.size_setCell] | rewrite [World.size_drew])); omega) | (simp; omega) | (simp; done)))⟩
end Go.Proofs.Ytmifmfljiaoeaaa
