import Derived.Test.YtbgchjjaaelkbaaIdle
import Derived.Test.YtbgchjjaaelkbaaOrdI
namespace Go.PM
open Go.RowKit
/-- the moves without idle ones, in the order of their places; none where they are not valid -/
def bioM (xs : List Mv) : List Mv := if mvalid xs then busyF xs 9 else []
theorem bioM_yes {xs : List Mv} (h : MV xs) : bioM xs = busyF xs 9 := if_pos (by simpa [mvalid] using h)
theorem bioM_no {xs : List Mv} (h : ¬ MV xs) : bioM xs = [] := if_neg (by simpa [mvalid] using h)
theorem bioM_len (xs : List Mv) : (bioM xs).length ≤ 9 := by
  unfold bioM; split
  · exact busyF_len xs 9
  · simp
theorem Wt_nil : Wt [] := ⟨by simp, by simp, by simp, by simp, by simp [rdN]⟩
theorem bioM_Wt (xs : List Mv) : Wt (bioM xs) := by
  by_cases h : MV xs
  · rw [bioM_yes h]; exact busyF_Wt h
  · rw [bioM_no h]; exact Wt_nil
theorem bioM_tab {xs : List Mv} (h : MV xs) : mvT (noIdle (tabOf xs)) (List.range 9) = bioM xs := by
  rw [mvT_idle, bioM_yes h]
  exact lsF_congr fun p hp => srcT_M h hp
theorem bioM_zero {xs : List Mv} (h : ¬ MV xs) : mvT (noIdle (fun _ => emp)) (List.range 9) = bioM xs := by
  rw [mvT_idle, bioM_no h, ← lsF_nm]
  exact lsF_congr fun p _ => srcT_zero p
theorem ordM_bio (xs : List Mv) : ordM xs = ordF 19 (bioM xs) := by
  by_cases h : MV xs
  · rw [bioM_yes h]; unfold ordM; rw [if_pos (by simpa [mvalid] using h)]
  · rw [bioM_no h, ordF_nil]; unfold ordM; rw [if_neg (by simpa [mvalid] using h)]
theorem stL_len (ms : List Mv) : (stL ms).length = ms.length := by simp [stL]
theorem ordM_len (xs : List Mv) : (ordM xs).length ≤ 19 := by
  unfold ordM; split
  · exact ordF_len _ _
  · simp
theorem wspM_len (xs : List Mv) : (wspM xs).length ≤ 9 := by
  unfold wspM; split
  · have h1 := takF_len 9 (busyF xs 9)
    have h2 := busyF_len xs 9
    unfold takM; omega
  · simp
theorem takF_nil (n : Nat) : takF n [] = [] := takF_none rfl
end Go.PM
namespace Go.Proofs.Ytbgchjjaaelkbaa
open Go.RowKit Go.PM
attribute [local go_sem] Oper.semAt_some

set_option maxRecDepth 100000 in
set_option maxHeartbeats 1600000 in
theorem busyInOrder_c (xs : List Mv) (v : Value) (w : World) (hx : RdM w v xs) :
    Calls Try.prog 100 #[v] w fun e w' => ∃ v', e = .returned (.tuple #[v', .bool (mvalid xs)]) ∧ w'.ownsRow w.heap.size 33 2 v' (bioM xs).length (mcells (bioM xs)) ∧ Below w.heap.size w w' := by
  obtain ⟨f, hf, hm⟩ : ∃ f, (Calls Try.prog 70 #[v] w fun e w' => e = .returned (.tuple #[tabX f, .bool (mvalid xs)]) ∧ Below w.heap.size w w') ∧ mvT (noIdle f) (List.range 9) = bioM xs := by
    by_cases h : MV xs
    · have := tableOf_yes xs h v w hx
      exact ⟨tabOf xs, by rw [show mvalid xs = true by simpa [mvalid] using h]; exact this, bioM_tab h⟩
    · have := tableOf_no xs h v w hx
      exact ⟨fun _ => emp, by rw [show mvalid xs = false by simpa [mvalid] using h]; exact this, bioM_zero h⟩
  have HX := Lib.hid hf
  have HLI := Lib.hid (fun W => list_c (noIdle f) W)
  rw [hm] at HLI
  clear hf hx hm
  go_enter Try.func100, Try.ntmps100
  go_wp2_with fail
  refine HX.out.mono ?_
  rintro e w1 ⟨rfl, hb1⟩
  have hs1 := hb1.size
  have k1 : At (w1.alloc (.cells (tabA f) 73)) w1.heap.size 73 (tabA f) := At.new w1 _ _
  have hB1 := hb1.alloc hs1 (.cells (tabA f) 73)
  have hs2 := hB1.size
  clear hb1
  go_wp2_with (refine ld_row rfl 73 (.tmp 4) rfl w1.heap.size 73 (tabC f) k1 (by rfl) 9 9 Try.underlying73 (by kernel_rfl) ?_; refine held ?_)
  unfold Held
  go_wp2_with (go_at_call 99; refine (idle_c f _).mono ?_; rintro e w5 ⟨rfl, hb5⟩; refine held ?_)
  unfold Held
  have hB5 := hB1.trans (hb5.mono hs2)
  have hs5 := hB5.size
  clear hb5 hB1
  go_wp2_with (go_at_call 71; refine (HLI.out _).mono ?_; rintro e w6 ⟨v', rfl, ho, hb6⟩; refine held ?_)
  unfold Held
  have hB6 := hB5.trans (hb6.mono hs5)
  have ho6 := own_more ho hs5
  clear hb6 hB5 ho
  go_wp2
  go_ret2
  exact ⟨_, rfl, ho6, hB6⟩

theorem orderedSteps_c (A : Option Addr) (n c : Nat) (w : World) :
    Calls Try.prog 112 #[.slice A n c] w fun e w' => e = .returned (.func (.func 142) #[] #[.pointer (some ⟨w.heap.size, 0, none⟩)]) ∧ w.alloc (.cells #[.slice A n c] 23) = w' := by
  go_enter Try.func112, Try.ntmps112
  go_wp2
  go_ret
  exact ⟨rfl, rfl⟩
theorem takenAhead_c (A : Option Addr) (n c : Nat) (w : World) :
    Calls Try.prog 102 #[.slice A n c] w fun e w' => e = .returned (.func (.func 135) #[] #[.pointer (some ⟨w.heap.size, 0, none⟩)]) ∧ w.alloc (.cells #[.slice A n c] 23) = w' := by
  go_enter Try.func102, Try.ntmps102
  go_wp2
  go_ret
  exact ⟨rfl, rfl⟩
set_option maxRecDepth 100000 in
set_option maxHeartbeats 1600000 in
theorem imOrderMoves_c (xs : List Mv) (v : Value) (w : World) (hx : RdM w v xs) :
    Calls Try.prog 54 #[v] w fun e w' => ∃ v', e = .returned (.tuple #[v', .bool (mvalid xs)]) ∧ w'.ownsRow w.heap.size 53 3 v' (ordM xs).length (scells (stL (ordM xs))) ∧ Below w.heap.size w w' := by
  have HB := Lib.hid (busyInOrder_c xs v w hx)
  have hwt := bioM_Wt xs
  have hln := bioM_len xs
  have HOB := Lib.hid (ordM_bio xs)
  rcases Bool.eq_false_or_eq_true (mvalid xs) with h1 | h1
  · have h1' := Lib.hid h1
    go_enter Try.func54, Try.ntmps54
    go_wp2_with fail
    refine HB.out.mono ?_
    rintro e w1 ⟨v1, he, ho1, hb1⟩
    rw [h1] at he
    subst he
    have hs1 := hb1.size
    have hbx : Below w1.heap.size w1 (w1.alloc (.cells #[v1] 23)) := (Below.refl _ _).alloc (Nat.le_refl _) _
    have hB1 := hb1.trans (hbx.mono hs1)
    have hrd : RdM (w1.alloc (.cells #[v1] 23)) v1 (bioM xs) := (Rd.of_own ho1).below hbx
    have hA : At (w1.alloc (.cells #[v1] 23)) w1.heap.size 23 #[v1] := At.new _ _ _
    have HC := Lib.hid (fun W hP => collectS_c (Pr := fun A => At A w1.heap.size 23 #[v1] ∧ RdM A v1 (bioM xs)) 142 #[] #[.pointer (some ⟨w1.heap.size, 0, none⟩)] (fun _ _ => rfl) (ordF 19 (bioM xs)) (order_iter (bioM xs) v1 w1.heap.size 4 (by omega) hwt hln) W hP (by have := ordF_len 19 (bioM xs); omega))
    obtain ⟨A1, c1, rfl, _⟩ := Rd.of_own ho1
    clear hb1 ho1 hwt hln h1
    generalize hbi : bioM xs = bi at *
    clear hbi
    go_wp2_with (go_at_call 112; refine (orderedSteps_c _ _ _ _).mono ?_; rintro e wq ⟨rfl, rfl⟩; refine held ?_)
    unfold Held
    go_wp2_with (go_at_call 111; refine (HC.out _ (fun A hAb => ⟨hA.keep hAb, hrd.below hAb⟩)).mono ?_; rintro e w2 ⟨v2, rfl, ho2, hb2⟩; refine held ?_)
    unfold Held
    have hB2 := hB1.trans (hb2.mono hB1.size)
    have ho3 := own_more ho2 hB1.size
    rw [← HOB.out] at ho3
    clear ho2 hb2 hB1 hrd hA
    go_wp2
    go_ret2
    exact ⟨_, by rw [h1'.out]; rfl, ho3, hB2⟩
  · have hno : ordM xs = [] := by unfold ordM; rw [if_neg (by rw [h1]; decide)]
    have HNO := Lib.hid hno
    clear hno
    go_enter Try.func54, Try.ntmps54
    go_wp2_with fail
    refine HB.out.mono ?_
    rintro e w1 ⟨v1, he, ho1, hb1⟩
    rw [h1] at he
    subst he
    go_wp2
    go_ret2
    exact ⟨_, by rw [h1]; rfl, by rw [HNO.out]; exact ⟨rfl, .inl ⟨rfl, rfl⟩⟩, hb1⟩
theorem imOrderMovesL_c (xs : List Mv) (v : Value) (w : World) (hx : RdM w v xs) :
    Calls Try.prog 54 #[v] w fun e w' => ∃ v', e = .returned (.tuple #[v', .bool (mvalid xs)]) ∧ w'.ownsRow w.heap.size 53 3 v' (stL (ordM xs)).length (scells (stL (ordM xs))) ∧ Below w.heap.size w w' := by
  rw [stL_len]; exact imOrderMoves_c xs v w hx
set_option maxRecDepth 100000 in
set_option maxHeartbeats 1600000 in
theorem imWithoutSpare_c (xs : List Mv) (v : Value) (w : World) (hx : RdM w v xs) :
    Calls Try.prog 45 #[v] w fun e w' => ∃ v', e = .returned (.tuple #[v', .bool (wspB xs)]) ∧ w'.ownsRow w.heap.size 33 2 v' (wspM xs).length (mcells (wspM xs)) ∧ Below w.heap.size w w' := by
  have HB := Lib.hid (busyInOrder_c xs v w hx)
  have hwt := bioM_Wt xs
  have hln := bioM_len xs
  have htl := takF_len 9 (bioM xs)
  have HY : Hid (mvalid xs = true → wspB xs = decide ((takF 9 (bioM xs)).length = (bioM xs).length) ∧ takM xs = takF 9 (bioM xs)) := fun h => by
    have : bioM xs = busyF xs 9 := if_pos h
    unfold wspB takM
    rw [h, this]; exact ⟨rfl, rfl⟩
  have HN : Hid (mvalid xs = false → wspB xs = false) := fun h => by unfold wspB; rw [h]; rfl
  have HWM : Hid (wspM xs = if wspB xs then takM xs else []) := rfl
  have HLL := Lib.hid htl
  go_enter Try.func45, Try.ntmps45
  go_wp2_with fail
  refine HB.out.mono ?_
  rintro e w1 ⟨v1, rfl, ho1, hb1⟩
  have hs1 := hb1.size
  have hbx : Below w1.heap.size w1 (w1.alloc (.cells #[v1] 23)) := (Below.refl _ _).alloc (Nat.le_refl _) _
  have hB1 := hb1.trans (hbx.mono hs1)
  have hrd : RdM (w1.alloc (.cells #[v1] 23)) v1 (bioM xs) := (Rd.of_own ho1).below hbx
  have hA : At (w1.alloc (.cells #[v1] 23)) w1.heap.size 23 #[v1] := At.new _ _ _
  have HC := Lib.hid (fun W hP => collectM_c (Pr := fun A => At A w1.heap.size 23 #[v1] ∧ RdM A v1 (bioM xs)) 135 #[] #[.pointer (some ⟨w1.heap.size, 0, none⟩)] (fun _ _ => rfl) (takF 9 (bioM xs)) (taken_iter (bioM xs) v1 w1.heap.size 4 (by omega) hwt hln) W hP (by omega))
  obtain ⟨A1, c1, rfl, _⟩ := Rd.of_own ho1
  clear hb1 ho1 hwt htl
  generalize htk : takF 9 (bioM xs) = tk at *
  generalize hbi : bioM xs = bi at *
  go_wp2_with (go_at_call 102; refine (takenAhead_c _ _ _ _).mono ?_; rintro e wq ⟨rfl, rfl⟩; refine held ?_)
  unfold Held
  go_wp2_with (go_at_call 101; refine (HC.out _ (fun A hAb => ⟨hA.keep hAb, hrd.below hAb⟩)).mono ?_; rintro e w2 ⟨v2, rfl, ho2, hb2⟩; refine held ?_)
  unfold Held
  have hB2 := hB1.trans (hb2.mono hB1.size)
  have ho3 := own_more ho2 hB1.size
  obtain ⟨A2, c2, rfl, _⟩ := Rd.of_own ho3
  clear ho2 hb2 hB1 hrd hA
  rcases Bool.eq_false_or_eq_true (mvalid xs) with h1 | h1
  · obtain ⟨hy1, hy2⟩ := HY.out h1
    by_cases hlt : tk.length < bi.length
    · have hF : Hid (wspB xs = false) := by show _ = _; rw [hy1]; simp; omega
      have hlt2 : (tk.length : Int) < (bi.length : Int) := by omega
      clear hy1 hy2
      go_wp2
      go_ret2
      exact ⟨_, by rw [hF.out]; rfl, by rw [HWM.out, hF.out]; exact ⟨rfl, .inl ⟨rfl, rfl⟩⟩, hB2⟩
    · have hle := HLL.out
      have hT : Hid (wspB xs = true) := by show _ = _; rw [hy1]; simp; omega
      have hlt2 : ¬ (tk.length : Int) < (bi.length : Int) := by omega
      have HY2 := Lib.hid hy2
      have HO := Lib.hid ho3
      clear hy1 hy2 ho3
      go_wp2
      go_ret2
      exact ⟨_, by rw [hT.out]; rfl, by rw [HWM.out, hT.out, if_pos rfl, HY2.out]; exact HO.out, hB2⟩
  · have hF : Hid (wspB xs = false) := HN.out h1
    go_wp2
    go_ret2
    exact ⟨_, by rw [hF.out]; rfl, by rw [HWM.out, hF.out]; exact ⟨rfl, .inl ⟨rfl, rfl⟩⟩, hB2⟩
end Go.Proofs.Ytbgchjjaaelkbaa
