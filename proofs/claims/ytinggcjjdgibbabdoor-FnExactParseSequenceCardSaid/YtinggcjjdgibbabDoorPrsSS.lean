import Derived.Test.YtinggcjjdgibbabDoorPrsSI
import Derived.Test.YtinggcjjdgibbabDoorSpS2
namespace Go.Proofs.YtinggcjjdgibbabDoor
open Go.RowKit Go.PM
attribute [local go_sem] Oper.semAt_some

theorem sliceIn_st {F : Fence} {n : Nat} {o : Oper} {a : Act} {w : World} {K : Act → World → Prop} {Q : Exit → Act → World → Prop} (x : Operand) (ho : o.op = .buildSlice 23 1 #[(0, x)]) (k : Int) (s t : ByteArray) (hx : a.eval x = .agg #[.int .i64 k, .string s, .string t])
    (h : K (a.put o.dst (.slice (some ⟨w.heap.size, 0, none⟩) 1 1)) (w.alloc (.cells #[.int .i64 k, .string s, .string t] 49))) : o.wpIn F n Tryd.prog a w K Q := by
  obtain ⟨i0, hi0, hz0, hz1, hz2⟩ := info_parts infoSt
  refine sliceIn 23 49 1 #[(0, x)] ho #[.int .i64 k, .string s, .string t] i0 _ Tryd.underlying23 hi0 hz0 (by rw [hz1]; decide) (by rw [hz1]; decide) ?_ h
  have hr : Array.range 3 = #[0, 1, 2] := by decide
  simp [hx, hz1, Instr.fill, Value.cells, hr]

set_option maxRecDepth 100000 in
set_option maxHeartbeats 3200000 in
theorem spParseSequence_c (t : ByteArray) (w : World) (ht : t.size ≤ 1048576) :
    Calls Tryd.prog 14 #[.string t] w fun e w' => ∃ v', e = .returned (.tuple #[v', .bool (sqOk t)]) ∧ w'.ownsRow w.heap.size 49 3 v' (sqS t).length (scells (sqS t)) ∧ Below w.heap.size w w' := by
  have hE := World.ownsRow_lit (e := 49) (base := w.heap.size) (size := 3) w #[] 0 (Nat.le_refl _) (Nat.zero_le _) rfl
  have hd45 : (t.toList == [45]) = decide (t = ⟨#[45]⟩) := by
    have e : (ByteArray.mk #[45]).toList = [45] := by rw [ByteArray.toList_eq]
    have h := beq_str t ⟨#[45]⟩
    rw [e] at h; exact h
  by_cases h0 : t = ⟨#[45]⟩
  · have HK : Hid (sqOk t = true) := by show _ = _; rw [sqOk, decide_eq_true h0]; rfl
    have HM : Hid (sqS t = []) := if_pos h0
    subst h0
    clear hd45
    go_enter Tryd.func14, Tryd.ntmps14
    go_wp2
    go_ret2
    exact ⟨_, by rw [HK.out]; rfl, by rw [HM.out]; exact hE, by (repeat' (first | (with_reducible exact Below.refl _ _) | (with_reducible assumption) | (with_reducible refine Below.alloc ?_ ?_ _) | (with_reducible refine Below.drew ?_) | (with_reducible refine Below.setCell ?_ ?_ _) | (with_reducible exact Nat.le_refl _) | omega | ((repeat (first | rewrite [World.size_alloc] | rewrite [World.size_setCell] | rewrite [World.size_drew])); omega) | (simp; omega) | (simp; done)))⟩
  · have HK : Hid (sqOk t = ((cutP t 59).all pSOk && svalid (seqL t))) := by show _ = _; rw [sqOk, decide_eq_false h0]; rfl
    have HM : Hid (sqS t = if (cutP t 59).all pSOk && svalid (seqL t) then seqL t else []) := if_neg h0
    have HL : Hid (seqL t = (cutP t 59).map pS) := rfl
    have hb0 : (t.toList == [45]) = false := by rw [hd45, decide_eq_false h0]
    have HZ : Hid (∀ x ∈ cutP t 59, x.size ≤ 1048576) := fun x hx => Nat.le_trans (cutP_size hx) ht
    have hln := cutP_len t 59
    have HC := Lib.hid (l13Cut_c t 59 (w.alloc (.cells #[] 49)) ht)
    clear h0 hd45
    generalize seqL t = ms at *
    generalize cutP t 59 = ys at *
    go_enter Tryd.func14, Tryd.ntmps14
    go_wp2_with fail
    refine HC.out.mono ?_
    rintro e w1 ⟨u, rfl, ho1, hb1⟩
    have bel1 : Below w.heap.size w w1 := ((Below.refl _ _).alloc (Nat.le_refl _) _).trans (hb1.mono (by simp))
    have hs1 := bel1.size
    have hE1 := own_keep hE hb1
    obtain ⟨A, cap, rfl, hn, hc, _⟩ := Rd.one (Rd.of_own ho1)
    clear HC hE hb1
    go_wp2
    go_loopw [4, 6, 14] (fun o _ i wr => ∃ (k : Nat), k ≤ ys.length ∧ i = .int .i64 k ∧ Hid (∀ j (hj : j < ys.length), j < k → pSOk ys[j] = true) ∧ wr.ownsRow w.heap.size 49 3 o ((ys.take k).map pS).length (scells ((ys.take k).map pS)) ∧ Below w.heap.size w wr ∧ wr.ownsRow (w.alloc (.cells #[] 49)).heap.size 9 1 (.slice A ys.length cap) ys.length (ys.map Value.string)) (fun _ _ i _ => ys.length - (intOf i).toNat)
    case atStart => exact ⟨0, by omega, rfl, fun j _ h => absurd h (Nat.not_lt_zero _), hE1, bel1, ho1⟩
    case round =>
      obtain ⟨k, hk, rfl, hp, ho, hb, hy⟩ := hrel
      have hbs := hb.size
      by_cases hlt : k < ys.length
      · obtain ⟨A', cap', e', _, _, hcell⟩ := Rd.one (Rd.of_own hy)
        obtain ⟨rfl, rfl⟩ : A = A' ∧ cap = cap' := by cases e'; exact ⟨rfl, rfl⟩
        clear e'
        obtain ⟨b, off, rfl, hbl, hd1⟩ := hcell k hlt
        have hsz := HZ.out ys[k] (List.getElem_mem hlt)
        have HNO : Hid (pSOk ys[k] = false → ys.all pSOk = false) := fun h => all_no k hlt h
        have HST : Hid ((ys.take (k + 1)).map pS = (ys.take k).map pS ++ [pS ys[k]]) := by show _ = _; rw [take_snoc ys k hlt, List.map_append]; rfl
        have HPP : Hid (pSOk ys[k] = true → ∀ j (hj : j < ys.length), j < k + 1 → pSOk ys[j] = true) := fun h j hj hjk => by
          rcases Nat.lt_succ_iff_lt_or_eq.1 hjk with h2 | h2
          · exact hp.out j hj h2
          · subst h2; exact h
        have hl2 : ((ys.take k).map pS).length ≤ k := by simp; omega
        clear hcell
        generalize ys[k] = x at *
        by_cases h3 : x.size = 3
        · obtain ⟨a, e, c, rfl⟩ := three_of_size h3
          have hx0 : (ByteArray.mk #[a, e, c]).extract 0 1 = ⟨#[a]⟩ := rfl
          have hx1 : (ByteArray.mk #[a, e, c]).extract 2 3 = ⟨#[c]⟩ := rfl
          by_cases h61 : e = 61
          · subst h61
            have hF : ∀ W, Calls Tryd.prog 37 #[.string ⟨#[61, 126]⟩, .int .u8 (61 : UInt8).toNat] W fun e' w' => e' = .returned (.int .i64 0) ∧ W = w' := fun W => l13Find_c ⟨#[61, 126]⟩ 61 W (by decide)
            have HPM : Hid (pS ⟨#[a, 61, c]⟩ = (0, ⟨#[a]⟩, ⟨#[c]⟩)) := rfl
            have HP2 := Lib.hid (HPP.out rfl)
            have hnw := st_new wr.drew 0 ⟨#[a]⟩ ⟨#[c]⟩
            have hsd : wr.drew.heap.size = wr.heap.size := rfl
            clear HNO HPP
            go_wp2_with (go_at_call 37; refine (hF _).mono ?_; rintro e' w' ⟨rfl, rfl⟩)
            refine region_late_wide (m := 0) (C := fun w' => w' = wr.drew) (D := fun _ => True) 10 (by kernel_rfl) (by kernel_rfl) _ _ (by rfl) (by rfl) (by rfl) u4 (by intro _ _ _ h; exact h) (yieldsD_move (by rfl) _ (by rfl) u4 (by rfl)) (fun _ _ => trivial) rfl ?_
            simp only [List.take_succ_cons, List.take_zero, List.drop_succ_cons, List.drop_zero, Nat.reduceSub, Nat.reduceAdd]
            simp only [Act.put, List.setIfInBounds_toArray, List.set_cons_succ, List.set_cons_zero]
            gi_big_quiet_step (fail)
            gi_big_quiet_step (fail)
            refine BigFrame.wpQuietIn_want (fun _ _ _ _ => trivial) rfl (fun K hK => ?_)
            gi_big_quiet_op
            refine ⟨_, ⟨rfl, callsIn_wide.2 ((hF _).mono (fun e w' h => ⟨h.1, h.2.symm⟩))⟩, hK _ ?_⟩
            clear hK K
            repeat (gi_big_quiet_step (fail))
            refine wpQuietIn_nil ?_
            intro w' hw' K hK
            subst hw'
            refine sliceIn_st (.tmp 37) rfl 0 ⟨#[a]⟩ ⟨#[c]⟩ (by rfl) ?_
            refine hK _ _ trivial ?_
            clear hK K
            simp only [Act.put, List.setIfInBounds_toArray, List.set_cons_succ, List.set_cons_zero]
            refine listIn_st rfl (.tmp 28) (.tmp 38) rfl w.heap.size u4 ((ys.take k).map pS) (0, ⟨#[a]⟩, ⟨#[c]⟩) ⟨wr.drew.heap.size, 0, none⟩ 1 (by rfl) (by rfl) (own_keep (show wr.drew.ownsRow w.heap.size 49 3 u4 ((ys.take k).map pS).length (scells ((ys.take k).map pS)) from ho) ((Below.refl _ _).alloc (Nat.le_refl _) _)) hnw (by omega) (by simp; omega) ?_
            intro v' w3 hown3 hgrow3
            have hb3 := below_grown hgrow3 (B := w.heap.size) (by simp; omega) (own_block_ge ho)
            have hy3 := own_grown (own_keep (show wr.drew.ownsRow (w.alloc (.cells #[] 49)).heap.size 9 1 (.slice (some ⟨b, off, none⟩) ys.length cap) ys.length (ys.map Value.string) from hy) ((Below.refl _ _).alloc (Nat.le_refl _) _)) hgrow3 (rows_apart hy ho (by decide))
            have hbd : Below w.heap.size w wr.drew := hb.drew
            gi_wp2
            go_wp2
            go_roundw
            case rel => exact ⟨k + 1, by omega, by go_num, HP2.out, by rw [HST.out, HPM.out]; exact hown3, (hbd.alloc hbs _).trans hb3, hy3⟩
            case measure => simp [intOf] <;> omega
          by_cases h61b : e = 126
          · subst h61b
            have hF : ∀ W, Calls Tryd.prog 37 #[.string ⟨#[61, 126]⟩, .int .u8 (126 : UInt8).toNat] W fun e' w' => e' = .returned (.int .i64 1) ∧ W = w' := fun W => l13Find_c ⟨#[61, 126]⟩ 126 W (by decide)
            have HPM : Hid (pS ⟨#[a, 126, c]⟩ = (1, ⟨#[a]⟩, ⟨#[c]⟩)) := rfl
            have HP2 := Lib.hid (HPP.out rfl)
            have hnw := st_new wr.drew 1 ⟨#[a]⟩ ⟨#[c]⟩
            have hsd : wr.drew.heap.size = wr.heap.size := rfl
            clear HNO HPP
            go_wp2_with (go_at_call 37; refine (hF _).mono ?_; rintro e' w' ⟨rfl, rfl⟩)
            refine region_late_wide (m := 0) (C := fun w' => w' = wr.drew) (D := fun _ => True) 10 (by kernel_rfl) (by kernel_rfl) _ _ (by rfl) (by rfl) (by rfl) u4 (by intro _ _ _ h; exact h) (yieldsD_move (by rfl) _ (by rfl) u4 (by rfl)) (fun _ _ => trivial) rfl ?_
            simp only [List.take_succ_cons, List.take_zero, List.drop_succ_cons, List.drop_zero, Nat.reduceSub, Nat.reduceAdd]
            simp only [Act.put, List.setIfInBounds_toArray, List.set_cons_succ, List.set_cons_zero]
            gi_big_quiet_step (fail)
            gi_big_quiet_step (fail)
            refine BigFrame.wpQuietIn_want (fun _ _ _ _ => trivial) rfl (fun K hK => ?_)
            gi_big_quiet_op
            refine ⟨_, ⟨rfl, callsIn_wide.2 ((hF _).mono (fun e w' h => ⟨h.1, h.2.symm⟩))⟩, hK _ ?_⟩
            clear hK K
            repeat (gi_big_quiet_step (fail))
            refine wpQuietIn_nil ?_
            intro w' hw' K hK
            subst hw'
            refine sliceIn_st (.tmp 37) rfl 1 ⟨#[a]⟩ ⟨#[c]⟩ (by rfl) ?_
            refine hK _ _ trivial ?_
            clear hK K
            simp only [Act.put, List.setIfInBounds_toArray, List.set_cons_succ, List.set_cons_zero]
            refine listIn_st rfl (.tmp 28) (.tmp 38) rfl w.heap.size u4 ((ys.take k).map pS) (1, ⟨#[a]⟩, ⟨#[c]⟩) ⟨wr.drew.heap.size, 0, none⟩ 1 (by rfl) (by rfl) (own_keep (show wr.drew.ownsRow w.heap.size 49 3 u4 ((ys.take k).map pS).length (scells ((ys.take k).map pS)) from ho) ((Below.refl _ _).alloc (Nat.le_refl _) _)) hnw (by omega) (by simp; omega) ?_
            intro v' w3 hown3 hgrow3
            have hb3 := below_grown hgrow3 (B := w.heap.size) (by simp; omega) (own_block_ge ho)
            have hy3 := own_grown (own_keep (show wr.drew.ownsRow (w.alloc (.cells #[] 49)).heap.size 9 1 (.slice (some ⟨b, off, none⟩) ys.length cap) ys.length (ys.map Value.string) from hy) ((Below.refl _ _).alloc (Nat.le_refl _) _)) hgrow3 (rows_apart hy ho (by decide))
            have hbd : Below w.heap.size w wr.drew := hb.drew
            gi_wp2
            go_wp2
            go_roundw
            case rel => exact ⟨k + 1, by omega, by go_num, HP2.out, by rw [HST.out, HPM.out]; exact hown3, (hbd.alloc hbs _).trans hb3, hy3⟩
            case measure => simp [intOf] <;> omega
          · have hF : ∀ W, Calls Tryd.prog 37 #[.string ⟨#[61, 126]⟩, .int .u8 e.toNat] W fun e' w' => e' = .returned (.int .i64 (-1)) ∧ W = w' := fun W => by
              have := l13Find_c ⟨#[61, 126]⟩ e W (by decide)
              have h2 := sK_no h61 h61b
              unfold sK at h2
              rwa [show (ByteArray.mk #[61, 126]).data.toList = [61, 126] from rfl, h2] at this
            have HD : Hid (ys.all pSOk = false) := HNO.out (by simp [pSOk, h61, h61b])
            have hE3 := World.ownsRow_lit (e := 49) (base := w.heap.size) (size := 3) wr #[] 0 hbs (Nat.zero_le _) rfl
            go_wp2_with (go_at_call 37; refine (hF _).mono ?_; rintro e' w' ⟨rfl, rfl⟩)
            go_ret2
            exact ⟨_, by rw [HK.out, HD.out]; rfl, by rw [HM.out, HD.out]; exact hE3, hb.alloc hbs _⟩
        · have q : ¬ ((x.size : Int) = 3) := by omega
          have HD : Hid (ys.all pSOk = false) := HNO.out (pSOk_size h3)
          have hE3 := World.ownsRow_lit (e := 49) (base := w.heap.size) (size := 3) wr #[] 0 hbs (Nat.zero_le _) rfl
          go_wp2
          go_ret2
          exact ⟨_, by rw [HK.out, HD.out]; rfl, by rw [HM.out, HD.out]; exact hE3, hb.alloc hbs _⟩
      · have hkk : k = ys.length := by omega
        have HA : Hid (ys.all pSOk = true) := all_yes fun j hj => hp.out j hj (by omega)
        rw [hkk, List.take_of_length_le (Nat.le_refl _), ← HL.out] at ho
        have HMV := Lib.hid (spSequenceValid_c ms u4 wr (Rd.of_own ho))
        go_wp2_with fail
        refine HMV.out.mono ?_
        rintro e w3 ⟨rfl, hb3⟩
        rcases Bool.eq_false_or_eq_true (svalid ms) with hv | hv
        · have HV := Lib.hid hv
          rw [hv]
          have ho3 := own_keep ho hb3
          clear hv
          go_wp2
          go_ret2
          exact ⟨_, by rw [HK.out, HA.out, HV.out]; rfl, by rw [HM.out, HA.out, HV.out]; exact ho3, hb.trans (hb3.mono hbs)⟩
        · have HV := Lib.hid hv
          rw [hv]
          have hE3 := World.ownsRow_lit (e := 49) (base := w.heap.size) (size := 3) w3 #[] 0 (Nat.le_trans hbs hb3.size) (Nat.zero_le _) rfl
          clear hv
          go_wp2
          go_ret2
          exact ⟨_, by rw [HK.out, HA.out, HV.out]; rfl, by rw [HM.out, HA.out, HV.out]; exact hE3, ((hb.trans (hb3.mono hbs)).alloc (Nat.le_trans hbs hb3.size) _)⟩
end Go.Proofs.YtinggcjjdgibbabDoor
