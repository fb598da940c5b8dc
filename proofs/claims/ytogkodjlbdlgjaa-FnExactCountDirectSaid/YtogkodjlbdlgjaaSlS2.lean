import Derived.Test.YtogkodjlbdlgjaaSlS
import Derived.Test.YtogkodjlbdlgjaaSlD
namespace Go.Proofs.Ytogkodjlbdlgjaa
open Go.RowKit Go.PM Go.PD Go.Lib
attribute [local go_sem] Oper.semAt_some

set_option maxRecDepth 100000 in
set_option maxHeartbeats 2000000 in
theorem l8Direct_c (xs : List St) (v : Value) (w : World) (hx : RdS w v xs) (hn' : xs.length ≤ 1048576) :
    Calls Try.prog 63 #[v] w fun e w' => ∃ v', e = .returned v' ∧ w'.ownsRow w.heap.size 67 3 v' (mkD xs).length (scells (mkD xs)) ∧ Below w.heap.size w w' := by
  have hE := World.ownsRow_lit (e := 67) (base := w.heap.size) (size := 3) w #[] 0 (Nat.le_refl _) (Nat.zero_le _) rfl
  have hB0 : Below w.heap.size w (w.alloc (.cells #[] 67)) := (Below.refl _ _).alloc (Nat.le_refl _) _
  obtain ⟨A, cap, rfl, hn, hc, hcell⟩ := hx.open
  have HLN := Lib.hid (fun k => mkD_takeLen xs k)
  have HFR := Lib.hid (fun k hk {x} e h => mkD_far xs k hk (x := x) e h)
  have HNR := Lib.hid (fun k hk {x} e h => mkD_near xs k hk (x := x) e h)
  have H0 : Hid (mkD (xs.take 0) = []) := rfl
  have HFULL : Hid (mkD (xs.take xs.length) = mkD xs) := by show _ = _; rw [List.take_length]
  have HMV := Lib.hid (fun a b W => l8Move_c a b W)
  clear hx
  go_enter Try.func63, Try.ntmps63
  go_wp2
  go_loopw [3, 5, 9] (fun o _ i wr => ∃ (k : Nat), k ≤ xs.length ∧ i = .int .i64 k ∧ wr.ownsRow w.heap.size 67 3 o (mkD (xs.take k)).length (scells (mkD (xs.take k))) ∧ Below w.heap.size w wr) (fun _ _ i _ => xs.length - (RowKit.intOf i).toNat)
  case atStart => exact ⟨0, by omega, rfl, by rw [H0.out]; exact hE, hB0⟩
  case round =>
    clear hE hB0
    obtain ⟨k, hk, rfl, ho, hb⟩ := hrel
    have hbs := hb.size
    by_cases hlt : k < xs.length
    · obtain ⟨b, off, rfl, hbl, hc1, hc2, hc3⟩ := hcell k hlt
      have hd1 := (hb.cell (p := ⟨b, off + k * 3, none⟩) hbl).trans hc1
      have hd2 := (hb.cell (p := ⟨b, off + k * 3 + 1, none⟩) hbl).trans hc2
      have hd3 := (hb.cell (p := ⟨b, off + k * 3 + 2, none⟩) hbl).trans hc3
      clear hc1 hc2 hc3 hcell
      have HE : Hid (xs[k] = (xs[k].1, xs[k].2.1, xs[k].2.2)) := rfl
      have hln := HLN.out k
      have HF := Lib.hid (fun h => HFR.out k hlt HE.out h)
      have HN := Lib.hid (fun h => HNR.out k hlt HE.out h)
      have HD := Lib.hid (fun W => l8Far_c xs[k].1 xs[k].2.1 xs[k].2.2 W)
      generalize xs[k].1 = x1 at *
      generalize xs[k].2.1 = x2 at *
      generalize xs[k].2.2 = x3 at *
      have hA1 : At (wr.alloc (.cells #[.int .i64 x1, .string x2, .string x3] 67)) wr.heap.size 67 #[.int .i64 x1, .string x2, .string x3] := At.new _ _ _
      have hB1 : Below wr.heap.size wr (wr.alloc (.cells #[.int .i64 x1, .string x2, .string x3] 67)) := (Below.refl _ _).alloc (Nat.le_refl _) _
      generalize hf : far (x1, x2, x3) = f at *
      cases f with
      | true =>
        have HFF := Lib.hid (HF.out rfl)
        clear HF HN hf
        go_wp2_with fail
        refine (HD.out _).mono ?_
        rintro e w2 ⟨rfl, hb2⟩
        have hN2 := hA1.keep hb2
        have hB2 := hB1.trans (hb2.mono hB1.size)
        have hb3 := hb.trans (hB2.mono hbs)
        have ho2 := own_keep ho hB2
        clear hA1 hB1 hb2 hB2 hb ho hd1 hd2 hd3
        have hl2 := hN2.lt
        have hs3 := hb3.size
        go_wp2
        have q1 : ∀ x : Ext w2.heap.size w2.drew, x.val.cell? ⟨wr.heap.size, 1, none⟩ = some (.string x2) := fun x => (x.property.cell (p := ⟨wr.heap.size, 1, none⟩) hl2).trans (hN2.cell 1)
        have q2 : ∀ x : Ext w2.heap.size w2.drew, x.val.cell? ⟨wr.heap.size, 2, none⟩ = some (.string x3) := fun x => (x.property.cell (p := ⟨wr.heap.size, 2, none⟩) hl2).trans (hN2.cell 2)
        have hM1 : ∀ x : Ext w2.heap.size w2.drew, Calls Try.prog 54 #[.string spU, .string x3] x.val fun e w' => e = .returned (.agg #[.int .i64 0, .string spU, .string x3]) ∧ Below x.val.heap.size x.val w' := fun x => HMV.out _ _ _
        have hM2 : ∀ x : Ext w2.heap.size w2.drew, Calls Try.prog 54 #[.string x2, .string spU] x.val fun e w' => e = .returned (.agg #[.int .i64 0, .string x2, .string spU]) ∧ Below x.val.heap.size x.val w' := fun x => HMV.out _ _ _
        refine region_late_wide (m := 1) (C := fun w' => ∃ x : Ext w2.heap.size w2.drew, w' = x.val) (D := fun _ => True) 9 (by kernel_rfl) (by kernel_rfl) _ _ (by rfl) (by rfl) (by rfl) u3 (by intro _ _ _ h; exact h) (yieldsD_move (by rfl) _ (by rfl) u3 (by rfl)) (fun _ _ => trivial) ⟨⟨_, Below.refl _ _⟩, rfl⟩ ?_
        simp only [List.take_succ_cons, List.take_zero, List.drop_succ_cons, List.drop_zero, Nat.reduceSub, Nat.reduceAdd]
        simp only [Act.put, List.setIfInBounds_toArray, List.set_cons_succ, List.set_cons_zero]
        gi_big_quiet_step (fail)
        gi_big_quiet_step (fail)
        gi_big_quiet_step (fail)
        (refine BigFrame.wpQuietIn_want (fun _ _ _ _ => trivial) rfl (fun K hK => ?_); gi_big_quiet_op; refine ⟨_, fun _ => callsIn_wide.2 (ext_call _ (Nat.le_refl _) (hM1 _)), hK _ ?_⟩; clear hK K)
        gi_big_quiet_step (fail)
        gi_big_quiet_step (fail)
        gi_big_quiet_step (fail)
        (refine BigFrame.wpQuietIn_want (fun _ _ _ _ => trivial) rfl (fun K hK => ?_); gi_big_quiet_op; refine ⟨_, fun _ => callsIn_wide.2 (ext_call _ (Nat.le_refl _) (hM2 _)), hK _ ?_⟩; clear hK K)
        refine wpQuietIn_nil ?_
        intro w3 hw3 K hK
        obtain ⟨xw, hxw⟩ := hw3
        have hbw : Below w2.heap.size w2 w3 := by rw [hxw]; exact (Below.refl _ _).drew.trans xw.property
        clear hxw xw q1 q2 hM1 hM2
        have ho3 := own_keep ho2 hbw
        have hb4 := hb3.trans (hbw.mono hs3)
        have hs4 := hb4.size
        refine sliceIn_st2 (.tmp 19) (.tmp 23) rfl 0 0 spU x3 x2 spU (by rfl) (by rfl) ?_
        refine hK _ _ trivial ?_
        clear hK K
        simp only [Act.put, List.setIfInBounds_toArray, List.set_cons_succ, List.set_cons_zero]
        have hnw := cells_new w3 #[.int .i64 0, .string spU, .string x3, .int .i64 0, .string x2, .string spU] 67
        refine listIn_sts rfl (.tmp 15) (.tmp 24) rfl w.heap.size u3 (mkD (xs.take k)) [(0, spU, x3), (0, x2, spU)] ⟨w3.heap.size, 0, none⟩ 2 2 rfl (by decide) (by rfl) (by rfl) (own_keep ho3 ((Below.refl _ _).alloc (Nat.le_refl _) _)) hnw (by simp; omega) (by simp; omega) ?_
        intro v' w4 hown4 hgrow4
        have hb5 := (hb4.alloc hs4 (.cells #[.int .i64 0, .string spU, .string x3, .int .i64 0, .string x2, .string spU] 67)).trans (below_grown hgrow4 (B := w.heap.size) (by simp; omega) (own_block_ge ho3))
        have hown5 : w4.ownsRow w.heap.size 67 3 v' (mkD (xs.take (k + 1))).length (scells (mkD (xs.take (k + 1)))) := by
          rw [HFF.out, List.append_assoc]; exact hown4
        clear hown4 hgrow4 hnw ho3 ho2 hb4 hb3 hbw
        gi_wp2
        go_wp2
        go_roundw
        case rel => exact ⟨k + 1, by omega, by go_num, hown5, hb5⟩
        case measure => simp [RowKit.intOf]; omega
      | false =>
        have HNN := Lib.hid (HN.out rfl)
        clear HF HN hf
        go_wp2_with fail
        refine (HD.out _).mono ?_
        rintro e w2 ⟨rfl, hb2⟩
        have hN2 := hA1.keep hb2
        have hB2 := hB1.trans (hb2.mono hB1.size)
        have hb3 := hb.trans (hB2.mono hbs)
        have ho2 := own_keep ho hB2
        clear hA1 hB1 hb2 hB2 hb ho hd1 hd2 hd3
        have hs3 := hb3.size
        have c0 : w2.cell? ⟨wr.heap.size, 0, none⟩ = some (.int .i64 x1) := hN2.cell 0
        have c1 : w2.cell? ⟨wr.heap.size, 1, none⟩ = some (.string x2) := hN2.cell 1
        have c2 : w2.cell? ⟨wr.heap.size, 2, none⟩ = some (.string x3) := hN2.cell 2
        have hnw := cells_new w2 #[.int .i64 x1, .string x2, .string x3] 67
        go_wp2_with (at_builtin; refine held ?_)
        unfold Held
        refine app_sts rfl (.tmp 26) (.tmp 28) rfl w.heap.size u3 (mkD (xs.take k)) [(x1, x2, x3)] ⟨w2.heap.size, 0, none⟩ 1 1 rfl (by decide) (by rfl) (by rfl) (own_keep ho2 ((Below.refl _ _).alloc (Nat.le_refl _) _)) hnw (by simp; omega) (by simp; omega) ?_
        intro v' w4 hown4 hgrow4
        have hb5 := (hb3.alloc hs3 (.cells #[.int .i64 x1, .string x2, .string x3] 67)).trans (below_grown hgrow4 (B := w.heap.size) (by simp; omega) (own_block_ge ho2))
        have hown5 : w4.ownsRow w.heap.size 67 3 v' (mkD (xs.take (k + 1))).length (scells (mkD (xs.take (k + 1)))) := by
          rw [HNN.out]; exact hown4
        clear hown4 hgrow4 hnw ho2 hb3 c0 c1 c2 hN2
        go_wp2
        go_roundw
        case rel => exact ⟨k + 1, by omega, by go_num, hown5, hb5⟩
        case measure => simp [RowKit.intOf]; omega
    · have hk' : k = xs.length := by omega
      have ho2 := ho
      rw [hk', HFULL.out] at ho2
      clear hcell ho
      go_wp2
      go_ret
      exact ⟨_, rfl, ho2, hb⟩
end Go.Proofs.Ytogkodjlbdlgjaa
