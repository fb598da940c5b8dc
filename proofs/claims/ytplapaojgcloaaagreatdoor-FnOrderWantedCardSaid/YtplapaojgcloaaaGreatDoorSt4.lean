import Derived.Test.YtplapaojgcloaaaGreatDoorSt3
import Derived.Outline
import Derived.Laws.EntriesVeiled
namespace Go.Proofs.YtplapaojgcloaaaGreatDoor
open Go.RowKit Go.PM

abbrev fnA : Array Value := #[.func (.func 66) #[] #[], .func (.func 67) #[] #[]]
set_option maxRecDepth 100000 in
set_option maxHeartbeats 1600000 in
theorem inOrder_c (xs : List St) (hv : ∀ k (hk : k < xs.length), stOk xs[k] = true) (v : Value) (f : Nat → UInt8) (w : World) (hx : RdS w v xs) :
    Calls Tryz.prog 42 #[stV f, v] w fun e w' => e = .returned (stV (runS xs xs.length f)) ∧ Below w.heap.size w w' := by
  have HR : ∀ (tmps : Array Value) (W : World) (g : Nat → UInt8) (b : Nat), At W b 72 (stC g) → tmps.getD 4 undef = .pointer (some ⟨b, 0, none⟩) →
      (results Tryz.f42 tmps).run Tryz.prog W = .ok (stV g) W := fun tmps W g b hA h4 =>
    results_row1 Tryz.results42 tmps W _ _ _ h4 hA 11 5 Tryz.underlying72 (by kernel_rfl)
  obtain ⟨A, cap, rfl, hn, hc, hcell⟩ := hx.open
  have HV := Lib.hid hv
  clear hv
  have HRS := Lib.hid (fun k hk => runS_succ xs k hk f)
  have HZ := Lib.hid (runS_zero xs f)
  go_enter Tryz.func42, Tryz.ntmps42
  go_wp2
  have hw0 : ∃ W0 : World, W0 = ((w.alloc (.cells (stC f) 72)).alloc (.cells zSA 72)).alloc (.cells fnA 103) := ⟨_, rfl⟩
  obtain ⟨W0, hW0⟩ := hw0
  have hB0 : Below w.heap.size w W0 := by rw [hW0]; (repeat' (first | (with_reducible exact Below.refl _ _) | (with_reducible assumption) | (with_reducible refine Below.alloc ?_ ?_ _) | (with_reducible refine Below.drew ?_) | (with_reducible refine Below.setCell ?_ ?_ _) | (with_reducible exact Nat.le_refl _) | omega | ((repeat (first | rewrite [World.size_alloc] | rewrite [World.size_setCell] | rewrite [World.size_drew])); omega) | (simp; omega) | (simp; done)))
  have hA0 : At W0 w.heap.size 72 (stC f) := by rw [hW0]; exact ((At.new _ _ _).alloc _).alloc _
  have hA1 : At W0 (w.heap.size + 1) 72 zSA := by
    rw [hW0]; have := At.new (w.alloc (.cells (stC f) 72)) 72 zSA
    rw [World.size_alloc] at this; exact this.alloc _
  have hA2 : At W0 (w.heap.size + 1 + 1) 103 fnA := by
    rw [hW0]; have := At.new ((w.alloc (.cells (stC f) 72)).alloc (.cells zSA 72)) 103 fnA
    rwa [World.size_alloc, World.size_alloc] at this
  rw [← hW0]
  clear hW0
  go_loopw [7, 11] (fun _ i wr => ∃ (k : Nat), k ≤ xs.length ∧ i = .int .i64 k ∧ Below w.heap.size w wr ∧ At wr w.heap.size 72 (stC (runS xs k f)) ∧ At wr (w.heap.size + 1) 72 zSA ∧ At wr (w.heap.size + 1 + 1) 103 fnA) (fun _ i _ => xs.length - (intOf i).toNat)
  case atStart => exact ⟨0, by omega, rfl, hB0, by rw [HZ.out]; exact hA0, hA1, hA2⟩
  case round =>
    clear hB0 hA0 hA1 hA2
    obtain ⟨k, hk, rfl, hb, hA0, hA1, hA2⟩ := hrel
    have hbs := hb.size
    by_cases hlt : k < xs.length
    · obtain ⟨b, off, rfl, hbl, hc1, hc2, hc3⟩ := hcell k hlt
      have hd1 := (hb.cell (p := ⟨b, off + k * 3, none⟩) hbl).trans hc1
      have hd2 := (hb.cell (p := ⟨b, off + k * 3 + 1, none⟩) hbl).trans hc2
      have hd3 := (hb.cell (p := ⟨b, off + k * 3 + 2, none⟩) hbl).trans hc3
      have hok : stOk (xs[k].1, xs[k].2.1, xs[k].2.2) = true := HV.out k hlt
      have hrs : runS xs (k + 1) f = doS (xs[k].1, xs[k].2.1, xs[k].2.2) (runS xs k f) := HRS.out k hlt
      clear hc1 hc2 hc3 hcell
      generalize xs[k].1 = x1 at *
      generalize xs[k].2.1 = x2 at *
      generalize xs[k].2.2 = x3 at *
      generalize runS xs k f = g at *
      have HRK := Lib.hid hrs
      clear hrs
      have l1 := hA1.lt
      have l2 := hA2.lt
      rcases stOk_kind hok with rfl | rfl
      · obtain ⟨o1, o2⟩ := stOk_move hok
        have hcall := fun W => moved_c g 0 x2 x3 o1 o2 W
        have HD : Hid (doS (0, x2, x3) g = updS g (cidx x2) (rdS g x3)) := rfl
        generalize updS g (cidx x2) (rdS g x3) = g2 at *
        clear hok o1 o2
        go_wp2
        obtain ⟨W1, hW1⟩ : ∃ W1 : World, W1 = (wr.alloc (.cells #[.int .i64 0, .string x2, .string x3] 51)).drew := ⟨_, rfl⟩
        have e0 : At W1 w.heap.size 72 (stC g) := by rw [hW1]; exact hA0.alloc _
        have e1 : At W1 (w.heap.size + 1) 72 zSA := by rw [hW1]; exact hA1.alloc _
        have e2 : At W1 (w.heap.size + 1 + 1) 103 fnA := by rw [hW1]; exact hA2.alloc _
        have e3 : At W1 wr.heap.size 51 #[.int .i64 0, .string x2, .string x3] := by rw [hW1]; exact At.new wr _ _
        have e4 : Below w.heap.size w W1 := by rw [hW1]; exact (hb.alloc hbs _).drew
        refine region_tail (C := fun w' => w' = W1) 6 (by kernel_rfl) (by kernel_rfl) hW1.symm ?_
        clear hW1
        simp only [List.take_succ_cons, List.take_zero, List.drop_succ_cons, List.drop_zero]
        clear hA0 hA1 hA2 hb hbs
        have q0 : W1.cell? ⟨wr.heap.size, 0, none⟩ = some (.int .i64 0) := e3.cell 0
        have q1 : W1.cell? ⟨wr.heap.size, 1, none⟩ = some (.string x2) := e3.cell 1
        have q2 : W1.cell? ⟨wr.heap.size, 2, none⟩ = some (.string x3) := e3.cell 2
        have q3 : W1.cell? ⟨w.heap.size + 1 + 1, 0, none⟩ = some (.func (.func 66) #[] #[]) := e2.cell 0
        go_big_quiet_step (fail)
        go_big_quiet_step (fail)
        go_big_quiet_step (fail)
        go_big_quiet_step (fail)
        refine row_step rfl 72 (.tmp 2) rfl w.heap.size 72 (stC g) (by rfl) (by rintro W rfl; exact e0) 11 5 Tryz.underlying72 (by kernel_rfl) ?_
        simp only [Act.put, List.setIfInBounds_toArray, List.set_cons_succ, List.set_cons_zero]
        go_big_quiet_step (fail)
        refine wpQuiet_nil ?_
        intro w' hw'
        subst hw'
        go_wp2_with fail
        refine (hcall _).mono ?_
        rintro e W2 ⟨rfl, hb2⟩
        have k0 := e0.keep hb2
        have k1 := e1.keep hb2
        have k2 := e2.keep hb2
        have k4 := e4.trans (hb2.mono e4.size)
        have k5 := k4.size
        go_wp2_with (refine st_row rfl 72 (.tmp 2) (.tmp 21) rfl rfl w.heap.size 72 (stC g) (stC g2) k0 (by rfl) (by rfl) (by kernel_rfl) rfl (stC_one _) ?_; intro W5 hA5 hg5)
        go_roundw
        case rel => exact ⟨k + 1, by omega, by go_num, k4.trans (below_grown hg5 k5 (fun g hg => by cases hg; omega)), by rw [HRK.out, HD.out]; exact hA5, k1.grown hg5 (by simp), k2.grown hg5 (by simp; omega)⟩
        case measure => simp [intOf]; omega
      · obtain ⟨o1, o2⟩ := stOk_swap hok
        have hcall := fun W => swapped_c g 1 x2 x3 o1 o2 W
        have HD : Hid (doS (1, x2, x3) g = swS g (cidx x2) (cidx x3)) := rfl
        generalize swS g (cidx x2) (cidx x3) = g2 at *
        clear hok o1 o2
        go_wp2
        obtain ⟨W1, hW1⟩ : ∃ W1 : World, W1 = (wr.alloc (.cells #[.int .i64 1, .string x2, .string x3] 51)).drew := ⟨_, rfl⟩
        have e0 : At W1 w.heap.size 72 (stC g) := by rw [hW1]; exact hA0.alloc _
        have e1 : At W1 (w.heap.size + 1) 72 zSA := by rw [hW1]; exact hA1.alloc _
        have e2 : At W1 (w.heap.size + 1 + 1) 103 fnA := by rw [hW1]; exact hA2.alloc _
        have e3 : At W1 wr.heap.size 51 #[.int .i64 1, .string x2, .string x3] := by rw [hW1]; exact At.new wr _ _
        have e4 : Below w.heap.size w W1 := by rw [hW1]; exact (hb.alloc hbs _).drew
        refine region_tail (C := fun w' => w' = W1) 6 (by kernel_rfl) (by kernel_rfl) hW1.symm ?_
        clear hW1
        simp only [List.take_succ_cons, List.take_zero, List.drop_succ_cons, List.drop_zero]
        clear hA0 hA1 hA2 hb hbs
        have q0 : W1.cell? ⟨wr.heap.size, 0, none⟩ = some (.int .i64 1) := e3.cell 0
        have q1 : W1.cell? ⟨wr.heap.size, 1, none⟩ = some (.string x2) := e3.cell 1
        have q2 : W1.cell? ⟨wr.heap.size, 2, none⟩ = some (.string x3) := e3.cell 2
        have q3 : W1.cell? ⟨w.heap.size + 1 + 1, 1, none⟩ = some (.func (.func 67) #[] #[]) := e2.cell 1
        go_big_quiet_step (fail)
        go_big_quiet_step (fail)
        go_big_quiet_step (fail)
        go_big_quiet_step (fail)
        refine row_step rfl 72 (.tmp 2) rfl w.heap.size 72 (stC g) (by rfl) (by rintro W rfl; exact e0) 11 5 Tryz.underlying72 (by kernel_rfl) ?_
        simp only [Act.put, List.setIfInBounds_toArray, List.set_cons_succ, List.set_cons_zero]
        go_big_quiet_step (fail)
        refine wpQuiet_nil ?_
        intro w' hw'
        subst hw'
        go_wp2_with fail
        refine (hcall _).mono ?_
        rintro e W2 ⟨rfl, hb2⟩
        have k0 := e0.keep hb2
        have k1 := e1.keep hb2
        have k2 := e2.keep hb2
        have k4 := e4.trans (hb2.mono e4.size)
        have k5 := k4.size
        go_wp2_with (refine st_row rfl 72 (.tmp 2) (.tmp 21) rfl rfl w.heap.size 72 (stC g) (stC g2) k0 (by rfl) (by rfl) (by kernel_rfl) rfl (stC_one _) ?_; intro W5 hA5 hg5)
        go_roundw
        case rel => exact ⟨k + 1, by omega, by go_num, k4.trans (below_grown hg5 k5 (fun g hg => by cases hg; omega)), by rw [HRK.out, HD.out]; exact hA5, k1.grown hg5 (by simp), k2.grown hg5 (by simp; omega)⟩
        case measure => simp [intOf]; omega
    · have hk' : k = xs.length := by omega
      have hA3 : At wr w.heap.size 72 (stC (runS xs xs.length f)) := by rw [← hk']; exact hA0
      clear hA0
      generalize hg : runS xs xs.length f = g at *
      have HG := Lib.hid hg
      clear hg
      go_wp2_with (first | (refine ld_row rfl 72 (.tmp 2) rfl w.heap.size 72 (stC g) hA3 (by rfl) 11 5 Tryz.underlying72 (by kernel_rfl) ?_) | (refine st_row rfl 72 (.tmp 4) (.tmp 23) rfl rfl (w.heap.size + 1) 72 zSA (stC g) hA1 (by rfl) (by rfl) (by kernel_rfl) rfl (stC_one _) ?_; intro W5 hA5 hg5))
      exact bodyPost_ret (v := stV g) (HR _ _ g (w.heap.size + 1) hA5 rfl) rfl ⟨by rw [HG.out], hb.trans (below_grown hg5 hbs (fun g hg => by cases hg; omega))⟩
end Go.Proofs.YtplapaojgcloaaaGreatDoor
