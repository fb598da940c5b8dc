import Derived.Test.YtplapaojgcloaaaGreatDoorSt
import Derived.Test.YtplapaojgcloaaaGreatDoorM2
import Derived.Test.YtplapaojgcloaaaGreatDoorTail
import Derived.BigQuiet
import Derived.ChangeAlike
import Derived.RegionTactic
namespace Go.Proofs.YtplapaojgcloaaaGreatDoor
open Go.RowKit Go.PM

theorem read_c (f : Nat → UInt8) (a : ByteArray) (h : okC a = true) (w : World) :
    Calls Tryz.prog 68 #[stV f, .string a] w fun e w' => e = .returned (.int .u8 (rdS f a).toNat) ∧ Below w.heap.size w w' := by
  rcases Bool.eq_false_or_eq_true (isC a) with hc | hc
  · have hlt := cidx_lt hc
    have hr := rdS_cell (f := f) hc
    have hci := fun W => cellOf_yes a hc W
    have hA := At.new w 72 (stC f)
    have hpc := (hA.cell _).trans (stC_at f _ hlt)
    have HR := Lib.hid hr
    have i0 : (0 : Int) ≤ (cidx a : Int) := by omega
    have i1 : (cidx a : Int) < 11 := by omega
    clear h hc hr
    generalize cidx a = k at *
    go_enter Tryz.func68, Tryz.ntmps68
    go_wp2_with (go_at_call 86; refine (hci _).mono ?_; rintro e w' ⟨rfl, rfl⟩)
    go_ret
    exact ⟨by rw [HR.out]; rfl, by (repeat' (first | (with_reducible exact Below.refl _ _) | (with_reducible assumption) | (with_reducible refine Below.alloc ?_ ?_ _) | (with_reducible refine Below.drew ?_) | (with_reducible refine Below.setCell ?_ ?_ _) | (with_reducible exact Nat.le_refl _) | omega | ((repeat (first | rewrite [World.size_alloc] | rewrite [World.size_setCell] | rewrite [World.size_drew])); omega) | (simp; omega) | (simp; done)))⟩
  · have hd : isD a = true := by unfold okC at h; rw [hc, Bool.false_or] at h; exact h
    have hr := rdS_digit (f := f) hc
    have hsz := isD_size hd
    have hci := fun W => cellOf_no a hc W
    obtain ⟨c, rfl⟩ := one_of_size hsz
    have HR : Hid (rdS f ⟨#[c]⟩ = c) := hr
    clear h hc hr hd hsz
    go_enter Tryz.func68, Tryz.ntmps68
    go_wp2_with (go_at_call 86; refine (hci _).mono ?_; rintro e w' ⟨rfl, rfl⟩)
    go_ret
    exact ⟨by rw [HR.out]; rfl, by (repeat' (first | (with_reducible exact Below.refl _ _) | (with_reducible assumption) | (with_reducible refine Below.alloc ?_ ?_ _) | (with_reducible refine Below.drew ?_) | (with_reducible refine Below.setCell ?_ ?_ _) | (with_reducible exact Nat.le_refl _) | omega | ((repeat (first | rewrite [World.size_alloc] | rewrite [World.size_setCell] | rewrite [World.size_drew])); omega) | (simp; omega) | (simp; done)))⟩
/-- a whole array is read in a quiet region: the step -/
theorem row_step {P : Program} {ops : Array Oper} {C : World → Prop} {Q : Act → Prop} {a : Act} {o : Oper} {rest : List Oper} (hw : Region.wanted o (yielded ops a.tmps) = true) (ty : TypeId) (x : Operand) (ho : o.op = .load ty x) (b : Nat) (t : TypeId) (cs : Array Value)
    (hx : a.eval x = .pointer (some ⟨b, 0, none⟩)) (hC : ∀ W, C W → At W b t cs) (k : Nat) (e : TypeId) (hu : P.underlying ty = some (.array k e)) (hi : (P.info? ty).map (·.size) = some cs.size) (h : wpQuiet P ops C Q rest (a.put o.dst (.agg cs))) : wpQuiet P ops C Q (o :: rest) a :=
  BigFrame.wpQuiet_want hw fun _ hK => quiet_row ty x ho b t cs hx hC k e hu hi (hK _ h)

set_option maxRecDepth 100000 in
set_option maxHeartbeats 800000 in
theorem moved_c (f : Nat → UInt8) (k : Int) (a b : ByteArray) (h1 : isC a = true) (h2 : okC b = true) (w : World) :
    Calls Tryz.prog 66 #[stV f, .agg #[.int .i64 k, .string a, .string b]] w fun e w' => e = .returned (stV (updS f (cidx a) (rdS f b))) ∧ Below w.heap.size w w' := by
  have HR : ∀ (tmps : Array Value) (W : World) (g : Nat → UInt8) (b : Nat), At W b 72 (stC g) → tmps.getD 4 undef = .pointer (some ⟨b, 0, none⟩) →
      (results Tryz.f66 tmps).run Tryz.prog W = .ok (stV g) W := fun tmps W g b hA h4 =>
    results_row1 Tryz.results66 tmps W _ _ _ h4 hA 11 5 Tryz.underlying72 (by kernel_rfl)
  have hci := fun W => cellOf_yes a h1 W
  have hrd := fun W => read_c f b h2 W
  have hlt := cidx_lt h1
  have hst := stC_set f (cidx a) hlt (rdS f b)
  have hpc := stC_at f (cidx a) hlt
  have HST := Lib.hid hst
  clear h1 h2 hst
  have i0 : (0 : Int) ≤ (cidx a : Int) := by omega
  have i1 : (cidx a : Int) < 11 := by omega
  generalize rdS f b = v at *
  generalize cidx a = i at *
  generalize updS f i v = g at *
  obtain ⟨W0, hW0⟩ : ∃ W0 : World, W0 = ((w.alloc (.cells (stC f) 72)).alloc (.cells #[.int .i64 k, .string a, .string b] 51)).alloc (.cells zSA 72) := ⟨_, rfl⟩
  have hB0 : Below w.heap.size w W0 := by rw [hW0]; (repeat' (first | (with_reducible exact Below.refl _ _) | (with_reducible assumption) | (with_reducible refine Below.alloc ?_ ?_ _) | (with_reducible refine Below.drew ?_) | (with_reducible refine Below.setCell ?_ ?_ _) | (with_reducible exact Nat.le_refl _) | omega | ((repeat (first | rewrite [World.size_alloc] | rewrite [World.size_setCell] | rewrite [World.size_drew])); omega) | (simp; omega) | (simp; done)))
  have hA0 : At W0 w.heap.size 72 (stC f) := by rw [hW0]; exact ((At.new _ _ _).alloc _).alloc _
  have hA1 : At W0 (w.heap.size + 1) 51 #[.int .i64 k, .string a, .string b] := by
    rw [hW0]; have := At.new (w.alloc (.cells (stC f) 72)) 51 #[.int .i64 k, .string a, .string b]
    rw [World.size_alloc] at this; exact this.alloc _
  have hA2 : At W0 (w.heap.size + 2) 72 zSA := by
    rw [hW0]; have := At.new ((w.alloc (.cells (stC f) 72)).alloc (.cells #[.int .i64 k, .string a, .string b] 51)) 72 zSA
    rwa [World.size_alloc, World.size_alloc] at this
  have q1 : W0.cell? ⟨w.heap.size + 1, 1, none⟩ = some (.string a) := hA1.cell 1
  have q2 : W0.cell? ⟨w.heap.size + 1, 2, none⟩ = some (.string b) := hA1.cell 2
  go_enter Tryz.func66, Tryz.ntmps66
  go_wp2_with fail
  rw [← hW0]
  refine (hci _).mono ?_
  rintro e w' ⟨rfl, rfl⟩
  clear hW0
  go_wp2_with (refine ld_row rfl 72 (.tmp 2) rfl w.heap.size 72 (stC f) hA0 (by rfl) 11 5 Tryz.underlying72 (by kernel_rfl) ?_)
  refine (hrd _).mono ?_
  rintro e W1 ⟨rfl, hb1⟩
  have k0 := hA0.keep hb1
  have k2 := hA2.keep hb1
  have kB := hB0.trans (hb1.mono hB0.size)
  have kc := (k0.cell i).trans hpc
  have kf := k0.frozen i
  have kl := k0.lt
  have m0 := k0.set i (.int .u8 v.toNat)
  rw [HST.out] at m0
  have m2 := k2.far (p := ⟨w.heap.size, i, none⟩) (by simp) (.int .u8 v.toNat)
  clear k0 k2 hA0 hA1 hA2 q1 q2
  go_wp2_with (first | (refine ld_row rfl 72 (.tmp 2) rfl w.heap.size 72 (stC g) m0 (by rfl) 11 5 Tryz.underlying72 (by kernel_rfl) ?_) | (refine st_row rfl 72 (.tmp 4) (.tmp 21) rfl rfl (w.heap.size + 2) 72 zSA (stC g) m2 (by rfl) (by rfl) (by kernel_rfl) rfl (stC_one _) ?_; intro W5 hA5 hg5))
  exact bodyPost_ret (v := stV g) (HR _ _ g (w.heap.size + 2) hA5 rfl) rfl ⟨rfl, (kB.setCell (Nat.le_refl _) _).trans (below_grown hg5 (by simp; omega) (fun g hg => by cases hg; omega))⟩
set_option maxRecDepth 100000 in
set_option maxHeartbeats 1600000 in
theorem swapped_c (f : Nat → UInt8) (k : Int) (a b : ByteArray) (h1 : isC a = true) (h2 : isC b = true) (w : World) :
    Calls Tryz.prog 67 #[stV f, .agg #[.int .i64 k, .string a, .string b]] w fun e w' => e = .returned (stV (swS f (cidx a) (cidx b))) ∧ Below w.heap.size w w' := by
  have HR : ∀ (tmps : Array Value) (W : World) (g : Nat → UInt8) (b : Nat), At W b 72 (stC g) → tmps.getD 4 undef = .pointer (some ⟨b, 0, none⟩) →
      (results Tryz.f67 tmps).run Tryz.prog W = .ok (stV g) W := fun tmps W g b hA h4 =>
    results_row1 Tryz.results67 tmps W _ _ _ h4 hA 11 5 Tryz.underlying72 (by kernel_rfl)
  have hci := fun W => cellOf_yes a h1 W
  have hcj := fun W => cellOf_yes b h2 W
  have hli := cidx_lt h1
  have hlj := cidx_lt h2
  have hsi := stC_set f (cidx a) hli (f (cidx b))
  have hsj := stC_set (updS f (cidx a) (f (cidx b))) (cidx b) hlj (f (cidx a))
  rw [swS_impl] at hsj
  have hpi := stC_at f (cidx a) hli
  have hpj := stC_at f (cidx b) hlj
  have hpj2 := stC_at (updS f (cidx a) (f (cidx b))) (cidx b) hlj
  have HSI := Lib.hid hsi
  have HSJ := Lib.hid hsj
  clear h1 h2 hsi hsj
  have i0 : (0 : Int) ≤ (cidx a : Int) := by omega
  have i1 : (cidx a : Int) < 11 := by omega
  have i2 : (0 : Int) ≤ (cidx b : Int) := by omega
  have i3 : (cidx b : Int) < 11 := by omega
  generalize cidx a = i at *
  generalize cidx b = j at *
  generalize swS f i j = g at *
  generalize updS f i (f j) = g1 at *
  generalize hui : f i = u at *
  generalize huj : f j = v at *
  clear hui huj
  obtain ⟨W0, hW0⟩ : ∃ W0 : World, W0 = ((w.alloc (.cells (stC f) 72)).alloc (.cells #[.int .i64 k, .string a, .string b] 51)).alloc (.cells zSA 72) := ⟨_, rfl⟩
  have hB0 : Below w.heap.size w W0 := by rw [hW0]; (repeat' (first | (with_reducible exact Below.refl _ _) | (with_reducible assumption) | (with_reducible refine Below.alloc ?_ ?_ _) | (with_reducible refine Below.drew ?_) | (with_reducible refine Below.setCell ?_ ?_ _) | (with_reducible exact Nat.le_refl _) | omega | ((repeat (first | rewrite [World.size_alloc] | rewrite [World.size_setCell] | rewrite [World.size_drew])); omega) | (simp; omega) | (simp; done)))
  have hA0 : At W0 w.heap.size 72 (stC f) := by rw [hW0]; exact ((At.new _ _ _).alloc _).alloc _
  have hA1 : At W0 (w.heap.size + 1) 51 #[.int .i64 k, .string a, .string b] := by
    rw [hW0]; have := At.new (w.alloc (.cells (stC f) 72)) 51 #[.int .i64 k, .string a, .string b]
    rw [World.size_alloc] at this; exact this.alloc _
  have hA2 : At W0 (w.heap.size + 2) 72 zSA := by
    rw [hW0]; have := At.new ((w.alloc (.cells (stC f) 72)).alloc (.cells #[.int .i64 k, .string a, .string b] 51)) 72 zSA
    rwa [World.size_alloc, World.size_alloc] at this
  have q1 : W0.cell? ⟨w.heap.size + 1, 1, none⟩ = some (.string a) := hA1.cell 1
  have q2 : W0.cell? ⟨w.heap.size + 1, 2, none⟩ = some (.string b) := hA1.cell 2
  have p1 := (hA0.cell i).trans hpi
  have p2 := (hA0.cell j).trans hpj
  have f1 := hA0.frozen i
  have f2 := hA0.frozen j
  have hlt0 := hA0.lt
  have m1 := hA0.set i (.int .u8 v.toNat)
  rw [HSI.out] at m1
  have p3 := (m1.cell j).trans hpj2
  have f3 := m1.frozen j
  have m2 : At ((W0.setCell ⟨w.heap.size, i, none⟩ (.int .u8 v.toNat)).setCell ⟨w.heap.size, j, none⟩ (.int .u8 u.toNat)).drew w.heap.size 72 (stC g) := by
    have := m1.set j (.int .u8 u.toNat)
    rw [HSJ.out] at this
    exact this
  have n2 : At ((W0.setCell ⟨w.heap.size, i, none⟩ (.int .u8 v.toNat)).setCell ⟨w.heap.size, j, none⟩ (.int .u8 u.toNat)).drew (w.heap.size + 2) 72 zSA :=
    (hA2.far (p := ⟨w.heap.size, i, none⟩) (by simp) _).far (by simp) _
  clear hA1 hA2 hA0 m1
  go_enter Tryz.func67, Tryz.ntmps67
  go_wp2_with fail
  rw [← hW0]
  refine (hci _).mono ?_
  rintro e w' ⟨rfl, rfl⟩
  clear hW0
  go_wp2_with (go_at_call 86; refine (hcj _).mono ?_; rintro e w' ⟨rfl, rfl⟩)
  go_region
  all_goals
    go_wp2_with (first | (refine ld_row rfl 72 (.tmp 2) rfl w.heap.size 72 (stC g) m2 (by rfl) 11 5 Tryz.underlying72 (by kernel_rfl) ?_) | (refine st_row rfl 72 (.tmp 4) (.tmp 33) rfl rfl (w.heap.size + 2) 72 zSA (stC g) n2 (by rfl) (by rfl) (by kernel_rfl) rfl (stC_one _) ?_; intro W5 hA5 hg5))
    exact bodyPost_ret (v := stV g) (HR _ _ g (w.heap.size + 2) hA5 rfl) rfl ⟨rfl, ((hB0.setCell (Nat.le_refl _) _).setCell (Nat.le_refl _) _).drew.trans (below_grown hg5 (by simp; omega) (fun g hg => by cases hg; omega))⟩
end Go.Proofs.YtplapaojgcloaaaGreatDoor
