import Derived.Test.YtplapaojgcloaaaGreatDoorSt2
import Derived.Test.YtplapaojgcloaaaGreatDoorNames
namespace Go.PM
open Go.RowKit
def aoP (t : Nat → ByteArray) (f : Nat → UInt8) (n : Nat) : Nat → UInt8 := fun q => if q < n then rdS f (srcT t q) else f q
theorem aoP_zero (t : Nat → ByteArray) (f : Nat → UInt8) : aoP t f 0 = f := by funext q; simp [aoP]
theorem aoP_nine (t : Nat → ByteArray) (f : Nat → UInt8) : aoP t f 9 = aoS t f := rfl
theorem aoP_succ (t : Nat → ByteArray) (f : Nat → UInt8) (p : Nat) : updS (aoP t f p) p (rdS f (srcT t p)) = aoP t f (p + 1) := by
  funext q
  unfold updS aoP
  by_cases h : q = p
  · subst h; simp
  · by_cases h2 : q < p
    · simp [h, h2, Nat.lt_succ_of_lt h2]
    · have : ¬ q < p + 1 := by omega
      simp [h, h2, this]
end Go.PM
namespace Go.Proofs.YtplapaojgcloaaaGreatDoor
open Go.RowKit Go.PM
attribute [local go_sem] Oper.semAt_some

set_option maxRecDepth 100000 in
set_option maxHeartbeats 2000000 in
theorem atOnce_c (t : Nat → ByteArray) (f : Nat → UInt8) (ht : ∀ p, p < 9 → okC (srcT t p) = true) (w : World) :
    Calls Tryz.prog 43 #[stV f, tabX t] w fun e w' => e = .returned (stV (aoS t f)) ∧ Below w.heap.size w w' := by
  change Calls Tryz.prog _ #[stV f, tabV t] w _
  have HR : ∀ (tmps : Array Value) (W : World) (g : Nat → UInt8) (b : Nat), At W b 72 (stC g) → tmps.getD 4 undef = .pointer (some ⟨b, 0, none⟩) →
      (results Tryz.f43 tmps).run Tryz.prog W = .ok (stV g) W := fun tmps W g b hA h4 =>
    results_row1 Tryz.results43 tmps W _ _ _ h4 hA 11 5 Tryz.underlying72 (by kernel_rfl)
  refine (callsIn_wide (n := 5)).1 ?_
  refine callsIn_of_wp_marks Tryz.func43 rfl trivial ?_ rfl
  simp only [Tryz.ntmps43, List.size_toArray, List.length_cons, List.length_nil, Nat.reduceAdd, Nat.reduceSub, Array.replicate_succ, Array.replicate_zero, List.push_toArray, List.append_toArray, List.nil_append, List.cons_append]
  obtain ⟨W0, hW0⟩ : ∃ W0 : World, W0 = (((w.alloc (.cells (stC f) 72)).alloc (.cells (tabC t) 53)).alloc (.cells zSA 72)).alloc (.cells zSA 72) := ⟨_, rfl⟩
  have hB0 : Below w.heap.size w W0 := by rw [hW0]; (repeat' (first | (with_reducible exact Below.refl _ _) | (with_reducible assumption) | (with_reducible refine Below.alloc ?_ ?_ _) | (with_reducible refine Below.drew ?_) | (with_reducible refine Below.setCell ?_ ?_ _) | (with_reducible exact Nat.le_refl _) | omega | ((repeat (first | rewrite [World.size_alloc] | rewrite [World.size_setCell] | rewrite [World.size_drew])); omega) | (simp; omega) | (simp; done)))
  have hS0 : W0.heap.size = w.heap.size + 4 := by rw [hW0]; simp only [World.size_alloc]
  have hA0 : At W0 w.heap.size 72 (stC f) := by rw [hW0]; exact (((At.new _ _ _).alloc _).alloc _).alloc _
  have hA1 : At W0 (w.heap.size + 1) 53 (tabC t) := by
    rw [hW0]; have := At.new (w.alloc (.cells (stC f) 72)) 53 (tabC t)
    rw [World.size_alloc] at this; exact (this.alloc _).alloc _
  have hA2 : At W0 (w.heap.size + 1 + 1) 72 zSA := by
    rw [hW0]; have := At.new ((w.alloc (.cells (stC f) 72)).alloc (.cells (tabC t) 53)) 72 zSA
    rw [World.size_alloc, World.size_alloc] at this; exact this.alloc _
  have hA3 : At W0 (w.heap.size + 1 + 1 + 1) 72 zSA := by
    rw [hW0]; have := At.new (((w.alloc (.cells (stC f) 72)).alloc (.cells (tabC t) 53)).alloc (.cells zSA 72)) 72 zSA
    rwa [World.size_alloc, World.size_alloc, World.size_alloc] at this
  have hl0 : At (((w.alloc (.cells (stC f) 72)).alloc (.cells (tabC t) 53)).alloc (.cells zSA 72)) w.heap.size 72 (stC f) := ((At.new _ _ _).alloc _).alloc _
  gi_wp2_with (first | (refine ldIn_row rfl 72 (.tmp 2) rfl w.heap.size 72 (stC f) hl0 (by rfl) 11 5 Tryz.underlying72 (by kernel_rfl) ?_) | (rw [← hW0]; refine stIn_row rfl 72 (.tmp 5) (.tmp 7) rfl rfl (w.heap.size + 1 + 1 + 1) 72 zSA (stC f) hA3 (by rfl) (by rfl) (by kernel_rfl) rfl (stC_one _) ?_; intro W5 hA5 hg5))
  have k0 := hA0.grown hg5 (by simp; omega)
  have k1 := hA1.grown hg5 (by simp)
  have k2 := hA2.grown hg5 (by simp)
  have kB : Below w.heap.size w W5 := hB0.trans (below_grown hg5 hB0.size (fun g hg => by cases hg; omega))
  have kS : w.heap.size + 4 ≤ W5.heap.size := by have := hg5.size; omega
  clear hA0 hA1 hA2 hA3 hl0 hg5 hB0 hS0 hW0
  refine range_law (F := Fence.wide) (gf := 58) (lf := #[.int .i64 9]) (lb := #[]) rfl (by decide) rfl trivial (fun args w => rfl) (encs := fun p : Nat => #[.int .i64 p]) (xs := List.range 9)
    (below_iter _ _ trivial rfl (by decide)) (fun _ => rfl)
    (fun pre W => At W w.heap.size 72 (stC f) ∧ At W (w.heap.size + 1) 53 (tabC t) ∧ At W (w.heap.size + 1 + 1) 72 zSA ∧ At W (w.heap.size + 1 + 1 + 1) 72 (stC (aoP t f pre.length)) ∧ Below w.heap.size w W)
    (fun _ _ _ => False) ?_ (fun _ => ownFrom_pure _ _) ?_ (fun p => { tmps := #[stV f, tabV t, .pointer (some ⟨w.heap.size, 0, none⟩), .pointer (some ⟨w.heap.size + 1, 0, none⟩), .pointer (some ⟨w.heap.size + 1 + 1, 0, none⟩), .pointer (some ⟨w.heap.size + 1 + 1 + 1, 0, none⟩), .int .i64 p, stV f, .func (.func 58) #[.int .i64 9] #[], .int .i64 p, undef, undef, undef, undef, undef, undef, undef, undef], defers := [] }) ?_ ?_ ?_ ?_
  · rintro s A A' row ⟨h1, h2, h3, h4, h5⟩ hg hr
    have hr' : ∀ r, row = some r → w.heap.size + 4 ≤ r := fun r e => by have := (hr r e).1; omega
    have hne : ∀ b, b < w.heap.size + 4 → some b ≠ row := fun b hb e => by have := hr' _ e.symm; omega
    exact ⟨h1.grown hg (hne _ (by omega)), h2.grown hg (hne _ (by omega)), h3.grown hg (hne _ (by omega)), h4.grown hg (hne _ (by omega)), h5.trans (below_grown hg h5.size (fun g e => by have := hr' _ e; omega))⟩
  · exact ⟨k0, k1, k2, by rw [List.length_nil, aoP_zero]; exact hA5, kB⟩
  · intro l p W Kc hK
    gi_wp2
    exact hK
  · clear k0 k1 k2 kB hA5
    rintro l pre p W ⟨h1, h2, h3, h4, h5⟩ hp hsz
    obtain ⟨hl, hp9⟩ := pre_len pre p hp
    rw [hl] at h4
    have HL : Hid ((pre ++ [p]).length = p + 1) := by show _ = _; simp [hl]
    have hst := stC_set (aoP t f p) p (by omega) (rdS f (srcT t p))
    rw [aoP_succ] at hst
    have HST := Lib.hid hst
    have hpc := stC_at (aoP t f p) p (by omega)
    have hS : ∀ x : Ext W.heap.size W.drew, Calls Tryz.prog 63 #[tabX t, .int .i64 p] x.val fun e w' => e = .returned (.string (srcT t p)) ∧ Below x.val.heap.size x.val w' := fun x => source_c t p hp9 x.val
    have hR : ∀ x : Ext W.heap.size W.drew, Calls Tryz.prog 68 #[stV f, .string (srcT t p)] x.val fun e w' => e = .returned (.int .u8 (rdS f (srcT t p)).toNat) ∧ Below x.val.heap.size x.val w' := fun x => read_c f _ (ht p hp9) x.val
    have hC1 := At.ext (W := W.drew) (B := W.heap.size) h1 h1.lt
    have hC2 := At.ext (W := W.drew) (B := W.heap.size) h2 h2.lt
    clear hst hl
    generalize aoP t f p = g at *
    generalize hg2 : aoP t f (p + 1) = g2 at *
    have HG2 := Lib.hid hg2
    clear hg2
    generalize rdS f (srcT t p) = v at *
    generalize srcT t p = q at *
    have i0 : (0 : Int) ≤ (p : Int) := by omega
    have i1 : (p : Int) < 11 := by omega
    gi_wp2
    refine region_tail_inRound (F := Fence.wide) (C := fun w' => ∃ x : Ext W.heap.size W.drew, w' = x.val) 7 rfl (by kernel_rfl) (by kernel_rfl) (by kernel_rfl) ⟨⟨_, Below.refl _ _⟩, rfl⟩ ?_
    simp only [List.take_succ_cons, List.take_zero, List.drop_succ_cons, List.drop_zero]
    gi_big_quiet_step (fail)
    refine rowIn_step rfl 72 (.tmp 2) rfl w.heap.size 72 (stC f) (by rfl) hC1 11 5 Tryz.underlying72 (by kernel_rfl) ?_
    simp only [Act.put, List.setIfInBounds_toArray, List.set_cons_succ, List.set_cons_zero]
    refine rowIn_step rfl 53 (.tmp 3) rfl (w.heap.size + 1) 53 (tabC t) (by rfl) hC2 9 9 Tryz.underlying53 (by kernel_rfl) ?_
    simp only [Act.put, List.setIfInBounds_toArray, List.set_cons_succ, List.set_cons_zero]
    gi_big_quiet_step (fail)
    (refine BigFrame.wpQuietIn_want (fun _ _ _ _ => trivial) rfl (fun K hK => ?_); gi_big_quiet_op; refine ⟨_, fun _ => callsIn_wide.2 (ext_call _ (Nat.le_refl _) (hS _)), hK _ ?_⟩; clear hK K)
    (refine BigFrame.wpQuietIn_want (fun _ _ _ _ => trivial) rfl (fun K hK => ?_); gi_big_quiet_op; refine ⟨_, fun _ => callsIn_wide.2 (ext_call _ (Nat.le_refl _) (hR _)), hK _ ?_⟩; clear hK K)
    gi_big_quiet_step (fail)
    refine wpQuietIn_nil ?_
    rintro W2 ⟨xw, rfl⟩
    have hb2 : Below W.heap.size W xw.val := ((Below.refl _ _).drew).trans xw.property
    clear hC1 hC2 hS hR
    generalize xw.val = W2 at *
    have m1 := h1.keep hb2
    have m2 := h2.keep hb2
    have m3 := h3.keep hb2
    have m4 := h4.keep hb2
    have m5 := h5.trans (hb2.mono h5.size)
    have mc := (m4.cell p).trans hpc
    have mf := m4.frozen p
    clear h1 h2 h3 h4 h5
    gi_wp2
    refine ⟨(keepsFrom_below hb2).trans ((KeepsOthers.setCell _ _ _).from _), KeepsIn.zero (by simp [World.size_setCell]; exact hb2.size), m1.far (by simp; omega) _, m2.far (by simp) _, m3.far (by simp) _, ?_, m5.setCell (by simp; omega) _⟩
    rw [HL.out, HG2.out, ← HST.out]
    exact m4.set p _
  · clear k0 k1 k2 kB hA5
    intro D W hD hI hd
    obtain ⟨h1, h2, h3, h4, h5⟩ := hI
    have h4' : At W (w.heap.size + 1 + 1 + 1) 72 (stC (aoS t f)) := h4
    clear h4
    have hDD : w.heap.size + 4 ≤ D := by omega
    generalize hg : aoS t f = g at *
    have HG := Lib.hid hg
    clear hg
    have hW5s := h5.size
    gi_wp2_with (first | (refine ldIn_row rfl 72 (.tmp 5) rfl (w.heap.size + 1 + 1 + 1) 72 (stC g) h4' (by rfl) 11 5 Tryz.underlying72 (by kernel_rfl) ?_) | (refine stIn_row rfl 72 (.tmp 4) (.tmp 17) rfl rfl (w.heap.size + 1 + 1) 72 zSA (stC g) h3 (by rfl) (by rfl) (by kernel_rfl) rfl (stC_one _) ?_; intro W6 hA6 hg6))
    have d6 : W6.heap[D]? = some (.deferred (some [])) := (hg6.block D (Array.getElem?_eq_some_iff.1 hd).1 (by simp; omega)).trans hd
    have bel : Below w.heap.size w W6 := h5.trans (below_grown hg6 hW5s (fun g hg => by cases hg; omega))
    simp only [Act.put, List.setIfInBounds_toArray, List.set_cons_succ, List.set_cons_zero]
    have fin : LeavesInM Fence.wide 5 Tryz.prog Tryz.f43 #[stV f, tabV t, .pointer (some ⟨w.heap.size, 0, none⟩), .pointer (some ⟨w.heap.size + 1, 0, none⟩), .pointer (some ⟨w.heap.size + 1 + 1, 0, none⟩), .pointer (some ⟨w.heap.size + 1 + 1 + 1, 0, none⟩), undef, stV f, .func (.func 58) #[.int .i64 9] #[], undef, undef, undef, undef, undef, undef, undef, undef, .agg (stC g)]
        (fun e w' => e = Ending.returned (stV (aoS t f)) ∧ Below w.heap.size w w') [] .returning (W6.putObj D (.deferred none)) := by
      exact ⟨_, HR _ _ g (w.heap.size + 1 + 1) ((World.putObj_heap_other (by omega)).trans hA6) rfl, by rw [HG.out], bel.trans ⟨rfl, rfl, rfl, by simp [World.putObj], fun k hk => World.putObj_heap_other (by omega)⟩⟩
    exact ⟨by simp, .inl ⟨D, _, rfl, run_takeDeferred d6, fin⟩⟩
  · intro _ _ _ _ _ _ hf
    exact hf.elim
end Go.Proofs.YtplapaojgcloaaaGreatDoor
