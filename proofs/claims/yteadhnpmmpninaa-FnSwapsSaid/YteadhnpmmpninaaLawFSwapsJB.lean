import Derived.Test.YteadhnpmmpninaaLawFSwapsJA
import Derived.Test.YteadhnpmmpninaaHold
import Derived.Test.YteadhnpmmpninaaRow
import Derived.Deep.RegionHeld3
import Derived.Test.YteadhnpmmpninaaRingI
import Derived.Test.YteadhnpmmpninaaBusyP
import Derived.Test.YteadhnpmmpninaaIm2
import Derived.Test.YteadhnpmmpninaaTail
import Derived.BigQuiet
import Derived.ChangeAlike
import Derived.RegionTactic
import Derived.Laws.CopyOwn
import Derived.Outline
import Derived.Laws.EntriesVeiled
import Derived.Test.YteadhnpmmpninaaNames
import Derived.Test.YteadhnpmmpninaaSp1
import Derived.Test.YteadhnpmmpninaaSource
import Derived.Test.YteadhnpmmpninaaNamesIn
namespace Go.PS
open Go.PM Go.RowKit
theorem bkF_idx {f : Nat → ByteArray} (h : Exch (srcT f)) {q : Nat} (hq : q < 9) : isP (bkF f 9 q) = true ∧ pidx (bkF f 9 q) = invI (srcT f) q := by
  have h1 := h.inv hq
  have h2 := bkF_at h 9 (Nat.le_refl _) _ h1.1
  rw [h1.2, pidx_nm hq] at h2
  rw [h2]
  exact ⟨isP_nm h1.1, pidx_nm h1.1⟩
/-- the goals of the first k places are laid -/
def halfG (g : Nat → Nat) (k : Nat) : Nat → Nat := fun p => if p < k then g p else 0
theorem halfG_step (g : Nat → Nat) (k : Nat) : setN (halfG g k) k (g k) = halfG g (k + 1) := by
  funext x
  show (if x = k then g k else if x < k then g x else 0) = if x < k + 1 then g x else 0
  by_cases h1 : x = k
  · subst h1; rw [if_pos rfl, if_pos (by omega)]
  · rw [if_neg h1]
    by_cases h2 : x < k
    · rw [if_pos h2, if_pos (by omega)]
    · rw [if_neg h2, if_neg (by omega)]
theorem halfG_full (g : Nat → Nat) : gC (halfG g 9) = gC g := gC_congr fun p hp => by
  show (if p < 9 then g p else 0) = g p
  rw [if_pos hp]
end Go.PS
namespace Go.Proofs.Yteadhnpmmpninaa
open Go.RowKit Go.PM Go.PS Go.Lib
attribute [local go_sem] Oper.semAt_some

set_option maxRecDepth 100000 in
set_option maxHeartbeats 4000000 in
theorem permutationOf_c (f : Nat → ByteArray) (hE : Exch (srcT f)) (w : World) :
    Calls Try.prog 45 #[tabX f] w fun e w' => ∃ b, e = .returned (.pointer (some ⟨b, 0, none⟩)) ∧ At w' b 106 (gC (invI (srcT f))) ∧ w.heap.size ≤ b ∧ Below w.heap.size w w' := by
  have HU := Lib.hid (fun W => undone_c f hE W)
  have HB := Lib.hid (fun q hq => bkF_idx hE (q := q) hq)
  clear hE
  generalize bkF f 9 = bk at *
  generalize invI (srcT f) = g at *
  refine (callsIn_wide (n := 5)).1 ?_
  refine callsIn_of_wp_marks Try.func45 rfl trivial ?_ rfl
  simp only [Try.ntmps45, List.size_toArray, List.length_cons, List.length_nil, Nat.reduceAdd, Nat.reduceSub, Array.replicate_succ, Array.replicate_zero, List.push_toArray, List.append_toArray, List.nil_append, List.cons_append]
  have hA0 : At (w.alloc (.cells (tabC f) 56)) w.heap.size 56 (tabC f) := At.new _ _ _
  gi_wp2_with (refine ldIn_row rfl 56 (.tmp 1) rfl w.heap.size 56 (tabC f) (hA0.alloc _) (by rfl) 9 9 Try.underlying56 (by kernel_rfl) ?_; refine held ?_)
  unfold Held
  have hP0 : At ((w.alloc (.cells (tabC f) 56)).alloc (.cells (gC (fun _ => 0)) 106)) (w.heap.size + 1) 106 (gC (fun _ => 0)) := by
    have := At.new (w.alloc (.cells (tabC f) 56)) 106 (gC (fun _ => 0))
    rwa [World.size_alloc] at this
  have hB0 : Below w.heap.size w ((w.alloc (.cells (tabC f) 56)).alloc (.cells (gC (fun _ => 0)) 106)) := ((Below.refl _ _).alloc (Nat.le_refl _) _).alloc (by simp) _
  clear hA0
  gi_wp2_with fail
  refine ⟨trivial, callsIn_wide.2 ((HU.out _).mono ?_)⟩
  rintro e w1 ⟨rfl, hb1⟩
  have hP1 := hP0.keep hb1
  have hB1 := hB0.trans (hb1.mono hB0.size)
  have hs1 := hB1.size
  have hPl := hP1.lt
  clear hP0 hB0 hb1
  gi_wp2_with fail
  obtain ⟨W0, hW0⟩ : ∃ W0 : World, W0 = ((w1.alloc (.cells #[.pointer (some ⟨w.heap.size + 1, 0, none⟩)] 59)).alloc (.cells (tabA bk) 56)) := ⟨_, rfl⟩
  have hS0 : W0.heap.size = w1.heap.size + 2 := by rw [hW0]; simp only [World.size_alloc]
  have hB0 : Below w.heap.size w W0 := by rw [hW0]; exact (hB1.alloc hs1 _).alloc (by simp; omega) _
  have hA0 : At W0 w1.heap.size 59 #[.pointer (some ⟨w.heap.size + 1, 0, none⟩)] := by rw [hW0]; exact (At.new _ _ _).alloc _
  have hA1 : At W0 (w1.heap.size + 1) 56 (tabA bk) := by
    rw [hW0]; have := At.new (w1.alloc (.cells #[.pointer (some ⟨w.heap.size + 1, 0, none⟩)] 59)) 56 (tabA bk)
    rwa [World.size_alloc] at this
  have hA2 : At W0 (w.heap.size + 1) 106 (gC (halfG g 0)) := by
    rw [hW0, show halfG g 0 = fun _ => 0 by funext x; simp [halfG]]; exact (hP1.alloc _).alloc _
  rw [← hW0]
  clear hW0 hP1 hB1
  refine range_law (F := Fence.wide) (gf := 89) (lf := #[.int .i64 9]) (lb := #[]) rfl (by decide) rfl trivial (fun args w => rfl) (encs := fun p : Nat => #[.int .i64 p]) (xs := List.range 9)
    (below_iter _ _ trivial rfl (by decide)) (fun _ => rfl)
    (fun pre W => At W (w.heap.size + 1) 106 (gC (halfG g pre.length)) ∧ At W w1.heap.size 59 #[.pointer (some ⟨w.heap.size + 1, 0, none⟩)] ∧ At W (w1.heap.size + 1) 56 (tabA bk) ∧ Below w.heap.size w W)
    (fun _ _ _ => False) ?_ (fun _ => ownFrom_pure _ _) ?_ (fun p => { tmps := #[tabX f, .pointer (some ⟨w.heap.size, 0, none⟩), .pointer none, .pointer (some ⟨w1.heap.size, 0, none⟩), .pointer (some ⟨w1.heap.size + 1, 0, none⟩), .int .i64 p, .pointer (some ⟨w.heap.size + 1, 0, none⟩), .agg (tabC f), tabX bk, .func (.func 89) #[.int .i64 9] #[], .int .i64 p, undef, undef, undef, undef, undef, undef, undef, undef, undef, undef, undef, undef], defers := [] }) ?_ ?_ ?_ ?_
  · rintro s A A' row ⟨h1, h2, h3, h4⟩ hg hr
    exact ⟨at_turn h1 hg (fun r e => (hr r e).2), at_turn h2 hg (fun r e => (hr r e).2), at_turn h3 hg (fun r e => (hr r e).2), h4.trans (below_grown hg h4.size (fun g e => by have := (hr g e).1; have := hB0.size; omega))⟩
  · exact ⟨hA2, hA0, hA1, hB0⟩
  · intro l p W Kc hK
    gi_wp2
    exact hK
  · clear hA0 hA1 hA2
    rintro l pre p W ⟨h1, h2, h3, h4⟩ hp hsz
    obtain ⟨hl, hp9⟩ := pre_len pre p hp
    rw [hl] at h1
    have HL : Hid ((pre ++ [p]).length = p + 1) := by show _ = _; simp [hl]
    obtain ⟨b1, b2⟩ := HB.out p hp9
    have HST := Lib.hid (halfG_step g p)
    have HSET := Lib.hid (gC_set (halfG g p) p hp9 (g p))
    have HIX := fun W' => indexOf_yes (bk p) b1 W'
    rw [b2] at HIX
    have hz4 := h4.size
    have l1 := h1.lt
    have l2 := h2.lt
    have l3 := h3.lt
    have i0 : (0 : Int) ≤ (p : Int) := by omega
    have i1 : (p : Int) < 9 := by omega
    have c2 : W.drew.cell? ⟨w1.heap.size, 0, none⟩ = some (.pointer (some ⟨w.heap.size + 1, 0, none⟩)) := h2.cell 0
    have c3 : W.drew.cell? ⟨w1.heap.size + 1, p, none⟩ = some (.string (bk p)) := (h3.cell p).trans (tabC_at bk p hp9)
    have c1 : W.drew.cell? ⟨w.heap.size + 1, p, none⟩ = some (.int .i64 (halfG g p p : Nat)) := (h1.cell p).trans (gC_at _ p hp9)
    have f1 : W.drew.frozen? ⟨w.heap.size + 1, p, none⟩ = false := h1.frozen p
    have fin : KeepsFrom W0.heap.size W (W.drew.setCell ⟨w.heap.size + 1, p, none⟩ (.int .i64 (g p : Nat))) ∧ KeepsIn (W0.heap.size + 2) 0 W (W.drew.setCell ⟨w.heap.size + 1, p, none⟩ (.int .i64 (g p : Nat))) ∧
        At (W.drew.setCell ⟨w.heap.size + 1, p, none⟩ (.int .i64 (g p : Nat))) (w.heap.size + 1) 106 (gC (halfG g (pre ++ [p]).length)) ∧
        At (W.drew.setCell ⟨w.heap.size + 1, p, none⟩ (.int .i64 (g p : Nat))) w1.heap.size 59 #[.pointer (some ⟨w.heap.size + 1, 0, none⟩)] ∧
        At (W.drew.setCell ⟨w.heap.size + 1, p, none⟩ (.int .i64 (g p : Nat))) (w1.heap.size + 1) 56 (tabA bk) ∧ Below w.heap.size w (W.drew.setCell ⟨w.heap.size + 1, p, none⟩ (.int .i64 (g p : Nat))) := by
      refine ⟨((KeepsOthers.drew W).trans (KeepsOthers.setCell _ _ _)).from _, KeepsIn.zero (by simp [World.size_setCell]), ?_, At.far (w := W.drew) h2 (by show w1.heap.size ≠ w.heap.size + 1; omega) _, At.far (w := W.drew) h3 (by show w1.heap.size + 1 ≠ w.heap.size + 1; omega) _, h4.drew.setCell (by show w.heap.size ≤ w.heap.size + 1; omega) _⟩
      rw [HL.out]
      have := At.set (w := W.drew) h1 p (.int .i64 (g p : Nat))
      rw [HSET.out, HST.out] at this
      exact this
    have FIN := Lib.hid fin
    clear fin h1 h2 h3 b1 b2 HL HB HST HSET
    generalize halfG g p p = oldv at *
    generalize g p = j at *
    generalize bk p = s at *
    gi_wp2
    refine region_inRound (F := Fence.wide) rfl (by kernel_rfl) (by kernel_rfl) ?_
    (refine wpAnyIn_take (i := 1) (v := ?_) rfl rfl (by kernel_rfl) (by kernel_rfl) (by kernel_rfl) (fun _ _ _ h => h) ⟨Or.inl ⟨by rfl, by intro w0; go_simp; try with_reducible rfl⟩, fun _ => rfl⟩ ?_)
    (refine wpAnyIn_take (i := 2) (v := ?_) rfl rfl (by kernel_rfl) (by kernel_rfl) (by kernel_rfl) (fun _ _ _ h => h) ⟨Or.inl ⟨by rfl, by intro w0; go_simp; try with_reducible rfl⟩, fun _ => rfl⟩ ?_)
    (refine wpAnyIn_take (i := 3) (v := ?_) rfl rfl (by kernel_rfl) (by kernel_rfl) (by kernel_rfl) (fun _ _ _ h => h) ⟨Or.inl ⟨by rfl, by intro w0; go_simp; try with_reducible rfl⟩, fun _ => rfl⟩ ?_)
    (refine wpAnyIn_ready (rs := [0, 4]) (by kernel_rfl) (by simp) ?_; refine AllReadyIn.cons rfl (fun Kr hKr => ?_) (AllReadyIn.cons rfl (fun Kr hKr => ?_) (AllReadyIn.nil)))
    · (go_simp; refine hKr _ _ ?_; clear hKr Kr)
      (refine wpAnyIn_take (i := 9) (v := ?_) rfl rfl (by kernel_rfl) (by kernel_rfl) (by kernel_rfl) (fun _ _ _ h => h) ⟨Or.inl ⟨by rfl, by intro w0; go_simp; try with_reducible rfl⟩, fun _ => rfl⟩ ?_)
      (refine wpAnyIn_ready (rs := [4]) (by kernel_rfl) (by simp) ?_; refine AllReadyIn.cons rfl (fun Kr hKr => ?_) (AllReadyIn.nil))
      (go_simp; refine hKr _ _ ?_; clear hKr Kr)
      (refine wpAnyIn_ready (rs := [5]) (by kernel_rfl) (by simp) ?_; refine AllReadyIn.cons rfl (fun Kr hKr => ?_) (AllReadyIn.nil))
      (go_simp; refine ⟨trivial, callsIn_wide.2 ((HIX _).mono ?_)⟩; rintro e wq ⟨rfl, rfl⟩; refine hKr _ _ ?_; clear hKr Kr)
      (refine wpAnyIn_take (i := 6) (v := ?_) rfl rfl (by kernel_rfl) (by kernel_rfl) (by kernel_rfl) (fun _ _ _ h => h) ⟨Or.inl ⟨by rfl, by intro w0; go_simp; try with_reducible rfl⟩, fun _ => rfl⟩ ?_)
      (refine wpAnyIn_take (i := 7) (v := ?_) rfl rfl (by kernel_rfl) (by kernel_rfl) (by kernel_rfl) (fun _ _ _ h => h) ⟨Or.inl ⟨by rfl, by intro w0; go_simp; try with_reducible rfl⟩, fun _ => rfl⟩ ?_)
      (refine wpAnyIn_take (i := 8) (v := ?_) rfl rfl (by kernel_rfl) (by kernel_rfl) (by kernel_rfl) (fun _ _ _ h => h) ⟨Or.inl ⟨by rfl, by intro w0; go_simp; try with_reducible rfl⟩, fun _ => rfl⟩ ?_)
      (refine wpAnyIn_take (i := 10) (v := ?_) rfl rfl (by kernel_rfl) (by kernel_rfl) (by kernel_rfl) (fun _ _ _ h => h) ⟨Or.inl ⟨by rfl, by intro w0; go_simp; try with_reducible rfl⟩, fun _ => rfl⟩ ?_)
      (refine wpAnyIn_ready (rs := [11]) (by kernel_rfl) (by simp) ?_; refine AllReadyIn.cons rfl (fun Kr hKr => ?_) (AllReadyIn.nil))
      (go_simp; refine hKr _ _ ?_; clear hKr Kr)
      refine wpAnyIn_done (by kernel_rfl) ?_ _
      exact FIN.out
    · (go_simp; refine hKr _ _ ?_; clear hKr Kr)
      (refine wpAnyIn_ready (rs := [0, 5]) (by kernel_rfl) (by simp) ?_; refine AllReadyIn.cons rfl (fun Kr hKr => ?_) (AllReadyIn.cons rfl (fun Kr hKr => ?_) (AllReadyIn.nil)))
      · (go_simp; refine hKr _ _ ?_; clear hKr Kr)
        (refine wpAnyIn_take (i := 9) (v := ?_) rfl rfl (by kernel_rfl) (by kernel_rfl) (by kernel_rfl) (fun _ _ _ h => h) ⟨Or.inl ⟨by rfl, by intro w0; go_simp; try with_reducible rfl⟩, fun _ => rfl⟩ ?_)
        (refine wpAnyIn_ready (rs := [5]) (by kernel_rfl) (by simp) ?_; refine AllReadyIn.cons rfl (fun Kr hKr => ?_) (AllReadyIn.nil))
        (go_simp; refine ⟨trivial, callsIn_wide.2 ((HIX _).mono ?_)⟩; rintro e wq ⟨rfl, rfl⟩; refine hKr _ _ ?_; clear hKr Kr)
        (refine wpAnyIn_take (i := 6) (v := ?_) rfl rfl (by kernel_rfl) (by kernel_rfl) (by kernel_rfl) (fun _ _ _ h => h) ⟨Or.inl ⟨by rfl, by intro w0; go_simp; try with_reducible rfl⟩, fun _ => rfl⟩ ?_)
        (refine wpAnyIn_take (i := 7) (v := ?_) rfl rfl (by kernel_rfl) (by kernel_rfl) (by kernel_rfl) (fun _ _ _ h => h) ⟨Or.inl ⟨by rfl, by intro w0; go_simp; try with_reducible rfl⟩, fun _ => rfl⟩ ?_)
        (refine wpAnyIn_take (i := 8) (v := ?_) rfl rfl (by kernel_rfl) (by kernel_rfl) (by kernel_rfl) (fun _ _ _ h => h) ⟨Or.inl ⟨by rfl, by intro w0; go_simp; try with_reducible rfl⟩, fun _ => rfl⟩ ?_)
        (refine wpAnyIn_take (i := 10) (v := ?_) rfl rfl (by kernel_rfl) (by kernel_rfl) (by kernel_rfl) (fun _ _ _ h => h) ⟨Or.inl ⟨by rfl, by intro w0; go_simp; try with_reducible rfl⟩, fun _ => rfl⟩ ?_)
        (refine wpAnyIn_ready (rs := [11]) (by kernel_rfl) (by simp) ?_; refine AllReadyIn.cons rfl (fun Kr hKr => ?_) (AllReadyIn.nil))
        (go_simp; refine hKr _ _ ?_; clear hKr Kr)
        refine wpAnyIn_done (by kernel_rfl) ?_ _
        exact FIN.out
      · (go_simp; refine ⟨trivial, callsIn_wide.2 ((HIX _).mono ?_)⟩; rintro e wq ⟨rfl, rfl⟩; refine hKr _ _ ?_; clear hKr Kr)
        (refine wpAnyIn_take (i := 6) (v := ?_) rfl rfl (by kernel_rfl) (by kernel_rfl) (by kernel_rfl) (fun _ _ _ h => h) ⟨Or.inl ⟨by rfl, by intro w0; go_simp; try with_reducible rfl⟩, fun _ => rfl⟩ ?_)
        (refine wpAnyIn_take (i := 7) (v := ?_) rfl rfl (by kernel_rfl) (by kernel_rfl) (by kernel_rfl) (fun _ _ _ h => h) ⟨Or.inl ⟨by rfl, by intro w0; go_simp; try with_reducible rfl⟩, fun _ => rfl⟩ ?_)
        (refine wpAnyIn_take (i := 8) (v := ?_) rfl rfl (by kernel_rfl) (by kernel_rfl) (by kernel_rfl) (fun _ _ _ h => h) ⟨Or.inl ⟨by rfl, by intro w0; go_simp; try with_reducible rfl⟩, fun _ => rfl⟩ ?_)
        (refine wpAnyIn_ready (rs := [0]) (by kernel_rfl) (by simp) ?_; refine AllReadyIn.cons rfl (fun Kr hKr => ?_) (AllReadyIn.nil))
        (go_simp; refine hKr _ _ ?_; clear hKr Kr)
        (refine wpAnyIn_take (i := 9) (v := ?_) rfl rfl (by kernel_rfl) (by kernel_rfl) (by kernel_rfl) (fun _ _ _ h => h) ⟨Or.inl ⟨by rfl, by intro w0; go_simp; try with_reducible rfl⟩, fun _ => rfl⟩ ?_)
        (refine wpAnyIn_take (i := 10) (v := ?_) rfl rfl (by kernel_rfl) (by kernel_rfl) (by kernel_rfl) (fun _ _ _ h => h) ⟨Or.inl ⟨by rfl, by intro w0; go_simp; try with_reducible rfl⟩, fun _ => rfl⟩ ?_)
        (refine wpAnyIn_ready (rs := [11]) (by kernel_rfl) (by simp) ?_; refine AllReadyIn.cons rfl (fun Kr hKr => ?_) (AllReadyIn.nil))
        (go_simp; refine hKr _ _ ?_; clear hKr Kr)
        refine wpAnyIn_done (by kernel_rfl) ?_ _
        exact FIN.out
  · intro D W hD hI hd
    obtain ⟨h1, h2, h3, h4⟩ := hI
    have c2 : W.cell? ⟨w1.heap.size, 0, none⟩ = some (.pointer (some ⟨w.heap.size + 1, 0, none⟩)) := h2.cell 0
    have h1' : At W (w.heap.size + 1) 106 (gC g) := by
      have h1 : At W (w.heap.size + 1) 106 (gC (halfG g 9)) := h1
      rwa [halfG_full] at h1
    have hDD : w1.heap.size + 2 ≤ D := by first | omega | simpa [World.size_alloc, Nat.add_assoc] using hD
    clear h1 h2 h3 hA0 hA1 hA2
    gi_wp2
    refine ⟨by simp, .inl ⟨D, _, rfl, run_takeDeferred hd, ?_⟩⟩
    exact ⟨_, results_tmp rfl _ _ _, w.heap.size + 1, rfl, (World.putObj_heap_other (by omega)).trans h1', by omega, h4.trans ⟨rfl, rfl, rfl, by simp [World.putObj], fun k hk => World.putObj_heap_other (by omega)⟩⟩
  · intro _ _ _ _ _ _ hf
    exact hf.elim
end Go.Proofs.Yteadhnpmmpninaa
namespace Go.PM
open Go.RowKit
theorem SVal_then {f g : Nat → ByteArray} (h1 : SVal (srcT f)) (h2 : SVal (srcT g)) : SVal (srcT (thenF f g)) := by
  intro p hp
  rw [srcT_then]
  exact SVal_cmp h1 h2 p hp
theorem SVal_tab {xs : List Mv} (h : MV xs) : SVal (srcT (tabOf xs)) := by
  intro p hp
  rw [srcT_M h hp]
  exact SVal_M h p hp
theorem SVal_zero : SVal (srcT fun _ => emp) := fun _ h => isS_nm h
/-- what the loop of power holds: what is done, what is left -/
structure PwR (f : Nat → ByteArray) (N : Nat) (d x : Nat → ByteArray) (k : Nat) : Prop where
  inv : PwInv f N d x k
  dv : SVal (srcT d)
  xv : SVal (srcT x)
theorem PwR.start {f : Nat → ByteArray} (h : SVal (srcT f)) (N : Nat) : PwR f N (fun _ => emp) f N := ⟨PwInv_start f N, SVal_zero, h⟩
theorem PwR.odd {f d x : Nat → ByteArray} {N n : Nat} (h : PwR f N d x n) (h1 : n % 2 = 1) : PwR f N (thenF d x) (thenF x x) (n / 2) := ⟨PwInv_odd h.inv h1, SVal_then h.dv h.xv, SVal_then h.xv h.xv⟩
theorem PwR.even {f d x : Nat → ByteArray} {N n : Nat} (h : PwR f N d x n) (h1 : n % 2 = 0) : PwR f N d (thenF x x) (n / 2) := ⟨PwInv_even h.inv h1, h.dv, SVal_then h.xv h.xv⟩
theorem PwR.done {f d x : Nat → ByteArray} {N : Nat} (h : PwR f N d x 0) : ∀ p, p < 9 → srcT d p = pwF (srcT f) N p := fun _ hp => PwInv_end h.inv hp
end Go.PM
namespace Go.Proofs.Yteadhnpmmpninaa
open Go.RowKit Go.PM

theorem idle_v (f : Nat → ByteArray) (w : World) :
    Calls Try.prog 71 #[tabX f] w fun e w' => e = .returned (tabX (noIdle f)) ∧ Below w.heap.size w w' := idle_c f w
end Go.Proofs.Yteadhnpmmpninaa
namespace Go.PM
open Go.RowKit
theorem compM_len (xs ys : List Mv) : (compM xs ys).length ≤ 9 := by
  unfold compM
  split
  · exact lsF_len _ 9
  · simp
theorem compM_yes {xs ys : List Mv} (h1 : mvalid xs = true) (h2 : mvalid ys = true) : compM xs ys = lsF (cmpM xs ys) 9 := by rw [compM, h1, h2]; rfl
theorem compM_no {xs ys : List Mv} (h : (mvalid xs && mvalid ys) = false) : compM xs ys = [] := by rw [compM, h]; rfl
def pwL (xs : List Mv) (n : Nat) : List Mv := lsF (pwF (fun q => srcM xs (nm q)) n) 9
theorem pwL_zero (xs : List Mv) : pwL xs 0 = [] := lsF_nm
theorem pwL_succ (xs : List Mv) (n : Nat) : lsF (cmpM (pwL xs n) xs) 9 = pwL xs (n + 1) := cmpM_pw xs n
theorem pwL_len (xs : List Mv) (n : Nat) : (pwL xs n).length ≤ 9 := lsF_len _ 9
def powOk (xs : List Mv) (n : Int) : Bool := mvalid xs && (decide (0 ≤ n) && decide (n ≤ 60))
theorem powM_yes {xs : List Mv} {n : Int} (h : powOk xs n = true) : powM xs n = pwL xs n.toNat := by
  unfold powOk at h; rw [powM, h]; rfl
theorem powM_no {xs : List Mv} {n : Int} (h : powOk xs n = false) : powM xs n = [] := by
  unfold powOk at h; rw [powM, h]; rfl
theorem powM_len (xs : List Mv) (n : Int) : (powM xs n).length ≤ 9 := by
  unfold powM
  split
  · exact lsF_len _ 9
  · simp
end Go.PM
namespace Go.Proofs.Yteadhnpmmpninaa
open Go.RowKit Go.PM

end Go.Proofs.Yteadhnpmmpninaa
namespace Go.PM
open Go.RowKit
theorem powM_tab {xs : List Mv} (h : MV xs) {d : Nat → ByteArray} {n : Nat} (hn : n ≤ 60) (hd : ∀ p, p < 9 → srcT d p = pwF (srcT (tabOf xs)) n p) : mvT (noIdle d) (List.range 9) = powM xs (n : Int) := by
  have m1 : mvalid xs = true := by simpa [mvalid] using h
  have hok : powOk xs (n : Int) = true := by
    unfold powOk
    rw [m1]
    simp
    omega
  rw [powM_yes hok, mvT_idle]
  refine lsF_congr fun p hp => ?_
  rw [hd p hp]
  exact pwF_congr (fun q hq => srcT_M h hq) n p hp
end Go.PM
namespace Go.Proofs.Yteadhnpmmpninaa
open Go.RowKit Go.PM

end Go.Proofs.Yteadhnpmmpninaa
namespace Go.PM
open Go.RowKit
theorem undoM_len (xs : List Mv) : (undoM xs).length ≤ 9 := by
  unfold undoM
  split
  · exact lsF_len _ 9
  · simp
theorem undoM_yes {xs : List Mv} (h : exchB xs = true) : undoM xs = unL xs 9 := by rw [undoM, if_pos h, unL_inv (exchB_M h)]
theorem undoM_no {xs : List Mv} (h : exchB xs = false) : undoM xs = [] := by rw [undoM, h]; rfl
def lostB (xs : List Mv) : ByteArray := okS (mvalid xs) (leavesB xs)
theorem exchB_eq (xs : List Mv) : exchB xs = (mvalid xs && decide (lostB xs = emp)) := by
  unfold exchB lostB okS
  cases mvalid xs <;> simp
end Go.PM
namespace Go.Proofs.Yteadhnpmmpninaa
open Go.RowKit Go.PM

set_option maxRecDepth 100000 in
set_option maxHeartbeats 1000000 in
theorem spLostBy_c (xs : List Mv) (v : Value) (w : World) (hx : RdM w v xs) (hz : ∀ m ∈ xs, m.1.size ≤ 9223372036854775807 ∧ m.2.size ≤ 9223372036854775807) (hn' : xs.length ≤ 1048576) :
    Calls Try.prog 92 #[v] w fun e w' => e = .returned (.tuple #[.string (lostB xs), .bool (mvalid xs)]) ∧ Below w.heap.size w w' := by
  have HO : Hid (lostB xs = if mvalid xs then leavesB xs else ⟨#[]⟩) := rfl
  have HV := Lib.hid (spMovesValid_c xs v w hx hz hn')
  rcases Bool.eq_false_or_eq_true (mvalid xs) with h1 | h1
  · have HN : Hid (∀ q, q < 9 → (ByteArray.mk #[97, 98, 99, 100, 101, 102, 65, 66, 67]).extract q (q+1) = nm q) := by
      show ∀ q, _
      intro q hq
      match q, hq with
      | 0, _ | 1, _ | 2, _ | 3, _ | 4, _ | 5, _ | 6, _ | 7, _ | 8, _ => decide +kernel
    have HALL := Lib.hid (show namesS (lostH xs) 9 = leavesB xs from lost_leaf (xs := xs) (by simpa [mvalid] using h1))
    have HX := Lib.hid (fun W (hW : Below w.heap.size w W) => hx.below hW)
    have HSS := Lib.hid (fun W (hW : RdM W v xs) a => l1Source_c xs v a W hW)
    have HRR := Lib.hid (fun W (hW : RdM W v xs) a => l1Readers_c xs v a W hW)
    have H1 := Lib.hid h1
    clear hx hz h1
    go_enter Try.func92, Try.ntmps92
    go_wp2_with fail
    refine HV.out.mono ?_
    rintro e w1 ⟨he, hb1⟩
    rw [H1.out] at he
    subst he
    have hs1 := hb1.size
    go_wp2
    go_loopw [4, 10] (fun o i wr => ∃ k : Nat, k ≤ 9 ∧ i = .int .i64 k ∧ o = .string (namesS (lostH xs) k) ∧ Below w.heap.size w wr) (fun _ i _ => 9 - (intOf i).toNat)
    case atStart => exact ⟨0, by omega, rfl, rfl, hb1⟩
    case round =>
      obtain ⟨k, hk, rfl, rfl, hb⟩ := hrel
      have hbs := hb.size
      by_cases hlt : k < 9
      · have hex := HN.out k hlt
        have hsz := namesS_size (lostH xs) k
        have HY := Lib.hid (namesS_yes (lostH xs) k)
        have HZ := Lib.hid (namesS_no (lostH xs) k)
        have HH := Lib.hid (show lostH xs k = (decide (srcM xs (nm k) ≠ nm k) && decide (namesW (rsH xs (nm k)) = emp)) from rfl)
        have HC := Lib.hid (HSS.out wr (HX.out wr hb) (nm k))
        have HRK := Lib.hid (fun W hW => HRR.out W (HX.out W hW) (nm k))
        generalize namesS (lostH xs) k = s0 at *
        generalize namesW (rsH xs (nm k)) = rr at *
        generalize srcM xs (nm k) = sk at *
        have hq1 : (nm k).size = 1 := rfl
        generalize nm k = q at *
        rcases Bool.eq_false_or_eq_true (sk.toList == q.toList) with hd | hd
        · have HD := Lib.hid hd
          go_wp2_with fail
          refine HC.out.mono ?_
          rintro e w2 ⟨rfl, hb2⟩
          have hbw := hb.trans (hb2.mono hbs)
          clear hb2 hb
          go_wp2
          go_roundw
          case rel =>
            have h := HD.out
            rw [beq_str, decide_eq_true_eq] at h
            exact ⟨k + 1, by omega, by go_num, by rw [HZ.out (by rw [HH.out, h]; simp)], hbw⟩
          case measure => simp [intOf]; omega
        · have HD := Lib.hid hd
          go_wp2_with fail
          refine HC.out.mono ?_
          rintro e w2 ⟨rfl, hb2⟩
          have hbw := hb.trans (hb2.mono hbs)
          have hbws := hbw.size
          have HR2 := Lib.hid (HRK.out w2 hbw)
          clear hb2 hb
          rcases Bool.eq_false_or_eq_true rr.toList.isEmpty with he | he
          all_goals
            have HE := Lib.hid he
            go_wp2_with (go_at_call 124; refine HR2.out.mono ?_; rintro e w3 ⟨rfl, hb3⟩; refine held ?_)
            unfold Held
            have hbw3 := hbw.trans (hb3.mono hbws)
            clear hb3 hbw
            go_wp2
            go_roundw
          case rel =>
            have h := HD.out
            rw [beq_str, decide_eq_false_iff_not] at h
            have h2 := HE.out
            rw [emp_iff, decide_eq_true_eq] at h2
            exact ⟨k + 1, by omega, by go_num, by rw [← HY.out (by rw [HH.out]; simp [h, h2])], hbw3⟩
          case measure => simp [intOf]; omega
          case rel =>
            have h2 := HE.out
            rw [emp_iff, decide_eq_false_iff_not] at h2
            exact ⟨k + 1, by omega, by go_num, by rw [HZ.out (by rw [HH.out]; simp [h2])], hbw3⟩
          case measure => simp [intOf]; omega
      · have hk9 : k = 9 := by omega
        subst hk9
        rw [HALL.out]
        go_wp2
        go_ret2
        exact ⟨by rw [H1.out, HO.out, H1.out]; rfl, hb⟩
  · go_enter Try.func92, Try.ntmps92
    go_wp2_with fail
    refine HV.out.mono ?_
    rintro e w1 ⟨rfl, hb1⟩
    go_wp2
    go_ret2
    exact ⟨by rw [HO.out, h1]; rfl, hb1⟩
theorem spIsExchange_c (xs : List Mv) (v : Value) (w : World) (hx : RdM w v xs) (hz : ∀ m ∈ xs, m.1.size ≤ 9223372036854775807 ∧ m.2.size ≤ 9223372036854775807) (hn' : xs.length ≤ 1048576) :
    Calls Try.prog 47 #[v] w fun e w' => e = .returned (.bool (exchB xs)) ∧ Below w.heap.size w w' := by
  have HO := Lib.hid (exchB_eq xs)
  have HL := Lib.hid (spLostBy_c xs v w hx hz hn')
  clear hx hz
  rcases Bool.eq_false_or_eq_true (mvalid xs) with h1 | h1
  · generalize lostB xs = lb at *
    rcases Bool.eq_false_or_eq_true lb.toList.isEmpty with he | he
    all_goals
      have HE := Lib.hid he
      go_enter Try.func47, Try.ntmps47
      go_wp2_with fail
      refine HL.out.mono ?_
      rintro e w1 ⟨rfl, hb1⟩
      go_wp2
      go_ret
      refine ⟨?_, hb1⟩
      rw [HO.out, h1]
    · have h2 := HE.out
      rw [emp_iff, decide_eq_true_eq] at h2
      rw [decide_eq_true h2]; rfl
    · have h2 := HE.out
      rw [emp_iff, decide_eq_false_iff_not] at h2
      rw [decide_eq_false h2]; rfl
  · go_enter Try.func47, Try.ntmps47
    go_wp2_with fail
    refine HL.out.mono ?_
    rintro e w1 ⟨rfl, hb1⟩
    go_wp2
    go_ret
    exact ⟨by rw [HO.out, h1]; rfl, hb1⟩
end Go.Proofs.Yteadhnpmmpninaa
namespace Go.PM
open Go.RowKit
theorem yieldsIf_row {P : Program} {ops : Array Oper} {S : World → Prop} {op : Oper} {a : Act} (hw : Region.wanted op (yielded ops a.tmps) = true) (ty : TypeId) (x : Operand) (ho : op.op = .load ty x)
    (b : Nat) (t : TypeId) (cs : Array Value) (hx : a.eval x = .pointer (some ⟨b, 0, none⟩)) (hS : ∀ w, S w → At w b t cs)
    (k : Nat) (e : TypeId) (hu : P.underlying ty = some (.array k e)) (hi : (P.info? ty).map (·.size) = some cs.size) : YieldsIf P ops S op (.agg cs) a :=
  .inl ⟨hw, fun w hw' => by
    unfold execOp
    simp only [ho, hx, Instr.loadAt, Instr.sureAddr, Sem.run_bind, Sem.run_pure, Result.andThen_ok, run_loadVar_row w b t ty cs (0, 0) _ (hS w hw') hu rfl hi]⟩
end Go.PM
namespace Go.Proofs.Yteadhnpmmpninaa
open Go.RowKit Go.PM

set_option maxRecDepth 100000 in
set_option maxHeartbeats 2000000 in
theorem exchOf_yes (xs : List Mv) (h1 : MV xs) (v : Value) (w : World) (hx : RdM w v xs) :
    Calls Try.prog 44 #[v] w fun e w' => e = .returned (.tuple #[tabX (tabOf xs), .bool (exchB xs)]) ∧ Below w.heap.size w w' := by
  have HX := Lib.hid (fun W (hW : Below w.heap.size w W) => hx.below hW)
  have HT := Lib.hid (fun W hW => tableOf_yes xs h1 v W hW)
  have HE : Hid (exchB xs = decide (namesW (leafH (tabOf xs)) = emp)) := by
    have m1 : mvalid xs = true := by simpa [mvalid] using h1
    show _ = _
    rw [exchB, m1]; rfl
  have HL := Lib.hid (fun W => leaves_c (tabOf xs) W)
  clear h1 hx
  generalize namesW (leafH (tabOf xs)) = lv at *
  generalize tabOf xs = f at *
  have hb0 : Below w.heap.size w (w.alloc (.cells zA 56)) := (Below.refl _ _).alloc (Nat.le_refl _) _
  have hA0 : At (w.alloc (.cells zA 56)) w.heap.size 56 zA := At.new w _ _
  have hx0 := HX.out _ hb0
  go_enter Try.func44, Try.ntmps44
  go_wp2_with fail
  refine (HT.out _ hx0).mono ?_
  rintro e w1 ⟨rfl, hb1⟩
  have hbw := hb0.trans (hb1.mono hb0.size)
  have hA1 := hA0.keep hb1
  have hs1 := hbw.size
  clear hx0 hA0 hb0 hb1
  obtain ⟨W3, hW3⟩ : ∃ W3 : World, W3 = w1.alloc (.cells (tabA f) 56) := ⟨_, rfl⟩
  have K1 : At W3 w1.heap.size 56 (tabC f) := by rw [hW3]; exact At.new w1 _ _
  have K2 : At W3 w.heap.size 56 zA := by rw [hW3]; exact hA1.alloc _
  have hB3 : Below w.heap.size w W3 := by rw [hW3]; exact hbw.alloc hs1 _
  have hs3 := hB3.size
  have hne : w1.heap.size ≠ w.heap.size := Nat.ne_of_gt hA1.lt
  clear hbw hA1
  go_wp2
  rw [← hW3]
  clear hW3
  refine wp_region_held_drew (S := fun W => At W w1.heap.size 56 (tabC f)) (by kernel_rfl) K1 (fun hHeld => ?_)
  refine wpAnyH_take (i := 0) (oi := _) (v := .agg (tabC f)) rfl (by kernel_rfl) (by kernel_rfl) (by kernel_rfl) (fun _ _ _ h => h) (yieldsIf_row rfl 56 (.tmp 4) rfl w1.heap.size 56 (tabC f) (by rfl) (fun _ h => h) 9 9 Try.underlying56 (by kernel_rfl)) hHeld ?_
  simp only [Act.put, List.getElem_toArray, List.getElem_cons_zero, List.setIfInBounds_toArray, List.set_cons_succ, List.set_cons_zero]
  refine wpAnyH_take (i := 1) (oi := _) (v := ?_) rfl (by kernel_rfl) (by kernel_rfl) (by kernel_rfl) (fun _ _ _ h => h) (Or.inl ⟨by rfl, by intro w0 _; go_simp; rfl⟩) hHeld ?_
  simp only [Act.put, List.getElem_toArray, List.getElem_cons_succ, List.getElem_cons_zero, List.setIfInBounds_toArray, List.set_cons_succ, List.set_cons_zero]
  refine wpAnyH_take (i := 2) (oi := _) (v := ?_) rfl (by kernel_rfl) (by kernel_rfl) (by kernel_rfl) (fun _ _ _ h => h) (Or.inl ⟨by rfl, by intro w0 _; go_simp; rfl⟩) hHeld ?_
  simp only [Act.put, List.getElem_toArray, List.getElem_cons_succ, List.getElem_cons_zero, List.setIfInBounds_toArray, List.set_cons_succ, List.set_cons_zero]
  refine wpAnyH_take (i := 3) (oi := _) (v := .agg (tabC f)) rfl (by kernel_rfl) (by kernel_rfl) (by kernel_rfl) (fun _ _ _ h => h) (yieldsIf_row rfl 56 (.tmp 4) rfl w1.heap.size 56 (tabC f) (by rfl) (fun _ h => h) 9 9 Try.underlying56 (by kernel_rfl)) hHeld ?_
  simp only [Act.put, List.getElem_toArray, List.getElem_cons_succ, List.getElem_cons_zero, List.setIfInBounds_toArray, List.set_cons_succ, List.set_cons_zero]
  refine wpAnyH_ready (rs := [4]) (by kernel_rfl) (by simp) ?_
  refine AllReadyH.cons rfl (fun K hK => ?_) AllReadyH.nil
  go_simp
  go_at_call 87
  refine (HL.out _).mono ?_
  rintro e W4 ⟨rfl, hb4⟩
  replace hb4 : Below W3.heap.size W3 W4 := (Below.refl _ _).drew.trans hb4
  have m1 := K1.keep hb4
  have m2 := K2.keep hb4
  have hB4 := hB3.trans (hb4.mono hs3)
  have hs4 := hB4.size
  refine hK.out _ _ m1 (fun hHeld2 => ?_)
  clear hK K hb4 hHeld
  try simp only [Act.put, List.getElem_toArray, List.getElem_cons_succ, List.getElem_cons_zero, List.setIfInBounds_toArray, List.set_cons_succ, List.set_cons_zero]
  refine wpAnyH_take (i := 5) (oi := _) (v := ?_) rfl (by kernel_rfl) (by kernel_rfl) (by kernel_rfl) (fun _ _ _ h => h) (Or.inl ⟨by rfl, by intro w0 _; go_simp; rfl⟩) m1 ?_
  simp only [Act.put, List.getElem_toArray, List.getElem_cons_succ, List.getElem_cons_zero, List.setIfInBounds_toArray, List.set_cons_succ, List.set_cons_zero]
  refine wpAnyH_take (i := 6) (oi := _) (v := ?_) rfl (by kernel_rfl) (by kernel_rfl) (by kernel_rfl) (fun _ _ _ h => h) (Or.inl ⟨by rfl, by intro w0 _; go_simp; rfl⟩) m1 ?_
  simp only [Act.put, List.getElem_toArray, List.getElem_cons_succ, List.getElem_cons_zero, List.setIfInBounds_toArray, List.set_cons_succ, List.set_cons_zero]
  refine wpAnyH_ready (rs := [7]) (by kernel_rfl) (by simp) ?_
  refine AllReadyH.cons rfl (fun K hK => ?_) AllReadyH.nil
  rw [if_pos (by rfl)]
  refine wp_store_row 56 (.tmp 2) (.tmp 11) rfl w.heap.size (tabC f) (by rfl) (by rfl) 56 zA m2 (by kernel_rfl) rfl (tabC_all _) ?_
  have hg5 := grown_setRow W4 w.heap.size (tabC f)
  have hA5 := m2.setRow (tabC f)
  have n1 := m1.grown hg5 (fun e => hne (Option.some.inj e))
  have hB5 := hB4.trans (below_grown hg5 (B := w.heap.size) hs4 (fun g e => by cases e; omega))
  refine hK.out _ _ n1 (fun hHeld3 => ?_)
  clear hK K
  try simp only [Act.put, List.getElem_toArray, List.getElem_cons_succ, List.getElem_cons_zero]
  refine wpAnyH_take (i := 8) (oi := _) (v := ?_) rfl (by kernel_rfl) (by kernel_rfl) (by kernel_rfl) (fun _ _ _ h => h) (Or.inl ⟨by rfl, by intro w0 _; go_simp; rfl⟩) n1 ?_
  simp only [Act.put, List.getElem_toArray, List.getElem_cons_succ, List.getElem_cons_zero, List.setIfInBounds_toArray, List.set_cons_succ, List.set_cons_zero]
  refine wpAnyH_done (by kernel_rfl) ?_ _
  go_wp2
  refine bodyPost_ret (v := .tuple #[tabV f, .bool lv.toList.isEmpty]) (results_row2 Try.results44 _ _ w.heap.size 56 (tabC f) (by rfl) (by rfl) hA5 9 9 Try.underlying56 (by kernel_rfl)) rfl ⟨by rw [HE.out, emp_iff]; rfl, hB5⟩
set_option maxRecDepth 100000 in
set_option maxHeartbeats 2000000 in
theorem exchOf_no (xs : List Mv) (h1 : ¬ MV xs) (v : Value) (w : World) (hx : RdM w v xs) :
    Calls Try.prog 44 #[v] w fun e w' => e = .returned (.tuple #[zX, .bool false]) ∧ Below w.heap.size w w' := by
  have HX := Lib.hid (fun W (hW : Below w.heap.size w W) => hx.below hW)
  have HT := Lib.hid (fun W hW => tableOf_no xs h1 v W hW)
  clear h1 hx
  have hb0 : Below w.heap.size w (w.alloc (.cells zA 56)) := (Below.refl _ _).alloc (Nat.le_refl _) _
  have hA0 : At (w.alloc (.cells zA 56)) w.heap.size 56 zA := At.new w _ _
  have hx0 := HX.out _ hb0
  go_enter Try.func44, Try.ntmps44
  go_wp2_with fail
  refine (HT.out _ hx0).mono ?_
  rintro e w1 ⟨rfl, hb1⟩
  have hbw := hb0.trans (hb1.mono hb0.size)
  have hA1 := hA0.keep hb1
  have hs1 := hbw.size
  clear hx0 hA0 hb0 hb1
  obtain ⟨W3, hW3⟩ : ∃ W3 : World, W3 = w1.alloc (.cells zA 56) := ⟨_, rfl⟩
  have K1 : At W3 w1.heap.size 56 zA := by rw [hW3]; exact At.new w1 _ _
  have K2 : At W3 w.heap.size 56 zA := by rw [hW3]; exact hA1.alloc _
  have hB3 : Below w.heap.size w W3 := by rw [hW3]; exact hbw.alloc hs1 _
  have hs3 := hB3.size
  have hne : w1.heap.size ≠ w.heap.size := Nat.ne_of_gt hA1.lt
  clear hbw hA1
  go_wp2
  rw [← hW3]
  clear hW3
  refine wp_region_held_drew (S := fun W => At W w1.heap.size 56 (tabC (fun _ => emp))) (by kernel_rfl) K1 (fun hHeld => ?_)
  refine wpAnyH_take (i := 0) (oi := _) (v := .agg (tabC (fun _ => emp))) rfl (by kernel_rfl) (by kernel_rfl) (by kernel_rfl) (fun _ _ _ h => h) (yieldsIf_row rfl 56 (.tmp 4) rfl w1.heap.size 56 (tabC (fun _ => emp)) (by rfl) (fun _ h => h) 9 9 Try.underlying56 (by kernel_rfl)) hHeld ?_
  simp only [Act.put, List.getElem_toArray, List.getElem_cons_zero, List.setIfInBounds_toArray, List.set_cons_succ, List.set_cons_zero]
  refine wpAnyH_take (i := 1) (oi := _) (v := ?_) rfl (by kernel_rfl) (by kernel_rfl) (by kernel_rfl) (fun _ _ _ h => h) (Or.inl ⟨by rfl, by intro w0 _; go_simp; rfl⟩) hHeld ?_
  simp only [Act.put, List.getElem_toArray, List.getElem_cons_succ, List.getElem_cons_zero, List.setIfInBounds_toArray, List.set_cons_succ, List.set_cons_zero]
  refine wpAnyH_take (i := 2) (oi := _) (v := ?_) rfl (by kernel_rfl) (by kernel_rfl) (by kernel_rfl) (fun _ _ _ h => h) (Or.inl ⟨by rfl, by intro w0 _; go_simp; rfl⟩) hHeld ?_
  simp only [Act.put, List.getElem_toArray, List.getElem_cons_succ, List.getElem_cons_zero, List.setIfInBounds_toArray, List.set_cons_succ, List.set_cons_zero]
  refine wpAnyH_take (i := 3) (oi := _) (v := undef) rfl (by kernel_rfl) (by kernel_rfl) (by kernel_rfl) (fun _ _ _ h => h) (Or.inr ⟨by rfl, rfl⟩) hHeld ?_
  simp only [Act.put, List.getElem_toArray, List.getElem_cons_succ, List.getElem_cons_zero, List.setIfInBounds_toArray, List.set_cons_succ, List.set_cons_zero]
  refine wpAnyH_take (i := 4) (oi := _) (v := undef) rfl (by kernel_rfl) (by kernel_rfl) (by kernel_rfl) (fun _ _ _ h => h) (Or.inr ⟨by rfl, rfl⟩) hHeld ?_
  simp only [Act.put, List.getElem_toArray, List.getElem_cons_succ, List.getElem_cons_zero, List.setIfInBounds_toArray, List.set_cons_succ, List.set_cons_zero]
  refine wpAnyH_take (i := 5) (oi := _) (v := undef) rfl (by kernel_rfl) (by kernel_rfl) (by kernel_rfl) (fun _ _ _ h => h) (Or.inr ⟨by rfl, rfl⟩) hHeld ?_
  simp only [Act.put, List.getElem_toArray, List.getElem_cons_succ, List.getElem_cons_zero, List.setIfInBounds_toArray, List.set_cons_succ, List.set_cons_zero]
  refine wpAnyH_take (i := 6) (oi := _) (v := ?_) rfl (by kernel_rfl) (by kernel_rfl) (by kernel_rfl) (fun _ _ _ h => h) (Or.inl ⟨by rfl, by intro w0 _; go_simp; rfl⟩) hHeld ?_
  simp only [Act.put, List.getElem_toArray, List.getElem_cons_succ, List.getElem_cons_zero, List.setIfInBounds_toArray, List.set_cons_succ, List.set_cons_zero]
  have m1 : At W3.drew w1.heap.size 56 zA := K1
  have m2 : At W3.drew w.heap.size 56 zA := K2
  have hB4 : Below w.heap.size w W3.drew := hB3.drew
  have hs4 := hB4.size
  refine wpAnyH_ready (rs := [7]) (by kernel_rfl) (by simp) ?_
  refine AllReadyH.cons rfl (fun K hK => ?_) AllReadyH.nil
  rw [if_pos (by rfl)]
  refine wp_store_row 56 (.tmp 2) (.tmp 11) rfl w.heap.size (tabC (fun _ => emp)) (by rfl) (by rfl) 56 zA m2 (by kernel_rfl) rfl (tabC_all _) ?_
  have hg5 := grown_setRow W3.drew w.heap.size (tabC (fun _ => emp))
  have hA5 := m2.setRow (tabC (fun _ => emp))
  have n1 := m1.grown hg5 (fun e => hne (Option.some.inj e))
  have hB5 := hB4.trans (below_grown hg5 (B := w.heap.size) hs4 (fun g e => by cases e; omega))
  refine hK.out _ _ n1 (fun hHeld3 => ?_)
  clear hK K
  try simp only [Act.put, List.getElem_toArray, List.getElem_cons_succ, List.getElem_cons_zero]
  refine wpAnyH_take (i := 8) (oi := _) (v := ?_) rfl (by kernel_rfl) (by kernel_rfl) (by kernel_rfl) (fun _ _ _ h => h) (Or.inl ⟨by rfl, by intro w0 _; go_simp; rfl⟩) n1 ?_
  simp only [Act.put, List.getElem_toArray, List.getElem_cons_succ, List.getElem_cons_zero, List.setIfInBounds_toArray, List.set_cons_succ, List.set_cons_zero]
  refine wpAnyH_done (by kernel_rfl) ?_ _
  go_wp2
  refine bodyPost_ret (v := .tuple #[.agg (tabC (fun _ => emp)), .bool false]) (results_row2 Try.results44 _ _ w.heap.size 56 (tabC (fun _ => emp)) (by rfl) (by rfl) hA5 9 9 Try.underlying56 (by kernel_rfl)) rfl ⟨rfl, hB5⟩
theorem imIsExchange_c (xs : List Mv) (v : Value) (w : World) (hx : RdM w v xs) :
    Calls Try.prog 52 #[v] w fun e w' => e = .returned (.bool (exchB xs)) ∧ Below w.heap.size w w' := by
  by_cases h1 : MV xs
  · have HT := Lib.hid (exchOf_yes xs h1 v w hx)
    clear hx h1
    go_enter Try.func52, Try.ntmps52
    go_wp2_with fail
    refine HT.out.mono ?_
    rintro e w1 ⟨rfl, hb1⟩
    have hs1 := hb1.size
    go_wp2
    go_ret
    exact ⟨rfl, by (repeat' (first | (with_reducible exact Below.refl _ _) | (with_reducible assumption) | (with_reducible refine Below.alloc ?_ ?_ _) | (with_reducible refine Below.drew ?_) | (with_reducible refine Below.setCell ?_ ?_ _) | (with_reducible exact Nat.le_refl _) | omega | ((repeat (first | rewrite [World.size_alloc] | rewrite [World.size_setCell] | rewrite [World.size_drew])); omega) | (simp; omega) | (simp; done)))⟩
  · have HT := Lib.hid (exchOf_no xs h1 v w hx)
    have HE : Hid (exchB xs = false) := by
      have : mvalid xs = false := by simpa [mvalid] using h1
      show _ = _
      rw [exchB, this]; rfl
    clear hx h1
    go_enter Try.func52, Try.ntmps52
    go_wp2_with fail
    refine HT.out.mono ?_
    rintro e w1 ⟨rfl, hb1⟩
    have hs1 := hb1.size
    go_wp2
    go_ret
    exact ⟨by rw [HE.out]; rfl, by (repeat' (first | (with_reducible exact Below.refl _ _) | (with_reducible assumption) | (with_reducible refine Below.alloc ?_ ?_ _) | (with_reducible refine Below.drew ?_) | (with_reducible refine Below.setCell ?_ ?_ _) | (with_reducible exact Nat.le_refl _) | omega | ((repeat (first | rewrite [World.size_alloc] | rewrite [World.size_setCell] | rewrite [World.size_drew])); omega) | (simp; omega) | (simp; done)))⟩
end Go.Proofs.Yteadhnpmmpninaa
namespace Go.PS
open Go.PM Go.RowKit Go.PW
/-- the goals of moves that are an exchange -/
def goM (xs : List Mv) : Nat → Nat := invI (srcT (tabOf xs))
/-- swaps that do an exchange; the same with neighbours -/
def swM (xs : List Mv) : List (Nat × Nat) := if exchB xs then (rsA 9 (goM xs)).1 else []
def nbM (xs : List Mv) : List (Nat × Nat) := if exchB xs then nbF 36 (goM xs) else []
theorem goM_prm {xs : List Mv} (h : exchB xs = true) : Prm (goM xs) := inv_prm (exchB_iff.1 h).2
theorem swM_yes {xs : List Mv} (h : exchB xs = true) : swM xs = (rsA 9 (goM xs)).1 := if_pos h
theorem swM_no {xs : List Mv} (h : exchB xs = false) : swM xs = [] := if_neg (by rw [h]; decide)
theorem nbM_yes {xs : List Mv} (h : exchB xs = true) : nbM xs = nbF 36 (goM xs) := if_pos h
theorem nbM_no {xs : List Mv} (h : exchB xs = false) : nbM xs = [] := if_neg (by rw [h]; decide)
theorem swM_le (xs : List Mv) : (swM xs).length ≤ 9 := by
  rcases Bool.eq_false_or_eq_true (exchB xs) with h | h
  · rw [swM_yes h]; exact rsA_le (goM_prm h) 9 (Nat.le_refl _)
  · rw [swM_no h]; simp
theorem nbM_le (xs : List Mv) : (nbM xs).length ≤ 36 := by
  rcases Bool.eq_false_or_eq_true (exchB xs) with h | h
  · rw [nbM_yes h, (nbF_facts 36 _ (goM_prm h) (invG_le _)).1]; exact invG_le _
  · rw [nbM_no h]; simp
theorem swM_rings {xs : List Mv} (h : exchB xs = true) : swM xs = (ringsF (nxT (tabOf xs)) 9).flatMap prs := by
  obtain ⟨h1, h2⟩ := exchB_iff.1 h
  rw [swM_yes h]; exact (rsA_rings (SV_tab h1) h2 9 (Nat.le_refl _)).1
end Go.PS
namespace Go.Proofs.Yteadhnpmmpninaa
open Go.RowKit Go.PM Go.PS Go.Lib
set_option maxRecDepth 100000 in
set_option maxHeartbeats 2000000 in
theorem imSwapsFor_c (xs : List Mv) (v : Value) (w : World) (hx : RdM w v xs) :
    Calls Try.prog 13 #[v] w fun e w' => ∃ v', e = .returned (.tuple #[v', .bool (exchB xs)]) ∧ w'.ownsRow w.heap.size 33 3 v' (swL (swM xs)).length (scells (swL (swM xs))) ∧ Below w.heap.size w w' := by
  by_cases h1 : MV xs
  · have HT := Lib.hid (exchOf_yes xs h1 v w hx)
    rcases Bool.eq_false_or_eq_true (exchB xs) with h2 | h2
    · have HP := Lib.hid (fun W => permutationOf_c (tabOf xs) (exchB_iff.1 h2).2 W)
      have HY : Hid (invI (srcT (tabOf xs)) = goM xs) := rfl
      rw [HY.out] at HP
      have HR := Lib.hid (fun b W hA => ringSwaps_c (goM xs) (goM_prm h2) b W hA)
      have HM := Lib.hid (swM_yes h2)
      rw [← HM.out] at HR
      have H2 := Lib.hid h2
      clear hx h1 h2
      generalize tabOf xs = f at *
      go_enter Try.func13, Try.ntmps13
      go_wp2_with fail
      refine HT.out.mono ?_
      rw [H2.out]
      rintro e w1 ⟨rfl, hb1⟩
      have hs1 := hb1.size
      have k1 : At (w1.alloc (.cells (tabA f) 56)) w1.heap.size 56 (tabA f) := At.new w1 _ _
      have hB2 := hb1.alloc hs1 (.cells (tabA f) 56)
      have hs2 := hB2.size
      clear hb1
      go_wp2_with (first | (refine ld_row rfl 56 (.tmp 4) rfl w1.heap.size 56 (tabC f) k1 (by rfl) 9 9 Try.underlying56 (by kernel_rfl) ?_) | (go_at_call 45; refine (HP.out _).mono ?_; rintro e w4 ⟨b, rfl, hA4, hlo4, hb4⟩; refine held ?_))
      unfold Held
      have hB4 := hB2.trans (hb4.mono hs2)
      have hs4 := hB4.size
      clear hb4 k1 hB2
      go_wp2_with (go_at_call 46; refine (HR.out _ _ hA4).mono ?_; rintro e w5 ⟨v', rfl, ho, hg5⟩; refine held ?_)
      unfold Held
      have hB5 := hB4.trans (below_grown hg5 (B := w.heap.size) hs4 (fun g e => by cases e; have := hs1; simp at hlo4; omega))
      have ho5 := own_more ho hs4
      clear hg5 hB4 ho hA4
      go_wp2
      go_ret2
      exact ⟨_, by rw [H2.out]; rfl, ho5, hB5⟩
    · have HNO := Lib.hid (swM_no h2)
      have H2 := Lib.hid h2
      clear hx h1 h2
      generalize tabOf xs = f at *
      go_enter Try.func13, Try.ntmps13
      go_wp2_with fail
      refine HT.out.mono ?_
      rw [H2.out]
      rintro e w1 ⟨rfl, hb1⟩
      have hs1 := hb1.size
      go_wp2
      go_ret2
      exact ⟨_, by rw [H2.out]; rfl, by rw [HNO.out]; exact ⟨rfl, .inl ⟨rfl, rfl⟩⟩, by (repeat' (first | (with_reducible exact Below.refl _ _) | (with_reducible assumption) | (with_reducible refine Below.alloc ?_ ?_ _) | (with_reducible refine Below.drew ?_) | (with_reducible refine Below.setCell ?_ ?_ _) | (with_reducible exact Nat.le_refl _) | omega | ((repeat (first | rewrite [World.size_alloc] | rewrite [World.size_setCell] | rewrite [World.size_drew])); omega) | (simp; omega) | (simp; done)))⟩
  · have HT := Lib.hid (exchOf_no xs h1 v w hx)
    have HE : Hid (exchB xs = false) := by
      have : mvalid xs = false := by simpa [mvalid] using h1
      show _ = _
      rw [exchB, this]; rfl
    have HNO := Lib.hid (swM_no HE.out)
    clear hx h1
    go_enter Try.func13, Try.ntmps13
    go_wp2_with fail
    refine HT.out.mono ?_
    rintro e w1 ⟨rfl, hb1⟩
    have hs1 := hb1.size
    go_wp2
    go_ret2
    exact ⟨_, by rw [HE.out]; rfl, by rw [HNO.out]; exact ⟨rfl, .inl ⟨rfl, rfl⟩⟩, by (repeat' (first | (with_reducible exact Below.refl _ _) | (with_reducible assumption) | (with_reducible refine Below.alloc ?_ ?_ _) | (with_reducible refine Below.drew ?_) | (with_reducible refine Below.setCell ?_ ?_ _) | (with_reducible exact Nat.le_refl _) | omega | ((repeat (first | rewrite [World.size_alloc] | rewrite [World.size_setCell] | rewrite [World.size_drew])); omega) | (simp; omega) | (simp; done)))⟩
set_option maxRecDepth 100000 in
set_option maxHeartbeats 2000000 in
theorem imNeighbourSwaps_c (xs : List Mv) (v : Value) (w : World) (hx : RdM w v xs) :
    Calls Try.prog 15 #[v] w fun e w' => ∃ v', e = .returned (.tuple #[v', .bool (exchB xs)]) ∧ w'.ownsRow w.heap.size 33 3 v' (swL (nbM xs)).length (scells (swL (nbM xs))) ∧ Below w.heap.size w w' := by
  by_cases h1 : MV xs
  · have HT := Lib.hid (exchOf_yes xs h1 v w hx)
    rcases Bool.eq_false_or_eq_true (exchB xs) with h2 | h2
    · have HP := Lib.hid (fun W => permutationOf_c (tabOf xs) (exchB_iff.1 h2).2 W)
      have HY : Hid (invI (srcT (tabOf xs)) = goM xs) := rfl
      rw [HY.out] at HP
      have HR := Lib.hid (fun b W hA => neighbourSwaps_c (goM xs) (goM_prm h2) b W hA)
      have HM := Lib.hid (nbM_yes h2)
      rw [← HM.out] at HR
      have H2 := Lib.hid h2
      clear hx h1 h2
      generalize tabOf xs = f at *
      go_enter Try.func15, Try.ntmps15
      go_wp2_with fail
      refine HT.out.mono ?_
      rw [H2.out]
      rintro e w1 ⟨rfl, hb1⟩
      have hs1 := hb1.size
      have k1 : At (w1.alloc (.cells (tabA f) 56)) w1.heap.size 56 (tabA f) := At.new w1 _ _
      have hB2 := hb1.alloc hs1 (.cells (tabA f) 56)
      have hs2 := hB2.size
      clear hb1
      go_wp2_with (first | (refine ld_row rfl 56 (.tmp 4) rfl w1.heap.size 56 (tabC f) k1 (by rfl) 9 9 Try.underlying56 (by kernel_rfl) ?_) | (go_at_call 45; refine (HP.out _).mono ?_; rintro e w4 ⟨b, rfl, hA4, hlo4, hb4⟩; refine held ?_))
      unfold Held
      have hB4 := hB2.trans (hb4.mono hs2)
      have hs4 := hB4.size
      clear hb4 k1 hB2
      go_wp2_with (go_at_call 49; refine (HR.out _ _ hA4).mono ?_; rintro e w5 ⟨v', rfl, ho, hg5⟩; refine held ?_)
      unfold Held
      have hB5 := hB4.trans (below_grown hg5 (B := w.heap.size) hs4 (fun g e => by cases e; have := hs1; simp at hlo4; omega))
      have ho5 := own_more ho hs4
      clear hg5 hB4 ho hA4
      go_wp2
      go_ret2
      exact ⟨_, by rw [H2.out]; rfl, ho5, hB5⟩
    · have HNO := Lib.hid (nbM_no h2)
      have H2 := Lib.hid h2
      clear hx h1 h2
      generalize tabOf xs = f at *
      go_enter Try.func15, Try.ntmps15
      go_wp2_with fail
      refine HT.out.mono ?_
      rw [H2.out]
      rintro e w1 ⟨rfl, hb1⟩
      have hs1 := hb1.size
      go_wp2
      go_ret2
      exact ⟨_, by rw [H2.out]; rfl, by rw [HNO.out]; exact ⟨rfl, .inl ⟨rfl, rfl⟩⟩, by (repeat' (first | (with_reducible exact Below.refl _ _) | (with_reducible assumption) | (with_reducible refine Below.alloc ?_ ?_ _) | (with_reducible refine Below.drew ?_) | (with_reducible refine Below.setCell ?_ ?_ _) | (with_reducible exact Nat.le_refl _) | omega | ((repeat (first | rewrite [World.size_alloc] | rewrite [World.size_setCell] | rewrite [World.size_drew])); omega) | (simp; omega) | (simp; done)))⟩
  · have HT := Lib.hid (exchOf_no xs h1 v w hx)
    have HE : Hid (exchB xs = false) := by
      have : mvalid xs = false := by simpa [mvalid] using h1
      show _ = _
      rw [exchB, this]; rfl
    have HNO := Lib.hid (nbM_no HE.out)
    clear hx h1
    go_enter Try.func15, Try.ntmps15
    go_wp2_with fail
    refine HT.out.mono ?_
    rintro e w1 ⟨rfl, hb1⟩
    have hs1 := hb1.size
    go_wp2
    go_ret2
    exact ⟨_, by rw [HE.out]; rfl, by rw [HNO.out]; exact ⟨rfl, .inl ⟨rfl, rfl⟩⟩, by (repeat' (first | (with_reducible exact Below.refl _ _) | (with_reducible assumption) | (with_reducible refine Below.alloc ?_ ?_ _) | (with_reducible refine Below.drew ?_) | (with_reducible refine Below.setCell ?_ ?_ _) | (with_reducible exact Nat.le_refl _) | omega | ((repeat (first | rewrite [World.size_alloc] | rewrite [World.size_setCell] | rewrite [World.size_drew])); omega) | (simp; omega) | (simp; done)))⟩
end Go.Proofs.Yteadhnpmmpninaa
namespace Go.PW
open Go.RowKit Go.PM
theorem Spots.of_at {w w' : World} {b : Nat} {nx : Nat → Option Nat} (h : Spots w b nx) (hk : ∀ t cs, At w b t cs → At w' b t cs) : Spots w' b nx := by
  obtain ⟨t, cs, hA⟩ := h.row
  have hB := hk t cs hA
  exact ⟨⟨t, cs, hB⟩, fun i hi => by rw [hB.cell, ← hA.cell]; exact h.name i hi, fun i hi => by rw [hB.cell, ← hA.cell]; exact h.src i hi⟩
end Go.PW
namespace Go.Proofs.Yteadhnpmmpninaa
open Go.RowKit Go.PM Go.PW Go.Lib
attribute [local go_sem] Oper.semAt_some

theorem appIn_str {F : Fence} {k : Nat} {ops : Array Oper} {rest : List Oper} {o : Oper} {a : Act} {Q : Exit → Act → World → Prop} {w : World} (hgd : o.guard = none) (s x : Operand)
    (ho : o.op = .call { callee := .builtin .append, args := #[s, x], argTypes := #[35, 35] })
    (base : Nat) (v : Value) (ys : List ByteArray) (m : ByteArray) (ad : Addr) (c : Nat) (hs : a.eval s = v) (hx : a.eval x = .slice (some ad) 1 c)
    (hown : w.ownsRow base 9 1 v ys.length (tcells ys)) (hnew : ∀ j u, [Value.string m][j]? = some u → w.cell? (ad.add j) = some u)
    (hlen : ys.length ≤ 1048576) (hbase : base ≤ w.heap.size)
    (h : ∀ v' w', w'.ownsRow base 9 1 v' (ys ++ [m]).length (tcells (ys ++ [m])) → w.grownBy w' v.ownBlock → wpListIn F k Try.prog ops Q rest (a.put o.dst v') w') : wpListIn F k Try.prog ops Q (o :: rest) a w := by
  obtain ⟨i0, hi0, hz0, hz1, hz2⟩ := info_parts infoStr
  refine wpListIn_append_own w hgd s x _ ho base 9 i0 _ 1 16 Try.underlying35 hi0 hz0 hz1 hz2 rfl (by omega) v ys.length (tcells ys) hs hown ad 1 c [Value.string m] hx rfl hnew
    (by intro u hu; simp at hu; subst hu; rfl) (by simp only [maxLen]; omega) (by omega) hbase ?_
  intro v' w' h2 h3 _
  refine h v' w' ?_ h3
  rw [tcells_append, List.length_append]
  simpa [tcells] using h2

set_option maxRecDepth 100000 in
set_option maxHeartbeats 2000000 in
theorem imRingsOf_c (xs : List Mv) (v : Value) (w : World) (hx : RdM w v xs) :
    Calls Try.prog 23 #[v] w fun e w' => ∃ v', e = .returned (.tuple #[v', .bool (mvalid xs)]) ∧ w'.ownsRow w.heap.size 9 1 v' (ringsB xs).length (tcells (ringsB xs)) ∧ Below w.heap.size w w' := by
  by_cases h1 : MV xs
  · have HT := Lib.hid (tableOf_yes xs h1 v w hx)
    have hm1 : mvalid xs = true := by simpa [mvalid] using h1
    have HM := Lib.hid hm1
    have HS := Lib.hid (show ringsB xs = ringsT (nxT (tabOf xs)) 9 from if_pos hm1)
    have hn := nice (SV_tab h1)
    have HSP := Lib.hid (fun W => spotsOf_c (tabOf xs) (SV_tab h1) W)
    have HLE := Lib.hid (fun k (hk : k ≤ 9) => (ringsF_lt hn k hk).2.1)
    have HRT : Hid (∀ k, ringsT (nxT (tabOf xs)) k = (ringsF (nxT (tabOf xs)) k).map txt) := fun _ => rfl
    clear h1 hx hm1
    generalize nxT (tabOf xs) = nx at *
    generalize tabOf xs = t at *
    refine (callsIn_wide (n := 5)).1 ?_
    refine callsIn_of_wp_marks Try.func23 rfl trivial ?_ rfl
    simp only [Try.ntmps23, List.size_toArray, List.length_cons, List.length_nil, Nat.reduceAdd, Nat.reduceSub, Array.replicate_succ, Array.replicate_zero, List.push_toArray, List.append_toArray, List.nil_append, List.cons_append]
    gi_wp2_with fail
    refine ⟨trivial, callsIn_wide.2 (HT.out.mono ?_)⟩
    rintro e w1 ⟨rfl, hb1⟩
    have hs1 := hb1.size
    gi_wp2
    obtain ⟨W0, hW0⟩ : ∃ W0 : World, W0 = (w1.alloc (.cells (tabA t) 56)).alloc (.cells #[.slice none 0 0] 35) := ⟨_, rfl⟩
    have hS0 : W0.heap.size = w1.heap.size + 2 := by rw [hW0]; simp only [World.size_alloc]
    have hB0 : Below w.heap.size w W0 := by rw [hW0]; (repeat' (first | (with_reducible exact Below.refl _ _) | (with_reducible assumption) | (with_reducible refine Below.alloc ?_ ?_ _) | (with_reducible refine Below.drew ?_) | (with_reducible refine Below.setCell ?_ ?_ _) | (with_reducible exact Nat.le_refl _) | omega | ((repeat (first | rewrite [World.size_alloc] | rewrite [World.size_setCell] | rewrite [World.size_drew])); omega) | (simp; omega) | (simp; done)))
    have hA0 : At W0 (w1.heap.size + 1) 35 #[.slice none 0 0] := by
      rw [hW0]; have := At.new (w1.alloc (.cells (tabA t) 56)) 35 #[.slice none 0 0]
      rwa [World.size_alloc] at this
    refine ⟨trivial, callsIn_wide.2 ?_⟩
    rw [← hW0]
    clear hW0
    refine (HSP.out W0).mono ?_
    rintro e W1 ⟨⟨bs, rfl, hbs, hSW⟩, hb2⟩
    have hA1 := hA0.keep hb2
    have hB1 : Below w.heap.size w W1 := hB0.trans (hb2.mono hB0.size)
    have hS1 := hb2.size
    have hbl := hSW.lt
    clear hA0 hb2 hB0
    gi_wp2
    refine range_law5 (F := Fence.wide) (gf := 57) (lf := #[.pointer (some ⟨bs, 0, none⟩)]) (lb := #[]) rfl (by decide) rfl trivial (fun args w => rfl) (encs := fun r : List Nat => #[.string (txt r)]) (xs := ringsF nx 9) (κ := 3)
      (rings_iter bs nx hn) (fun _ => rfl)
      (fun pre W => ∃ o, At W (w1.heap.size + 1) 35 #[o] ∧ W.ownsRow (W1.heap.size + 5) 9 1 o (pre.map txt).length (tcells (pre.map txt)) ∧ Spots W bs nx ∧ Below w.heap.size w W)
      (fun _ _ _ => False) ?pr ?iw ?own (fun _ => ownFrom_pure _ _) ?start ?a1 ?assign ?body ?done ?stop
    case pr => rintro pre A ⟨o, _, _, h, _⟩; exact h
    case iw =>
      rintro pre A A' r ⟨o, k1, k2, k3, k4⟩ hr1 hr2 hg
      have hge := own_block_ge k2
      refine ⟨o, at_grown' k1 hg (fun e => by cases e; omega), own_grown k2 hg (.inl fun e => ?_), k3.of_at fun t' cs h => at_grown' h hg (fun e => by cases e; omega), k4.trans (below_grown hg k4.size (fun g e => by cases e; have := hB1.size; omega))⟩
      have := hge r e; omega
    case own =>
      rintro s A A' row ⟨o, k1, k2, k3, k4⟩ hg hr
      exact ⟨o, at_turn' k1 hg (fun r e => (hr r e).2), own_turn' k2 hg (fun r e => (hr r e).2), k3.of_at fun t' cs h => at_turn' h hg (fun r e => (hr r e).2), k4.trans (below_grown hg k4.size (fun g e => by have := (hr g e).1; have := hB1.size; omega))⟩
    case start => exact ⟨_, hA1, ⟨rfl, .inl ⟨rfl, rfl⟩⟩, hSW, hB1⟩
    case assign =>
      intro l p W Kc hK
      gi_wp2
      exact hK
    case body =>
      rintro l pre r W ⟨o, k1, k2, k3, k4⟩ hp hsz
      have hlen : (pre.map txt).length ≤ 9 := by
        have h1 := hp.length_le
        have h2 := HLE.out 9 (by omega)
        simp at h1 ⊢; omega
      have hmap : (pre ++ [r]).map txt = pre.map txt ++ [txt r] := by simp
      have HMAP := Lib.hid hmap
      clear hmap hp
      generalize pre.map txt = ys at *
      generalize txt r = s at *
      have c3 : W.cell? ⟨w1.heap.size + 1, 0, none⟩ = some o := k1.cell 0
      have hl1 := k1.lt
      have hnw := one_new W (.string s) 9
      have hzw := hB1.size
      gi_wp2_with (gi_at_builtin; refine held ?_)
      unfold Held
      refine appIn_str rfl (.tmp 19) (.tmp 21) rfl (W1.heap.size + 5) o ys s ⟨W.heap.size, 0, none⟩ 1 (by rfl) (by rfl) (own_keep k2 ((Below.refl _ _).alloc (Nat.le_refl _) _)) hnw (by omega) (by simp; omega) ?_
      intro o' W3 hown3 hgrow3
      have j1 : At W3 (w1.heap.size + 1) 35 #[o] := at_grown' (k1.alloc (.cells #[.string s] 9)) hgrow3 (own_box_ne' k2 k1 (by decide))
      have d1 := j1.cell 0
      have d2 := j1.frozen 0
      have hge := own_block_ge k2
      have hK3 : KeepsFrom W1.heap.size W W3 := by
        refine ⟨Nat.le_trans (by simp) hgrow3.size, fun x ob hx1 hx2 hx3 => ?_⟩
        have hx4 := (Array.getElem?_eq_some_iff.1 hx2).1
        refine (hgrow3.block x (by simp; omega) (fun e => ?_)).trans ((Below.heap_alloc _ _ _ hx4).trans hx2)
        rcases k2.2 with ⟨rfl, _⟩ | ⟨g, cap, cur, rfl, _, hh, _⟩
        · cases e
        · cases e
          rw [hh] at hx2
          cases hx2
          cases hx3
      have hI3 : KeepsIn (W1.heap.size + 2) 3 W W3 := by
        refine ⟨Nat.le_trans (by simp) hgrow3.size, fun x hx1 hx2 => ?_⟩
        refine (hgrow3.block x (by simp; omega) (fun e => ?_)).trans (Below.heap_alloc _ _ _ (by omega))
        have := hge x e.symm
        omega
      have hSP3 : Spots W3 bs nx := k3.of_at fun t' cs h => at_grown' (h.alloc (.cells #[.string s] 9)) hgrow3 (fun e => by have := hge bs e.symm; omega)
      have hB3 : Below w.heap.size w W3 := (k4.alloc k4.size _).trans (below_grown hgrow3 (by have := k4.size; simp; omega) (fun g e => by have := hge g e; omega))
      have hne3 := own_box_ne' hown3 j1 (by decide)
      have hpn : (ys ++ [s]).length = ys.length + 1 := by simp
      rw [hpn] at hown3
      obtain ⟨A3, cap3, rfl, _⟩ := Rd.of_own hown3
      have m1 : At (W3.setCell ⟨w1.heap.size + 1, 0, none⟩ (.slice A3 (ys.length + 1) cap3)) (w1.heap.size + 1) 35 #[.slice A3 (ys.length + 1) cap3] := j1.set 0 _
      have mS : Spots (W3.setCell ⟨w1.heap.size + 1, 0, none⟩ (.slice A3 (ys.length + 1) cap3)) bs nx := hSP3.of_at fun t' cs h => h.far (by show bs ≠ w1.heap.size + 1; omega) _
      clear hnw c3 k1 k2 k3 k4 hgrow3 hge hSP3
      gi_wp2
      refine ⟨hK3.trans ((KeepsOthers.setCell _ _ _).from _), ⟨by simp [World.size_setCell]; exact hI3.size, fun x hx1 hx2 => (heap_setCell_other _ _ _ _ (by simp; omega)).trans (hI3.same x hx1 hx2)⟩, _, m1, ?_, mS, hB3.setCell (by simp; omega) _⟩
      rw [HMAP.out, hpn]
      exact hown3.kept (grownBy_setCell' W3 (w1.heap.size + 1) _) (.inr hne3.symm)
    case done =>
      intro D W hD hI hd
      obtain ⟨o, k1, k2, k3, k4⟩ := hI
      have c3 : W.cell? ⟨w1.heap.size + 1, 0, none⟩ = some o := k1.cell 0
      have hown := own_more k2 (show w.heap.size ≤ W1.heap.size + 5 by have := hB1.size; omega)
      have hzw := hB1.size
      clear k1 k2 k3
      gi_wp2
      refine ⟨by simp, .inl ⟨D, _, rfl, run_takeDeferred hd, ?_⟩⟩
      have hW2 : (W.putObj D (.deferred none)).ownsRow w.heap.size 9 1 o (ringsB xs).length (tcells (ringsB xs)) := by
        rw [HS.out, HRT.out]
        exact own_turn' hown (grownBy_putObj' W D _) (fun r e => by cases e; exact ⟨_, hd, rfl⟩)
      have hR : ∀ tmps : Array Value, tmps.getD 2 undef = o → tmps.getD 3 undef = .bool true → (results Try.f23 tmps).run Try.prog (W.putObj D (.deferred none)) = .ok (.tuple #[o, .bool true]) (W.putObj D (.deferred none)) := fun tmps h2 h3 => by
        have h2' : tmps[2]?.getD undef = o := by simpa using h2
        have h3' : tmps[3]?.getD undef = .bool true := by simpa using h3
        simp [results, Try.results23, h2', h3']
      exact ⟨_, hR _ rfl rfl, _, by rw [HM.out], hW2, k4.trans ⟨rfl, rfl, rfl, by simp [World.putObj], fun k hk => World.putObj_heap_other (by have := k4.size; omega)⟩⟩
    case stop =>
      intro _ _ _ _ _ _ hf
      exact hf.elim
  · have hm0 : mvalid xs = false := by simpa [mvalid] using h1
    have HM := Lib.hid hm0
    have HS := Lib.hid (show ringsB xs = [] from if_neg (by rw [hm0]; decide))
    have HT := Lib.hid (tableOf_no xs h1 v w hx)
    clear h1 hx hm0
    go_enter Try.func23, Try.ntmps23
    go_wp2_with fail
    refine HT.out.mono ?_
    rintro e w1 ⟨rfl, hb1⟩
    have hs1 := hb1.size
    go_wp2
    go_ret2
    exact ⟨_, by rw [HM.out]; rfl, by rw [HS.out]; exact ⟨rfl, .inl ⟨rfl, rfl⟩⟩, by (repeat' (first | (with_reducible exact Below.refl _ _) | (with_reducible assumption) | (with_reducible refine Below.alloc ?_ ?_ _) | (with_reducible refine Below.drew ?_) | (with_reducible refine Below.setCell ?_ ?_ _) | (with_reducible exact Nat.le_refl _) | omega | ((repeat (first | rewrite [World.size_alloc] | rewrite [World.size_setCell] | rewrite [World.size_drew])); omega) | (simp; omega) | (simp; done)))⟩
end Go.Proofs.Yteadhnpmmpninaa
namespace Go.PS
open Go.PM Go.RowKit Go.PW
theorem rows_neS {w : World} {base base' : Nat} {e e' : TypeId} {size size' n n' : Nat} {v v' : Value} {cs cs' : List Value} (h : w.ownsRow base e size v n cs) (h' : w.ownsRow base' e' size' v' n' cs') (hne : e ≠ e') : v.ownBlock ≠ v'.ownBlock ∨ v'.ownBlock = none := by
  rcases h'.2 with ⟨rfl, _⟩ | ⟨g, cap, cur, rfl, _, hg, _⟩
  · exact .inr rfl
  · refine .inl fun e1 => ?_
    rcases h.2 with ⟨rfl, _⟩ | ⟨g2, cap2, cur2, rfl, _, hg2, _⟩
    · cases e1
    · cases e1
      rw [hg] at hg2
      cases hg2
      exact hne rfl
theorem prs_at : ∀ (r : List Nat) (j : Nat) (h : j + 1 < r.length), (prs r)[j]? = some (r[j], r[j + 1])
  | a :: b :: l, 0, _ => rfl
  | a :: b :: l, j + 1, h => by
    have := prs_at (b :: l) j (by simpa using h)
    simpa [prs] using this
  | [_], j, h => by simp at h
  | [], j, h => by simp at h
theorem prs_take (r : List Nat) (j : Nat) (h : j + 1 < r.length) : (prs r).take (j + 1) = (prs r).take j ++ [(r[j], r[j + 1])] := by
  have h1 := prs_at r j h
  have h2 := (List.getElem?_eq_some_iff.1 h1)
  rw [List.take_succ_eq_append_getElem h2.1, h2.2]
theorem txt_ext (r : List Nat) (j : Nat) (h : j < r.length) (h9 : r[j] < 9) : (txt r).extract j (j + 1) = nm r[j] := by
  rw [extract_one _ _ (by rw [txt_size]; exact h), txt_list, List.getD_eq_getElem?_getD, List.getElem?_map, List.getElem?_eq_getElem h, ← sn_nm _ h9]; rfl
/-- the swaps of the first i rings -/
def rgS (rs : List (List Nat)) (i : Nat) : List (Nat × Nat) := (rs.take i).flatMap prs
theorem rgS_step (rs : List (List Nat)) (i : Nat) (h : i < rs.length) : rgS rs (i + 1) = rgS rs i ++ prs rs[i] := by
  unfold rgS; rw [take_snoc rs i h, List.flatMap_append]; simp
theorem rgS_full (rs : List (List Nat)) : rgS rs rs.length = rs.flatMap prs := by unfold rgS; rw [List.take_length]
theorem ownT_at {w : World} {B : Nat} {e : TypeId} {A : Option Addr} {n cap : Nat} {ts : List ByteArray} (h : w.ownsRow B e 1 (.slice A n cap) n (tcells ts)) (k : Nat) (hk : k < ts.length) (hn : ts.length = n) : ∃ b off, A = some ⟨b, off, none⟩ ∧ b < w.heap.size ∧ w.cell? ⟨b, off + k, none⟩ = some (.string ts[k]) := by
  obtain ⟨A', cap', e1, _, _, _, hr⟩ := Rd.of_own h
  cases e1
  obtain ⟨b, off, eA, hb, hcell⟩ := hr (by omega)
  exact ⟨b, off, eA, hb, hcell k _ (by unfold tcells; rw [List.getElem?_map, List.getElem?_eq_getElem hk]; rfl)⟩
structure RsOk (rs : List (List Nat)) : Prop where
  two : ∀ r ∈ rs, 2 ≤ r.length
  low : ∀ r ∈ rs, ∀ i (h : i < r.length), r[i] < 9
  len : rs.length ≤ 9
  nine : ∀ r ∈ rs, r.length ≤ 9
theorem rsOk {f : Nat → ByteArray} (hf : SV f) : RsOk (ringsF (nxT f) 9) := by
  refine ⟨fun r hr => (PO.ringQ f hf hr).two, fun r hr => (PO.ringQ f hf hr).low, (ringsF_lt (nice hf) 9 (Nat.le_refl _)).2.1, fun r hr => ?_⟩
  have hq := PO.ringQ f hf hr
  refine PW.nodup_le r 9 hq.nodup fun a ha => ?_
  obtain ⟨i, hi⟩ := List.getElem?_of_mem ha
  have hil := (List.getElem?_eq_some_iff.1 hi).1
  rw [List.getElem?_eq_getElem hil] at hi
  rw [← Option.some.inj hi]; exact hq.low i hil
theorem rgS_len {rs : List (List Nat)} (h : RsOk rs) : ∀ i, i ≤ rs.length → (rgS rs i).length ≤ 9 * i
  | 0, _ => by simp [rgS]
  | i + 1, hi => by
    have ih := rgS_len h i (by omega)
    rw [rgS_step rs i (by omega), List.length_append, prs_len]
    have := h.nine _ (List.getElem_mem (show i < rs.length by omega))
    omega
end Go.PS
namespace Go.Proofs.Yteadhnpmmpninaa
open Go.RowKit Go.PM Go.PS Go.PW Go.Lib

theorem results_stp4 (fn : Func) (hr : fn.results = #[.cell 4 33]) (W : World) (b : Nat) (k : Int) (a c : ByteArray) (hA : At W b 33 #[.int .i64 k, .string a, .string c]) (tmps : Array Value) (h2 : tmps.getD 4 undef = .pointer (some ⟨b, 0, none⟩)) :
    (results fn tmps).run Try.prog W = .ok (.agg #[.int .i64 k, .string a, .string c]) W := by
  have q0 := hA.cell 0
  have q1 := hA.cell 1
  have q2 := hA.cell 2
  simp at q0 q1 q2
  simp only [Array.getD_eq_getD_getElem?] at h2
  simp [results, hr, go_sem, h2, q0, q1, q2]
theorem l7Swap_c (x y : ByteArray) (w : World) :
    Calls Try.prog 51 #[.string x, .string y] w fun e w' => e = .returned (.agg #[.int .i64 1, .string x, .string y]) ∧ Below w.heap.size w w' := by
  go_enter Try.func51, Try.ntmps51
  go_wp2
  refine bodyPost_ret (v := .agg #[.int .i64 1, .string x, .string y]) (results_stp4 _ Try.results51 _ w.heap.size _ _ _ (At.new _ _ _) _ rfl) rfl ⟨rfl, (Below.refl _ _).alloc (Nat.le_refl _) _⟩
set_option maxRecDepth 100000 in
set_option maxHeartbeats 3000000 in
theorem l7Rings_c (xs : List Mv) (h1 : MV xs) (v : Value) (w : World) (hx : RdM w v xs) :
    Calls Try.prog 48 #[v] w fun e w' => ∃ v', e = .returned v' ∧ w'.ownsRow w.heap.size 33 3 v' (swL ((ringsF (nxT (tabOf xs)) 9).flatMap prs)).length (scells (swL ((ringsF (nxT (tabOf xs)) 9).flatMap prs))) ∧ Below w.heap.size w w' := by
  have hf := SV_tab h1
  have hE := World.ownsRow_lit (e := 33) (base := w.heap.size) (size := 3) w #[] 0 (Nat.le_refl _) (Nat.zero_le _) rfl
  have hb0 : Below w.heap.size w (w.alloc (.cells #[] 33)) := (Below.refl _ _).alloc (Nat.le_refl _) _
  have HL := Lib.hid (l3Rings_c xs h1 v _ (hx.below hb0))
  have hok := rsOk hf
  have HRT : Hid (ringsT (nxT (tabOf xs)) 9 = (ringsF (nxT (tabOf xs)) 9).map txt) := rfl
  rw [HRT.out] at HL
  clear HRT hx hf h1
  generalize ringsF (nxT (tabOf xs)) 9 = rs at *
  have HFU := Lib.hid (rgS_full rs)
  rw [← HFU.out]
  go_enter Try.func48, Try.ntmps48
  go_wp2_with (go_at_call 54; refine HL.out.mono ?_; rintro e w1 ⟨v1, rfl, ho1, hb1⟩; refine held ?_)
  unfold Held
  have hE1 := own_keep hE hb1
  have hB1 := hb0.trans (hb1.mono hb0.size)
  have hs1 := hB1.size
  have hlm : (rs.map txt).length = rs.length := List.length_map ..
  rw [hlm] at ho1
  have hr9 := hok.len
  obtain ⟨A, cap, rfl, hn1, hc1, _⟩ := RdT.open (show RdT w1 v1 (rs.map txt) by unfold RdT; rw [hlm]; exact Rd.of_own ho1)
  rw [hlm] at ho1 hn1 hc1
  rw [hlm]
  have HOK := Lib.hid hok
  have HLEN := Lib.hid (fun i hi => rgS_len hok i hi)
  clear hE hb0 HL hb1 hok hlm
  go_wp2
  go_loopw [3, 5, 6, 11] (fun o _ _ i wr => ∃ (k : Nat), k ≤ rs.length ∧ i = .int .i64 k ∧ wr.ownsRow w.heap.size 33 3 o (swL (rgS rs k)).length (scells (swL (rgS rs k))) ∧ Below w.heap.size w wr ∧ wr.ownsRow (w.alloc (.cells #[] 33)).heap.size 9 1 (.slice A rs.length cap) rs.length (tcells (rs.map txt))) (fun _ _ _ i _ => rs.length - (RowKit.intOf i).toNat)
  case atStart => exact ⟨0, by omega, rfl, hE1, hB1, ho1⟩
  case round =>
    obtain ⟨k, hk, rfl, ho, hb, hy⟩ := hrel
    have hbs := hb.size
    by_cases hlt : k < rs.length
    · obtain ⟨b, off, rfl, hbl, hd⟩ := ownT_at hy k (by simpa using hlt) (by simp)
      rw [List.getElem_map] at hd
      have HST := Lib.hid (rgS_step rs k hlt)
      have htwo := HOK.out.two _ (List.getElem_mem hlt)
      have hnin := HOK.out.nine _ (List.getElem_mem hlt)
      have HLO := Lib.hid (HOK.out.low _ (List.getElem_mem hlt))
      have hpl := HLEN.out k hk
      have hrl := (prs_len rs[k])
      generalize hrk : rs[k] = r at *
      have hts : (txt r).size = r.length := txt_size r
      have HEX : Hid (∀ j (hj : j < r.length), (txt r).extract j (j + 1) = nm r[j]) := fun j hj => txt_ext r j hj (HLO.out j hj)
      have HPT := Lib.hid (fun j hj => prs_take r j hj)
      have HPF : Hid ((prs r).take (r.length - 1) = prs r) := by show _ = _; rw [← hrl, List.take_length]
      have i0 : (0 : Int) ≤ (k : Int) := by omega
      have i1 : (k : Int) < (rs.length : Int) := by omega
      clear hrk hrl
      generalize txt r = t at *
      generalize rgS rs k = pr at *
      have isub : ((t.size : Int) - 1) = ((r.length - 1 : Nat) : Int) := by omega
      generalize hrn : r.length - 1 = rn at *
      have hrn9 : rn ≤ 8 := by omega
      have hrl : r.length = rn + 1 := by omega
      go_wp2
      rename World => wo
      go_loopw [3, 6, 18] (fun o _ j wr => ∃ (m : Nat), m ≤ rn ∧ j = .int .i64 m ∧ wr.ownsRow w.heap.size 33 3 o (swL (pr ++ (prs r).take m)).length (scells (swL (pr ++ (prs r).take m))) ∧ Below w.heap.size w wr ∧ wr.ownsRow (w.alloc (.cells #[] 33)).heap.size 9 1 (.slice (some ⟨b, off, none⟩) rs.length cap) rs.length (tcells (rs.map txt))) (fun _ _ j _ => rn - (RowKit.intOf j).toNat)
      case atStart => exact ⟨0, by omega, rfl, by simpa using ho, hb, hy⟩
      case round =>
        obtain ⟨m, hm, rfl, hom, hbm, hym⟩ := hrel
        have hbms := hbm.size
        by_cases hml : m < rn
        · have hex1 := HEX.out m (by omega)
          have hex2 := HEX.out (m + 1) (by omega)
          have hpt := HPT.out m (by omega)
          have hlen : (swL (pr ++ (prs r).take m)).length ≤ 1000 := by
            rw [swL_len, List.length_append]
            have := List.length_take_le m (prs r)
            omega
          have HNX : Hid (swL (pr ++ (prs r).take (m + 1)) = swL (pr ++ (prs r).take m) ++ [((1, nm r[m], nm r[m + 1]) : St)]) := by
            show _ = _
            rw [hpt, ← List.append_assoc, swL_app _ [_]]; rfl
          have n0 : (0 : Int) ≤ (m : Int) := by omega
          have n1 : IntKind.i64.wrap ((m : Int) + 1) = (m : Int) + 1 := IntWalk.i64_in _ ⟨by omega, by omega⟩
          have n2 : IntKind.i64.wrap ((m : Int) + 2) = (m : Int) + 2 := IntWalk.i64_in _ ⟨by omega, by omega⟩
          have n3 : ((m : Int) + 1).toNat = m + 1 := by omega
          have n4 : ((m : Int) + 2).toNat = m + 1 + 1 := by omega
          have n5 : (m : Int) + 1 ≤ (t.size : Int) := by omega
          have n6 : (m : Int) + 2 ≤ (t.size : Int) := by omega
          have n7 : (m : Int) ≤ (m : Int) + 1 := by omega
          have n8 : (m : Int) + 1 ≤ (m : Int) + 2 := by omega
          have n9 : (0 : Int) ≤ (m : Int) + 1 := by omega
          clear hpt
          generalize swL (pr ++ (prs r).take m) = ys at *
          generalize nm r[m] = a1 at *
          generalize nm r[m + 1] = a2 at *
          go_wp2
          refine wpIn_wide.1 (region_late2 (m := 0) (F := Fence.wide) (C := fun w' => w' = wr.drew) (D := fun _ => True) 12 2 rfl (by kernel_rfl) (by kernel_rfl) _ (by rfl) (by simp) u3 (by intro _ _ _ h; exact h) (yieldsD_move (by rfl) _ (by rfl) u3 (by rfl)) (fun _ _ => trivial) rfl ?_)
          simp only [List.take_succ_cons, List.take_zero, List.drop_succ_cons, List.drop_zero, Nat.reduceSub, Nat.reduceAdd]
          simp only [Act.put, List.setIfInBounds_toArray, List.set_cons_succ, List.set_cons_zero]
          repeat (gi_big_quiet_step (fail))
          refine wpQuietIn_nil ?_
          intro w' hw'
          subst hw'
          refine ⟨trivial, op_k (fun K hK => ?_)⟩
          go_simp
          refine ⟨trivial, rfl, callsIn_wide.2 ((l7Swap_c _ _ _).mono ?_)⟩
          rintro e w3 ⟨rfl, hb3⟩
          refine hK _ _ ?_
          clear hK K
          refine ⟨trivial, ?_⟩
          refine sliceIn_st (.tmp 33) rfl 1 a1 a2 (by rfl) ?_
          refine ⟨trivial, ?_⟩
          have hbd : Below w.heap.size w wr.drew := hbm.drew
          have hB3 := hbd.trans (hb3.mono hbms)
          have hal : Below w3.heap.size w3 (w3.alloc (.cells #[.int .i64 1, .string a1, .string a2] 33)) := (Below.refl _ _).alloc (Nat.le_refl _) _
          have hom3 := own_keep (own_keep (show wr.drew.ownsRow w.heap.size 33 3 u3 ys.length (scells ys) from hom) hb3) hal
          have hym3 := own_keep (own_keep (show wr.drew.ownsRow (w.alloc (.cells #[] 33)).heap.size 9 1 (.slice (some ⟨b, off, none⟩) rs.length cap) rs.length (tcells (rs.map txt)) from hym) hb3) hal
          have hs3 := hB3.size
          refine listIn_st rfl (.tmp 21) (.tmp 34) rfl w.heap.size u3 ys (1, a1, a2) ⟨w3.heap.size, 0, none⟩ 1 (by rfl) (by rfl) hom3 (three_new w3 _ _ _ _) (by omega) (by simp; omega) ?_
          intro v' w5 hown5 hgrow5
          have hb5 := (hB3.alloc hs3 (.cells #[.int .i64 1, .string a1, .string a2] 33)).trans (below_grown hgrow5 (B := w.heap.size) (by simp; omega) (own_block_ge hom))
          have hy5 := own_grown hym3 hgrow5 (rows_neS hym3 hom3 (by decide))
          clear hgrow5 hom3 hym3 hal hB3 hb3 hbd hom hym hbm
          gi_wp2
          go_wp2
          go_roundw
          case rel => exact ⟨m + 1, by omega, by go_num, by rw [HNX.out]; exact hown5, hb5, hy5⟩
          case measure => simp [RowKit.intOf]; omega
        · have hme : m = rn := by omega
          subst hme
          rw [HPF.out, ← HST.out] at hom
          go_wp2
          go_roundw
          case rel => exact ⟨k + 1, by omega, by go_num, hom, hbm, hym⟩
          case measure => simp [RowKit.intOf]; omega
    · have hke : k = rs.length := by omega
      subst hke
      go_wp2
      go_ret
      exact ⟨_, rfl, ho, hb⟩
end Go.Proofs.Yteadhnpmmpninaa
namespace Go.PS
open Go.PM Go.RowKit Go.PW
/-- how many steps moves take with swaps; how many swaps an exchange takes; its sign -/
def cwI (xs : List Mv) : Int := if mvalid xs then ((busyF xs 9).length : Int) - ((ringsB xs).length : Int) else -1
def csI (xs : List Mv) : Int := if exchB xs then cwI xs else -1
def sgI (xs : List Mv) : Int := if exchB xs then (if (swM xs).length % 2 = 0 then 1 else -1) else 0
theorem exch_mv {xs : List Mv} (h : exchB xs = true) : mvalid xs = true := by
  have := (exchB_iff.1 h).1
  simpa [mvalid] using this
theorem ringsB_len {xs : List Mv} (h : mvalid xs = true) : (ringsB xs).length = (ringsF (nxT (tabOf xs)) 9).length := by
  unfold ringsB ringsT; rw [if_pos h, List.length_map]
theorem ringsB_le (xs : List Mv) : (ringsB xs).length ≤ 9 := by
  rcases Bool.eq_false_or_eq_true (mvalid xs) with h | h
  · rw [ringsB_len h]
    exact (ringsF_lt (nice (SV_tab (by simpa [mvalid] using h))) 9 (Nat.le_refl _)).2.1
  · unfold ringsB; rw [if_neg (by rw [h]; decide)]; simp
theorem flat_low {f : Nat → ByteArray} (hf : SV f) : ∀ x ∈ (ringsF (nxT f) 9).flatten, x < 9 ∧ sx f x ≠ x := fun x hx => by
  obtain ⟨r, hr, hxr⟩ := List.mem_flatten.1 hx
  have hq := PO.ringQ f hf hr
  obtain ⟨i, hi⟩ := List.getElem?_of_mem hxr
  have hil := (List.getElem?_eq_some_iff.1 hi).1
  rw [List.getElem?_eq_getElem hil] at hi
  have e := Option.some.inj hi
  have h2 := hq.two
  refine ⟨by rw [← e]; exact hq.low i hil, fun es => ?_⟩
  have h3 := hq.next i hil
  rw [e, es, ← e] at h3
  have h4 := (List.getElem_inj hq.nodup).1 h3
  by_cases h5 : i + 1 < r.length
  · rw [Nat.mod_eq_of_lt h5] at h4; omega
  · rw [show i + 1 = r.length by omega, Nat.mod_self] at h4; omega
theorem busy_flat {xs : List Mv} (h : exchB xs = true) : (busyF xs 9).length = (ringsF (nxT (tabOf xs)) 9).flatten.length := by
  obtain ⟨h1, h2⟩ := exchB_iff.1 h
  have hf := SV_tab h1
  have hn := nice hf
  have hbf : (busyF xs 9).length = ((List.range 9).filter (busyH xs)).length := by unfold busyF; rw [List.length_map]
  have hbz : ∀ p, p < 9 → (busyH xs p = true ↔ sx (tabOf xs) p ≠ p) := fun p hp => by
    unfold busyH
    rw [decide_eq_true_eq, ← srcM_nm h1 hp, ne_eq, src_self hf hp]
  rw [hbf]
  refine Nat.le_antisymm ?_ ?_
  · refine PM.nodup_le _ _ (List.nodup_range.filter _) fun a ha => ?_
    obtain ⟨ha1, ha2⟩ := List.mem_filter.1 ha
    have ha9 : a < 9 := by simpa using ha1
    refine PO.ringsF_in hn ha9 (PO.exch_ring hf h2 ha9 fun e => ?_) 9 ha9
    exact (hbz a ha9).1 ha2 ((src_self hf ha9).1 e)
  · refine PM.nodup_le _ _ (PO.ringsF_nodup hn 9 (Nat.le_refl _)) fun a ha => ?_
    have := flat_low hf a ha
    exact List.mem_filter.2 ⟨by simpa using this.1, (hbz a this.1).2 this.2⟩
theorem cs_len {xs : List Mv} (h : exchB xs = true) : csI xs = ((swM xs).length : Int) := by
  obtain ⟨h1, h2⟩ := exchB_iff.1 h
  have hm := exch_mv h
  unfold csI cwI
  rw [if_pos h, if_pos hm, busy_flat h, ringsB_len hm, swM_rings h]
  have := prs_count _ (rings_pos (SV_tab h1))
  omega
theorem cs_no {xs : List Mv} (h : exchB xs = false) : csI xs = -1 := if_neg (by rw [h]; decide)
end Go.PS
namespace Go.Proofs.Yteadhnpmmpninaa
open Go.RowKit Go.PM Go.PS Go.PW Go.Lib

set_option maxRecDepth 100000 in
set_option maxHeartbeats 1000000 in
theorem imCountWithSwaps_c (xs : List Mv) (v : Value) (w : World) (hx : RdM w v xs) (hn' : xs.length ≤ 1048576) :
    Calls Try.prog 35 #[v] w fun e w' => e = .returned (.int .i64 (cwI xs)) ∧ Below w.heap.size w w' := by
  have HN : Hid (cwI xs = if mvalid xs then ((busyF xs 9).length : Int) - ((ringsB xs).length : Int) else -1) := rfl
  have HI : Hid (countI xs = if mvalid xs then ((busyF xs 9).length : Int) else -1) := rfl
  have hl1 := busyF_len xs 9
  have hl2 := ringsB_le xs
  have HC := Lib.hid (imRingsOf_c xs v w hx)
  have HB := Lib.hid (fun W (hW : Below w.heap.size w W) => imCountBusy_c xs v W (hx.below hW) hn')
  go_enter Try.func35, Try.ntmps35
  go_wp2_with fail
  refine HC.out.mono ?_
  rintro e w1 ⟨v', rfl, ho, hb⟩
  obtain ⟨A, cap, rfl, _⟩ := Rd.of_own ho
  clear ho HC hx
  have hs1 := hb.size
  rcases Bool.eq_false_or_eq_true (mvalid xs) with h1 | h1
  · have hci := HI.out
    rw [h1, if_pos rfl] at hci
    have hcb := HB.out _ hb
    rw [hci] at hcb
    generalize (ringsB xs).length = n at *
    generalize (busyF xs 9).length = m at *
    go_wp2_with (go_at_call 74; refine hcb.mono ?_; rintro e w2 ⟨rfl, hb2⟩; refine held ?_)
    unfold Held
    have hb3 := hb.trans (hb2.mono hs1)
    clear hb2 hcb hci
    go_wp2
    go_ret
    exact ⟨by rw [HN.out, h1, if_pos rfl]; rfl, hb3⟩
  · go_wp2
    go_ret
    exact ⟨by rw [HN.out, h1]; rfl, hb⟩
set_option maxRecDepth 100000 in
set_option maxHeartbeats 1000000 in
theorem spCountWithSwaps_c (xs : List Mv) (v : Value) (w : World) (hx : RdM w v xs) (hz : ∀ m ∈ xs, m.1.size ≤ 9223372036854775807 ∧ m.2.size ≤ 9223372036854775807) (hn' : xs.length ≤ 1048576) :
    Calls Try.prog 34 #[v] w fun e w' => e = .returned (.int .i64 (cwI xs)) ∧ Below w.heap.size w w' := by
  have HN : Hid (cwI xs = if mvalid xs then ((busyF xs 9).length : Int) - ((ringsB xs).length : Int) else -1) := rfl
  have hl1 := busyF_len xs 9
  have hl2 := ringsB_le xs
  have HX := Lib.hid (fun W (hW : Below w.heap.size w W) => hx.below hW)
  have HV := Lib.hid (spMovesValid_c xs v w hx hz hn')
  rcases Bool.eq_false_or_eq_true (mvalid xs) with h1 | h1
  · have HB := Lib.hid (fun W (hW : RdM W v xs) => l1Busy_c xs v W hW)
    have HL := Lib.hid (fun W (hW : RdM W v xs) => l3Rings_c xs (by simpa [mvalid] using h1) v W hW)
    have HRB : Hid (ringsT (nxT (tabOf xs)) 9 = ringsB xs) := by show _ = _; unfold ringsB; rw [if_pos h1]
    rw [HRB.out] at HL
    rw [h1] at HV HN
    clear hx hz h1 HRB
    generalize ringsB xs = rs at *
    generalize busyF xs 9 = bs at *
    go_enter Try.func34, Try.ntmps34
    go_wp2_with fail
    refine HV.out.mono ?_
    rintro e w1 ⟨rfl, hb1⟩
    have hs1 := hb1.size
    have hx1 := HX.out _ hb1
    go_wp2_with (go_at_call 53; refine (HB.out _ hx1).mono ?_; rintro e w2 ⟨v2, rfl, ho2, hb2⟩; refine held ?_)
    unfold Held
    have hB2 := hb1.trans (hb2.mono hs1)
    have hx2 := HX.out _ hB2
    have hs2 := hB2.size
    obtain ⟨A2, cap2, rfl, _⟩ := Rd.of_own ho2
    clear ho2 hx1 hb2
    go_wp2_with (go_at_call 54; refine (HL.out _ hx2).mono ?_; rintro e w3 ⟨v3, rfl, ho3, hb3⟩; refine held ?_)
    unfold Held
    have hB3 := hB2.trans (hb3.mono hs2)
    obtain ⟨A3, cap3, rfl, _⟩ := Rd.of_own ho3
    clear ho3 hx2 hb3
    generalize rs.length = n at *
    generalize bs.length = m at *
    go_wp2
    go_ret
    exact ⟨by rw [HN.out]; rfl, hB3⟩
  · rw [h1] at HV HN
    clear hx hz
    go_enter Try.func34, Try.ntmps34
    go_wp2_with fail
    refine HV.out.mono ?_
    rintro e w1 ⟨rfl, hb1⟩
    go_wp2
    go_ret
    exact ⟨by rw [HN.out]; rfl, hb1⟩
set_option maxRecDepth 100000 in
theorem imCountSwaps_c (xs : List Mv) (v : Value) (w : World) (hx : RdM w v xs) (hn' : xs.length ≤ 1048576) :
    Calls Try.prog 17 #[v] w fun e w' => e = .returned (.int .i64 (csI xs)) ∧ Below w.heap.size w w' := by
  have HN : Hid (csI xs = if exchB xs then cwI xs else -1) := rfl
  have HX := Lib.hid (fun W (hW : Below w.heap.size w W) => hx.below hW)
  have HV := Lib.hid (imIsExchange_c xs v w hx)
  rcases Bool.eq_false_or_eq_true (exchB xs) with h1 | h1
  · have HB := Lib.hid (fun W (hW : RdM W v xs) => imCountWithSwaps_c xs v W hW hn')
    rw [h1] at HV HN
    clear hx
    generalize cwI xs = n at *
    go_enter Try.func17, Try.ntmps17
    go_wp2_with fail
    refine HV.out.mono ?_
    rintro e w1 ⟨rfl, hb1⟩
    have hs1 := hb1.size
    have hx1 := HX.out _ hb1
    go_wp2_with (go_at_call 35; refine (HB.out _ hx1).mono ?_; rintro e w2 ⟨rfl, hb2⟩; refine held ?_)
    unfold Held
    have hB2 := hb1.trans (hb2.mono hs1)
    go_wp2
    go_ret
    exact ⟨by rw [HN.out]; rfl, hB2⟩
  · rw [h1] at HV HN
    clear hx
    go_enter Try.func17, Try.ntmps17
    go_wp2_with fail
    refine HV.out.mono ?_
    rintro e w1 ⟨rfl, hb1⟩
    go_wp2
    go_ret
    exact ⟨by rw [HN.out]; rfl, hb1⟩
set_option maxRecDepth 100000 in
set_option maxHeartbeats 1000000 in
theorem spCountSwaps_c (xs : List Mv) (v : Value) (w : World) (hx : RdM w v xs) (hz : ∀ m ∈ xs, m.1.size ≤ 9223372036854775807 ∧ m.2.size ≤ 9223372036854775807) (hn' : xs.length ≤ 1048576) :
    Calls Try.prog 20 #[v] w fun e w' => e = .returned (.int .i64 (csI xs)) ∧ Below w.heap.size w w' := by
  have HX := Lib.hid (fun W (hW : Below w.heap.size w W) => hx.below hW)
  have HV := Lib.hid (spIsExchange_c xs v w hx hz hn')
  have hl1 := busyF_len xs 9
  have hl2 := ringsB_le xs
  rcases Bool.eq_false_or_eq_true (exchB xs) with h0 | h0
  · have h1 := exch_mv h0
    have HN : Hid (csI xs = ((busyF xs 9).length : Int) - ((ringsB xs).length : Int)) := by show _ = _; unfold csI cwI; rw [if_pos h0, if_pos h1]
    have HB := Lib.hid (fun W (hW : RdM W v xs) => l1Busy_c xs v W hW)
    have HL := Lib.hid (fun W (hW : RdM W v xs) => l3Rings_c xs (by simpa [mvalid] using h1) v W hW)
    have HRB : Hid (ringsT (nxT (tabOf xs)) 9 = ringsB xs) := by show _ = _; unfold ringsB; rw [if_pos h1]
    rw [HRB.out] at HL
    rw [h0] at HV
    clear hx hz h1 h0 HRB
    generalize ringsB xs = rs at *
    generalize busyF xs 9 = bs at *
    go_enter Try.func20, Try.ntmps20
    go_wp2_with fail
    refine HV.out.mono ?_
    rintro e w1 ⟨rfl, hb1⟩
    have hs1 := hb1.size
    have hx1 := HX.out _ hb1
    go_wp2_with (go_at_call 53; refine (HB.out _ hx1).mono ?_; rintro e w2 ⟨v2, rfl, ho2, hb2⟩; refine held ?_)
    unfold Held
    have hB2 := hb1.trans (hb2.mono hs1)
    have hx2 := HX.out _ hB2
    have hs2 := hB2.size
    obtain ⟨A2, cap2, rfl, _⟩ := Rd.of_own ho2
    clear ho2 hx1 hb2
    go_wp2_with (go_at_call 54; refine (HL.out _ hx2).mono ?_; rintro e w3 ⟨v3, rfl, ho3, hb3⟩; refine held ?_)
    unfold Held
    have hB3 := hB2.trans (hb3.mono hs2)
    obtain ⟨A3, cap3, rfl, _⟩ := Rd.of_own ho3
    clear ho3 hx2 hb3
    generalize rs.length = n at *
    generalize bs.length = m at *
    go_wp2
    go_ret
    exact ⟨by rw [HN.out]; rfl, hB3⟩
  · have HN := Lib.hid (cs_no h0)
    rw [h0] at HV
    clear hx hz
    go_enter Try.func20, Try.ntmps20
    go_wp2_with fail
    refine HV.out.mono ?_
    rintro e w1 ⟨rfl, hb1⟩
    go_wp2
    go_ret
    exact ⟨by rw [HN.out]; rfl, hb1⟩
set_option maxRecDepth 100000 in
set_option maxHeartbeats 1000000 in
theorem imSignOf_c (xs : List Mv) (v : Value) (w : World) (hx : RdM w v xs) (hn' : xs.length ≤ 1048576) :
    Calls Try.prog 18 #[v] w fun e w' => e = .returned (.int .i64 (sgI xs)) ∧ Below w.heap.size w w' := by
  have HN : Hid (sgI xs = if exchB xs then (if (swM xs).length % 2 = 0 then 1 else -1) else 0) := rfl
  have HV := Lib.hid (imCountSwaps_c xs v w hx hn')
  rcases Bool.eq_false_or_eq_true (exchB xs) with h1 | h1
  · have hc := cs_len h1
    rw [hc] at HV
    rw [h1, if_pos rfl] at HN
    have hl := swM_le xs
    clear hc hx
    generalize (swM xs).length = n at *
    have n0 : (0 : Int) ≤ (n : Int) := by omega
    have n1 : ¬ (n : Int) < 0 := by omega
    rcases Nat.mod_two_eq_zero_or_one n with h2 | h2
    · have n2 : (n : Int).tmod 2 = 0 := by rw [Int.tmod_eq_emod_of_nonneg n0]; omega
      have n3 : (n : Int) % 2 = 0 := by omega
      have HH := Lib.hid h2
      clear h2
      go_enter Try.func18, Try.ntmps18
      go_wp2_with fail
      refine HV.out.mono ?_
      rintro e w1 ⟨rfl, hb1⟩
      go_wp2
      go_ret
      exact ⟨by rw [HN.out, if_pos HH.out]; rfl, hb1⟩
    · have n2 : (n : Int).tmod 2 = 1 := by rw [Int.tmod_eq_emod_of_nonneg n0]; omega
      have n3 : (n : Int) % 2 = 1 := by omega
      have HH : Hid (¬ n % 2 = 0) := by show ¬ _; omega
      clear h2
      go_enter Try.func18, Try.ntmps18
      go_wp2_with fail
      refine HV.out.mono ?_
      rintro e w1 ⟨rfl, hb1⟩
      go_wp2
      go_ret
      exact ⟨by rw [HN.out, if_neg HH.out]; rfl, hb1⟩
  · rw [cs_no h1] at HV
    rw [h1] at HN
    clear hx
    go_enter Try.func18, Try.ntmps18
    go_wp2_with fail
    refine HV.out.mono ?_
    rintro e w1 ⟨rfl, hb1⟩
    go_wp2
    go_ret
    exact ⟨by rw [HN.out]; rfl, hb1⟩
set_option maxRecDepth 100000 in
set_option maxHeartbeats 1000000 in
theorem spSignOf_c (xs : List Mv) (v : Value) (w : World) (hx : RdM w v xs) (hz : ∀ m ∈ xs, m.1.size ≤ 9223372036854775807 ∧ m.2.size ≤ 9223372036854775807) (hn' : xs.length ≤ 1048576) :
    Calls Try.prog 21 #[v] w fun e w' => e = .returned (.int .i64 (sgI xs)) ∧ Below w.heap.size w w' := by
  have HN : Hid (sgI xs = if exchB xs then (if (swM xs).length % 2 = 0 then 1 else -1) else 0) := rfl
  have HV := Lib.hid (spCountSwaps_c xs v w hx hz hn')
  rcases Bool.eq_false_or_eq_true (exchB xs) with h1 | h1
  · have hc := cs_len h1
    rw [hc] at HV
    rw [h1, if_pos rfl] at HN
    have hl := swM_le xs
    clear hc hx
    generalize (swM xs).length = n at *
    have n0 : (0 : Int) ≤ (n : Int) := by omega
    have n1 : ¬ (n : Int) < 0 := by omega
    rcases Nat.mod_two_eq_zero_or_one n with h2 | h2
    · have n2 : (n : Int).tmod 2 = 0 := by rw [Int.tmod_eq_emod_of_nonneg n0]; omega
      have n3 : (n : Int) % 2 = 0 := by omega
      have HH := Lib.hid h2
      clear h2
      go_enter Try.func21, Try.ntmps21
      go_wp2_with fail
      refine HV.out.mono ?_
      rintro e w1 ⟨rfl, hb1⟩
      go_wp2
      go_ret
      exact ⟨by rw [HN.out, if_pos HH.out]; rfl, hb1⟩
    · have n2 : (n : Int).tmod 2 = 1 := by rw [Int.tmod_eq_emod_of_nonneg n0]; omega
      have n3 : (n : Int) % 2 = 1 := by omega
      have HH : Hid (¬ n % 2 = 0) := by show ¬ _; omega
      clear h2
      go_enter Try.func21, Try.ntmps21
      go_wp2_with fail
      refine HV.out.mono ?_
      rintro e w1 ⟨rfl, hb1⟩
      go_wp2
      go_ret
      exact ⟨by rw [HN.out, if_neg HH.out]; rfl, hb1⟩
  · rw [cs_no h1] at HV
    rw [h1] at HN
    clear hx
    go_enter Try.func21, Try.ntmps21
    go_wp2_with fail
    refine HV.out.mono ?_
    rintro e w1 ⟨rfl, hb1⟩
    go_wp2
    go_ret
    exact ⟨by rw [HN.out]; rfl, hb1⟩
set_option maxRecDepth 100000 in
theorem spSwapsFor_c (xs : List Mv) (v : Value) (w : World) (hx : RdM w v xs) (hz : ∀ m ∈ xs, m.1.size ≤ 9223372036854775807 ∧ m.2.size ≤ 9223372036854775807) (hn' : xs.length ≤ 1048576) :
    Calls Try.prog 14 #[v] w fun e w' => ∃ v', e = .returned (.tuple #[v', .bool (exchB xs)]) ∧ w'.ownsRow w.heap.size 33 3 v' (swL (swM xs)).length (scells (swL (swM xs))) ∧ Below w.heap.size w w' := by
  have HX := Lib.hid (fun W (hW : Below w.heap.size w W) => hx.below hW)
  have HV := Lib.hid (spIsExchange_c xs v w hx hz hn')
  rcases Bool.eq_false_or_eq_true (exchB xs) with h0 | h0
  · have HL := Lib.hid (fun W (hW : RdM W v xs) => l7Rings_c xs (exchB_iff.1 h0).1 v W hW)
    rw [← swM_rings h0] at HL
    have H0 := Lib.hid h0
    rw [h0] at HV
    clear hx hz h0
    generalize swL (swM xs) = ys at *
    go_enter Try.func14, Try.ntmps14
    go_wp2_with fail
    refine HV.out.mono ?_
    rintro e w1 ⟨rfl, hb1⟩
    have hs1 := hb1.size
    have hx1 := HX.out _ hb1
    go_wp2_with (go_at_call 48; refine (HL.out _ hx1).mono ?_; rintro e w2 ⟨v2, rfl, ho2, hb2⟩; refine held ?_)
    unfold Held
    have hB2 := hb1.trans (hb2.mono hs1)
    have ho3 := own_more ho2 hs1
    clear ho2 hb2
    go_wp2
    go_ret2
    exact ⟨_, by rw [H0.out]; rfl, ho3, hB2⟩
  · have HNO : Hid (swL (swM xs) = []) := by show _ = _; rw [swM_no h0]; rfl
    have H0 := Lib.hid h0
    rw [h0] at HV
    clear hx hz h0
    go_enter Try.func14, Try.ntmps14
    go_wp2_with fail
    refine HV.out.mono ?_
    rintro e w1 ⟨rfl, hb1⟩
    have hs1 := hb1.size
    have hE := World.ownsRow_lit (e := 33) (base := w.heap.size) (size := 3) w1 #[] 0 hs1 (Nat.zero_le _) rfl
    go_wp2
    go_ret2
    exact ⟨_, by rw [H0.out]; rfl, by rw [HNO.out]; exact hE, by (repeat' (first | (with_reducible exact Below.refl _ _) | (with_reducible assumption) | (with_reducible refine Below.alloc ?_ ?_ _) | (with_reducible refine Below.drew ?_) | (with_reducible refine Below.setCell ?_ ?_ _) | (with_reducible exact Nat.le_refl _) | omega | ((repeat (first | rewrite [World.size_alloc] | rewrite [World.size_setCell] | rewrite [World.size_drew])); omega) | (simp; omega) | (simp; done)))⟩
end Go.Proofs.Yteadhnpmmpninaa
namespace Go.PM
open Go.RowKit
theorem beqB (a b : ByteArray) : (a == b) = (a.data == b.data) := by cases a; cases b; rfl
instance lawB : LawfulBEq ByteArray where
  eq_of_beq {a b} h := by
    rw [beqB] at h
    exact ByteArray.ext (eq_of_beq h)
  rfl {a} := by rw [beqB]; exact beq_self_eq_true _
/-- how many of the moves read a place -/
def rdN (xs : List Mv) (a : ByteArray) : Nat := (xs.map (·.2)).count a
/-- a move whose place none reads -/
def freeB (xs : List Mv) (m : Mv) : Bool := decide (rdN xs m.1 = 0)
/-- the first move that can be done ahead of all others -/
def aheadI (xs : List Mv) : Option Nat := xs.findIdx? (freeB xs)
def aheadZ (xs : List Mv) : Int := match aheadI xs with
  | some i => (i : Int)
  | none => -1
def spT : ByteArray := ⟨#[116]⟩
/-- moves that read a place read another one instead -/
def instM (a b : ByteArray) (xs : List Mv) : List Mv := xs.map fun m => if m.2 = a then (m.1, b) else m
/-- moves behind one that is done -/
def redM (d : Mv) (xs : List Mv) : List Mv := if isD d.2 = true then xs else instM d.2 d.1 xs
theorem isP_cases {s : ByteArray} (h : isP s = true) : isD s = false ∧ s ≠ spT := by
  obtain ⟨h1, h2⟩ := pidx_spec h
  rw [← h2]
  generalize pidx s = p at h1
  match p, h1 with
  | 0, _ | 1, _ | 2, _ | 3, _ | 4, _ | 5, _ | 6, _ | 7, _ | 8, _ => decide +kernel
theorem isD_cases {s : ByteArray} (h : isD s = true) : isP s = false ∧ s ≠ spT := by
  refine ⟨?_, fun e => ?_⟩
  · rcases Bool.eq_false_or_eq_true (isP s) with h1 | h1
    · rw [(isP_cases h1).1] at h; cases h
    · exact h1
  · subst e; revert h; decide +kernel
theorem spT_cases : isP spT = false ∧ isD spT = false := by decide +kernel
theorem instM_len (a b : ByteArray) (xs : List Mv) : (instM a b xs).length = xs.length := by simp [instM]
theorem redM_len (d : Mv) (xs : List Mv) : (redM d xs).length = xs.length := by
  unfold redM; split
  · rfl
  · exact instM_len _ _ _
theorem instM_keys (a b : ByteArray) (xs : List Mv) : (instM a b xs).map (·.1) = xs.map (·.1) := by
  unfold instM
  rw [List.map_map]
  refine List.map_congr_left fun m _ => ?_
  show (if m.2 = a then (m.1, b) else m).1 = m.1
  split <;> rfl
theorem redM_keys (d : Mv) (xs : List Mv) : (redM d xs).map (·.1) = xs.map (·.1) := by
  unfold redM; split
  · rfl
  · exact instM_keys _ _ _
theorem instM_mem {a b : ByteArray} {xs : List Mv} {m : Mv} (h : m ∈ instM a b xs) : ∃ x ∈ xs, m.1 = x.1 ∧ ((x.2 = a ∧ m.2 = b) ∨ (x.2 ≠ a ∧ m = x)) := by
  unfold instM at h
  obtain ⟨x, hx, e⟩ := List.mem_map.1 h
  by_cases hxa : x.2 = a
  · rw [if_pos hxa] at e; subst e
    exact ⟨x, hx, rfl, .inl ⟨hxa, rfl⟩⟩
  · rw [if_neg hxa] at e; subst e
    exact ⟨x, hx, rfl, .inr ⟨hxa, rfl⟩⟩
theorem instM_at (a b : ByteArray) (xs : List Mv) (k : Nat) (hk : k < (instM a b xs).length) : (instM a b xs)[k] = if (xs[k]'(by rwa [instM_len] at hk)).2 = a then ((xs[k]'(by rwa [instM_len] at hk)).1, b) else xs[k]'(by rwa [instM_len] at hk) := by
  simp only [instM, List.getElem_map]
theorem instM_none {a b : ByteArray} {xs : List Mv} (h : rdN xs a = 0) : instM a b xs = xs := by
  unfold instM
  have : ∀ m ∈ xs, (if m.2 = a then (m.1, b) else m) = m := fun m hm => by
    rw [if_neg]
    intro e
    unfold rdN at h
    rw [List.count_eq_zero] at h
    exact h (List.mem_map.2 ⟨m, hm, e⟩)
  rw [List.map_congr_left this, List.map_id']
theorem instM_rdN (a b : ByteArray) (hab : b ≠ a) : ∀ xs : List Mv, rdN (instM a b xs) a = 0 ∧ rdN (instM a b xs) b = rdN xs b + rdN xs a ∧ ∀ c, c ≠ a → c ≠ b → rdN (instM a b xs) c = rdN xs c
  | [] => ⟨rfl, rfl, fun _ _ _ => rfl⟩
  | x :: xs => by
    obtain ⟨h1, h2, h3⟩ := instM_rdN a b hab xs
    have e : instM a b (x :: xs) = (if x.2 = a then (x.1, b) else x) :: instM a b xs := rfl
    unfold rdN at *
    rw [e, List.map_cons, List.map_cons]
    by_cases hx : x.2 = a
    · rw [if_pos hx]
      refine ⟨?_, ?_, fun c hc hc2 => ?_⟩
      · rw [List.count_cons_of_ne (by exact hab), h1]
      · rw [List.count_cons_self, h2, hx, List.count_cons_of_ne (by exact fun e => hab e.symm), List.count_cons_self]; omega
      · rw [List.count_cons_of_ne (by exact fun e => hc2 e.symm), h3 c hc hc2, hx, List.count_cons_of_ne (by exact fun e => hc e.symm)]
    · rw [if_neg hx]
      refine ⟨?_, ?_, fun c hc hc2 => ?_⟩
      · rw [List.count_cons_of_ne hx, h1]
      · rw [List.count_cons, h2, List.count_cons_of_ne hx, List.count_cons]; omega
      · rw [List.count_cons, h3 c hc hc2, List.count_cons]
theorem rdN_zero {xs : List Mv} {a : ByteArray} : rdN xs a = 0 ↔ ∀ m ∈ xs, m.2 ≠ a := by
  unfold rdN
  rw [List.count_eq_zero]
  constructor
  · intro h m hm e; exact h (List.mem_map.2 ⟨m, hm, e⟩)
  · intro h hm
    obtain ⟨m, hm, e⟩ := List.mem_map.1 hm
    exact h m hm e
theorem rdN_erase (xs : List Mv) (i : Nat) (hi : i < xs.length) (a : ByteArray) : rdN xs a = rdN (xs.eraseIdx i) a + if xs[i].2 = a then 1 else 0 := by
  induction xs generalizing i with
  | nil => simp at hi
  | cons x xs ih =>
    cases i with
    | zero =>
      unfold rdN
      rw [List.eraseIdx_zero, List.tail_cons, List.map_cons, List.count_cons]
      simp
    | succ i =>
      have := ih i (by simpa using hi)
      unfold rdN at this ⊢
      rw [List.eraseIdx_cons_succ, List.map_cons, List.map_cons, List.count_cons, List.count_cons, this]
      simp only [List.getElem_cons_succ]; omega
theorem erase_mem {α : Type _} {xs : List α} {i : Nat} {m : α} (h : m ∈ xs.eraseIdx i) : m ∈ xs := (List.eraseIdx_sublist xs i).subset h
theorem erase_key {xs : List Mv} (hn : (xs.map (·.1)).Nodup) {i : Nat} (hi : i < xs.length) : ∀ m ∈ xs.eraseIdx i, m.1 ≠ xs[i].1 := by
  induction xs generalizing i with
  | nil => simp at hi
  | cons x xs ih =>
    rw [List.map_cons, List.nodup_cons] at hn
    intro m hm e
    cases i with
    | zero =>
      rw [List.eraseIdx_zero, List.tail_cons] at hm
      exact hn.1 (List.mem_map.2 ⟨m, hm, by simpa using e⟩)
    | succ i =>
      rw [List.eraseIdx_cons_succ, List.mem_cons] at hm
      simp only [List.getElem_cons_succ] at e
      rcases hm with rfl | hm
      · exact hn.1 (List.mem_map.2 ⟨xs[i]'(by simpa using hi), List.getElem_mem _, e.symm⟩)
      · exact ih hn.2 (by simpa using hi) m hm e
theorem erase_or {α : Type _} {xs : List α} {i : Nat} (hi : i < xs.length) {m : α} (h : m ∈ xs) : m = xs[i] ∨ m ∈ xs.eraseIdx i := by
  induction xs generalizing i with
  | nil => simp at hi
  | cons x xs ih =>
    cases i with
    | zero =>
      rw [List.mem_cons] at h
      rcases h with rfl | h
      · exact .inl rfl
      · exact .inr (by simpa using h)
    | succ i =>
      rw [List.mem_cons] at h
      rw [List.eraseIdx_cons_succ, List.mem_cons]
      rcases h with rfl | h
      · exact .inr (.inl rfl)
      · rcases ih (by simpa using hi) h with e | e
        · exact .inl (by simpa using e)
        · exact .inr (.inr e)
/-- moves that wait -/
structure Wt (ws : List Mv) : Prop where
  keys : (ws.map (·.1)).Nodup
  to_ : ∀ m ∈ ws, isP m.1 = true
  from_ : ∀ m ∈ ws, isP m.2 = true ∨ isD m.2 = true ∨ m.2 = spT
  ne : ∀ m ∈ ws, m.1 ≠ m.2
  one : rdN ws spT ≤ 1
theorem aheadI_some {ws : List Mv} {i : Nat} (h : aheadI ws = some i) : ∃ hi : i < ws.length, rdN ws ws[i].1 = 0 := by
  unfold aheadI at h
  obtain ⟨h1, h2, _⟩ := List.findIdx?_eq_some_iff_getElem.1 h
  refine ⟨h1, ?_⟩
  unfold freeB at h2
  simpa using h2
theorem aheadI_none {ws : List Mv} (h : aheadI ws = none) : ∀ m ∈ ws, rdN ws m.1 ≠ 0 := by
  intro m hm e
  unfold aheadI at h
  have := List.findIdx?_eq_none_iff.1 h m hm
  unfold freeB at this
  simp [e] at this
theorem Wt.erase {ws : List Mv} (h : Wt ws) (i : Nat) : Wt (ws.eraseIdx i) := by
  refine ⟨h.keys.sublist ((List.eraseIdx_sublist ws i).map _), fun m hm => h.to_ m (erase_mem hm), fun m hm => h.from_ m (erase_mem hm), fun m hm => h.ne m (erase_mem hm), ?_⟩
  refine Nat.le_trans ?_ h.one
  unfold rdN
  exact ((List.eraseIdx_sublist ws i).map _).count_le _
theorem Wt.inst {ws : List Mv} (h : Wt ws) {a b : ByteArray} (_hab : b ≠ a) (hb : isP b = true ∨ b = spT) (hk : ∀ m ∈ ws, m.1 ≠ b) (h1 : rdN (instM a b ws) spT ≤ 1) : Wt (instM a b ws) := by
  refine ⟨by rw [instM_keys]; exact h.keys, fun m hm => ?_, fun m hm => ?_, fun m hm => ?_, h1⟩
  · obtain ⟨x, hx, e, _⟩ := instM_mem hm
    rw [e]; exact h.to_ x hx
  · obtain ⟨x, hx, e, (⟨e1, e2⟩ | ⟨e1, e2⟩)⟩ := instM_mem hm
    · rw [e2]
      rcases hb with hb | hb
      · exact .inl hb
      · exact .inr (.inr hb)
    · rw [e2]; exact h.from_ x hx
  · obtain ⟨x, hx, e, (⟨e1, e2⟩ | ⟨e1, e2⟩)⟩ := instM_mem hm
    · rw [e, e2]; exact hk x hx
    · rw [e2]; exact h.ne x hx
theorem perm_of_sub {α : Type _} [BEq α] [LawfulBEq α] : ∀ (l m : List α), l.Nodup → (∀ a ∈ l, a ∈ m) → m.length ≤ l.length → l.Perm m
  | [], m, _, _, hl => by
    have : m = [] := List.length_eq_zero_iff.1 (by simpa using hl)
    rw [this]
  | a :: l, m, hn, hs, hl => by
    rw [List.nodup_cons] at hn
    have ha : a ∈ m := hs a (by simp)
    have h1 := perm_of_sub l (m.erase a) hn.2 (fun b hb => (List.mem_erase_of_ne (fun (e : b = a) => hn.1 (by rw [← e]; exact hb))).2 (hs b (by simp [hb]))) (by
      rw [List.length_erase_of_mem ha]; simp only [List.length_cons] at hl; omega)
    exact (List.Perm.cons a h1).trans (List.perm_cons_erase ha).symm
/-- where each place waits for a reader, all moves are of closed rings -/
theorem Wt.full {ws : List Mv} (h : Wt ws) (hn : aheadI ws = none) : (∀ m ∈ ws, rdN ws m.1 = 1) ∧ (∀ m ∈ ws, ∃ x ∈ ws, x.1 = m.2) ∧ rdN ws spT = 0 := by
  have hp : (ws.map (·.1)).Perm (ws.map (·.2)) := by
    refine perm_of_sub _ _ h.keys (fun a ha => ?_) (by simp)
    obtain ⟨m, hm, rfl⟩ := List.mem_map.1 ha
    have := aheadI_none hn m hm
    unfold rdN at this
    exact List.count_pos_iff.1 (Nat.pos_of_ne_zero this)
  have hx : ∀ m ∈ ws, ∃ x ∈ ws, x.1 = m.2 := fun m hm => by
    have := hp.mem_iff.2 (List.mem_map.2 ⟨m, hm, rfl⟩ : m.2 ∈ ws.map (·.2))
    obtain ⟨x, hx, e⟩ := List.mem_map.1 this
    exact ⟨x, hx, e⟩
  refine ⟨fun m hm => ?_, hx, ?_⟩
  · unfold rdN
    rw [← hp.count_eq]
    have h1 := (List.nodup_iff_count.1 h.keys) m.1
    have h2 : 0 < (ws.map (·.1)).count m.1 := List.count_pos_iff.2 (List.mem_map.2 ⟨m, hm, rfl⟩)
    omega
  · rw [rdN_zero]
    intro m hm e
    obtain ⟨x, hx, e2⟩ := hx m hm
    exact (isP_cases (h.to_ x hx)).2 (e2.trans e)
theorem Wt.some_ {ws : List Mv} (h : Wt ws) {i : Nat} (hi : i < ws.length) (_hf : rdN ws ws[i].1 = 0) : Wt (redM ws[i] (ws.eraseIdx i)) := by
  unfold redM
  split
  · exact h.erase i
  · next hd =>
    have hm := List.getElem_mem hi
    have hne := h.ne _ hm
    refine (h.erase i).inst hne (.inl (h.to_ _ hm)) (erase_key h.keys hi) ?_
    have ht : ws[i].1 ≠ spT := (isP_cases (h.to_ _ hm)).2
    obtain ⟨r1, r2, r3⟩ := instM_rdN ws[i].2 ws[i].1 hne (ws.eraseIdx i)
    by_cases e : ws[i].2 = spT
    · rw [e] at r1; rw [e, r1]; omega
    · rw [r3 _ (fun e' => e e'.symm) (fun e' => ht e'.symm)]
      exact (h.erase i).one
theorem Wt.none_ {ws : List Mv} (h : Wt ws) (h0 : 0 < ws.length) (hn : aheadI ws = none) : Wt (redM (spT, ws[0].1) ws) ∧ rdN (redM (spT, ws[0].1) ws) spT = 1 := by
  obtain ⟨f1, f2, f3⟩ := h.full hn
  have hm := List.getElem_mem h0
  have hp := isP_cases (h.to_ _ hm)
  have e : redM (spT, ws[0].1) ws = instM ws[0].1 spT ws := by
    unfold redM
    rw [if_neg]
    show ¬ isD ws[0].1 = true
    rw [hp.1]; decide
  obtain ⟨r1, r2, r3⟩ := instM_rdN ws[0].1 spT (fun e => hp.2 e.symm) ws
  have h1 : rdN (instM ws[0].1 spT ws) spT = 1 := by rw [r2, f3, f1 _ hm]
  rw [e]
  exact ⟨h.inst (fun e => hp.2 e.symm) (.inr rfl) (fun m hm => (isP_cases (h.to_ m hm)).2) (by omega), h1⟩
/-- the steps of an order -/
def ordF : Nat → List Mv → List Mv
  | 0, _ => []
  | _ + 1, [] => []
  | n + 1, x :: xs => match aheadI (x :: xs) with
    | some i => match (x :: xs)[i]? with
      | some m => m :: ordF n (redM m ((x :: xs).eraseIdx i))
      | none => []
    | none => (spT, x.1) :: ordF n (redM (spT, x.1) (x :: xs))
theorem ordF_nil (n : Nat) : ordF n [] = [] := by cases n <;> rfl
theorem ordF_some {n : Nat} {ws : List Mv} {i : Nat} (hi : i < ws.length) (h : aheadI ws = some i) : ordF (n + 1) ws = ws[i] :: ordF n (redM ws[i] (ws.eraseIdx i)) := by
  cases ws with
  | nil => simp at hi
  | cons x xs =>
    rw [ordF, h]
    simp only
    rw [List.getElem?_eq_getElem hi]
theorem ordF_none {n : Nat} {ws : List Mv} (h0 : 0 < ws.length) (h : aheadI ws = none) : ordF (n + 1) ws = (spT, ws[0].1) :: ordF n (redM (spT, ws[0].1) ws) := by
  cases ws with
  | nil => simp at h0
  | cons x xs =>
    rw [ordF, h]
    rfl
/-- what is left of an order takes fewer steps than this -/
def muW (ws : List Mv) : Nat := 2 * ws.length + if rdN ws spT = 0 then 1 else 0
theorem muW_some {ws : List Mv} {i : Nat} (hi : i < ws.length) (d : Mv) : muW (redM d (ws.eraseIdx i)) + 1 ≤ muW ws := by
  unfold muW
  rw [redM_len, List.length_eraseIdx_of_lt hi]
  split <;> split <;> omega
theorem muW_none {ws : List Mv} (h : Wt ws) (h0 : 0 < ws.length) (hn : aheadI ws = none) : muW (redM (spT, ws[0].1) ws) + 1 ≤ muW ws := by
  have h1 := (h.none_ h0 hn).2
  have h2 := (h.full hn).2.2
  unfold muW
  rw [redM_len, h1, h2]
  simp
/-- what is taken ahead, as long as there is such a move -/
def takF : Nat → List Mv → List Mv
  | 0, _ => []
  | n + 1, xs => match aheadI xs with
    | some i => match xs[i]? with
      | some m => m :: takF n (xs.eraseIdx i)
      | none => []
    | none => []
theorem takF_some {n : Nat} {ws : List Mv} {i : Nat} (hi : i < ws.length) (h : aheadI ws = some i) : takF (n + 1) ws = ws[i] :: takF n (ws.eraseIdx i) := by
  rw [takF, h]
  simp only
  rw [List.getElem?_eq_getElem hi]
theorem takF_none {n : Nat} {ws : List Mv} (h : aheadI ws = none) : takF n ws = [] := by
  cases n with
  | zero => rfl
  | succ n => rw [takF, h]
theorem takF_len : ∀ n ws, (takF n ws).length ≤ ws.length
  | 0, _ => Nat.zero_le _
  | n + 1, ws => by
    rw [takF]
    cases h : aheadI ws with
    | none => exact Nat.zero_le _
    | some i =>
      obtain ⟨hi, _⟩ := aheadI_some h
      simp only
      rw [List.getElem?_eq_getElem hi]
      have := takF_len n (ws.eraseIdx i)
      rw [List.length_eraseIdx_of_lt hi] at this
      simp only [List.length_cons]; omega
theorem ordF_len : ∀ n ws, (ordF n ws).length ≤ n
  | 0, _ => Nat.le_refl _
  | n + 1, [] => Nat.zero_le _
  | n + 1, x :: xs => by
    rw [ordF]
    split
    · split
      · have := ordF_len n; simp only [List.length_cons]; exact Nat.succ_le_succ (this _)
      · exact Nat.zero_le _
    · simp only [List.length_cons]; exact Nat.succ_le_succ (ordF_len n _)
theorem busyF_Wt {xs : List Mv} (h : MV xs) : Wt (busyF xs 9) := by
  have hl : busyF xs 9 = lsF (fun p => srcM xs (nm p)) 9 := rfl
  have hMV : MV (busyF xs 9) := by rw [hl]; exact lsF_MV (SVal_M h)
  refine ⟨hMV.2, fun m hm => ?_, fun m hm => ?_, fun m hm => ?_, ?_⟩
  · have := hMV.1 m hm
    unfold mok at this; rw [Bool.and_eq_true] at this; exact this.1
  · have := hMV.1 m hm
    unfold mok at this; rw [Bool.and_eq_true] at this
    have h2 := this.2
    unfold isS at h2; rw [Bool.or_eq_true] at h2
    exact h2.elim .inl (fun h => .inr (.inl h))
  · rw [hl] at hm
    obtain ⟨p, _, hne, e⟩ := lsF_mem hm
    rw [e]; exact fun e => hne e.symm
  · have : rdN (busyF xs 9) spT = 0 := by
      rw [rdN_zero]
      intro m hm e
      have := hMV.1 m hm
      unfold mok at this; rw [Bool.and_eq_true] at this
      have h2 := this.2
      rw [e] at h2
      revert h2; decide +kernel
    omega
/-- steps that do moves; moves in an order in which they can be done -/
def ordM (xs : List Mv) : List Mv := if mvalid xs then ordF 19 (busyF xs 9) else []
def takM (xs : List Mv) : List Mv := takF 9 (busyF xs 9)
def wspB (xs : List Mv) : Bool := mvalid xs && decide ((takM xs).length = (busyF xs 9).length)
def wspM (xs : List Mv) : List Mv := if wspB xs then takM xs else []
end Go.PM
namespace Go.PS
open Go.PM Go.RowKit Go.PW
/-- what is left when all has been taken ahead that can be -/
def remF : Nat → List Mv → List Mv
  | 0, ws => ws
  | n + 1, ws => match aheadI ws with
    | some i => remF n (ws.eraseIdx i)
    | none => ws
theorem remF_some {n : Nat} {ws : List Mv} {i : Nat} (h : aheadI ws = some i) : remF (n + 1) ws = remF n (ws.eraseIdx i) := by rw [remF, h]
theorem remF_none {n : Nat} {ws : List Mv} (h : aheadI ws = none) : remF n ws = ws := by
  cases n with
  | zero => rfl
  | succ n => rw [remF, h]
theorem remF_sub : ∀ (n : Nat) (ws : List Mv), (remF n ws).Sublist ws
  | 0, ws => List.Sublist.refl ws
  | n + 1, ws => by
    cases h : aheadI ws with
    | none => rw [remF_none h]; exact List.Sublist.refl ws
    | some i => rw [remF_some h]; exact (remF_sub n _).trans (List.eraseIdx_sublist ws i)
theorem remF_ahead : ∀ (n : Nat) (ws : List Mv), ws.length ≤ n → aheadI (remF n ws) = none
  | 0, ws, hl => by
    have : ws = [] := List.length_eq_zero_iff.1 (by omega)
    rw [this]; rfl
  | n + 1, ws, hl => by
    cases h : aheadI ws with
    | none => rw [remF_none h]; exact h
    | some i =>
      obtain ⟨hi, _⟩ := aheadI_some h
      rw [remF_some h]
      exact remF_ahead n _ (by rw [List.length_eraseIdx_of_lt hi]; omega)
theorem tak_sub : ∀ (n : Nat) (ws : List Mv), ∀ m ∈ takF n ws, m ∈ ws
  | 0, _, m, h => by cases h
  | n + 1, ws, m, h => by
    cases ha : aheadI ws with
    | none => rw [takF_none ha] at h; cases h
    | some i =>
      obtain ⟨hi, _⟩ := aheadI_some ha
      rw [takF_some hi ha] at h
      rcases List.mem_cons.1 h with rfl | h
      · exact List.getElem_mem hi
      · exact erase_mem (tak_sub n _ m h)
theorem tak_rem : ∀ (n : Nat) (ws : List Mv), (ws.map (·.1)).Nodup → (∀ m ∈ ws, m ∈ takF n ws ∨ m ∈ remF n ws) ∧ (∀ a ∈ takF n ws, ∀ b ∈ remF n ws, a.1 ≠ b.1) ∧ (takF n ws).length + (remF n ws).length = ws.length
  | 0, ws, _ => ⟨fun m h => .inr h, fun a h => (by cases h), by simp [takF, remF]⟩
  | n + 1, ws, hk => by
    cases ha : aheadI ws with
    | none =>
      rw [takF_none ha, remF_none ha]
      exact ⟨fun m h => .inr h, fun a h => (by cases h), by simp⟩
    | some i =>
      obtain ⟨hi, _⟩ := aheadI_some ha
      rw [takF_some hi ha, remF_some ha]
      obtain ⟨h1, h2, h3⟩ := tak_rem n (ws.eraseIdx i) (hk.sublist ((List.eraseIdx_sublist ws i).map _))
      refine ⟨fun m hm => ?_, fun a h b hb => ?_, ?_⟩
      · rcases erase_or hi hm with rfl | hm
        · exact .inl (by simp)
        · exact (h1 m hm).imp (fun h => by simp [h]) id
      · rcases List.mem_cons.1 h with rfl | h
        · exact fun e => erase_key hk hi b ((remF_sub n _).subset hb) e.symm
        · exact h2 a h b hb
      · rw [List.length_eraseIdx_of_lt hi] at h3
        simp only [List.length_cons]; omega
/-- a table without the moves that are done -/
def delF (f : Nat → ByteArray) (T : List Mv) : Nat → ByteArray := fun p => if nm p ∈ T.map (·.1) then emp else f p
theorem delF_nil (f : Nat → ByteArray) : delF f [] = f := by funext p; simp [delF]
theorem delF_snoc (f : Nat → ByteArray) (T : List Mv) (m : Mv) (hm : isP m.1 = true) (p : Nat) (hp : p < 9) : (if p = pidx m.1 then emp else delF f T p) = delF f (T ++ [m]) p := by
  unfold delF
  have hs := pidx_spec hm
  rw [List.map_append, List.map_cons, List.map_nil]
  by_cases e : p = pidx m.1
  · rw [if_pos e, if_pos (by rw [e, hs.2]; simp)]
  · rw [if_neg e]
    have : (nm p ∈ T.map (·.1) ++ [m.1]) ↔ nm p ∈ T.map (·.1) := by
      rw [List.mem_append, List.mem_singleton]
      constructor
      · rintro (h | h)
        · exact h
        · exact absurd (by rw [← h, pidx_nm hp]) e
      · exact .inl
    by_cases h : nm p ∈ T.map (·.1)
    · rw [if_pos h, if_pos (this.2 h)]
    · rw [if_neg h, if_neg (fun h2 => h (this.1 h2))]
theorem busy_at {xs : List Mv} {p : Nat} (hp : p < 9) : nm p ∈ (busyF xs 9).map (·.1) ↔ srcM xs (nm p) ≠ nm p := by
  unfold busyF
  rw [List.map_map, List.mem_map]
  constructor
  · rintro ⟨q, hq, e⟩
    obtain ⟨h1, h2⟩ := List.mem_filter.1 hq
    have : q = p := nm_inj (by simpa using h1) hp e
    subst this
    simpa [busyH] using h2
  · intro h
    exact ⟨p, List.mem_filter.2 ⟨by simpa using hp, by simpa [busyH] using h⟩, rfl⟩
theorem busy_is {xs : List Mv} {m : Mv} (h : m ∈ busyF xs 9) : ∃ p, p < 9 ∧ m = (nm p, srcM xs (nm p)) ∧ srcM xs (nm p) ≠ nm p := by
  unfold busyF at h
  obtain ⟨q, hq, rfl⟩ := List.mem_map.1 h
  obtain ⟨h1, h2⟩ := List.mem_filter.1 hq
  exact ⟨q, by simpa using h1, rfl, by simpa [busyH] using h2⟩
/-- the moves that are left of all -/
def remM (xs : List Mv) : List Mv := remF 9 (busyF xs 9)
theorem remM_MV {xs : List Mv} (h : MV xs) : MV (remM xs) := by
  have hl : busyF xs 9 = lsF (fun p => srcM xs (nm p)) 9 := rfl
  have hB : MV (busyF xs 9) := by rw [hl]; exact lsF_MV (SVal_M h)
  have hs := remF_sub 9 (busyF xs 9)
  exact ⟨fun m hm => hB.1 m (hs.subset hm), hB.2.sublist (hs.map _)⟩
theorem rem_src {xs : List Mv} (h : MV xs) {p : Nat} (hp : p < 9) : srcT (delF (tabOf xs) (takM xs)) p = srcT (tabOf (remM xs)) p := by
  have hW := busyF_Wt h
  obtain ⟨t1, t2, _⟩ := tak_rem 9 (busyF xs 9) hW.keys
  rw [srcM_nm (remM_MV h) hp]
  have hd : srcT (delF (tabOf xs) (takM xs)) p = if nm p ∈ (takM xs).map (·.1) then nm p else srcM xs (nm p) := by
    by_cases e : nm p ∈ (takM xs).map (·.1)
    · rw [if_pos e]; unfold srcT delF; rw [if_pos e, if_pos rfl]
    · rw [if_neg e, ← srcM_nm h hp]; unfold srcT delF; rw [if_neg e]
  rw [hd]
  by_cases hr : nm p ∈ (remM xs).map (·.1)
  · obtain ⟨m, hm, e⟩ := List.mem_map.1 hr
    have hmb := (remF_sub 9 (busyF xs 9)).subset hm
    obtain ⟨q, hq, rfl, _⟩ := busy_is hmb
    have : q = p := nm_inj hq hp e
    subst this
    have h1 := srcM_of_mem (remM_MV h) hm
    rw [if_neg (fun h2 => by
      obtain ⟨a, ha, e2⟩ := List.mem_map.1 h2
      exact t2 a ha _ hm e2)]
    exact h1.symm
  · have h1 : srcM (remM xs) (nm p) = nm p := by
      refine Classical.not_not.1 fun hne => hr ?_
      exact List.mem_map.2 ⟨_, mem_of_srcM hne, rfl⟩
    rw [h1]
    split
    · rfl
    · next hn =>
      refine Classical.not_not.1 fun hne => ?_
      have h2 := (busy_at hp).2 hne
      obtain ⟨m, hm, e⟩ := List.mem_map.1 h2
      rcases t1 m hm with h3 | h3
      · exact hn (List.mem_map.2 ⟨m, h3, e⟩)
      · exact hr (List.mem_map.2 ⟨m, h3, e⟩)
theorem remM_Wt {xs : List Mv} (h : MV xs) : Wt (remM xs) := by
  have hW := busyF_Wt h
  have hs := remF_sub 9 (busyF xs 9)
  refine ⟨hW.keys.sublist (hs.map _), fun m hm => hW.to_ m (hs.subset hm), fun m hm => hW.from_ m (hs.subset hm), fun m hm => hW.ne m (hs.subset hm), ?_⟩
  refine Nat.le_trans ?_ hW.one
  unfold rdN
  exact (hs.map _).count_le _
theorem remM_exch {xs : List Mv} (h : MV xs) : Exch (srcT (tabOf (remM xs))) := by
  have hM := remM_MV h
  have ha := aheadI_none (remF_ahead 9 (busyF xs 9) (busyF_len xs 9))
  intro q hq
  by_cases hr : nm q ∈ (remM xs).map (·.1)
  · obtain ⟨m, hm, e⟩ := List.mem_map.1 hr
    have h1 := ha m hm
    have h2 : ∃ x ∈ remM xs, x.2 = nm q := Classical.byContradiction fun hno => h1 (rdN_zero.2 fun x hx ex => hno ⟨x, hx, by rw [ex]; exact e⟩)
    obtain ⟨x, hx, ex⟩ := h2
    have hP := (remM_Wt h).to_ x hx
    have hs := pidx_spec hP
    refine ⟨pidx x.1, hs.1, ?_⟩
    rw [srcM_nm hM hs.1, hs.2, srcM_of_mem hM hx]; exact ex
  · refine ⟨q, hq, ?_⟩
    rw [srcM_nm hM hq]
    refine Classical.not_not.1 fun hne => hr ?_
    exact List.mem_map.2 ⟨_, mem_of_srcM hne, rfl⟩
theorem del_exch {xs : List Mv} (h : MV xs) : Exch (srcT (delF (tabOf xs) (takM xs))) := (remM_exch h).congr fun _p hp => (rem_src h hp).symm
theorem nxT_congr {f g : Nat → ByteArray} (h : ∀ p, p < 9 → srcT f p = srcT g p) : nxT f = nxT g := by
  funext i
  unfold nxT
  by_cases hi : i < 9
  · rw [if_pos hi, if_pos hi]
    have : sx f i = sx g i := by unfold sx; rw [h i hi]
    rw [this]
  · rw [if_neg hi, if_neg hi]
theorem del_SV {xs : List Mv} (h : MV xs) : SV (delF (tabOf xs) (takM xs)) := fun p hp => by rw [rem_src h hp]; exact SV_tab (remM_MV h) p hp
/-- the swaps of what is left -/
def rwM (xs : List Mv) : List (Nat × Nat) := (ringsF (nxT (tabOf (remM xs))) 9).flatMap prs
theorem rw_del {xs : List Mv} (h : MV xs) : (rsA 9 (invI (srcT (delF (tabOf xs) (takM xs))))).1 = rwM xs := by
  rw [(rsA_rings (del_SV h) (del_exch h) 9 (Nat.le_refl _)).1, nxT_congr fun p hp => rem_src h hp]; rfl
/-- steps that do moves with swaps -/
def owS (xs : List Mv) : List St := if mvalid xs then stL (takM xs) ++ swL (rwM xs) else []
theorem owS_yes {xs : List Mv} (h : mvalid xs = true) : owS xs = stL (takM xs) ++ swL (rwM xs) := if_pos h
theorem owS_no {xs : List Mv} (h : mvalid xs = false) : owS xs = [] := if_neg (by rw [h]; decide)
theorem rwM_le {xs : List Mv} (h : MV xs) : (rwM xs).length ≤ 9 := by
  rw [← rw_del h]; exact rsA_le (inv_prm (del_exch h)) 9 (Nat.le_refl _)
theorem takM_le (xs : List Mv) : (takM xs).length ≤ 9 := by
  have h1 := takF_len 9 (busyF xs 9)
  have h2 := busyF_len xs 9
  unfold takM; omega
theorem owS_le (xs : List Mv) : (owS xs).length ≤ 18 := by
  rcases Bool.eq_false_or_eq_true (mvalid xs) with h | h
  · rw [owS_yes h, List.length_append, swL_len]
    have h1 := takM_le xs
    have h2 := rwM_le (xs := xs) (by simpa [mvalid] using h)
    unfold stL; rw [List.length_map]; omega
  · rw [owS_no h]; simp
end Go.PS
namespace Go.Proofs.Yteadhnpmmpninaa
open Go.RowKit Go.PM Go.Lib

theorem cellOf_yes (s : ByteArray) (h : isC s = true) (w : World) :
    Calls Try.prog 131 #[.string s] w fun e w' => e = .returned (.tuple #[.int .i64 (cidx s), .bool true]) ∧ w = w' := by
  obtain ⟨c, rfl⟩ := one_of_size (isC_size h)
  have h2 : c ∈ cellsL := by simpa [isC] using h
  have h4 : indexByte cellsL c = (cidx ⟨#[c]⟩ : Nat) := (cidx_one h2).1
  have h5 := fun W => positionIn_yes ⟨#[97, 98, 99, 100, 101, 102, 65, 66, 67, 116, 117]⟩ c _ h4 W
  clear h h2 h4
  generalize cidx ⟨#[c]⟩ = i at *
  go_enter Try.func131, Try.ntmps131
  go_wp2_with (go_at_call 100; refine (h5 _).mono ?_; rintro e w' ⟨rfl, rfl⟩)
  go_ret2
  exact ⟨rfl, rfl⟩
theorem cellOf_no (s : ByteArray) (h : isC s = false) (w : World) :
    Calls Try.prog 131 #[.string s] w fun e w' => e = .returned (.tuple #[.int .i64 0, .bool false]) ∧ w = w' := by
  have h5 := fun W => positionIn_no ⟨#[97, 98, 99, 100, 101, 102, 65, 66, 67, 116, 117]⟩ s (fun c hc hm => by
    rw [hc] at h
    have : isC ⟨#[c]⟩ = true := by simpa [isC, cellsL] using hm
    rw [this] at h; cases h) W
  clear h
  go_enter Try.func131, Try.ntmps131
  go_wp2_with (go_at_call 100; refine (h5 _).mono ?_; rintro e w' ⟨rfl, rfl⟩)
  go_ret2
  exact ⟨rfl, rfl⟩
theorem isCell_c (s : ByteArray) (w : World) :
    Calls Try.prog 129 #[.string s] w fun e w' => e = .returned (.bool (isC s)) ∧ w = w' := by
  rcases Bool.eq_false_or_eq_true (isC s) with h | h
  · go_enter Try.func129, Try.ntmps129
    go_wp2_with (go_at_call 131; refine (cellOf_yes s h _).mono ?_; rintro e w' ⟨rfl, rfl⟩)
    go_ret
    exact ⟨by rw [h]; rfl, rfl⟩
  · go_enter Try.func129, Try.ntmps129
    go_wp2_with (go_at_call 131; refine (cellOf_no s h _).mono ?_; rintro e w' ⟨rfl, rfl⟩)
    go_ret
    exact ⟨by rw [h]; rfl, rfl⟩
set_option maxHeartbeats 800000 in
theorem stepValid_c (k : Int) (a b : ByteArray) (w : World) :
    Calls Try.prog 104 #[.agg #[.int .i64 k, .string a, .string b]] w fun e w' => e = .returned (.bool (stOk (k, a, b))) ∧ Below w.heap.size w w' := by
  have HS : Hid (stOk (k, a, b) = ((decide (k = 0) && (isC a && (isC b || isD b))) || (decide (k = 1) && (isC a && isC b)))) := rfl
  by_cases hk0 : k = 0
  · subst hk0
    rcases Bool.eq_false_or_eq_true (isC a) with h1 | h1 <;> rcases Bool.eq_false_or_eq_true (isC b) with h2 | h2
    all_goals
      go_enter Try.func104, Try.ntmps104
      go_wp2_with (first | (go_at_call 129; refine (isCell_c _ _).mono ?_; rintro e w' ⟨rfl, rfl⟩) | (go_at_call 130; refine (isDigit_c _ _).mono ?_; rintro e w' ⟨rfl, rfl⟩))
      go_ret
      exact ⟨by rw [HS.out, h1, h2]; simp, by (repeat' (first | (with_reducible exact Below.refl _ _) | (with_reducible assumption) | (with_reducible refine Below.alloc ?_ ?_ _) | (with_reducible refine Below.drew ?_) | (with_reducible refine Below.setCell ?_ ?_ _) | (with_reducible exact Nat.le_refl _) | omega | ((repeat (first | rewrite [World.size_alloc] | rewrite [World.size_setCell] | rewrite [World.size_drew])); omega) | (simp; omega) | (simp; done)))⟩
  · by_cases hk1 : k = 1
    · subst hk1
      rcases Bool.eq_false_or_eq_true (isC a) with h1 | h1 <;> rcases Bool.eq_false_or_eq_true (isC b) with h2 | h2
      all_goals
        go_enter Try.func104, Try.ntmps104
        go_wp2_with (first | (go_at_call 129; refine (isCell_c _ _).mono ?_; rintro e w' ⟨rfl, rfl⟩) | (go_at_call 130; refine (isDigit_c _ _).mono ?_; rintro e w' ⟨rfl, rfl⟩))
        go_ret
        exact ⟨by rw [HS.out, h1, h2]; simp, by (repeat' (first | (with_reducible exact Below.refl _ _) | (with_reducible assumption) | (with_reducible refine Below.alloc ?_ ?_ _) | (with_reducible refine Below.drew ?_) | (with_reducible refine Below.setCell ?_ ?_ _) | (with_reducible exact Nat.le_refl _) | omega | ((repeat (first | rewrite [World.size_alloc] | rewrite [World.size_setCell] | rewrite [World.size_drew])); omega) | (simp; omega) | (simp; done)))⟩
    · have t0 : (k == 0) = false := by simpa using hk0
      have t1 : (k == 1) = false := by simpa using hk1
      have HF : Hid (stOk (k, a, b) = false) := by show _ = _; rw [HS.out]; simp [hk0, hk1]
      clear hk0 hk1
      go_enter Try.func104, Try.ntmps104
      go_wp2_with (first | (go_at_call 129; refine (isCell_c _ _).mono ?_; rintro e w' ⟨rfl, rfl⟩))
      go_ret
      exact ⟨by rw [HF.out]; rfl, by (repeat' (first | (with_reducible exact Below.refl _ _) | (with_reducible assumption) | (with_reducible refine Below.alloc ?_ ?_ _) | (with_reducible refine Below.drew ?_) | (with_reducible refine Below.setCell ?_ ?_ _) | (with_reducible exact Nat.le_refl _) | omega | ((repeat (first | rewrite [World.size_alloc] | rewrite [World.size_setCell] | rewrite [World.size_drew])); omega) | (simp; omega) | (simp; done)))⟩
set_option maxHeartbeats 800000 in
theorem imSequenceValid_c (xs : List St) (v : Value) (w : World) (hx : RdS w v xs) :
    Calls Try.prog 58 #[v] w fun e w' => e = .returned (.bool (svalid xs)) ∧ Below w.heap.size w w' := by
  obtain ⟨A, cap, rfl, hn, hc, hcell⟩ := hx.open
  have HNO := Lib.hid (fun k hk => svalid_no (s := xs) k hk)
  have HALL := Lib.hid (fun h => svalid_all (s := xs) h)
  by_cases hl : (60 : Int) < xs.length
  · have HF : Hid (svalid xs = false) := by
      show _ = _
      cases hs : svalid xs with
      | false => rfl
      | true => have := svalid_len hs; omega
    go_enter Try.func58, Try.ntmps58
    go_wp2
    go_ret
    exact ⟨by rw [HF.out]; rfl, Below.refl _ _⟩
  go_enter Try.func58, Try.ntmps58
  go_wp2
  go_loopw [4, 10] (fun _ i wr => ∃ (k : Nat), k ≤ xs.length ∧ i = .int .i64 k ∧ Hid (∀ j (hj : j < xs.length), j < k → stOk xs[j] = true) ∧ Below w.heap.size w wr) (fun _ i _ => xs.length - (RowKit.intOf i).toNat)
  case atStart => exact ⟨0, by omega, rfl, fun j _ hj => absurd hj (Nat.not_lt_zero j), Below.refl _ _⟩
  case round =>
    obtain ⟨k, hk, rfl, hm, hb⟩ := hrel
    have hbs := hb.size
    by_cases hlt : k < xs.length
    · obtain ⟨b, off, rfl, hbl, hc1, hc2, hc3⟩ := hcell k hlt
      have hd1 := (hb.cell (p := ⟨b, off + k * 3, none⟩) hbl).trans hc1
      have hd2 := (hb.cell (p := ⟨b, off + k * 3 + 1, none⟩) hbl).trans hc2
      have hd3 := (hb.cell (p := ⟨b, off + k * 3 + 2, none⟩) hbl).trans hc3
      have HE : Hid (stOk xs[k] = stOk (xs[k].1, xs[k].2.1, xs[k].2.2)) := rfl
      have HN := Lib.hid (HNO.out k hlt)
      have HM : Hid (stOk xs[k] = true → ∀ j (hj : j < xs.length), j < k + 1 → stOk xs[j] = true) := by
        intro h j hj hjk
        rcases Nat.lt_succ_iff_lt_or_eq.1 hjk with h1 | h1
        · exact hm.out j hj h1
        · subst h1; exact h
      clear hc1 hc2 hc3 hcell
      generalize xs[k].1 = x1 at *
      generalize xs[k].2.1 = x2 at *
      generalize xs[k].2.2 = x3 at *
      rcases Bool.eq_false_or_eq_true (stOk (x1, x2, x3)) with hv | hv
      · go_wp2_with fail
        refine (stepValid_c x1 x2 x3 _).mono ?_
        rintro e w2 ⟨rfl, hb2⟩
        rw [hv]
        have hb3 : Below w.heap.size w w2 := (hb.alloc hbs _).trans (hb2.mono (by simp; omega))
        go_wp2
        go_roundw
        case rel => exact ⟨k + 1, by omega, by go_num, HM.out (by rw [HE.out]; exact hv), hb3⟩
        case measure => simp [RowKit.intOf]; omega
      · go_wp2_with fail
        refine (stepValid_c x1 x2 x3 _).mono ?_
        rintro e w2 ⟨rfl, hb2⟩
        rw [hv]
        have hb3 : Below w.heap.size w w2 := (hb.alloc hbs _).trans (hb2.mono (by simp; omega))
        have HF : Hid (svalid xs = false) := HN.out (by rw [HE.out]; exact hv)
        go_wp2
        go_ret
        exact ⟨by rw [HF.out]; rfl, hb3⟩
    · have hT : Hid (svalid xs = true) := by
        show _ = _
        rw [HALL.out (fun j hj => hm.out j hj (by omega)), decide_eq_true_eq]; omega
      go_wp2
      go_ret
      exact ⟨by rw [hT.out]; rfl, hb⟩
end Go.Proofs.Yteadhnpmmpninaa
namespace Go.PM
open Go.RowKit
def zS : Nat → UInt8 := fun _ => 0
abbrev zSA : Array Value := #[.int .u8 0, .int .u8 0, .int .u8 0, .int .u8 0, .int .u8 0, .int .u8 0, .int .u8 0, .int .u8 0, .int .u8 0, .int .u8 0, .int .u8 0]
theorem stC_zS : stC zS = zSA := by simp [stC, zS]
def stOf (s : ByteArray) : Nat → UInt8 := if stateV s then ofB s else zS
theorem stOf_yes {s : ByteArray} (h : stateV s = true) : stOf s = ofB s := if_pos h
theorem stOf_no {s : ByteArray} (h : stateV s = false) : stOf s = zS := if_neg (by rw [h]; decide)
def valL (l : List UInt8) (k : Nat) : Bool := (l.take k).all isV
theorem valL_succ (l : List UInt8) (k : Nat) (hk : k < l.length) : valL l (k + 1) = (valL l k && isV l[k]) := by
  unfold valL; rw [take_snoc l k hk, List.all_append]; simp
def mixS (s : ByteArray) (k : Nat) : Nat → UInt8 := fun p => if p < k then ofB s p else 0
theorem mixS_zero (s : ByteArray) : mixS s 0 = zS := by funext p; simp [mixS, zS]
theorem mixS_succ (s : ByteArray) (k : Nat) : updS (mixS s k) k (ofB s k) = mixS s (k + 1) := by
  funext p
  unfold updS mixS
  by_cases h : p = k
  · subst h; simp
  · by_cases h2 : p < k
    · simp [h, h2, Nat.lt_succ_of_lt h2]
    · have : ¬ p < k + 1 := by omega
      simp [h, h2, this]
theorem mixS_full (s : ByteArray) : stC (mixS s 11) = stC (ofB s) := stC_congr fun p hp => by simp [mixS, hp]
end Go.PM
namespace Go.Proofs.Yteadhnpmmpninaa
open Go.RowKit Go.PM

end Go.Proofs.Yteadhnpmmpninaa
namespace Go.PM
open Go.RowKit Go.Lib
def fc (s : ByteArray) : UInt8 := s.data.toList.getD 0 0
theorem fc_one {s : ByteArray} (h : s.size = 1) : s = ⟨#[fc s]⟩ := by
  obtain ⟨c, rfl⟩ := one_of_size h; rfl
/-- what a place or a digit reads in a state -/
def rdS (f : Nat → UInt8) (a : ByteArray) : UInt8 := if isC a then f (cidx a) else fc a
def okC (a : ByteArray) : Bool := isC a || isD a
theorem okC_size {a : ByteArray} (h : okC a = true) : a.size = 1 := by
  unfold okC at h; rw [Bool.or_eq_true] at h; exact h.elim isC_size isD_size
theorem rdS_cell {f : Nat → UInt8} {a : ByteArray} (h : isC a = true) : rdS f a = f (cidx a) := if_pos h
theorem rdS_digit {f : Nat → UInt8} {a : ByteArray} (h : isC a = false) : rdS f a = fc a := if_neg (by rw [h]; decide)
theorem cidx_nm {q : Nat} (h : q < 9) : isC (nm q) = true ∧ cidx (nm q) = q := by
  match q, h with
  | 0, _ | 1, _ | 2, _ | 3, _ | 4, _ | 5, _ | 6, _ | 7, _ | 8, _ => decide +kernel
theorem rdS_nm (f : Nat → UInt8) {q : Nat} (h : q < 9) : rdS f (nm q) = f q := by rw [rdS_cell (cidx_nm h).1, (cidx_nm h).2]
/-- the state behind a step -/
def swS (f : Nat → UInt8) (i j : Nat) : Nat → UInt8 := fun q => if q = i then f j else if q = j then f i else f q
def doS (x : St) (f : Nat → UInt8) : Nat → UInt8 := if x.1 = 1 then swS f (cidx x.2.1) (cidx x.2.2) else updS f (cidx x.2.1) (rdS f x.2.2)
theorem swS_spec (f : Nat → UInt8) (i j : Nat) : updS (updS f j (f i)) i (f j) = swS f i j := by
  funext q; unfold updS swS
  by_cases h1 : q = i <;> by_cases h2 : q = j <;> simp [h1, h2]
theorem swS_impl (f : Nat → UInt8) (i j : Nat) : updS (updS f i (f j)) j (f i) = swS f i j := by
  funext q; unfold updS swS
  by_cases h1 : q = i <;> by_cases h2 : q = j
  · subst h1; subst h2; simp
  · subst h1; simp [h2]
  · subst h2; simp [h1]
  · simp [h1, h2]
def runS (xs : List St) (k : Nat) (f : Nat → UInt8) : Nat → UInt8 := (xs.take k).foldl (fun g x => doS x g) f
theorem runS_zero (xs : List St) (f : Nat → UInt8) : runS xs 0 f = f := by simp [runS]
theorem runS_succ (xs : List St) (k : Nat) (hk : k < xs.length) (f : Nat → UInt8) : runS xs (k + 1) f = doS xs[k] (runS xs k f) := by
  unfold runS; rw [take_snoc xs k hk, List.foldl_append]; rfl
theorem stB_cell (f : Nat → UInt8) (k : Nat) (hk : k < 11) : (stB f).extract k (k + 1) = ⟨#[f k]⟩ := by
  have := extract_one (stB f) k hk
  rw [stB_at f k hk] at this
  exact this
theorem stB_put (f : Nat → UInt8) (k : Nat) (hk : k < 11) (c : UInt8) : (stB f).extract 0 k ++ ⟨#[c]⟩ ++ (stB f).extract (k + 1) 11 = stB (updS f k c) := by
  match k, hk with
  | 0, _ | 1, _ | 2, _ | 3, _ | 4, _ | 5, _ | 6, _ | 7, _ | 8, _ | 9, _ | 10, _ => (apply ByteArray.ext; simp [stB, updS, ByteArray.data_append, ByteArray.data_extract])
/-- the state behind moves at once -/
def aoS (t : Nat → ByteArray) (f : Nat → UInt8) : Nat → UInt8 := fun q => if q < 9 then rdS f (srcT t q) else f q
theorem aoS_nil (f : Nat → UInt8) : aoS (tabOf []) f = f := by
  funext q; unfold aoS
  by_cases h : q < 9
  · rw [if_pos h, tabOf_nil, srcT, if_pos rfl, rdS_nm f h]
  · rw [if_neg h]
theorem aoS_snoc (xs : List Mv) (x : Mv) (f : Nat → UInt8) (h : MV (xs ++ [x])) : ∀ q, q < 11 → aoS (tabOf (xs ++ [x])) f q = updS (aoS (tabOf xs) f) (cidx x.1) (rdS f x.2) q := by
  intro q _
  obtain ⟨_, h2, h3⟩ := (MV_snoc xs x).1 h
  unfold mok at h2; rw [Bool.and_eq_true] at h2
  have hp := pidx_spec h2.1
  have hc := isP_isC h2.1
  have hx2 : x.2 ≠ ⟨#[]⟩ := by
    intro e
    have := isS_size h2.2
    rw [e] at this; cases this
  unfold aoS updS
  show (if q < 9 then rdS f (srcT (tabOf (xs ++ [x])) q) else f q) = if q = cidx x.1 then rdS f x.2 else (if q < 9 then rdS f (srcT (tabOf xs) q) else f q)
  by_cases hq : q < 9
  · rw [if_pos hq, if_pos hq]
    have ht := tabOf_snoc xs x h2.1 h3 q hq
    unfold srcT
    rw [ht]
    unfold upd
    rw [hc.2]
    by_cases hqp : q = pidx x.1
    · rw [if_pos hqp, if_pos hqp, if_neg hx2]
    · rw [if_neg hqp, if_neg hqp]
  · rw [if_neg hq, if_neg hq, hc.2, if_neg (by omega)]
theorem isS_okC {s : ByteArray} (h : isS s = true) : okC s = true := by
  unfold isS at h; rw [Bool.or_eq_true] at h
  unfold okC; rw [Bool.or_eq_true]
  exact h.imp (fun h => (isP_isC h).1) id
theorem stOk_move {a b : ByteArray} (h : stOk (0, a, b) = true) : isC a = true ∧ okC b = true := by
  simpa [stOk, okC] using h
theorem stOk_swap {a b : ByteArray} (h : stOk (1, a, b) = true) : isC a = true ∧ isC b = true := by
  simpa [stOk] using h
theorem stOk_kind {k : Int} {a b : ByteArray} (h : stOk (k, a, b) = true) : k = 0 ∨ k = 1 := by
  unfold stOk at h; rw [Bool.or_eq_true] at h
  rcases h with h | h
  · exact .inl (by rw [Bool.and_eq_true] at h; simpa using h.1)
  · exact .inr (by rw [Bool.and_eq_true] at h; simpa using h.1)
def stateS (f : Nat → UInt8) : Prop := ∀ q, q < 11 → isV (f q) = true
theorem stateV_of {s : ByteArray} (h : stateV s = true) : s.size = 11 ∧ stB (ofB s) = s := by
  unfold stateV at h; rw [Bool.and_eq_true] at h
  have h2 : s.size = 11 := by simpa using h.2
  exact ⟨h2, ofB_stB h2⟩
end Go.PM
namespace Go.Proofs.Yteadhnpmmpninaa
open Go.RowKit Go.PM

theorem read_c (f : Nat → UInt8) (a : ByteArray) (h : okC a = true) (w : World) :
    Calls Try.prog 107 #[stV f, .string a] w fun e w' => e = .returned (.int .u8 (rdS f a).toNat) ∧ Below w.heap.size w w' := by
  rcases Bool.eq_false_or_eq_true (isC a) with hc | hc
  · have hlt := cidx_lt hc
    have hr := rdS_cell (f := f) hc
    have hci := fun W => cellOf_yes a hc W
    have hA := At.new w 74 (stC f)
    have hpc := (hA.cell _).trans (stC_at f _ hlt)
    have HR := Lib.hid hr
    have i0 : (0 : Int) ≤ (cidx a : Int) := by omega
    have i1 : (cidx a : Int) < 11 := by omega
    clear h hc hr
    generalize cidx a = k at *
    go_enter Try.func107, Try.ntmps107
    go_wp2_with (go_at_call 131; refine (hci _).mono ?_; rintro e w' ⟨rfl, rfl⟩)
    go_ret
    exact ⟨by rw [HR.out]; rfl, by (repeat' (first | (with_reducible exact Below.refl _ _) | (with_reducible assumption) | (with_reducible refine Below.alloc ?_ ?_ _) | (with_reducible refine Below.drew ?_) | (with_reducible refine Below.setCell ?_ ?_ _) | (with_reducible exact Nat.le_refl _) | omega | ((repeat (first | rewrite [World.size_alloc] | rewrite [World.size_setCell] | rewrite [World.size_drew])); omega) | (simp; omega) | (simp; done)))⟩
  · have hd : isD a = true := by unfold okC at h; rw [hc, Bool.false_or] at h; exact h
    have hr := rdS_digit (f := f) hc
    have hsz := isD_size hd
    have hci := fun W => cellOf_no a hc W
    obtain ⟨c, rfl⟩ := one_of_size hsz
    have HR : Hid (rdS f ⟨#[c]⟩ = c) := hr
    clear h hc hr hd hsz
    go_enter Try.func107, Try.ntmps107
    go_wp2_with (go_at_call 131; refine (hci _).mono ?_; rintro e w' ⟨rfl, rfl⟩)
    go_ret
    exact ⟨by rw [HR.out]; rfl, by (repeat' (first | (with_reducible exact Below.refl _ _) | (with_reducible assumption) | (with_reducible refine Below.alloc ?_ ?_ _) | (with_reducible refine Below.drew ?_) | (with_reducible refine Below.setCell ?_ ?_ _) | (with_reducible exact Nat.le_refl _) | omega | ((repeat (first | rewrite [World.size_alloc] | rewrite [World.size_setCell] | rewrite [World.size_drew])); omega) | (simp; omega) | (simp; done)))⟩
/-- a whole array is read in a quiet region: the step -/
theorem row_step {P : Program} {ops : Array Oper} {C : World → Prop} {Q : Act → Prop} {a : Act} {o : Oper} {rest : List Oper} (hw : Region.wanted o (yielded ops a.tmps) = true) (ty : TypeId) (x : Operand) (ho : o.op = .load ty x) (b : Nat) (t : TypeId) (cs : Array Value)
    (hx : a.eval x = .pointer (some ⟨b, 0, none⟩)) (hC : ∀ W, C W → At W b t cs) (k : Nat) (e : TypeId) (hu : P.underlying ty = some (.array k e)) (hi : (P.info? ty).map (·.size) = some cs.size) (h : wpQuiet P ops C Q rest (a.put o.dst (.agg cs))) : wpQuiet P ops C Q (o :: rest) a :=
  BigFrame.wpQuiet_want hw fun _ hK => quiet_row ty x ho b t cs hx hC k e hu hi (hK _ h)

set_option maxRecDepth 100000 in
set_option maxHeartbeats 800000 in
theorem moved_c (f : Nat → UInt8) (k : Int) (a b : ByteArray) (h1 : isC a = true) (h2 : okC b = true) (w : World) :
    Calls Try.prog 105 #[stV f, .agg #[.int .i64 k, .string a, .string b]] w fun e w' => e = .returned (stV (updS f (cidx a) (rdS f b))) ∧ Below w.heap.size w w' := by
  have HR : ∀ (tmps : Array Value) (W : World) (g : Nat → UInt8) (b : Nat), At W b 74 (stC g) → tmps.getD 4 undef = .pointer (some ⟨b, 0, none⟩) →
      (results Try.f105 tmps).run Try.prog W = .ok (stV g) W := fun tmps W g b hA h4 =>
    results_row1 Try.results105 tmps W _ _ _ h4 hA 11 5 Try.underlying74 (by kernel_rfl)
  have hci := fun W => cellOf_yes a h1 W
  have hrd := fun W => read_c f b h2 W
  have hlt := cidx_lt h1
  have hst := stC_set f (cidx a) hlt (rdS f b)
  have hpc := stC_at f (cidx a) hlt
  have HST := Lib.hid hst
  clear h1 h2 hst
  have i0 : (0 : Int) ≤ (cidx a : Int) := by omega
  have i1 : (cidx a : Int) < 11 := by omega
  generalize rdS f b = v at *
  generalize cidx a = i at *
  generalize updS f i v = g at *
  obtain ⟨W0, hW0⟩ : ∃ W0 : World, W0 = ((w.alloc (.cells (stC f) 74)).alloc (.cells #[.int .i64 k, .string a, .string b] 33)).alloc (.cells zSA 74) := ⟨_, rfl⟩
  have hB0 : Below w.heap.size w W0 := by rw [hW0]; (repeat' (first | (with_reducible exact Below.refl _ _) | (with_reducible assumption) | (with_reducible refine Below.alloc ?_ ?_ _) | (with_reducible refine Below.drew ?_) | (with_reducible refine Below.setCell ?_ ?_ _) | (with_reducible exact Nat.le_refl _) | omega | ((repeat (first | rewrite [World.size_alloc] | rewrite [World.size_setCell] | rewrite [World.size_drew])); omega) | (simp; omega) | (simp; done)))
  have hA0 : At W0 w.heap.size 74 (stC f) := by rw [hW0]; exact ((At.new _ _ _).alloc _).alloc _
  have hA1 : At W0 (w.heap.size + 1) 33 #[.int .i64 k, .string a, .string b] := by
    rw [hW0]; have := At.new (w.alloc (.cells (stC f) 74)) 33 #[.int .i64 k, .string a, .string b]
    rw [World.size_alloc] at this; exact this.alloc _
  have hA2 : At W0 (w.heap.size + 2) 74 zSA := by
    rw [hW0]; have := At.new ((w.alloc (.cells (stC f) 74)).alloc (.cells #[.int .i64 k, .string a, .string b] 33)) 74 zSA
    rwa [World.size_alloc, World.size_alloc] at this
  have q1 : W0.cell? ⟨w.heap.size + 1, 1, none⟩ = some (.string a) := hA1.cell 1
  have q2 : W0.cell? ⟨w.heap.size + 1, 2, none⟩ = some (.string b) := hA1.cell 2
  go_enter Try.func105, Try.ntmps105
  go_wp2_with fail
  rw [← hW0]
  refine (hci _).mono ?_
  rintro e w' ⟨rfl, rfl⟩
  clear hW0
  go_wp2_with (refine ld_row rfl 74 (.tmp 2) rfl w.heap.size 74 (stC f) hA0 (by rfl) 11 5 Try.underlying74 (by kernel_rfl) ?_)
  refine (hrd _).mono ?_
  rintro e W1 ⟨rfl, hb1⟩
  have k0 := hA0.keep hb1
  have k2 := hA2.keep hb1
  have kB := hB0.trans (hb1.mono hB0.size)
  have kc := (k0.cell i).trans hpc
  have kf := k0.frozen i
  have kl := k0.lt
  have m0 := k0.set i (.int .u8 v.toNat)
  rw [HST.out] at m0
  have m2 := k2.far (p := ⟨w.heap.size, i, none⟩) (by simp) (.int .u8 v.toNat)
  clear k0 k2 hA0 hA1 hA2 q1 q2
  go_wp2_with (first | (refine ld_row rfl 74 (.tmp 2) rfl w.heap.size 74 (stC g) m0 (by rfl) 11 5 Try.underlying74 (by kernel_rfl) ?_) | (refine st_row rfl 74 (.tmp 4) (.tmp 21) rfl rfl (w.heap.size + 2) 74 zSA (stC g) m2 (by rfl) (by rfl) (by kernel_rfl) rfl (stC_one _) ?_; intro W5 hA5 hg5))
  exact bodyPost_ret (v := stV g) (HR _ _ g (w.heap.size + 2) hA5 rfl) rfl ⟨rfl, (kB.setCell (Nat.le_refl _) _).trans (below_grown hg5 (by simp; omega) (fun g hg => by cases hg; omega))⟩
set_option maxRecDepth 100000 in
set_option maxHeartbeats 1600000 in
theorem swapped_c (f : Nat → UInt8) (k : Int) (a b : ByteArray) (h1 : isC a = true) (h2 : isC b = true) (w : World) :
    Calls Try.prog 106 #[stV f, .agg #[.int .i64 k, .string a, .string b]] w fun e w' => e = .returned (stV (swS f (cidx a) (cidx b))) ∧ Below w.heap.size w w' := by
  have HR : ∀ (tmps : Array Value) (W : World) (g : Nat → UInt8) (b : Nat), At W b 74 (stC g) → tmps.getD 4 undef = .pointer (some ⟨b, 0, none⟩) →
      (results Try.f106 tmps).run Try.prog W = .ok (stV g) W := fun tmps W g b hA h4 =>
    results_row1 Try.results106 tmps W _ _ _ h4 hA 11 5 Try.underlying74 (by kernel_rfl)
  have hci := fun W => cellOf_yes a h1 W
  have hcj := fun W => cellOf_yes b h2 W
  have hli := cidx_lt h1
  have hlj := cidx_lt h2
  have hsi := stC_set f (cidx a) hli (f (cidx b))
  have hsj := stC_set (updS f (cidx a) (f (cidx b))) (cidx b) hlj (f (cidx a))
  rw [swS_impl] at hsj
  have hpi := stC_at f (cidx a) hli
  have hpj := stC_at f (cidx b) hlj
  have hpj2 := stC_at (updS f (cidx a) (f (cidx b))) (cidx b) hlj
  have HSI := Lib.hid hsi
  have HSJ := Lib.hid hsj
  clear h1 h2 hsi hsj
  have i0 : (0 : Int) ≤ (cidx a : Int) := by omega
  have i1 : (cidx a : Int) < 11 := by omega
  have i2 : (0 : Int) ≤ (cidx b : Int) := by omega
  have i3 : (cidx b : Int) < 11 := by omega
  generalize cidx a = i at *
  generalize cidx b = j at *
  generalize swS f i j = g at *
  generalize updS f i (f j) = g1 at *
  generalize hui : f i = u at *
  generalize huj : f j = v at *
  clear hui huj
  obtain ⟨W0, hW0⟩ : ∃ W0 : World, W0 = ((w.alloc (.cells (stC f) 74)).alloc (.cells #[.int .i64 k, .string a, .string b] 33)).alloc (.cells zSA 74) := ⟨_, rfl⟩
  have hB0 : Below w.heap.size w W0 := by rw [hW0]; (repeat' (first | (with_reducible exact Below.refl _ _) | (with_reducible assumption) | (with_reducible refine Below.alloc ?_ ?_ _) | (with_reducible refine Below.drew ?_) | (with_reducible refine Below.setCell ?_ ?_ _) | (with_reducible exact Nat.le_refl _) | omega | ((repeat (first | rewrite [World.size_alloc] | rewrite [World.size_setCell] | rewrite [World.size_drew])); omega) | (simp; omega) | (simp; done)))
  have hA0 : At W0 w.heap.size 74 (stC f) := by rw [hW0]; exact ((At.new _ _ _).alloc _).alloc _
  have hA1 : At W0 (w.heap.size + 1) 33 #[.int .i64 k, .string a, .string b] := by
    rw [hW0]; have := At.new (w.alloc (.cells (stC f) 74)) 33 #[.int .i64 k, .string a, .string b]
    rw [World.size_alloc] at this; exact this.alloc _
  have hA2 : At W0 (w.heap.size + 2) 74 zSA := by
    rw [hW0]; have := At.new ((w.alloc (.cells (stC f) 74)).alloc (.cells #[.int .i64 k, .string a, .string b] 33)) 74 zSA
    rwa [World.size_alloc, World.size_alloc] at this
  have q1 : W0.cell? ⟨w.heap.size + 1, 1, none⟩ = some (.string a) := hA1.cell 1
  have q2 : W0.cell? ⟨w.heap.size + 1, 2, none⟩ = some (.string b) := hA1.cell 2
  have p1 := (hA0.cell i).trans hpi
  have p2 := (hA0.cell j).trans hpj
  have f1 := hA0.frozen i
  have f2 := hA0.frozen j
  have hlt0 := hA0.lt
  have m1 := hA0.set i (.int .u8 v.toNat)
  rw [HSI.out] at m1
  have p3 := (m1.cell j).trans hpj2
  have f3 := m1.frozen j
  have m2 : At ((W0.setCell ⟨w.heap.size, i, none⟩ (.int .u8 v.toNat)).setCell ⟨w.heap.size, j, none⟩ (.int .u8 u.toNat)).drew w.heap.size 74 (stC g) := by
    have := m1.set j (.int .u8 u.toNat)
    rw [HSJ.out] at this
    exact this
  have n2 : At ((W0.setCell ⟨w.heap.size, i, none⟩ (.int .u8 v.toNat)).setCell ⟨w.heap.size, j, none⟩ (.int .u8 u.toNat)).drew (w.heap.size + 2) 74 zSA :=
    (hA2.far (p := ⟨w.heap.size, i, none⟩) (by simp) _).far (by simp) _
  clear hA1 hA2 hA0 m1
  go_enter Try.func106, Try.ntmps106
  go_wp2_with fail
  rw [← hW0]
  refine (hci _).mono ?_
  rintro e w' ⟨rfl, rfl⟩
  clear hW0
  go_wp2_with (go_at_call 131; refine (hcj _).mono ?_; rintro e w' ⟨rfl, rfl⟩)
  go_region
  all_goals
    go_wp2_with (first | (refine ld_row rfl 74 (.tmp 2) rfl w.heap.size 74 (stC g) m2 (by rfl) 11 5 Try.underlying74 (by kernel_rfl) ?_) | (refine st_row rfl 74 (.tmp 4) (.tmp 33) rfl rfl (w.heap.size + 2) 74 zSA (stC g) n2 (by rfl) (by rfl) (by kernel_rfl) rfl (stC_one _) ?_; intro W5 hA5 hg5))
    exact bodyPost_ret (v := stV g) (HR _ _ g (w.heap.size + 2) hA5 rfl) rfl ⟨rfl, ((hB0.setCell (Nat.le_refl _) _).setCell (Nat.le_refl _) _).drew.trans (below_grown hg5 (by simp; omega) (fun g hg => by cases hg; omega))⟩
end Go.Proofs.Yteadhnpmmpninaa
namespace Go.PM
open Go.RowKit
section
variable {P : Program} {ops : Array Oper} {rest : List Oper} {o : Oper} {a : Act} {w : World} {Q : Exit → Act → World → Prop}
def bytesC (s : ByteArray) : Array Value := s.data.map fun b => .int .u8 b.toNat
theorem bytesC_size (s : ByteArray) : (bytesC s).size = s.size := by simp [bytesC]
/-- a string is copied over a whole row -/
theorem run_copy_text (dT sT ty elem : TypeId) (hu : P.underlying dT = some (.slice elem)) (hsz : (P.info? elem).map (·.size) = some 1) (b : Nat) (t : TypeId) (cur : Array Value) (hA : At w b t cur) (cap : Nat) (s : ByteArray) (hcur : cur.size = s.size) :
    (Builtin.copy_ #[dT, sT] ty #[.slice (some ⟨b, 0, none⟩) s.size cap, .string s]).run P w = .ok (goInt s.size) (w.setRow b (bytesC s)) := by
  have h1 : ∀ v ∈ (bytesC s).toList, v.oneCell' = true := by
    intro v hv
    simp [bytesC] at hv
    obtain ⟨x, _, rfl⟩ := hv
    rfl
  have hst := run_storeCells_at P b 0 t (bytesC s).toList 0 cur w hA (by simp [bytesC_size, hcur]) h1
  have e : (cur.toList.take (0 + 0) ++ (bytesC s).toList ++ cur.toList.drop (0 + 0 + (bytesC s).toList.length)).toArray = bytesC s := by
    have : cur.toList.drop (0 + 0 + (bytesC s).toList.length) = [] := by
      rw [List.drop_eq_nil_iff]; simp [bytesC_size, hcur]
    rw [this]; simp
  cases hq : P.info? elem with
  | none => simp [hq] at hsz
  | some i =>
    have hi : i.size = 1 := by simpa [hq] using hsz
    rw [e] at hst
    have hx : List.take s.size (List.map (fun b : UInt8 => Value.int .u8 (b.toNat : Int)) s.data.toList) = (bytesC s).toList := by
      rw [List.take_of_length_le (by simp)]
      simp [bytesC]
    unfold Builtin.copy_
    simp [run_underlying hu w, Builtin.lenOf, Builtin.firstCells, sizeOf, typeInfo, hq]
    rw [hx, hst]
    rfl
theorem cp_text (hgd : o.guard = none) (d s : Operand) (dT sT : TypeId) (ho : o.op = .call { callee := .builtin .copy, args := #[d, s], argTypes := #[dT, sT] }) (elem : TypeId) (hu : P.underlying dT = some (.slice elem)) (hsz : (P.info? elem).map (·.size) = some 1)
    (b : Nat) (t : TypeId) (cur : Array Value) (hA : At w b t cur) (cap : Nat) (x : ByteArray) (hd : a.eval d = .slice (some ⟨b, 0, none⟩) x.size cap) (hs : a.eval s = .string x) (hcur : cur.size = x.size)
    (h : ∀ w', At w' b t (bytesC x) → w.grownBy w' (some b) → wpList P ops Q rest (a.put o.dst (goInt x.size)) w') : wpList P ops Q (o :: rest) a w := by
  refine wpList_plain hgd fun K hK => ?_
  have hrun := run_copy_text (P := P) dT sT o.type elem hu hsz b t cur hA cap x hcur
  unfold Oper.wp
  simp [execOp, ho, resolve, invoke, builtin, hd, hs, hrun, Result.andThen]
  exact hK _ _ (h _ (At.setRow hA _) (grown_setRow _ _ _))
end
end Go.PM
namespace Go.PM
open Go.RowKit
def nmS : Nat → UInt8 := fun q => cellsL.getD q 0
theorem bytes_nmS : bytesC cellsB = stC nmS := by simp [bytesC, cellsB, stC, nmS, cellsL]
def wspS (f g : Nat → UInt8) : Nat → UInt8 := fun q => if q < 9 then f q else g q
end Go.PM
namespace Go.Proofs.Yteadhnpmmpninaa
open Go.RowKit Go.PM

set_option maxRecDepth 100000 in
set_option maxHeartbeats 800000 in
theorem stateOfNames_c (w : World) : Calls Try.prog 59 #[] w fun e w' => e = .returned (stV nmS) ∧ Below w.heap.size w w' := by
  have HR : ∀ (tmps : Array Value) (W : World) (g : Nat → UInt8) (b : Nat), At W b 74 (stC g) → tmps.getD 0 undef = .pointer (some ⟨b, 0, none⟩) →
      (results Try.f59 tmps).run Try.prog W = .ok (stV g) W := fun tmps W g b hA h4 =>
    results_row1 Try.results59 tmps W _ _ _ h4 hA 11 5 Try.underlying74 (by kernel_rfl)
  have hA0 : At ((w.alloc (.cells zSA 74)).alloc (.cells zSA 74)) w.heap.size 74 zSA := (At.new _ _ _).alloc _
  have hA1 : At ((w.alloc (.cells zSA 74)).alloc (.cells zSA 74)) (w.heap.size + 1) 74 zSA := by
    have := At.new (w.alloc (.cells zSA 74)) 74 zSA
    rwa [World.size_alloc] at this
  go_enter Try.func59, Try.ntmps59
  go_wp2_with (first | (refine cp_text rfl (.tmp 2) (.const (.string ⟨#[97, 98, 99, 100, 101, 102, 65, 66, 67, 116, 117]⟩)) 22 9 rfl 5 Try.underlying22 (by kernel_rfl) (w.heap.size + 1) 74 zSA hA1 11 ⟨#[97, 98, 99, 100, 101, 102, 65, 66, 67, 116, 117]⟩ (by rfl) (by rfl) rfl ?_; intro W1 hB1 hg1; rw [show bytesC ⟨#[97, 98, 99, 100, 101, 102, 65, 66, 67, 116, 117]⟩ = stC nmS from bytes_nmS] at hB1; have hB0 := hA0.grown hg1 (by simp); have bel1 : Below w.heap.size w W1 := Below.trans (by (repeat' (first | (with_reducible exact Below.refl _ _) | (with_reducible assumption) | (with_reducible refine Below.alloc ?_ ?_ _) | (with_reducible refine Below.drew ?_) | (with_reducible refine Below.setCell ?_ ?_ _) | (with_reducible exact Nat.le_refl _) | omega | ((repeat (first | rewrite [World.size_alloc] | rewrite [World.size_setCell] | rewrite [World.size_drew])); omega) | (simp; omega) | (simp; done)))) (below_grown hg1 (by simp; omega) (fun g hg => by cases hg; omega)); have hs1 := bel1.size) | (refine ld_row rfl 74 (.tmp 1) rfl (w.heap.size + 1) 74 (stC nmS) hB1 (by rfl) 11 5 Try.underlying74 (by kernel_rfl) ?_) | (refine st_row rfl 74 (.tmp 0) (.tmp 4) rfl rfl w.heap.size 74 zSA (stC nmS) hB0 (by rfl) (by rfl) (by kernel_rfl) rfl (stC_one _) ?_; intro W5 hA5 hg5))
  exact bodyPost_ret (v := stV nmS) (HR _ _ nmS w.heap.size hA5 rfl) rfl ⟨rfl, bel1.trans (below_grown hg5 hs1 (fun g hg => by cases hg; omega))⟩
set_option maxRecDepth 100000 in
set_option maxHeartbeats 800000 in
theorem withSpares_c (f g : Nat → UInt8) (w : World) : Calls Try.prog 61 #[stV f, stV g] w fun e w' => e = .returned (stV (wspS f g)) ∧ Below w.heap.size w w' := by
  have HR : ∀ (tmps : Array Value) (W : World) (g : Nat → UInt8) (b : Nat), At W b 74 (stC g) → tmps.getD 4 undef = .pointer (some ⟨b, 0, none⟩) →
      (results Try.f61 tmps).run Try.prog W = .ok (stV g) W := fun tmps W g b hA h4 =>
    results_row1 Try.results61 tmps W _ _ _ h4 hA 11 5 Try.underlying74 (by kernel_rfl)
  obtain ⟨W0, hW0⟩ : ∃ W0 : World, W0 = ((w.alloc (.cells (stC f) 74)).alloc (.cells (stC g) 74)).alloc (.cells zSA 74) := ⟨_, rfl⟩
  have hB0 : Below w.heap.size w W0 := by rw [hW0]; (repeat' (first | (with_reducible exact Below.refl _ _) | (with_reducible assumption) | (with_reducible refine Below.alloc ?_ ?_ _) | (with_reducible refine Below.drew ?_) | (with_reducible refine Below.setCell ?_ ?_ _) | (with_reducible exact Nat.le_refl _) | omega | ((repeat (first | rewrite [World.size_alloc] | rewrite [World.size_setCell] | rewrite [World.size_drew])); omega) | (simp; omega) | (simp; done)))
  have hA0 : At W0 w.heap.size 74 (stC f) := by rw [hW0]; exact ((At.new _ _ _).alloc _).alloc _
  have hA1 : At W0 (w.heap.size + 1) 74 (stC g) := by
    rw [hW0]; have := At.new (w.alloc (.cells (stC f) 74)) 74 (stC g)
    rw [World.size_alloc] at this; exact this.alloc _
  have hA2 : At W0 (w.heap.size + 2) 74 zSA := by
    rw [hW0]; have := At.new ((w.alloc (.cells (stC f) 74)).alloc (.cells (stC g) 74)) 74 zSA
    rwa [World.size_alloc, World.size_alloc] at this
  have hsp : (splice (stC f).toList 9 [.int .u8 (g 9).toNat, .int .u8 (g 10).toNat]).toArray = stC (wspS f g) := by
    simp [splice, stC, wspS]
  have HSP := Lib.hid hsp
  clear hsp
  go_enter Try.func61, Try.ntmps61
  go_wp2
  rw [← hW0]
  clear hW0
  refine region_tail (C := fun w' => w' = W0.drew) 2 (by kernel_rfl) (by kernel_rfl) rfl ?_
  simp only [List.take_succ_cons, List.take_zero, List.drop_succ_cons, List.drop_zero]
  repeat (go_big_quiet_step (fail))
  refine wpQuiet_nil ?_
  intro w' hw'
  subst hw'
  have hA0' : At W0.drew w.heap.size 74 (stC f) := hA0
  have hA2' : At W0.drew (w.heap.size + 2) 74 zSA := hA2
  have c9 : W0.drew.cell? ⟨w.heap.size + 1, 9, none⟩ = some (.int .u8 (g 9).toNat) := hA1.cell 9
  have c10 : W0.drew.cell? ⟨w.heap.size + 1, 10, none⟩ = some (.int .u8 (g 10).toNat) := hA1.cell 10
  have hBd : Below w.heap.size w W0.drew := hB0.drew
  have hsrc : ∀ (j : Nat) (v : Value), [Value.int .u8 (g 9).toNat, Value.int .u8 (g 10).toNat][j]? = some v → W0.drew.cell? ((⟨w.heap.size + 1, 9, none⟩ : Addr).add j) = some v := fun j v hj => by
    match j, hj with
    | 0, hj => simp at hj; subst hj; exact c9
    | 1, hj => simp at hj; subst hj; exact c10
  refine wpList_copy_own rfl (.tmp 5) (.tmp 6) 22 22 rfl 5 Try.underlying22 (by kernel_rfl) w.heap.size 9 2 2 ⟨w.heap.size + 1, 9, none⟩ 2 2 (by rfl) (by rfl) (stC f) 74 hA0' [.int .u8 (g 9).toNat, .int .u8 (g 10).toNat] rfl
    hsrc (by simp [stC]) (by intro v hv; simp at hv; rcases hv with rfl | rfl <;> rfl) ?_
  have e2 : ((stC f).toList.take 9 ++ ([Value.int .u8 (g 9).toNat, Value.int .u8 (g 10).toNat] ++ (stC f).toList.drop (9 + [Value.int .u8 (g 9).toNat, Value.int .u8 (g 10).toNat].length))).toArray = stC (wspS f g) := HSP.out
  rw [e2]
  have hA3 : At (W0.drew.setRow w.heap.size (stC (wspS f g))) w.heap.size 74 (stC (wspS f g)) := At.setRow hA0' _
  have hg3 := grown_setRow W0.drew w.heap.size (stC (wspS f g))
  have hA4 := hA2'.grown hg3 (by simp)
  have hB3 : Below w.heap.size w (W0.drew.setRow w.heap.size (stC (wspS f g))) := hBd.trans (below_grown hg3 hBd.size (fun g hg => by cases hg; omega))
  clear hg3 hA2' hA0' e2 c9 c10 hsrc hBd HSP
  generalize W0.drew.setRow w.heap.size (stC (wspS f g)) = W3 at *
  generalize hx : wspS f g = x at *
  have HX := Lib.hid hx
  clear hx
  have hs3 := hB3.size
  go_wp2_with (first | (refine ld_row rfl 74 (.tmp 2) rfl w.heap.size 74 (stC x) hA3 (by rfl) 11 5 Try.underlying74 (by kernel_rfl) ?_) | (refine st_row rfl 74 (.tmp 4) (.tmp 8) rfl rfl (w.heap.size + 2) 74 zSA (stC x) hA4 (by rfl) (by rfl) (by kernel_rfl) rfl (stC_one _) ?_; intro W5 hA5 hg5))
  exact bodyPost_ret (v := stV x) (HR _ _ x (w.heap.size + 2) hA5 rfl) rfl ⟨by rw [HX.out], hB3.trans (below_grown hg5 hs3 (fun g hg => by cases hg; omega))⟩
end Go.Proofs.Yteadhnpmmpninaa
namespace Go.Proofs.Yteadhnpmmpninaa
open Go.RowKit Go.PM

abbrev fnA : Array Value := #[.func (.func 105) #[] #[], .func (.func 106) #[] #[]]
set_option maxRecDepth 100000 in
set_option maxHeartbeats 1600000 in
theorem inOrder_c (xs : List St) (hv : ∀ k (hk : k < xs.length), stOk xs[k] = true) (v : Value) (f : Nat → UInt8) (w : World) (hx : RdS w v xs) :
    Calls Try.prog 60 #[stV f, v] w fun e w' => e = .returned (stV (runS xs xs.length f)) ∧ Below w.heap.size w w' := by
  have HR : ∀ (tmps : Array Value) (W : World) (g : Nat → UInt8) (b : Nat), At W b 74 (stC g) → tmps.getD 4 undef = .pointer (some ⟨b, 0, none⟩) →
      (results Try.f60 tmps).run Try.prog W = .ok (stV g) W := fun tmps W g b hA h4 =>
    results_row1 Try.results60 tmps W _ _ _ h4 hA 11 5 Try.underlying74 (by kernel_rfl)
  obtain ⟨A, cap, rfl, hn, hc, hcell⟩ := hx.open
  have HV := Lib.hid hv
  clear hv
  have HRS := Lib.hid (fun k hk => runS_succ xs k hk f)
  have HZ := Lib.hid (runS_zero xs f)
  go_enter Try.func60, Try.ntmps60
  go_wp2
  have hw0 : ∃ W0 : World, W0 = ((w.alloc (.cells (stC f) 74)).alloc (.cells zSA 74)).alloc (.cells fnA 129) := ⟨_, rfl⟩
  obtain ⟨W0, hW0⟩ := hw0
  have hB0 : Below w.heap.size w W0 := by rw [hW0]; (repeat' (first | (with_reducible exact Below.refl _ _) | (with_reducible assumption) | (with_reducible refine Below.alloc ?_ ?_ _) | (with_reducible refine Below.drew ?_) | (with_reducible refine Below.setCell ?_ ?_ _) | (with_reducible exact Nat.le_refl _) | omega | ((repeat (first | rewrite [World.size_alloc] | rewrite [World.size_setCell] | rewrite [World.size_drew])); omega) | (simp; omega) | (simp; done)))
  have hA0 : At W0 w.heap.size 74 (stC f) := by rw [hW0]; exact ((At.new _ _ _).alloc _).alloc _
  have hA1 : At W0 (w.heap.size + 1) 74 zSA := by
    rw [hW0]; have := At.new (w.alloc (.cells (stC f) 74)) 74 zSA
    rw [World.size_alloc] at this; exact this.alloc _
  have hA2 : At W0 (w.heap.size + 1 + 1) 129 fnA := by
    rw [hW0]; have := At.new ((w.alloc (.cells (stC f) 74)).alloc (.cells zSA 74)) 129 fnA
    rwa [World.size_alloc, World.size_alloc] at this
  rw [← hW0]
  clear hW0
  go_loopw [7, 11] (fun _ i wr => ∃ (k : Nat), k ≤ xs.length ∧ i = .int .i64 k ∧ Below w.heap.size w wr ∧ At wr w.heap.size 74 (stC (runS xs k f)) ∧ At wr (w.heap.size + 1) 74 zSA ∧ At wr (w.heap.size + 1 + 1) 129 fnA) (fun _ i _ => xs.length - (intOf i).toNat)
  case atStart => exact ⟨0, by omega, rfl, hB0, by rw [HZ.out]; exact hA0, hA1, hA2⟩
  case round =>
    clear hB0 hA0 hA1 hA2
    obtain ⟨k, hk, rfl, hb, hA0, hA1, hA2⟩ := hrel
    have hbs := hb.size
    by_cases hlt : k < xs.length
    · obtain ⟨b, off, rfl, hbl, hc1, hc2, hc3⟩ := hcell k hlt
      have hd1 := (hb.cell (p := ⟨b, off + k * 3, none⟩) hbl).trans hc1
      have hd2 := (hb.cell (p := ⟨b, off + k * 3 + 1, none⟩) hbl).trans hc2
      have hd3 := (hb.cell (p := ⟨b, off + k * 3 + 2, none⟩) hbl).trans hc3
      have hok : stOk (xs[k].1, xs[k].2.1, xs[k].2.2) = true := HV.out k hlt
      have hrs : runS xs (k + 1) f = doS (xs[k].1, xs[k].2.1, xs[k].2.2) (runS xs k f) := HRS.out k hlt
      clear hc1 hc2 hc3 hcell
      generalize xs[k].1 = x1 at *
      generalize xs[k].2.1 = x2 at *
      generalize xs[k].2.2 = x3 at *
      generalize runS xs k f = g at *
      have HRK := Lib.hid hrs
      clear hrs
      have l1 := hA1.lt
      have l2 := hA2.lt
      rcases stOk_kind hok with rfl | rfl
      · obtain ⟨o1, o2⟩ := stOk_move hok
        have hcall := fun W => moved_c g 0 x2 x3 o1 o2 W
        have HD : Hid (doS (0, x2, x3) g = updS g (cidx x2) (rdS g x3)) := rfl
        generalize updS g (cidx x2) (rdS g x3) = g2 at *
        clear hok o1 o2
        go_wp2
        obtain ⟨W1, hW1⟩ : ∃ W1 : World, W1 = (wr.alloc (.cells #[.int .i64 0, .string x2, .string x3] 33)).drew := ⟨_, rfl⟩
        have e0 : At W1 w.heap.size 74 (stC g) := by rw [hW1]; exact hA0.alloc _
        have e1 : At W1 (w.heap.size + 1) 74 zSA := by rw [hW1]; exact hA1.alloc _
        have e2 : At W1 (w.heap.size + 1 + 1) 129 fnA := by rw [hW1]; exact hA2.alloc _
        have e3 : At W1 wr.heap.size 33 #[.int .i64 0, .string x2, .string x3] := by rw [hW1]; exact At.new wr _ _
        have e4 : Below w.heap.size w W1 := by rw [hW1]; exact (hb.alloc hbs _).drew
        refine region_tail (C := fun w' => w' = W1) 6 (by kernel_rfl) (by kernel_rfl) hW1.symm ?_
        clear hW1
        simp only [List.take_succ_cons, List.take_zero, List.drop_succ_cons, List.drop_zero]
        clear hA0 hA1 hA2 hb hbs
        have q0 : W1.cell? ⟨wr.heap.size, 0, none⟩ = some (.int .i64 0) := e3.cell 0
        have q1 : W1.cell? ⟨wr.heap.size, 1, none⟩ = some (.string x2) := e3.cell 1
        have q2 : W1.cell? ⟨wr.heap.size, 2, none⟩ = some (.string x3) := e3.cell 2
        have q3 : W1.cell? ⟨w.heap.size + 1 + 1, 0, none⟩ = some (.func (.func 105) #[] #[]) := e2.cell 0
        go_big_quiet_step (fail)
        go_big_quiet_step (fail)
        go_big_quiet_step (fail)
        go_big_quiet_step (fail)
        refine row_step rfl 74 (.tmp 2) rfl w.heap.size 74 (stC g) (by rfl) (by rintro W rfl; exact e0) 11 5 Try.underlying74 (by kernel_rfl) ?_
        simp only [Act.put, List.setIfInBounds_toArray, List.set_cons_succ, List.set_cons_zero]
        go_big_quiet_step (fail)
        refine wpQuiet_nil ?_
        intro w' hw'
        subst hw'
        go_wp2_with fail
        refine (hcall _).mono ?_
        rintro e W2 ⟨rfl, hb2⟩
        have k0 := e0.keep hb2
        have k1 := e1.keep hb2
        have k2 := e2.keep hb2
        have k4 := e4.trans (hb2.mono e4.size)
        have k5 := k4.size
        go_wp2_with (refine st_row rfl 74 (.tmp 2) (.tmp 21) rfl rfl w.heap.size 74 (stC g) (stC g2) k0 (by rfl) (by rfl) (by kernel_rfl) rfl (stC_one _) ?_; intro W5 hA5 hg5)
        go_roundw
        case rel => exact ⟨k + 1, by omega, by go_num, k4.trans (below_grown hg5 k5 (fun g hg => by cases hg; omega)), by rw [HRK.out, HD.out]; exact hA5, k1.grown hg5 (by simp), k2.grown hg5 (by simp; omega)⟩
        case measure => simp [intOf]; omega
      · obtain ⟨o1, o2⟩ := stOk_swap hok
        have hcall := fun W => swapped_c g 1 x2 x3 o1 o2 W
        have HD : Hid (doS (1, x2, x3) g = swS g (cidx x2) (cidx x3)) := rfl
        generalize swS g (cidx x2) (cidx x3) = g2 at *
        clear hok o1 o2
        go_wp2
        obtain ⟨W1, hW1⟩ : ∃ W1 : World, W1 = (wr.alloc (.cells #[.int .i64 1, .string x2, .string x3] 33)).drew := ⟨_, rfl⟩
        have e0 : At W1 w.heap.size 74 (stC g) := by rw [hW1]; exact hA0.alloc _
        have e1 : At W1 (w.heap.size + 1) 74 zSA := by rw [hW1]; exact hA1.alloc _
        have e2 : At W1 (w.heap.size + 1 + 1) 129 fnA := by rw [hW1]; exact hA2.alloc _
        have e3 : At W1 wr.heap.size 33 #[.int .i64 1, .string x2, .string x3] := by rw [hW1]; exact At.new wr _ _
        have e4 : Below w.heap.size w W1 := by rw [hW1]; exact (hb.alloc hbs _).drew
        refine region_tail (C := fun w' => w' = W1) 6 (by kernel_rfl) (by kernel_rfl) hW1.symm ?_
        clear hW1
        simp only [List.take_succ_cons, List.take_zero, List.drop_succ_cons, List.drop_zero]
        clear hA0 hA1 hA2 hb hbs
        have q0 : W1.cell? ⟨wr.heap.size, 0, none⟩ = some (.int .i64 1) := e3.cell 0
        have q1 : W1.cell? ⟨wr.heap.size, 1, none⟩ = some (.string x2) := e3.cell 1
        have q2 : W1.cell? ⟨wr.heap.size, 2, none⟩ = some (.string x3) := e3.cell 2
        have q3 : W1.cell? ⟨w.heap.size + 1 + 1, 1, none⟩ = some (.func (.func 106) #[] #[]) := e2.cell 1
        go_big_quiet_step (fail)
        go_big_quiet_step (fail)
        go_big_quiet_step (fail)
        go_big_quiet_step (fail)
        refine row_step rfl 74 (.tmp 2) rfl w.heap.size 74 (stC g) (by rfl) (by rintro W rfl; exact e0) 11 5 Try.underlying74 (by kernel_rfl) ?_
        simp only [Act.put, List.setIfInBounds_toArray, List.set_cons_succ, List.set_cons_zero]
        go_big_quiet_step (fail)
        refine wpQuiet_nil ?_
        intro w' hw'
        subst hw'
        go_wp2_with fail
        refine (hcall _).mono ?_
        rintro e W2 ⟨rfl, hb2⟩
        have k0 := e0.keep hb2
        have k1 := e1.keep hb2
        have k2 := e2.keep hb2
        have k4 := e4.trans (hb2.mono e4.size)
        have k5 := k4.size
        go_wp2_with (refine st_row rfl 74 (.tmp 2) (.tmp 21) rfl rfl w.heap.size 74 (stC g) (stC g2) k0 (by rfl) (by rfl) (by kernel_rfl) rfl (stC_one _) ?_; intro W5 hA5 hg5)
        go_roundw
        case rel => exact ⟨k + 1, by omega, by go_num, k4.trans (below_grown hg5 k5 (fun g hg => by cases hg; omega)), by rw [HRK.out, HD.out]; exact hA5, k1.grown hg5 (by simp), k2.grown hg5 (by simp; omega)⟩
        case measure => simp [intOf]; omega
    · have hk' : k = xs.length := by omega
      have hA3 : At wr w.heap.size 74 (stC (runS xs xs.length f)) := by rw [← hk']; exact hA0
      clear hA0
      generalize hg : runS xs xs.length f = g at *
      have HG := Lib.hid hg
      clear hg
      go_wp2_with (first | (refine ld_row rfl 74 (.tmp 2) rfl w.heap.size 74 (stC g) hA3 (by rfl) 11 5 Try.underlying74 (by kernel_rfl) ?_) | (refine st_row rfl 74 (.tmp 4) (.tmp 23) rfl rfl (w.heap.size + 1) 74 zSA (stC g) hA1 (by rfl) (by rfl) (by kernel_rfl) rfl (stC_one _) ?_; intro W5 hA5 hg5))
      exact bodyPost_ret (v := stV g) (HR _ _ g (w.heap.size + 1) hA5 rfl) rfl ⟨by rw [HG.out], hb.trans (below_grown hg5 hbs (fun g hg => by cases hg; omega))⟩
end Go.Proofs.Yteadhnpmmpninaa
namespace Go.PM
open Go.RowKit
def aoP (t : Nat → ByteArray) (f : Nat → UInt8) (n : Nat) : Nat → UInt8 := fun q => if q < n then rdS f (srcT t q) else f q
theorem aoP_zero (t : Nat → ByteArray) (f : Nat → UInt8) : aoP t f 0 = f := by funext q; simp [aoP]
theorem aoP_nine (t : Nat → ByteArray) (f : Nat → UInt8) : aoP t f 9 = aoS t f := rfl
theorem aoP_succ (t : Nat → ByteArray) (f : Nat → UInt8) (p : Nat) : updS (aoP t f p) p (rdS f (srcT t p)) = aoP t f (p + 1) := by
  funext q
  unfold updS aoP
  by_cases h : q = p
  · subst h; simp
  · by_cases h2 : q < p
    · simp [h, h2, Nat.lt_succ_of_lt h2]
    · have : ¬ q < p + 1 := by omega
      simp [h, h2, this]
end Go.PM
namespace Go.Proofs.Yteadhnpmmpninaa
open Go.RowKit Go.PM
attribute [local go_sem] Oper.semAt_some

set_option maxRecDepth 100000 in
set_option maxHeartbeats 2000000 in
theorem atOnce_c (t : Nat → ByteArray) (f : Nat → UInt8) (ht : ∀ p, p < 9 → okC (srcT t p) = true) (w : World) :
    Calls Try.prog 62 #[stV f, tabX t] w fun e w' => e = .returned (stV (aoS t f)) ∧ Below w.heap.size w w' := by
  change Calls Try.prog _ #[stV f, tabV t] w _
  have HR : ∀ (tmps : Array Value) (W : World) (g : Nat → UInt8) (b : Nat), At W b 74 (stC g) → tmps.getD 4 undef = .pointer (some ⟨b, 0, none⟩) →
      (results Try.f62 tmps).run Try.prog W = .ok (stV g) W := fun tmps W g b hA h4 =>
    results_row1 Try.results62 tmps W _ _ _ h4 hA 11 5 Try.underlying74 (by kernel_rfl)
  refine (callsIn_wide (n := 5)).1 ?_
  refine callsIn_of_wp_marks Try.func62 rfl trivial ?_ rfl
  simp only [Try.ntmps62, List.size_toArray, List.length_cons, List.length_nil, Nat.reduceAdd, Nat.reduceSub, Array.replicate_succ, Array.replicate_zero, List.push_toArray, List.append_toArray, List.nil_append, List.cons_append]
  obtain ⟨W0, hW0⟩ : ∃ W0 : World, W0 = (((w.alloc (.cells (stC f) 74)).alloc (.cells (tabC t) 56)).alloc (.cells zSA 74)).alloc (.cells zSA 74) := ⟨_, rfl⟩
  have hB0 : Below w.heap.size w W0 := by rw [hW0]; (repeat' (first | (with_reducible exact Below.refl _ _) | (with_reducible assumption) | (with_reducible refine Below.alloc ?_ ?_ _) | (with_reducible refine Below.drew ?_) | (with_reducible refine Below.setCell ?_ ?_ _) | (with_reducible exact Nat.le_refl _) | omega | ((repeat (first | rewrite [World.size_alloc] | rewrite [World.size_setCell] | rewrite [World.size_drew])); omega) | (simp; omega) | (simp; done)))
  have hS0 : W0.heap.size = w.heap.size + 4 := by rw [hW0]; simp only [World.size_alloc]
  have hA0 : At W0 w.heap.size 74 (stC f) := by rw [hW0]; exact (((At.new _ _ _).alloc _).alloc _).alloc _
  have hA1 : At W0 (w.heap.size + 1) 56 (tabC t) := by
    rw [hW0]; have := At.new (w.alloc (.cells (stC f) 74)) 56 (tabC t)
    rw [World.size_alloc] at this; exact (this.alloc _).alloc _
  have hA2 : At W0 (w.heap.size + 1 + 1) 74 zSA := by
    rw [hW0]; have := At.new ((w.alloc (.cells (stC f) 74)).alloc (.cells (tabC t) 56)) 74 zSA
    rw [World.size_alloc, World.size_alloc] at this; exact this.alloc _
  have hA3 : At W0 (w.heap.size + 1 + 1 + 1) 74 zSA := by
    rw [hW0]; have := At.new (((w.alloc (.cells (stC f) 74)).alloc (.cells (tabC t) 56)).alloc (.cells zSA 74)) 74 zSA
    rwa [World.size_alloc, World.size_alloc, World.size_alloc] at this
  have hl0 : At (((w.alloc (.cells (stC f) 74)).alloc (.cells (tabC t) 56)).alloc (.cells zSA 74)) w.heap.size 74 (stC f) := ((At.new _ _ _).alloc _).alloc _
  gi_wp2_with (first | (refine ldIn_row rfl 74 (.tmp 2) rfl w.heap.size 74 (stC f) hl0 (by rfl) 11 5 Try.underlying74 (by kernel_rfl) ?_) | (rw [← hW0]; refine stIn_row rfl 74 (.tmp 5) (.tmp 7) rfl rfl (w.heap.size + 1 + 1 + 1) 74 zSA (stC f) hA3 (by rfl) (by rfl) (by kernel_rfl) rfl (stC_one _) ?_; intro W5 hA5 hg5))
  have k0 := hA0.grown hg5 (by simp; omega)
  have k1 := hA1.grown hg5 (by simp)
  have k2 := hA2.grown hg5 (by simp)
  have kB : Below w.heap.size w W5 := hB0.trans (below_grown hg5 hB0.size (fun g hg => by cases hg; omega))
  have kS : w.heap.size + 4 ≤ W5.heap.size := by have := hg5.size; omega
  clear hA0 hA1 hA2 hA3 hl0 hg5 hB0 hS0 hW0
  refine range_law (F := Fence.wide) (gf := 89) (lf := #[.int .i64 9]) (lb := #[]) rfl (by decide) rfl trivial (fun args w => rfl) (encs := fun p : Nat => #[.int .i64 p]) (xs := List.range 9)
    (below_iter _ _ trivial rfl (by decide)) (fun _ => rfl)
    (fun pre W => At W w.heap.size 74 (stC f) ∧ At W (w.heap.size + 1) 56 (tabC t) ∧ At W (w.heap.size + 1 + 1) 74 zSA ∧ At W (w.heap.size + 1 + 1 + 1) 74 (stC (aoP t f pre.length)) ∧ Below w.heap.size w W)
    (fun _ _ _ => False) ?_ (fun _ => ownFrom_pure _ _) ?_ (fun p => { tmps := #[stV f, tabV t, .pointer (some ⟨w.heap.size, 0, none⟩), .pointer (some ⟨w.heap.size + 1, 0, none⟩), .pointer (some ⟨w.heap.size + 1 + 1, 0, none⟩), .pointer (some ⟨w.heap.size + 1 + 1 + 1, 0, none⟩), .int .i64 p, stV f, .func (.func 89) #[.int .i64 9] #[], .int .i64 p, undef, undef, undef, undef, undef, undef, undef, undef], defers := [] }) ?_ ?_ ?_ ?_
  · rintro s A A' row ⟨h1, h2, h3, h4, h5⟩ hg hr
    have hr' : ∀ r, row = some r → w.heap.size + 4 ≤ r := fun r e => by have := (hr r e).1; omega
    have hne : ∀ b, b < w.heap.size + 4 → some b ≠ row := fun b hb e => by have := hr' _ e.symm; omega
    exact ⟨h1.grown hg (hne _ (by omega)), h2.grown hg (hne _ (by omega)), h3.grown hg (hne _ (by omega)), h4.grown hg (hne _ (by omega)), h5.trans (below_grown hg h5.size (fun g e => by have := hr' _ e; omega))⟩
  · exact ⟨k0, k1, k2, by rw [List.length_nil, aoP_zero]; exact hA5, kB⟩
  · intro l p W Kc hK
    gi_wp2
    exact hK
  · clear k0 k1 k2 kB hA5
    rintro l pre p W ⟨h1, h2, h3, h4, h5⟩ hp hsz
    obtain ⟨hl, hp9⟩ := pre_len pre p hp
    rw [hl] at h4
    have HL : Hid ((pre ++ [p]).length = p + 1) := by show _ = _; simp [hl]
    have hst := stC_set (aoP t f p) p (by omega) (rdS f (srcT t p))
    rw [aoP_succ] at hst
    have HST := Lib.hid hst
    have hpc := stC_at (aoP t f p) p (by omega)
    have hS : ∀ x : Ext W.heap.size W.drew, Calls Try.prog 98 #[tabX t, .int .i64 p] x.val fun e w' => e = .returned (.string (srcT t p)) ∧ Below x.val.heap.size x.val w' := fun x => source_c t p hp9 x.val
    have hR : ∀ x : Ext W.heap.size W.drew, Calls Try.prog 107 #[stV f, .string (srcT t p)] x.val fun e w' => e = .returned (.int .u8 (rdS f (srcT t p)).toNat) ∧ Below x.val.heap.size x.val w' := fun x => read_c f _ (ht p hp9) x.val
    have hC1 := At.ext (W := W.drew) (B := W.heap.size) h1 h1.lt
    have hC2 := At.ext (W := W.drew) (B := W.heap.size) h2 h2.lt
    clear hst hl
    generalize aoP t f p = g at *
    generalize hg2 : aoP t f (p + 1) = g2 at *
    have HG2 := Lib.hid hg2
    clear hg2
    generalize rdS f (srcT t p) = v at *
    generalize srcT t p = q at *
    have i0 : (0 : Int) ≤ (p : Int) := by omega
    have i1 : (p : Int) < 11 := by omega
    gi_wp2
    refine region_tail_inRound (F := Fence.wide) (C := fun w' => ∃ x : Ext W.heap.size W.drew, w' = x.val) 7 rfl (by kernel_rfl) (by kernel_rfl) (by kernel_rfl) ⟨⟨_, Below.refl _ _⟩, rfl⟩ ?_
    simp only [List.take_succ_cons, List.take_zero, List.drop_succ_cons, List.drop_zero]
    gi_big_quiet_step (fail)
    refine rowIn_step rfl 74 (.tmp 2) rfl w.heap.size 74 (stC f) (by rfl) hC1 11 5 Try.underlying74 (by kernel_rfl) ?_
    simp only [Act.put, List.setIfInBounds_toArray, List.set_cons_succ, List.set_cons_zero]
    refine rowIn_step rfl 56 (.tmp 3) rfl (w.heap.size + 1) 56 (tabC t) (by rfl) hC2 9 9 Try.underlying56 (by kernel_rfl) ?_
    simp only [Act.put, List.setIfInBounds_toArray, List.set_cons_succ, List.set_cons_zero]
    gi_big_quiet_step (fail)
    (refine BigFrame.wpQuietIn_want (fun _ _ _ _ => trivial) rfl (fun K hK => ?_); gi_big_quiet_op; refine ⟨_, fun _ => callsIn_wide.2 (ext_call _ (Nat.le_refl _) (hS _)), hK _ ?_⟩; clear hK K)
    (refine BigFrame.wpQuietIn_want (fun _ _ _ _ => trivial) rfl (fun K hK => ?_); gi_big_quiet_op; refine ⟨_, fun _ => callsIn_wide.2 (ext_call _ (Nat.le_refl _) (hR _)), hK _ ?_⟩; clear hK K)
    gi_big_quiet_step (fail)
    refine wpQuietIn_nil ?_
    rintro W2 ⟨xw, rfl⟩
    have hb2 : Below W.heap.size W xw.val := ((Below.refl _ _).drew).trans xw.property
    clear hC1 hC2 hS hR
    generalize xw.val = W2 at *
    have m1 := h1.keep hb2
    have m2 := h2.keep hb2
    have m3 := h3.keep hb2
    have m4 := h4.keep hb2
    have m5 := h5.trans (hb2.mono h5.size)
    have mc := (m4.cell p).trans hpc
    have mf := m4.frozen p
    clear h1 h2 h3 h4 h5
    gi_wp2
    refine ⟨(keepsFrom_below hb2).trans ((KeepsOthers.setCell _ _ _).from _), KeepsIn.zero (by simp [World.size_setCell]; exact hb2.size), m1.far (by simp; omega) _, m2.far (by simp) _, m3.far (by simp) _, ?_, m5.setCell (by simp; omega) _⟩
    rw [HL.out, HG2.out, ← HST.out]
    exact m4.set p _
  · clear k0 k1 k2 kB hA5
    intro D W hD hI hd
    obtain ⟨h1, h2, h3, h4, h5⟩ := hI
    have h4' : At W (w.heap.size + 1 + 1 + 1) 74 (stC (aoS t f)) := h4
    clear h4
    have hDD : w.heap.size + 4 ≤ D := by omega
    generalize hg : aoS t f = g at *
    have HG := Lib.hid hg
    clear hg
    have hW5s := h5.size
    gi_wp2_with (first | (refine ldIn_row rfl 74 (.tmp 5) rfl (w.heap.size + 1 + 1 + 1) 74 (stC g) h4' (by rfl) 11 5 Try.underlying74 (by kernel_rfl) ?_) | (refine stIn_row rfl 74 (.tmp 4) (.tmp 17) rfl rfl (w.heap.size + 1 + 1) 74 zSA (stC g) h3 (by rfl) (by rfl) (by kernel_rfl) rfl (stC_one _) ?_; intro W6 hA6 hg6))
    have d6 : W6.heap[D]? = some (.deferred (some [])) := (hg6.block D (Array.getElem?_eq_some_iff.1 hd).1 (by simp; omega)).trans hd
    have bel : Below w.heap.size w W6 := h5.trans (below_grown hg6 hW5s (fun g hg => by cases hg; omega))
    simp only [Act.put, List.setIfInBounds_toArray, List.set_cons_succ, List.set_cons_zero]
    have fin : LeavesInM Fence.wide 5 Try.prog Try.f62 #[stV f, tabV t, .pointer (some ⟨w.heap.size, 0, none⟩), .pointer (some ⟨w.heap.size + 1, 0, none⟩), .pointer (some ⟨w.heap.size + 1 + 1, 0, none⟩), .pointer (some ⟨w.heap.size + 1 + 1 + 1, 0, none⟩), undef, stV f, .func (.func 89) #[.int .i64 9] #[], undef, undef, undef, undef, undef, undef, undef, undef, .agg (stC g)]
        (fun e w' => e = Ending.returned (stV (aoS t f)) ∧ Below w.heap.size w w') [] .returning (W6.putObj D (.deferred none)) := by
      exact ⟨_, HR _ _ g (w.heap.size + 1 + 1) ((World.putObj_heap_other (by omega)).trans hA6) rfl, by rw [HG.out], bel.trans ⟨rfl, rfl, rfl, by simp [World.putObj], fun k hk => World.putObj_heap_other (by omega)⟩⟩
    exact ⟨by simp, .inl ⟨D, _, rfl, run_takeDeferred d6, fin⟩⟩
  · intro _ _ _ _ _ _ hf
    exact hf.elim
end Go.Proofs.Yteadhnpmmpninaa
namespace Go.Proofs.Yteadhnpmmpninaa
open Go.RowKit Go.PM Go.Lib

theorem l2Place_c (s : ByteArray) (w : World) :
    Calls Try.prog 116 #[.string s] w fun e w' => e = .returned (.bool (isC s)) ∧ w = w' := by
  by_cases h1 : s.size = 1
  · obtain ⟨c, rfl⟩ := one_of_size h1
    have hm := indexByte_mem cellsL c
    have HI : Hid (isC ⟨#[c]⟩ = decide (0 ≤ indexByte cellsL c)) := by show _ = _; simp [isC, hm]
    clear h1 hm
    go_enter Try.func116, Try.ntmps116
    go_wp2_with (go_at_call 96; refine (l13Find_c _ c _ (by decide)).mono ?_; rintro e w' ⟨rfl, rfl⟩)
    go_ret
    exact ⟨by rw [HI.out]; rfl, rfl⟩
  · have h2 : ((s.size : Int) == 1) = false := by simp; omega
    have HI : Hid (isC s = false) := by
      show _ = _
      by_cases h : isC s = true
      · exact absurd (isC_size h) h1
      · simpa using h
    clear h1
    go_enter Try.func116, Try.ntmps116
    go_wp2
    go_ret
    exact ⟨by rw [HI.out]; rfl, rfl⟩
theorem inB_isV (c : UInt8) : isV c = (inB (c.toNat : Int) 48 57 || (inB (c.toNat : Int) 97 122 || inB (c.toNat : Int) 65 90)) := by
  unfold isV inB
  congr 1
  · congr 1; simp; omega
  · congr 1 <;> (congr 1; simp; omega)
end Go.Proofs.Yteadhnpmmpninaa
namespace Go.Proofs.Yteadhnpmmpninaa
open Go.RowKit Go.PM

set_option maxRecDepth 100000 in
set_option maxHeartbeats 1600000 in
theorem spSequenceValid_c (xs : List St) (v : Value) (w : World) (hx : RdS w v xs) :
    Calls Try.prog 76 #[v] w fun e w' => e = .returned (.bool (svalid xs)) ∧ Below w.heap.size w w' := by
  obtain ⟨A, cap, rfl, hn, hc, hcell⟩ := hx.open
  have HNO := Lib.hid (fun k hk => svalid_no (s := xs) k hk)
  have HALL := Lib.hid (fun h => svalid_all (s := xs) h)
  go_enter Try.func76, Try.ntmps76
  go_wp2
  go_loopw [4, 7] (fun _ i wr => ∃ (k : Nat), k ≤ xs.length ∧ i = .int .i64 k ∧ Hid (∀ j (hj : j < xs.length), j < k → stOk xs[j] = true) ∧ Below w.heap.size w wr) (fun _ i _ => xs.length - (intOf i).toNat)
  case atStart => exact ⟨0, by omega, rfl, fun j _ hj => absurd hj (Nat.not_lt_zero j), Below.refl _ _⟩
  case round =>
    obtain ⟨k, hk, rfl, hm, hb⟩ := hrel
    have hbs := hb.size
    by_cases hlt : k < xs.length
    · obtain ⟨b, off, rfl, hbl, hc1, hc2, hc3⟩ := hcell k hlt
      have hd1 := (hb.cell (p := ⟨b, off + k * 3, none⟩) hbl).trans hc1
      have hd2 := (hb.cell (p := ⟨b, off + k * 3 + 1, none⟩) hbl).trans hc2
      have hd3 := (hb.cell (p := ⟨b, off + k * 3 + 2, none⟩) hbl).trans hc3
      have HE : Hid (stOk xs[k] = ((decide (xs[k].1 = 0) && (isC xs[k].2.1 && (isC xs[k].2.2 || isD xs[k].2.2))) || (decide (xs[k].1 = 1) && (isC xs[k].2.1 && isC xs[k].2.2)))) := rfl
      have HN := Lib.hid (HNO.out k hlt)
      have HM : Hid (stOk xs[k] = true → ∀ j (hj : j < xs.length), j < k + 1 → stOk xs[j] = true) := by
        intro h j hj hjk
        rcases Nat.lt_succ_iff_lt_or_eq.1 hjk with h1 | h1
        · exact hm.out j hj h1
        · subst h1; exact h
      have HIB : Hid (∀ n : Int, inB n 0 1 = (decide (n = 0) || decide (n = 1))) := by
        intro n; unfold inB; rw [Bool.eq_iff_iff]; simp; omega
      clear hc1 hc2 hc3 hcell
      generalize xs[k].1 = x1 at *
      generalize xs[k].2.1 = x2 at *
      generalize xs[k].2.2 = x3 at *
      have h0 : x1 = 0 ∨ x1 = 1 ∨ (¬ x1 = 0 ∧ ¬ x1 = 1) := by omega
      rcases h0 with rfl | rfl | ⟨n0, n1⟩
      · rcases Bool.eq_false_or_eq_true (isC x2) with b1 | b1 <;> rcases Bool.eq_false_or_eq_true (isC x3) with b2 | b2 <;> rcases Bool.eq_false_or_eq_true (isD x3) with b3 | b3
        all_goals
          have hI : ∀ W, Calls Try.prog 77 #[.int .i64 0, .int .i64 0, .int .i64 1] W fun e w' => e = .returned (.bool true) ∧ W = w' := fun W => l1In_c 0 0 1 W
          go_wp2_with (first | (go_at_call 116; refine (l2Place_c _ _).mono ?_; rintro e w' ⟨rfl, rfl⟩; simp only [b1, b2]) | (go_at_call 109; refine (l1Digit_c _ _).mono ?_; rintro e w' ⟨rfl, rfl⟩; simp only [b3]) | (go_at_call 77; refine (hI _).mono ?_; rintro e w' ⟨rfl, rfl⟩))
          first
          | (go_roundw
             case rel => exact ⟨k + 1, by omega, by go_num, HM.out (by rw [HE.out]; simp [b1, b2, b3]), by (repeat' (first | (with_reducible exact Below.refl _ _) | (with_reducible assumption) | (with_reducible refine Below.alloc ?_ ?_ _) | (with_reducible refine Below.drew ?_) | (with_reducible refine Below.setCell ?_ ?_ _) | (with_reducible exact Nat.le_refl _) | omega | ((repeat (first | rewrite [World.size_alloc] | rewrite [World.size_setCell] | rewrite [World.size_drew])); omega) | (simp; omega) | (simp; done)))⟩
             case measure => simp [intOf]; omega)
          | (go_ret
             exact ⟨by rw [HN.out (by rw [HE.out]; simp [b1, b2, b3])]; rfl, by (repeat' (first | (with_reducible exact Below.refl _ _) | (with_reducible assumption) | (with_reducible refine Below.alloc ?_ ?_ _) | (with_reducible refine Below.drew ?_) | (with_reducible refine Below.setCell ?_ ?_ _) | (with_reducible exact Nat.le_refl _) | omega | ((repeat (first | rewrite [World.size_alloc] | rewrite [World.size_setCell] | rewrite [World.size_drew])); omega) | (simp; omega) | (simp; done)))⟩)
      · rcases Bool.eq_false_or_eq_true (isC x2) with b1 | b1 <;> rcases Bool.eq_false_or_eq_true (isC x3) with b2 | b2 <;> rcases Bool.eq_false_or_eq_true (isD x3) with b3 | b3
        all_goals
          have hI : ∀ W, Calls Try.prog 77 #[.int .i64 1, .int .i64 0, .int .i64 1] W fun e w' => e = .returned (.bool true) ∧ W = w' := fun W => l1In_c 1 0 1 W
          go_wp2_with (first | (go_at_call 116; refine (l2Place_c _ _).mono ?_; rintro e w' ⟨rfl, rfl⟩; simp only [b1, b2]) | (go_at_call 109; refine (l1Digit_c _ _).mono ?_; rintro e w' ⟨rfl, rfl⟩; simp only [b3]) | (go_at_call 77; refine (hI _).mono ?_; rintro e w' ⟨rfl, rfl⟩))
          first
          | (go_roundw
             case rel => exact ⟨k + 1, by omega, by go_num, HM.out (by rw [HE.out]; simp [b1, b2, b3]), by (repeat' (first | (with_reducible exact Below.refl _ _) | (with_reducible assumption) | (with_reducible refine Below.alloc ?_ ?_ _) | (with_reducible refine Below.drew ?_) | (with_reducible refine Below.setCell ?_ ?_ _) | (with_reducible exact Nat.le_refl _) | omega | ((repeat (first | rewrite [World.size_alloc] | rewrite [World.size_setCell] | rewrite [World.size_drew])); omega) | (simp; omega) | (simp; done)))⟩
             case measure => simp [intOf]; omega)
          | (go_ret
             exact ⟨by rw [HN.out (by rw [HE.out]; simp [b1, b2, b3])]; rfl, by (repeat' (first | (with_reducible exact Below.refl _ _) | (with_reducible assumption) | (with_reducible refine Below.alloc ?_ ?_ _) | (with_reducible refine Below.drew ?_) | (with_reducible refine Below.setCell ?_ ?_ _) | (with_reducible exact Nat.le_refl _) | omega | ((repeat (first | rewrite [World.size_alloc] | rewrite [World.size_setCell] | rewrite [World.size_drew])); omega) | (simp; omega) | (simp; done)))⟩)
      · have hI : ∀ W, Calls Try.prog 77 #[.int .i64 x1, .int .i64 0, .int .i64 1] W fun e w' => e = .returned (.bool false) ∧ W = w' := fun W => by
          have := l1In_c x1 0 1 W
          rw [HIB.out x1] at this
          simpa [n0, n1] using this
        have HF : Hid (svalid xs = false) := HN.out (by rw [HE.out]; simp [n0, n1])
        have t1 : (x1 == 1) = false := by simpa using n1
        clear n0 n1
        rcases Bool.eq_false_or_eq_true (isC x2) with b1 | b1 <;> rcases Bool.eq_false_or_eq_true (isC x3) with b2 | b2 <;> rcases Bool.eq_false_or_eq_true (isD x3) with b3 | b3
        all_goals
          go_wp2_with (first | (go_at_call 116; refine (l2Place_c _ _).mono ?_; rintro e w' ⟨rfl, rfl⟩; simp only [b1, b2]) | (go_at_call 109; refine (l1Digit_c _ _).mono ?_; rintro e w' ⟨rfl, rfl⟩; simp only [b3]) | (go_at_call 77; refine (hI _).mono ?_; rintro e w' ⟨rfl, rfl⟩))
          go_ret
          exact ⟨by rw [HF.out]; rfl, by (repeat' (first | (with_reducible exact Below.refl _ _) | (with_reducible assumption) | (with_reducible refine Below.alloc ?_ ?_ _) | (with_reducible refine Below.drew ?_) | (with_reducible refine Below.setCell ?_ ?_ _) | (with_reducible exact Nat.le_refl _) | omega | ((repeat (first | rewrite [World.size_alloc] | rewrite [World.size_setCell] | rewrite [World.size_drew])); omega) | (simp; omega) | (simp; done)))⟩
    · have hT : Hid (svalid xs = decide ((xs.length : Int) ≤ 60)) := by
        show _ = _
        rw [HALL.out (fun j hj => hm.out j hj (by omega))]
        rw [decide_eq_decide]; omega
      go_wp2
      go_ret
      exact ⟨by rw [hT.out]; rfl, hb⟩
end Go.Proofs.Yteadhnpmmpninaa
namespace Go.PM
open Go.RowKit
theorem src_okC {xs : List Mv} (h : MV xs) : ∀ p, p < 9 → okC (srcT (tabOf xs) p) = true := by
  intro p hp
  rw [srcM_nm h hp]
  unfold srcM
  cases hf : xs.find? (fun m => decide (m.1 = nm p)) with
  | none =>
    show okC (nm p) = true
    unfold okC; rw [(cidx_nm hp).1]; rfl
  | some m =>
    have hm := List.mem_of_find?_eq_some hf
    have h1 := h.1 m hm
    unfold mok at h1; rw [Bool.and_eq_true] at h1
    exact isS_okC h1.2
def aoB (xs : List Mv) (s : ByteArray) : ByteArray := okS (mvalid xs && stateV s) (stB (aoS (tabOf xs) (ofB s)))
def ioB (xs : List St) (s : ByteArray) : ByteArray := okS (svalid xs && stateV s) (stB (runS xs xs.length (ofB s)))
theorem okS_yes (s : ByteArray) : okS true s = s := rfl
theorem okS_no (s : ByteArray) : okS false s = ⟨#[]⟩ := rfl
end Go.PM
namespace Go.Proofs.Yteadhnpmmpninaa
open Go.RowKit Go.PM

end Go.Proofs.Yteadhnpmmpninaa
namespace Go.Proofs.Yteadhnpmmpninaa
open Go.RowKit Go.PM

end Go.Proofs.Yteadhnpmmpninaa
namespace Go.PM
def sameAt (xs ys : List Mv) (p : Nat) : Bool := decide (srcM xs (nm p) = srcM ys (nm p))
def sameM (xs ys : List Mv) : Bool := mvalid xs && mvalid ys && (List.range 9).all (sameAt xs ys)
theorem sameM_no {xs ys : List Mv} (k : Nat) (hk : k < 9) (h : sameAt xs ys k = false) : sameM xs ys = false := by
  have : (List.range 9).all (sameAt xs ys) = false := by
    rw [List.all_eq_false]
    exact ⟨k, by simpa using hk, by rw [h]; decide⟩
  rw [sameM, this, Bool.and_false]
theorem sameM_all {xs ys : List Mv} (h : ∀ p, p < 9 → sameAt xs ys p = true) : sameM xs ys = (mvalid xs && mvalid ys) := by
  have : (List.range 9).all (sameAt xs ys) = true := by
    rw [List.all_eq_true]
    intro p hp
    exact h p (by simpa using hp)
  rw [sameM, this, Bool.and_true]
end Go.PM
namespace Go.Proofs.Yteadhnpmmpninaa
open Go.RowKit Go.PM

end Go.Proofs.Yteadhnpmmpninaa
