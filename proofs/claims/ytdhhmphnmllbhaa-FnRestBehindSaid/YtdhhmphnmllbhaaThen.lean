import Derived.Test.YtdhhmphnmllbhaaTab
import Derived.Test.YtdhhmphnmllbhaaTail
import Derived.Test.YtdhhmphnmllbhaaRow
import Derived.Test.YtdhhmphnmllbhaaComp
import Derived.Test.YtdhhmphnmllbhaaUndoP
namespace Go.PM
open Go.RowKit
/-- a table of which the first k places have turned -/
def mixG (h f : Nat → ByteArray) (k : Nat) : Nat → ByteArray := fun q => if q < k then h q else f q
theorem mixG_zero (h f : Nat → ByteArray) : mixG h f 0 = f := by funext q; simp [mixG]
theorem mixG_at (h f : Nat → ByteArray) (k : Nat) : mixG h f k k = f k := by simp [mixG]
theorem mixG_src (h f : Nat → ByteArray) (k : Nat) : srcT (mixG h f k) k = srcT f k := by simp [srcT, mixG]
theorem mixG_set (h f : Nat → ByteArray) (k : Nat) (hk : k < 9) : (tabA (mixG h f k)).setIfInBounds k (.string (h k)) = tabA (mixG h f (k + 1)) := by
  have h1 := tabC_set (mixG h f k) k hk (h k)
  have e : (fun q => if q = k then h k else mixG h f k q) = mixG h f (k + 1) := by
    funext q
    by_cases hq : q = k
    · subst hq; simp [mixG]
    · by_cases h2 : q < k
      · simp [mixG, hq, h2, Nat.lt_succ_of_lt h2]
      · have : ¬ q < k + 1 := by omega
        simp [mixG, hq, h2, this]
  rw [e] at h1
  exact h1
theorem mixG_same (h f : Nat → ByteArray) (k : Nat) (e : h k = f k) : mixG h f (k + 1) = mixG h f k := by
  funext q
  by_cases hq : q = k
  · subst hq; simp [mixG, e]
  · by_cases h2 : q < k
    · simp [mixG, h2, Nat.lt_succ_of_lt h2]
    · have : ¬ q < k + 1 := by omega
      simp [mixG, h2, this]
theorem tabC_all (f : Nat → ByteArray) : (tabC f).all (·.oneCell') = true := by simp [tabC, Value.oneCell']
theorem tabX_mixG (h f : Nat → ByteArray) : tabX (mixG h f 9) = tabX h := rfl
end Go.PM
namespace Go.Proofs.Ytdhhmphnmllbhaa
open Go.RowKit Go.PM Go.Lib
attribute [local go_sem] Oper.semAt_some

set_option maxRecDepth 100000 in
theorem behind_c (f : Nat → ByteArray) (s : ByteArray) (_hs : isS s = true) (w : World) :
    Calls Try.prog 93 #[tabX f, .string s] w fun e w' => e = .returned (.string (behF f s)) ∧ Below w.heap.size w w' := by
  have HO : Hid (behF f s = if isP s then srcT f (pidx s) else s) := rfl
  have q : At (w.alloc (.cells (tabA f) 62)) w.heap.size 62 (tabA f) := At.new w _ _
  have q0 : (w.alloc (.cells (tabA f) 62)).cell? ⟨w.heap.size, 0, none⟩ = some (.string (f 0)) := q.cell 0
  have q1 : (w.alloc (.cells (tabA f) 62)).cell? ⟨w.heap.size, 1, none⟩ = some (.string (f 1)) := q.cell 1
  have q2 : (w.alloc (.cells (tabA f) 62)).cell? ⟨w.heap.size, 2, none⟩ = some (.string (f 2)) := q.cell 2
  have q3 : (w.alloc (.cells (tabA f) 62)).cell? ⟨w.heap.size, 3, none⟩ = some (.string (f 3)) := q.cell 3
  have q4 : (w.alloc (.cells (tabA f) 62)).cell? ⟨w.heap.size, 4, none⟩ = some (.string (f 4)) := q.cell 4
  have q5 : (w.alloc (.cells (tabA f) 62)).cell? ⟨w.heap.size, 5, none⟩ = some (.string (f 5)) := q.cell 5
  have q6 : (w.alloc (.cells (tabA f) 62)).cell? ⟨w.heap.size, 6, none⟩ = some (.string (f 6)) := q.cell 6
  have q7 : (w.alloc (.cells (tabA f) 62)).cell? ⟨w.heap.size, 7, none⟩ = some (.string (f 7)) := q.cell 7
  have q8 : (w.alloc (.cells (tabA f) 62)).cell? ⟨w.heap.size, 8, none⟩ = some (.string (f 8)) := q.cell 8
  rcases Bool.eq_false_or_eq_true (isP s) with h1 | h1
  · have hp := (pidx_spec h1).1
    go_enter Try.func93, Try.ntmps93
    go_wp2_with fail
    refine (indexOf_yes s h1 _).mono ?_
    rintro e w' ⟨rfl, rfl⟩
    go_wp2_with (go_at_call 94; refine (source_c f (pidx s) hp _).mono ?_; rintro e w2 ⟨rfl, hb2⟩)
    have hb3 := ((Below.refl w.heap.size w).alloc (Nat.le_refl _) (.cells (tabA f) 62)).trans (hb2.mono (by simp [World.size_alloc]))
    clear hb2 q q0 q1 q2 q3 q4 q5 q6 q7 q8
    go_ret
    exact ⟨by rw [HO.out, h1]; rfl, hb3⟩
  · go_enter Try.func93, Try.ntmps93
    go_wp2_with fail
    refine (indexOf_no s h1 _).mono ?_
    rintro e w' ⟨rfl, rfl⟩
    go_wp2
    go_ret
    exact ⟨by rw [HO.out, h1]; rfl, (Below.refl _ _).alloc (Nat.le_refl _) _⟩
set_option maxRecDepth 100000 in
set_option maxHeartbeats 4000000 in
theorem then_c (f g : Nat → ByteArray) (hg : SVal (srcT g)) (w : World) :
    Calls Try.prog 65 #[tabX f, tabX g] w fun e w' => e = .returned (tabX (mixG (thenF f g) g 9)) ∧ Below w.heap.size w w' := by
  refine (callsIn_wide (n := 5)).1 ?_
  refine callsIn_of_wp_marks Try.func65 rfl trivial ?_ rfl
  simp only [Try.ntmps65, List.size_toArray, List.length_cons, List.length_nil, Nat.reduceAdd, Nat.reduceSub, Array.replicate_succ, Array.replicate_zero, List.push_toArray, List.append_toArray, List.nil_append, List.cons_append]
  gi_wp2
  obtain ⟨W0, hW0⟩ : ∃ W0 : World, W0 = ((w.alloc (.cells (tabA f) 62)).alloc (.cells (tabA g) 62)).alloc (.cells zA 62) := ⟨_, rfl⟩
  have hS0 : W0.heap.size = w.heap.size + 3 := by rw [hW0]; simp only [World.size_alloc]
  have hB0 : Below w.heap.size w W0 := by rw [hW0]; (repeat' (first | (with_reducible exact Below.refl _ _) | (with_reducible assumption) | (with_reducible refine Below.alloc ?_ ?_ _) | (with_reducible refine Below.drew ?_) | (with_reducible refine Below.setCell ?_ ?_ _) | (with_reducible exact Nat.le_refl _) | omega | ((repeat (first | rewrite [World.size_alloc] | rewrite [World.size_setCell] | rewrite [World.size_drew])); omega) | (simp; omega) | (simp; done)))
  have hA0 : At W0 w.heap.size 62 (tabA f) := by rw [hW0]; exact ((At.new _ _ _).alloc _).alloc _
  have hA1 : At W0 (w.heap.size + 1) 62 (tabA g) := by
    rw [hW0]; have := (At.new (w.alloc (.cells (tabA f) 62)) 62 (tabA g)).alloc (.cells zA 62)
    rwa [World.size_alloc] at this
  have hA2 : At W0 (w.heap.size + 1 + 1) 62 zA := by
    rw [hW0]; have := At.new ((w.alloc (.cells (tabA f) 62)).alloc (.cells (tabA g) 62)) 62 zA
    rwa [World.size_alloc, World.size_alloc] at this
  rw [← hW0]
  clear hW0
  refine range_law (F := Fence.wide) (gf := 76) (lf := #[.int .i64 9]) (lb := #[]) rfl (by decide) rfl trivial (fun args w => rfl) (encs := fun p : Nat => #[.int .i64 p]) (xs := List.range 9)
    (below_iter _ _ trivial rfl (by decide)) (fun _ => rfl)
    (fun pre W => At W (w.heap.size + 1) 62 (tabA (mixG (thenF f g) g pre.length)) ∧ At W (w.heap.size + 1 + 1) 62 zA ∧ Below w.heap.size w W ∧ At W w.heap.size 62 (tabA f))
    (fun _ _ _ => False) ?_ (fun _ => ownFrom_pure _ _) ?_ (fun p => { tmps := #[tabX f, tabX g, .pointer (some ⟨w.heap.size, 0, none⟩), .pointer (some ⟨w.heap.size + 1, 0, none⟩), .pointer (some ⟨w.heap.size + 1 + 1, 0, none⟩), .int .i64 p, .func (.func 76) #[.int .i64 9] #[], .int .i64 p, undef, undef, undef, undef, undef, undef, undef, undef], defers := [] }) ?_ ?_ ?_ ?_
  · rintro s A A' row ⟨h1, h2, h3, h4⟩ hg hr
    have hr' : ∀ r, row = some r → w.heap.size + 3 ≤ r := fun r e => by have := (hr r e).1; omega
    refine ⟨(hg.block _ h1.lt (fun e => ?_)).trans h1, (hg.block _ h2.lt (fun e => ?_)).trans h2, h3.trans (below_grown hg h3.size (fun g e => ?_)), (hg.block _ h4.lt (fun e => ?_)).trans h4⟩
    · have := hr' _ e.symm; omega
    · have := hr' _ e.symm; omega
    · have := hr' _ e; omega
    · have := hr' _ e.symm; omega
  · refine ⟨?_, hA2, hB0, hA0⟩
    rw [List.length_nil, mixG_zero]
    exact hA1
  · intro l p W Kc hK
    gi_wp2
    exact hK
  · clear hA0 hA1 hA2 hB0
    rintro l pre p W ⟨h1, h2, h3, h4⟩ hp hsz
    obtain ⟨hl, hp9⟩ := pre_len pre p hp
    rw [hl] at h1
    have HL : Hid ((pre ++ [p]).length = p + 1) := by show _ = _; simp [hl]
    have HMS := Lib.hid (mixG_set (thenF f g) g p hp9)
    have HTF : Hid (thenF f g p = behF f (srcT g p)) := rfl
    have hsrc := fun (x : Ext W.drew.heap.size W.drew) => source_c (mixG (thenF f g) g p) p hp9 x.val
    rw [mixG_src] at hsrc
    have hbeh := fun (x : Ext W.drew.heap.size W.drew) => behind_c f (srcT g p) (hg p hp9) x.val
    rw [← HTF.out] at hbeh
    clear hl
    have hpc : (tabA (mixG (thenF f g) g p))[p]? = some (.string (mixG (thenF f g) g p p)) := tabC_at _ p hp9
    generalize thenF f g p = sv at *
    generalize srcT g p = sg at *
    generalize hgm : mixG (thenF f g) g p = g' at *
    have i0 : (0 : Int) ≤ (p : Int) := by omega
    have i1 : (p : Int) < 9 := by omega
    have l1 := h1.lt
    have l4 := h4.lt
    have hC1 := At.ext (W := W.drew) (B := W.drew.heap.size) h4 l4
    have hC2 := At.ext (W := W.drew) (B := W.drew.heap.size) h1 l1
    gi_wp2
    refine region_tail_inRound (F := Fence.wide) (C := fun w' => ∃ x : Ext W.drew.heap.size W.drew, w' = x.val) 7 rfl (by kernel_rfl) (by kernel_rfl) (by kernel_rfl) ⟨⟨_, Below.refl _ _⟩, rfl⟩ ?_
    simp only [List.take_succ_cons, List.take_zero, List.drop_succ_cons, List.drop_zero]
    gi_big_quiet_step (fail)
    refine rowIn_step rfl 62 (.tmp 2) rfl w.heap.size 62 (tabC f) (by rfl) hC1 9 9 Try.underlying62 (by kernel_rfl) ?_
    simp only [Act.put, List.setIfInBounds_toArray, List.set_cons_succ, List.set_cons_zero]
    refine rowIn_step rfl 62 (.tmp 3) rfl (w.heap.size + 1) 62 (tabC g') (by rfl) hC2 9 9 Try.underlying62 (by kernel_rfl) ?_
    simp only [Act.put, List.setIfInBounds_toArray, List.set_cons_succ, List.set_cons_zero]
    gi_big_quiet_step (fail)
    (refine BigFrame.wpQuietIn_want (fun _ _ _ _ => trivial) rfl (fun K hK => ?_); gi_big_quiet_op; refine ⟨_, fun _ => callsIn_wide.2 (ext_call _ (Nat.le_refl _) (hsrc _)), hK _ ?_⟩; clear hK K)
    (refine BigFrame.wpQuietIn_want (fun _ _ _ _ => trivial) rfl (fun K hK => ?_); gi_big_quiet_op; refine ⟨_, fun _ => callsIn_wide.2 (ext_call _ (Nat.le_refl _) (hbeh _)), hK _ ?_⟩; clear hK K)
    gi_big_quiet_step (fail)
    refine wpQuietIn_nil ?_
    intro w2 hw'
    obtain ⟨xw, hxw⟩ := hw'
    have hb2 := xw.property
    rw [← hxw] at hb2
    clear hxw xw hC1 hC2 hsrc hbeh
    have k1 : At w2 (w.heap.size + 1) 62 (tabA g') := (hb2.block _ l1).trans h1
    have k2 : At w2 (w.heap.size + 1 + 1) 62 zA := (hb2.block _ h2.lt).trans h2
    have k3 : Below w.heap.size w w2 := h3.trans (Below.mono (show Below W.heap.size W w2 from ⟨hb2.os, hb2.tape, hb2.output, hb2.size, hb2.block⟩) h3.size)
    have k4 : At w2 w.heap.size 62 (tabA f) := (hb2.block _ l4).trans h4
    have kf := k1.frozen p
    have kc : w2.cell? ⟨w.heap.size + 1, p, none⟩ = some (.string (g' p)) := (k1.cell p).trans hpc
    have kl := k1.lt
    have kF : KeepsFrom W0.heap.size W w2 := keepsFrom_below (show Below W.heap.size W w2 from ⟨hb2.os, hb2.tape, hb2.output, hb2.size, hb2.block⟩)
    have kS : W.heap.size ≤ w2.heap.size := hb2.size
    clear h1 h2 h3 h4 hb2
    gi_wp2
    refine ⟨kF.trans ((KeepsOthers.setCell _ _ _).from _), KeepsIn.zero (by simp [World.size_setCell]; exact kS), ?_, k2.far (by simp) _, k3.setCell (by show w.heap.size ≤ w.heap.size + 1; omega) _, k4.far (by simp) _⟩
    rw [HL.out, ← HMS.out]
    exact k1.set p _
  · intro D W hD hI hd
    obtain ⟨h1, h2, h3, h4⟩ := hI
    clear hA0 hA1 hA2 hB0 h4
    replace h1 : At W (w.heap.size + 1) 62 (tabC (mixG (thenF f g) g 9)) := h1
    have hl1 := h1.lt
    have hl2 := h2.lt
    have hDD : w.heap.size + 3 ≤ D := by first | omega | simpa [World.size_alloc, Nat.add_assoc] using hD
    generalize hg9 : mixG (thenF f g) g 9 = g9 at *
    have HG9 := Lib.hid hg9
    clear hg9
    gi_wp2_with (first | (refine ldIn_row rfl 62 (.tmp 3) rfl (w.heap.size + 1) 62 (tabC g9) h1 (by rfl) 9 9 Try.underlying62 (by kernel_rfl) ?_) | (refine stIn_row rfl 62 (.tmp 4) (.tmp 15) rfl rfl (w.heap.size + 1 + 1) 62 zA (tabC g9) h2 (by rfl) (by rfl) (by kernel_rfl) rfl (tabC_all _) ?_; intro W6 hA6 hg6))
    have d6 : W6.heap[D]? = some (.deferred (some [])) := (hg6.block D (Array.getElem?_eq_some_iff.1 hd).1 (by simp; omega)).trans hd
    have bel : Below w.heap.size w W6 := h3.trans (below_grown hg6 h3.size (fun g hg => by cases hg; omega))
    simp only [Act.put, List.setIfInBounds_toArray, List.set_cons_succ, List.set_cons_zero]
    have fin : LeavesInM Fence.wide 5 Try.prog Try.f65 #[tabX f, tabX g, .pointer (some ⟨w.heap.size, 0, none⟩), .pointer (some ⟨w.heap.size + 1, 0, none⟩), .pointer (some ⟨w.heap.size + 1 + 1, 0, none⟩), undef, .func (.func 76) #[.int .i64 9] #[], undef, undef, undef, undef, undef, undef, undef, undef, .agg (tabC g9)]
        (fun e w' => e = Ending.returned (tabX (mixG (thenF f g) g 9)) ∧ Below w.heap.size w w') [] .returning (W6.putObj D (.deferred none)) := by
      exact ⟨_, results_row1 Try.results65 _ _ (w.heap.size + 1 + 1) 62 (tabC g9) (by rfl) ((World.putObj_heap_other (by omega)).trans hA6) 9 9 Try.underlying62 (by kernel_rfl), by rw [HG9.out]; rfl, bel.trans ⟨rfl, rfl, rfl, by simp [World.putObj], fun k hk => World.putObj_heap_other (by omega)⟩⟩
    exact ⟨by simp, .inl ⟨D, _, rfl, run_takeDeferred d6, fin⟩⟩
  · intro _ _ _ _ _ _ hf
    exact hf.elim
end Go.Proofs.Ytdhhmphnmllbhaa
