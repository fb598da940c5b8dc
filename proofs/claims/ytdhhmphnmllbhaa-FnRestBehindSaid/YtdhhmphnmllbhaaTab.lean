import Derived.Test.YtdhhmphnmllbhaaNames
namespace Go.PM
open Go.RowKit
/-- the table with the sources of the first k places in it -/
def mix (f : Nat → ByteArray) (k : Nat) : Nat → ByteArray := fun q => if q < k then srcT f q else f q
theorem mix_zero (f : Nat → ByteArray) : mix f 0 = f := by funext q; simp [mix]
theorem mix_at (f : Nat → ByteArray) (k : Nat) : srcT (mix f k) k = srcT f k := by simp [srcT, mix]
theorem mix_set (f : Nat → ByteArray) (k : Nat) (hk : k < 9) : (tabA (mix f k)).setIfInBounds k (.string (srcT f k)) = tabA (mix f (k + 1)) := by
  have h := tabC_set (mix f k) k hk (srcT f k)
  have e : (fun q => if q = k then srcT f k else mix f k q) = mix f (k + 1) := by
    funext q
    by_cases hq : q = k
    · subst hq; simp [mix]
    · by_cases h2 : q < k
      · simp [mix, hq, h2, Nat.lt_succ_of_lt h2]
      · have : ¬ q < k + 1 := by omega
        simp [mix, hq, h2, this]
  rw [e] at h
  exact h
end Go.PM
namespace Go.Proofs.Ytdhhmphnmllbhaa
open Go.RowKit Go.PM
attribute [local go_sem] Oper.semAt_some

theorem results_src (W : World) (b : Nat) (g : Nat → ByteArray) (hA : At W b 62 (tabA g)) (tmps : Array Value) (h2' : tmps.getD 2 undef = .pointer (some ⟨b, 0, none⟩)) :
    (results Try.f89 tmps).run Try.prog W = .ok (tabX g) W := by
  have q0 : W.cell? ⟨b, 0, none⟩ = some (.string (g 0)) := hA.cell 0
  have q1 : W.cell? ⟨b, 1, none⟩ = some (.string (g 1)) := hA.cell 1
  have q2 : W.cell? ⟨b, 2, none⟩ = some (.string (g 2)) := hA.cell 2
  have q3 : W.cell? ⟨b, 3, none⟩ = some (.string (g 3)) := hA.cell 3
  have q4 : W.cell? ⟨b, 4, none⟩ = some (.string (g 4)) := hA.cell 4
  have q5 : W.cell? ⟨b, 5, none⟩ = some (.string (g 5)) := hA.cell 5
  have q6 : W.cell? ⟨b, 6, none⟩ = some (.string (g 6)) := hA.cell 6
  have q7 : W.cell? ⟨b, 7, none⟩ = some (.string (g 7)) := hA.cell 7
  have q8 : W.cell? ⟨b, 8, none⟩ = some (.string (g 8)) := hA.cell 8
  have h2 : tmps[2]?.getD undef = .pointer (some ⟨b, 0, none⟩) := by simpa using h2'
  simp [results, Try.results89, go_sem, h2, q0, q1, q2, q3, q4, q5, q6, q7, q8]

set_option maxRecDepth 100000 in
set_option maxHeartbeats 2000000 in
theorem sources_c (f : Nat → ByteArray) (w : World) :
    Calls Try.prog 89 #[tabX f] w fun e w' => e = .returned (tabX (mix f 9)) ∧ Below w.heap.size w w' := by
  refine (callsIn_wide (n := 5)).1 ?_
  refine callsIn_of_wp_marks Try.func89 rfl trivial ?_ rfl
  simp only [Try.ntmps89, List.size_toArray, List.length_cons, List.length_nil, Nat.reduceAdd, Nat.reduceSub, Array.replicate_succ, Array.replicate_zero, List.push_toArray, List.append_toArray, List.nil_append, List.cons_append]
  gi_wp2
  refine range_law (F := Fence.wide) (gf := 76) (lf := #[.int .i64 9]) (lb := #[]) rfl (by decide) rfl trivial (fun args w => rfl) (encs := fun p : Nat => #[.int .i64 p]) (xs := List.range 9)
    (below_iter _ _ trivial rfl (by decide)) (fun _ => rfl)
    (fun pre W => At W w.heap.size 62 (tabA (mix f pre.length)) ∧ At W (w.heap.size + 1) 62 zA ∧ Below w.heap.size w W)
    (fun _ _ _ => False) ?_ (fun _ => ownFrom_pure _ _) ?_ (fun p => { tmps := #[tabX f, .pointer (some ⟨w.heap.size, 0, none⟩), .pointer (some ⟨w.heap.size + 1, 0, none⟩), .int .i64 p, .func (.func 76) #[.int .i64 9] #[], .int .i64 p, undef, undef, undef, undef, undef, undef], defers := [] }) ?_ ?_ ?_ ?_
  · rintro s A A' row ⟨h1, h2, h3⟩ hg hr
    have hr' : ∀ r, row = some r → w.heap.size + 2 ≤ r := fun r e => by have := (hr r e).1; simp only [World.size_alloc] at this; omega
    refine ⟨(hg.block _ h1.lt (fun e => ?_)).trans h1, (hg.block _ h2.lt (fun e => ?_)).trans h2, h3.trans (below_grown hg h3.size (fun g e => ?_))⟩
    · have := hr' _ e.symm; omega
    · have := hr' _ e.symm; omega
    · have := hr' _ e; omega
  · refine ⟨?_, ?_, ?_⟩
    · rw [List.length_nil, mix_zero]
      exact (At.new w _ _).alloc _
    · have := At.new (w.alloc (.cells (tabA f) 62)) 62 zA
      rwa [World.size_alloc] at this
    · exact ((Below.refl _ _).alloc (Nat.le_refl _) _).alloc (by simp [World.size_alloc]) _
  · intro l p W Kc hK
    gi_wp2
    exact hK
  · rintro l pre p W ⟨h1, h2, h3⟩ hp hsz
    obtain ⟨hl, hp9⟩ := pre_len pre p hp
    rw [hl] at h1
    have HL : Hid ((pre ++ [p]).length = p + 1) := by show _ = _; simp [hl]
    have hms := mix_set f p hp9
    have hsrc := mix_at f p
    have HMS := Lib.hid hms
    have HSR := Lib.hid hsrc
    clear hms hsrc hl
    have hpc : (tabA (mix f p))[p]? = some (.string (mix f p p)) := tabC_at (mix f p) p hp9
    generalize hgm : mix f p = g at *
    have i0 : (0 : Int) ≤ (p : Int) := by omega
    have i1 : (p : Int) < 9 := by omega
    have q0 : W.cell? ⟨w.heap.size, 0, none⟩ = some (.string (g 0)) := h1.cell 0
    have q1 : W.cell? ⟨w.heap.size, 1, none⟩ = some (.string (g 1)) := h1.cell 1
    have q2 : W.cell? ⟨w.heap.size, 2, none⟩ = some (.string (g 2)) := h1.cell 2
    have q3 : W.cell? ⟨w.heap.size, 3, none⟩ = some (.string (g 3)) := h1.cell 3
    have q4 : W.cell? ⟨w.heap.size, 4, none⟩ = some (.string (g 4)) := h1.cell 4
    have q5 : W.cell? ⟨w.heap.size, 5, none⟩ = some (.string (g 5)) := h1.cell 5
    have q6 : W.cell? ⟨w.heap.size, 6, none⟩ = some (.string (g 6)) := h1.cell 6
    have q7 : W.cell? ⟨w.heap.size, 7, none⟩ = some (.string (g 7)) := h1.cell 7
    have q8 : W.cell? ⟨w.heap.size, 8, none⟩ = some (.string (g 8)) := h1.cell 8
    gi_wp2
    refine ⟨trivial, ?_⟩
    refine CallsIn.inRound l (callsIn_wide.2 ((source_c g p hp9 W).mono ?_))
    rintro e W2 ⟨rfl, hb2⟩
    rw [HSR.out]
    have k1 := h1.keep hb2
    have k2 := h2.keep hb2
    have hz1 := h3.size
    have k3 : Below w.heap.size w W2 := h3.trans (hb2.mono hz1)
    have kf := k1.frozen p
    have kc : W2.cell? ⟨w.heap.size, p, none⟩ = some (.string (g p)) := (k1.cell p).trans hpc
    have kl := k1.lt
    clear q0 q1 q2 q3 q4 q5 q6 q7 q8
    gi_wp2
    refine ⟨(keepsFrom_below hb2).trans ((KeepsOthers.setCell _ _ _).from _), KeepsIn.zero (by simp [World.size_setCell]; exact hb2.size), ?_, k2.far (by simp) _, k3.setCell (Nat.le_refl _) _⟩
    rw [HL.out, ← HMS.out]
    exact k1.set p _
  · intro D W hD hI hd
    obtain ⟨h1, h2, h3⟩ := hI
    have hl1 := h1.lt
    have hl2 := h2.lt
    have h1' : At W w.heap.size 62 (tabA (mix f 9)) := h1
    clear h1
    generalize hg9 : mix f 9 = g9 at *
    have hDD : w.heap.size + 2 ≤ D := by simpa [World.size_alloc] using hD

    have q0 : W.cell? ⟨w.heap.size, 0, none⟩ = some (.string (g9 0)) := h1'.cell 0
    have q1 : W.cell? ⟨w.heap.size, 1, none⟩ = some (.string (g9 1)) := h1'.cell 1
    have q2 : W.cell? ⟨w.heap.size, 2, none⟩ = some (.string (g9 2)) := h1'.cell 2
    have q3 : W.cell? ⟨w.heap.size, 3, none⟩ = some (.string (g9 3)) := h1'.cell 3
    have q4 : W.cell? ⟨w.heap.size, 4, none⟩ = some (.string (g9 4)) := h1'.cell 4
    have q5 : W.cell? ⟨w.heap.size, 5, none⟩ = some (.string (g9 5)) := h1'.cell 5
    have q6 : W.cell? ⟨w.heap.size, 6, none⟩ = some (.string (g9 6)) := h1'.cell 6
    have q7 : W.cell? ⟨w.heap.size, 7, none⟩ = some (.string (g9 7)) := h1'.cell 7
    have q8 : W.cell? ⟨w.heap.size, 8, none⟩ = some (.string (g9 8)) := h1'.cell 8
    have p0 : W.cell? ⟨w.heap.size + 1, 0, none⟩ = some (.string ⟨#[]⟩) := h2.cell 0
    have p1 : W.cell? ⟨w.heap.size + 1, 1, none⟩ = some (.string ⟨#[]⟩) := h2.cell 1
    have p2 : W.cell? ⟨w.heap.size + 1, 2, none⟩ = some (.string ⟨#[]⟩) := h2.cell 2
    have p3 : W.cell? ⟨w.heap.size + 1, 3, none⟩ = some (.string ⟨#[]⟩) := h2.cell 3
    have p4 : W.cell? ⟨w.heap.size + 1, 4, none⟩ = some (.string ⟨#[]⟩) := h2.cell 4
    have p5 : W.cell? ⟨w.heap.size + 1, 5, none⟩ = some (.string ⟨#[]⟩) := h2.cell 5
    have p6 : W.cell? ⟨w.heap.size + 1, 6, none⟩ = some (.string ⟨#[]⟩) := h2.cell 6
    have p7 : W.cell? ⟨w.heap.size + 1, 7, none⟩ = some (.string ⟨#[]⟩) := h2.cell 7
    have p8 : W.cell? ⟨w.heap.size + 1, 8, none⟩ = some (.string ⟨#[]⟩) := h2.cell 8
    have z0 : W.frozen? ⟨w.heap.size + 1, 0, none⟩ = false := h2.frozen 0
    have z1 : W.frozen? ⟨w.heap.size + 1, 1, none⟩ = false := h2.frozen 1
    have z2 : W.frozen? ⟨w.heap.size + 1, 2, none⟩ = false := h2.frozen 2
    have z3 : W.frozen? ⟨w.heap.size + 1, 3, none⟩ = false := h2.frozen 3
    have z4 : W.frozen? ⟨w.heap.size + 1, 4, none⟩ = false := h2.frozen 4
    have z5 : W.frozen? ⟨w.heap.size + 1, 5, none⟩ = false := h2.frozen 5
    have z6 : W.frozen? ⟨w.heap.size + 1, 6, none⟩ = false := h2.frozen 6
    have z7 : W.frozen? ⟨w.heap.size + 1, 7, none⟩ = false := h2.frozen 7
    have z8 : W.frozen? ⟨w.heap.size + 1, 8, none⟩ = false := h2.frozen 8
    obtain ⟨W9, hW9⟩ : ∃ W9 : World, W9 = (((((((((W.setCell ⟨w.heap.size + 1, 0, none⟩ (.string (g9 0))).setCell ⟨w.heap.size + 1, 1, none⟩ (.string (g9 1))).setCell ⟨w.heap.size + 1, 2, none⟩ (.string (g9 2))).setCell ⟨w.heap.size + 1, 3, none⟩ (.string (g9 3))).setCell ⟨w.heap.size + 1, 4, none⟩ (.string (g9 4))).setCell ⟨w.heap.size + 1, 5, none⟩ (.string (g9 5))).setCell ⟨w.heap.size + 1, 6, none⟩ (.string (g9 6))).setCell ⟨w.heap.size + 1, 7, none⟩ (.string (g9 7))).setCell ⟨w.heap.size + 1, 8, none⟩ (.string (g9 8))) := ⟨_, rfl⟩
    have a9 : At W9 (w.heap.size + 1) 62 (tabA g9) := by rw [hW9]; exact At.set9 g9 h2
    have b9 : Below w.heap.size w W9 := by
      rw [hW9]
      repeat refine Below.setCell ?_ (Nat.le_succ _) _
      exact h3
    have d9 : W9.heap[D]? = some (.deferred (some [])) := by
      rw [hW9]
      repeat rw [Below.heap_setCell _ _ _ D (by show D ≠ w.heap.size + 1; omega)]
      exact hd
    gi_wp2
    rw [← hW9]
    have fin : LeavesInM Fence.wide 5 Try.prog Try.f89 #[tabX f, .pointer (some ⟨w.heap.size, 0, none⟩), .pointer (some ⟨w.heap.size + 1, 0, none⟩), undef, .func (.func 76) #[.int .i64 9] #[], undef, undef, undef, undef, undef, undef, tabX g9]
        (fun e w' => e = Ending.returned (tabX (mix f 9)) ∧ Below w.heap.size w w') [] .returning (W9.putObj D (.deferred none)) := by
      clear hW9 hd hD
      exact ⟨_, results_src _ (w.heap.size + 1) g9 ((World.putObj_heap_other (by omega)).trans a9) _ rfl, by rw [hg9], b9.trans ⟨rfl, rfl, rfl, by simp [World.putObj], fun k hk => World.putObj_heap_other (by omega)⟩⟩
    exact ⟨by simp, .inl ⟨D, _, rfl, run_takeDeferred d9, fin⟩⟩
  · intro _ _ _ _ _ _ hf
    exact hf.elim
end Go.Proofs.Ytdhhmphnmllbhaa
