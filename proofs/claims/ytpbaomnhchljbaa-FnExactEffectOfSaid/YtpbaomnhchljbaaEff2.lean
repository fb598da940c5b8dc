import Derived.Test.YtpbaomnhchljbaaEff
import Derived.Test.YtpbaomnhchljbaaTurn
import Derived.Test.YtpbaomnhchljbaaNames
namespace Go.PM
open Go.RowKit
theorem effM_drop {xs : List St} (h : svalid xs = true) : effM xs = dropM (effL (effG xs) 9) := by
  rw [effM, effOk, h, Bool.true_and]; rfl
theorem effM_none {xs : List St} (h : svalid xs = false) : effM xs = [] := by
  rw [effM, effOk, h]; rfl
theorem effOk_none {xs : List St} (h : svalid xs = false) : effOk xs = false := by
  rw [effOk, h]; rfl
end Go.PM
namespace Go.Proofs.Ytpbaomnhchljbaa
open Go.RowKit Go.PM
attribute [local go_sem] Oper.semAt_some

set_option maxRecDepth 100000 in
set_option maxHeartbeats 2000000 in
theorem imEffectOf_c (xs : List St) (v : Value) (w : World) (hx : RdS w v xs) :
    Calls Try.prog 23 #[v] w fun e w' => ∃ v', e = .returned (.tuple #[v', .bool (effOk xs)]) ∧ w'.ownsRow w.heap.size 42 2 v' (effM xs).length (mcells (effM xs)) ∧ Below w.heap.size w w' := by
  have hsv := Lib.hid (imSequenceValid_c xs v w hx)
  rcases Bool.eq_false_or_eq_true (svalid xs) with h1 | h1
  · have HV : ∀ k (hk : k < xs.length), stOk xs[k] = true := fun k hk => svalid_at h1 k hk
    have HIO : Hid (∀ W, Below w.heap.size w W → Calls Try.prog 56 #[stV nmS, v] W fun e w' => e = .returned (stV (effG xs)) ∧ Below W.heap.size W w') :=
      fun W hW => inOrder_c xs HV v nmS W (hx.below hW)
    have HTX := Lib.hid (fun W => text_c (effG xs) W)
    have HX := Lib.hid (fun k hk => stB_cell (effG xs) k hk)
    have HOK := Lib.hid (show effOk xs = mvalid (effL (effG xs) 9) by rw [effOk, h1, Bool.true_and])
    have HM := Lib.hid (effM_drop h1)
    have hsz : (stB (effG xs)).size = 11 := rfl
    have H1 := Lib.hid h1
    clear h1 hx HV
    generalize effG xs = g at *
    generalize stB g = t at *
    refine (callsIn_wide (n := 5)).1 ?_
    refine callsIn_of_wp_marks Try.func23 rfl trivial ?_ rfl
    simp only [Try.ntmps23, List.size_toArray, List.length_cons, List.length_nil, Nat.reduceAdd, Nat.reduceSub, Array.replicate_succ, Array.replicate_zero, List.push_toArray, List.append_toArray, List.nil_append, List.cons_append]
    gi_wp2_with fail
    refine ⟨trivial, callsIn_wide.2 (hsv.out.mono ?_)⟩
    rintro e w1 ⟨rfl, hb1⟩
    rw [H1.out]
    gi_wp2_with fail
    refine ⟨trivial, callsIn_wide.2 ((stateOfNames_c _).mono ?_)⟩
    rintro e w2 ⟨rfl, hb2⟩
    have b2 := hb1.trans (hb2.mono hb1.size)
    gi_wp2_with fail
    refine ⟨trivial, callsIn_wide.2 ((HIO.out _ b2).mono ?_)⟩
    rintro e w3 ⟨rfl, hb3⟩
    have b3 := b2.trans (hb3.mono b2.size)
    gi_wp2_with fail
    refine ⟨trivial, callsIn_wide.2 ((HTX.out _).mono ?_)⟩
    rintro e w4 ⟨rfl, hb4⟩
    have b4 := b3.trans (hb4.mono b3.size)
    have hs4 := b4.size
    clear hsv HIO HTX hb1 hb2 hb3 hb4 b2 b3
    gi_wp2
    obtain ⟨W0, hW0⟩ : ∃ W0 : World, W0 = (w4.alloc (.cells #[.string t] 9)).alloc (.cells #[.slice none 0 0] 23) := ⟨_, rfl⟩
    have hS0 : W0.heap.size = w4.heap.size + 2 := by rw [hW0]; simp only [World.size_alloc]
    have hB0 : Below w.heap.size w W0 := by rw [hW0]; (repeat' (first | (with_reducible exact Below.refl _ _) | (with_reducible assumption) | (with_reducible refine Below.alloc ?_ ?_ _) | (with_reducible refine Below.drew ?_) | (with_reducible refine Below.setCell ?_ ?_ _) | (with_reducible exact Nat.le_refl _) | omega | (simp only [World.size_alloc, World.size_setCell, World.size_drew]; omega) | (simp; omega) | (simp; done)))
    have hA1 : At W0 (w4.heap.size + 1) 23 #[.slice none 0 0] := by
      rw [hW0]; have := At.new (w4.alloc (.cells #[.string t] 9)) 23 #[.slice none 0 0]
      rwa [World.size_alloc] at this
    have hA0 : At W0 w4.heap.size 9 #[.string t] := by
      rw [hW0]; exact (At.new w4 9 #[.string t]).alloc _
    rw [← hW0]
    clear hW0
    refine range_law (F := Fence.wide) (gf := 59) (lf := #[.int .i64 9]) (lb := #[]) rfl (by decide) rfl trivial (fun args w => rfl) (encs := fun p : Nat => #[.int .i64 p]) (xs := List.range 9)
      (below_iter _ _ trivial rfl (by decide)) (fun _ => rfl)
      (fun pre W => ∃ o, At W w4.heap.size 9 #[.string t] ∧ At W (w4.heap.size + 1) 23 #[o] ∧ W.ownsRow (W0.heap.size + 2) 42 2 o (pre.map (effA g)).length (mcells (pre.map (effA g))) ∧ Below w.heap.size w W)
      (fun _ _ _ => False) ?_ (fun _ => ownFrom_pure _ _) ?_
      (fun p => { tmps := #[v, undef, .slice none 0 0, .bool false, .pointer (some ⟨w4.heap.size, 0, none⟩), .pointer (some ⟨w4.heap.size + 1, 0, none⟩), .int .i64 p, v, .bool true, .bool false, stV nmS, v, stV g, .string t, .func (.func 59) #[.int .i64 9] #[], .int .i64 p, undef, undef, undef, undef, undef, undef, undef, undef, undef, undef, undef, undef, undef, undef, undef], defers := [] }) ?_ ?_ ?_ ?_
    · rintro s A A' row ⟨o, k1, k2, k3, k4⟩ hg hr
      exact ⟨o, at_turn k1 hg (fun r e => (hr r e).2), at_turn k2 hg (fun r e => (hr r e).2), row_turn k3 hg (fun r e => (hr r e).2), k4.trans (below_grown hg k4.size (fun g e => by have := (hr g e).1; omega))⟩
    · exact ⟨_, hA0, hA1, ⟨rfl, .inl ⟨rfl, rfl⟩⟩, hB0⟩
    · intro l p W Kc hK
      gi_wp2
      exact hK
    · rintro l2 pre p A ⟨o, k1, k2, k3, k4⟩ hp hsz2
      obtain ⟨hpl, hp9⟩ := pre_len pre p hp
      have i0 : (0 : Int) ≤ (p : Int) := by omega
      have i1 : (p : Int) < 9 := by omega
      have hnm := fun W' => name_c p hp9 W'
      have hex := HX.out p (by omega)
      have c1 : A.drew.cell? ⟨w4.heap.size, 0, none⟩ = some (.string t) := k1.cell 0
      have c2 : A.drew.cell? ⟨w4.heap.size + 1, 0, none⟩ = some o := k2.cell 0
      have HEA : Hid ((pre ++ [p]).map (effA g) = pre.map (effA g) ++ [(nm p, ⟨#[g p]⟩)]) := by show _ = _; simp [effA]
      have hln : (pre.map (effA g)).length = pre.length := by simp
      generalize (⟨#[g p]⟩ : ByteArray) = q at *
      generalize nm p = a at *
      generalize pre.map (effA g) = ys at *
      have hsd : A.drew.heap.size = A.heap.size := rfl
      have j1 : At A.drew w4.heap.size 9 #[.string t] := k1
      have j2 : At A.drew (w4.heap.size + 1) 23 #[o] := k2
      have j3 : A.drew.ownsRow (W0.heap.size + 2) 42 2 o ys.length (mcells ys) := k3
      have j4 : Below w.heap.size w A.drew := k4.drew
      have hnw := two_new A.drew (.string a) (.string q) 42
      gi_wp2
      refine region_late_inRound (F := Fence.wide) (C := fun w' => w' = A.drew) (D := fun w' => w'.cell? ⟨w4.heap.size + 1, 0, none⟩ = some o) 9 rfl (by kernel_rfl) (by kernel_rfl) (by kernel_rfl) _ _ (by rfl) (by rfl) (by rfl) o (fun _ _ _ h => h) (yieldsD_load (by rfl) _ _ (by rfl) _ Try.underlying23 _ (by rfl) o) (fun w' hw => by subst hw; exact c2) rfl ?_
      simp only [List.take_succ_cons, List.take_zero, List.drop_succ_cons, List.drop_zero, Nat.reduceSub, Nat.reduceAdd]
      simp only [Act.put, List.setIfInBounds_toArray, List.set_cons_succ, List.set_cons_zero]
      gi_big_quiet_step (fail)
      refine BigFrame.wpQuietIn_want (fun _ _ _ _ => trivial) rfl (fun K hK => ?_)
      gi_big_quiet_op
      refine ⟨_, callsIn_wide.2 ((hnm _).mono (fun e w' h => ⟨h.1, h.2.symm⟩)), hK _ ?_⟩
      clear hK K
      gi_big_quiet_step (fail)
      gi_big_quiet_step (fail)
      gi_big_quiet_step (fail)
      gi_big_quiet_step (fail)
      gi_big_quiet_step (fail)
      gi_big_quiet_step (fail)
      refine wpQuietIn_nil ?_
      intro w' hw' K hK
      subst hw'
      refine sliceIn_mv (.tmp 24) rfl a q (by rfl) ?_
      refine hK _ _ ((j2.alloc _).cell 0) ?_
      clear hK K
      simp only [Act.put, List.setIfInBounds_toArray, List.set_cons_succ, List.set_cons_zero]
      refine listIn_mv rfl (.tmp 16) (.tmp 25) rfl (W0.heap.size + 2) o ys (a, q) ⟨A.drew.heap.size, 0, none⟩ 1 (by rfl) (by rfl) (own_keep j3 ((Below.refl _ _).alloc (Nat.le_refl _) _)) hnw (by omega) (by simp; omega) ?_
      intro o' W3 hown3 hgrow3
      have m2 : At W3 (w4.heap.size + 1) 23 #[o] := (j2.alloc (.cells #[.string a, .string q] 42)).grown hgrow3 (box_apart j3 j2 (by decide))
      have m1 : At W3 w4.heap.size 9 #[.string t] := (j1.alloc (.cells #[.string a, .string q] 42)).grown hgrow3 (box_apart j3 j1 (by decide))
      have d1 := m2.cell 0
      have d2 := m2.frozen 0
      have hge := own_block_ge j3
      have hK3 : KeepsFrom W0.heap.size A W3 := by
        refine ⟨Nat.le_trans (by simp) hgrow3.size, fun x ob hx1 hx2 hx3 => ?_⟩
        have hx4 := (Array.getElem?_eq_some_iff.1 hx2).1
        refine (hgrow3.block x (by simp; omega) (fun e => ?_)).trans ((Below.heap_alloc A.drew _ _ hx4).trans hx2)
        rcases k3.2 with ⟨rfl, _⟩ | ⟨g, cap, cur, rfl, _, hh, _⟩
        · cases e
        · cases e
          rw [hh] at hx2
          cases hx2
          cases hx3
      have hI3 : KeepsIn (W0.heap.size + 2) 0 A W3 := KeepsIn.zero (Nat.le_trans (by simp) hgrow3.size)
      have hB3 : Below w.heap.size w W3 := (j4.alloc j4.size _).trans (below_grown hgrow3 (by have := j4.size; simp; omega) (fun g hg => by have := hge g hg; omega))
      have hne3 := box_apart hown3 m2 (by decide)
      obtain ⟨A3, cap3, rfl, _⟩ := Rd.of_own hown3
      have n2 : At (W3.setCell ⟨w4.heap.size + 1, 0, none⟩ (.slice A3 (ys ++ [(a, q)]).length cap3)) (w4.heap.size + 1) 23 #[.slice A3 (ys ++ [(a, q)]).length cap3] := m2.set 0 _
      have n1 : At (W3.setCell ⟨w4.heap.size + 1, 0, none⟩ (.slice A3 (ys ++ [(a, q)]).length cap3)) w4.heap.size 9 #[.string t] := m1.grown (grownBy_setCell' W3 (w4.heap.size + 1) _) (by simp)
      have n3 := hown3.kept (grownBy_setCell' W3 (w4.heap.size + 1) (.slice A3 (ys ++ [(a, q)]).length cap3)) (.inr hne3.symm)
      generalize (ys ++ [(a, q)]) = zs at *
      clear hnw c1 c2 k1 k2 k3 k4 j1 j2 j3 j4 hgrow3 hge
      gi_wp2
      exact ⟨hK3.trans ((KeepsOthers.setCell _ _ _).from _), KeepsIn.zero (by rw [World.size_setCell]; exact hI3.size), _, n1, n2, by rw [HEA.out]; exact n3, hB3.setCell (by show w.heap.size ≤ w4.heap.size + 1; omega) _⟩
    · intro D W hD hI hd
      obtain ⟨o, k1, k2, k3, k4⟩ := hI
      have c3 : W.cell? ⟨w4.heap.size + 1, 0, none⟩ = some o := k2.cell 0
      have HDI := Lib.hid (imDropIdle_c (effL g 9) o W (Rd.of_own k3) (by rw [effL_len]; decide))
      clear k1 k2 k3
      gi_wp2_with fail
      refine ⟨trivial, callsIn_wide.2 (HDI.out.mono ?_)⟩
      rintro e w7 ⟨v7, rfl, ho7, hb7⟩
      have hd7 : w7.heap[D]? = some (.deferred (some [])) := (hb7.block D (Array.getElem?_eq_some_iff.1 hd).1).trans hd
      have b7 := k4.trans (hb7.mono k4.size)
      rw [← HM.out] at ho7
      rw [← HOK.out]
      have hown := own_more ho7 k4.size
      clear ho7 hb7 hd HDI
      gi_wp2
      refine ⟨by simp, .inl ⟨D, _, rfl, run_takeDeferred hd7, ?_⟩⟩
      have hW2 : (w7.putObj D (.deferred none)).ownsRow w.heap.size 42 2 v7 (effM xs).length (mcells (effM xs)) :=
        row_turn hown (grownBy_putObj' w7 D _) (fun r e => by cases e; exact ⟨_, hd7, rfl⟩)
      have hR : ∀ tmps : Array Value, tmps.getD 2 undef = v7 → tmps.getD 3 undef = .bool (effOk xs) → (results Try.f23 tmps).run Try.prog (w7.putObj D (.deferred none)) = .ok (.tuple #[v7, .bool (effOk xs)]) (w7.putObj D (.deferred none)) := fun tmps h2 h3 => by
        have h2' : tmps[2]?.getD undef = v7 := by simpa using h2
        have h3' : tmps[3]?.getD undef = .bool (effOk xs) := by simpa using h3
        simp [results, Try.results23, h2', h3']
      exact ⟨_, hR _ rfl rfl, _, rfl, hW2, b7.trans ⟨rfl, rfl, rfl, by simp [World.putObj], fun k hk => World.putObj_heap_other (by have := b7.size; omega)⟩⟩
    · intro _ _ _ _ _ _ hf
      exact hf.elim
  · have HM := Lib.hid (effM_none h1)
    have HOK := Lib.hid (effOk_none h1)
    have H1 := Lib.hid h1
    clear h1 hx
    go_enter Try.func23, Try.ntmps23
    go_wp2_with fail
    refine hsv.out.mono ?_
    rintro e w1 ⟨rfl, hb1⟩
    rw [H1.out]
    go_wp2
    go_ret2
    exact ⟨_, by rw [HOK.out]; rfl, by rw [HM.out]; exact ⟨rfl, .inl ⟨rfl, rfl⟩⟩, by (repeat' (first | (with_reducible exact Below.refl _ _) | (with_reducible assumption) | (with_reducible refine Below.alloc ?_ ?_ _) | (with_reducible refine Below.drew ?_) | (with_reducible refine Below.setCell ?_ ?_ _) | (with_reducible exact Nat.le_refl _) | omega | (simp only [World.size_alloc, World.size_setCell, World.size_drew]; omega) | (simp; omega) | (simp; done)))⟩
end Go.Proofs.Ytpbaomnhchljbaa
