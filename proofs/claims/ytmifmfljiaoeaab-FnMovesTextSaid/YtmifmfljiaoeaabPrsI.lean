import Derived.Test.YtmifmfljiaoeaabParts
import Derived.Test.YtmifmfljiaoeaabParseM
import Derived.Test.YtmifmfljiaoeaabTurn
import Derived.Test.YtmifmfljiaoeaabIm2
import Derived.Laws.EntriesVeiled
namespace Go.PM
open Go.RowKit
theorem pcs_mem {t x : ByteArray} {pre : List ByteArray} (h : pre ++ [x] <+: pcsB 44 t) : x.size ≤ t.size := by
  have : x ∈ pcsB 44 t := h.mem (List.mem_append_right _ (List.mem_singleton_self x))
  rw [← cutP_pcs] at this
  exact cutP_size this
theorem tabC_one (f : Nat → ByteArray) : (tabC f).all (·.oneCell') = true := by simp [tabC, Value.oneCell']
theorem kf_grown {B : Nat} {A A' : World} {row : Option Nat} (hg : A.grownBy A' row) (hr : ∀ g o, row = some g → B ≤ g → A.heap[g]? = some o → o.isCells = true) : KeepsFrom B A A' :=
  ⟨hg.size, fun k o hk h1 h2 => (hg.block k (Array.getElem?_eq_some_iff.1 h1).1 (fun e => by have := hr k o e.symm hk h1; rw [h2] at this; cases this)).trans h1⟩
theorem own_cells {w : World} {base : Nat} {e : TypeId} {size n : Nat} {v : Value} {cs : List Value} (h : w.ownsRow base e size v n cs) : ∀ g o, v.ownBlock = some g → w.heap[g]? = some o → o.isCells = true := by
  intro g o e1 e2
  rcases h.2 with ⟨rfl, _⟩ | ⟨g2, cap, cur, rfl, _, hh, _⟩
  · cases e1
  · cases e1
    rw [hh] at e2
    cases e2
    rfl
end Go.PM
namespace Go.Proofs.Ytmifmfljiaoeaab
open Go.RowKit Go.PM
attribute [local go_sem] Oper.semAt_some

theorem partsOf_c (t s : ByteArray) (w : World) :
    Calls Try.prog 58 #[.string t, .string s] w fun e w' => e = .returned (.func (.func 109) #[] #[.pointer (some ⟨w.heap.size, 0, none⟩), .pointer (some ⟨w.heap.size + 1, 0, none⟩)]) ∧ At w' w.heap.size 9 #[.string t] ∧ At w' (w.heap.size + 1) 9 #[.string s] ∧ Below w.heap.size w w' := by
  go_enter Try.func58, Try.ntmps58
  go_wp2
  go_ret
  refine ⟨rfl, (At.new _ _ _).alloc _, ?_, by (repeat' (first | (with_reducible exact Below.refl _ _) | (with_reducible assumption) | (with_reducible refine Below.alloc ?_ ?_ _) | (with_reducible refine Below.drew ?_) | (with_reducible refine Below.setCell ?_ ?_ _) | (with_reducible exact Nat.le_refl _) | omega | ((repeat (first | rewrite [World.size_alloc] | rewrite [World.size_setCell] | rewrite [World.size_drew])); omega) | (simp; omega) | (simp; done)))⟩
  have := At.new (w.alloc (.cells #[.string t] 9)) 9 #[.string s]
  rwa [World.size_alloc] at this

theorem results_prs (W : World) (b1 b2 : Nat) (v b : Value) (h1 : At W b1 23 #[v]) (h2 : At W b2 4 #[b]) (tmps : Array Value) (e1 : tmps.getD 2 undef = .pointer (some ⟨b1, 0, none⟩)) (e2 : tmps.getD 3 undef = .pointer (some ⟨b2, 0, none⟩)) :
    (results Try.f11 tmps).run Try.prog W = .ok (.tuple #[v, b]) W := by
  have q1 : W.cell? ⟨b1, 0, none⟩ = some v := h1.cell 0
  have q2 : W.cell? ⟨b2, 0, none⟩ = some b := h2.cell 0
  have e1' : tmps[2]?.getD undef = .pointer (some ⟨b1, 0, none⟩) := by simpa using e1
  have e2' : tmps[3]?.getD undef = .pointer (some ⟨b2, 0, none⟩) := by simpa using e2
  simp [results, Try.results11, go_sem, e1', e2', q1, q2]

set_option maxRecDepth 100000 in
set_option maxHeartbeats 3200000 in
theorem imParseMoves_c (t : ByteArray) (w : World) (ht : t.size ≤ 1048576) :
    Calls Try.prog 11 #[.string t] w fun e w' => ∃ v', e = .returned (.tuple #[v', .bool (prsOk t)]) ∧ w'.ownsRow w.heap.size 38 2 v' (prsM t).length (mcells (prsM t)) ∧ Below w.heap.size w w' := by
  have hd45 : (t.toList == [45]) = decide (t = ⟨#[45]⟩) := by
    have e : (ByteArray.mk #[45]).toList = [45] := by rw [ByteArray.toList_eq]
    have h := beq_str t ⟨#[45]⟩
    rw [e] at h; exact h
  by_cases h0 : t = ⟨#[45]⟩
  · have HK : Hid (prsOk t = true) := by show _ = _; rw [prsOk, decide_eq_true h0]; rfl
    have HM : Hid (prsM t = []) := if_pos h0
    rw [decide_eq_true h0] at hd45
    clear h0
    go_enter Try.func11, Try.ntmps11
    go_wp2
    refine bodyPost_ret (results_prs _ w.heap.size (w.heap.size + 1) (.slice none 0 0) (.bool true) ((At.new _ _ _).alloc _) ?_ _ rfl rfl) rfl ⟨_, by rw [HK.out], by rw [HM.out]; exact ⟨rfl, .inl ⟨rfl, rfl⟩⟩, by (repeat' (first | (with_reducible exact Below.refl _ _) | (with_reducible assumption) | (with_reducible refine Below.alloc ?_ ?_ _) | (with_reducible refine Below.drew ?_) | (with_reducible refine Below.setCell ?_ ?_ _) | (with_reducible exact Nat.le_refl _) | omega | ((repeat (first | rewrite [World.size_alloc] | rewrite [World.size_setCell] | rewrite [World.size_drew])); omega) | (simp; omega) | (simp; done)))⟩
    have := At.new (w.alloc (.cells #[.slice none 0 0] 23)) 4 #[.bool true]
    rwa [World.size_alloc] at this
  · have HPC := Lib.hid (prs_cut h0)
    rw [decide_eq_false h0] at hd45
    clear h0
    refine (callsIn_wide (n := 5)).1 ?_
    refine callsIn_of_wp_marks Try.func11 rfl trivial ?_ rfl
    simp only [Try.ntmps11, List.size_toArray, List.length_cons, List.length_nil, Nat.reduceAdd, Nat.reduceSub, Array.replicate_succ, Array.replicate_zero, List.push_toArray, List.append_toArray, List.nil_append, List.cons_append]
    gi_wp2_with fail
    obtain ⟨W4, hW4⟩ : ∃ W4 : World, W4 = (((w.alloc (.cells #[.slice none 0 0] 23)).alloc (.cells #[.bool false] 4)).alloc (.cells #[.slice none 0 0] 23)).alloc (.cells zA 66) := ⟨_, rfl⟩
    have hS4 : W4.heap.size = w.heap.size + 1 + 1 + 1 + 1 := by rw [hW4]; simp only [World.size_alloc]
    have hB4 : Below w.heap.size w W4 := by rw [hW4]; (repeat' (first | (with_reducible exact Below.refl _ _) | (with_reducible assumption) | (with_reducible refine Below.alloc ?_ ?_ _) | (with_reducible refine Below.drew ?_) | (with_reducible refine Below.setCell ?_ ?_ _) | (with_reducible exact Nat.le_refl _) | omega | ((repeat (first | rewrite [World.size_alloc] | rewrite [World.size_setCell] | rewrite [World.size_drew])); omega) | (simp; omega) | (simp; done)))
    have x0 : At W4 w.heap.size 23 #[.slice none 0 0] := by rw [hW4]; exact (((At.new _ _ _).alloc _).alloc _).alloc _
    have x1 : At W4 (w.heap.size + 1) 4 #[.bool false] := by
      rw [hW4]
      have := At.new (w.alloc (.cells #[.slice none 0 0] 23)) 4 #[.bool false]
      rw [World.size_alloc] at this
      exact (this.alloc _).alloc _
    have x2 : At W4 (w.heap.size + 1 + 1) 23 #[.slice none 0 0] := by
      rw [hW4]
      have := At.new ((w.alloc (.cells #[.slice none 0 0] 23)).alloc (.cells #[.bool false] 4)) 23 #[.slice none 0 0]
      simp only [World.size_alloc] at this
      exact this.alloc _
    have x3 : At W4 (w.heap.size + 1 + 1 + 1) 66 (tabC fun _ => emp) := by
      rw [hW4]
      have := At.new (((w.alloc (.cells #[.slice none 0 0] 23)).alloc (.cells #[.bool false] 4)).alloc (.cells #[.slice none 0 0] 23)) 66 zA
      simp only [World.size_alloc] at this
      exact this
    rw [← hW4]
    refine ⟨trivial, callsIn_wide.2 ((partsOf_c _ _ _).mono ?_)⟩
    rintro e W5 ⟨rfl, x4, x5, hb5⟩
    rw [hS4] at x4 x5 ⊢
    replace x0 := x0.keep hb5
    replace x1 := x1.keep hb5
    replace x2 := x2.keep hb5
    replace x3 := x3.keep hb5
    have hB5 := hB4.trans (hb5.mono hB4.size)
    have hlt := x5.lt
    clear hb5 hB4 hW4 hS4
    gi_wp2
    refine range_law3 (F := Fence.wide) (Pr := fun A => At A (w.heap.size + 1 + 1 + 1 + 1) 9 #[.string t] ∧ At A (w.heap.size + 1 + 1 + 1 + 1 + 1) 9 #[.string ⟨#[44]⟩]) (gf := 109) (lf := #[]) (lb := #[.pointer (some ⟨w.heap.size + 1 + 1 + 1 + 1, 0, none⟩), .pointer (some ⟨w.heap.size + 1 + 1 + 1 + 1 + 1, 0, none⟩)]) rfl (by decide) rfl trivial (fun args w => rfl) (encs := fun s : ByteArray => #[.string s]) (xs := pcsB 44 t) (κ := 0)
      (parts_iter t 44 _ _ _ ht (by decide)) (fun _ => rfl)
      (fun pre A => ∃ o g, At A w.heap.size 23 #[.slice none 0 0] ∧ At A (w.heap.size + 1) 4 #[.bool false] ∧ At A (w.heap.size + 1 + 1) 23 #[o] ∧ At A (w.heap.size + 1 + 1 + 1) 66 (tabC g) ∧ At A (w.heap.size + 1 + 1 + 1 + 1) 9 #[.string t] ∧ At A (w.heap.size + 1 + 1 + 1 + 1 + 1) 9 #[.string ⟨#[44]⟩] ∧ Hid ((∀ p, p < 9 → g p = tabOf (pre.map cutM) p) ∧ MV (pre.map cutM)) ∧ A.ownsRow (W5.heap.size + 2) 38 2 o (pre.map cutM).length (mcells (pre.map cutM)) ∧ Below w.heap.size w A)
      (fun c pre A => c = .ret ∧ ¬ MV (pre.map cutM) ∧ At A w.heap.size 23 #[.slice none 0 0] ∧ At A (w.heap.size + 1) 4 #[.bool false] ∧ Below w.heap.size w A)
      ?_ ?_ ?_ ?_
      (fun s a' _ => a' = { tmps := #[.string t, undef, .pointer (some ⟨w.heap.size, 0, none⟩), .pointer (some ⟨w.heap.size + 1, 0, none⟩), .pointer (some ⟨w.heap.size + 1 + 1, 0, none⟩), .pointer (some ⟨w.heap.size + 1 + 1 + 1, 0, none⟩), .string s, undef, undef, undef, undef, undef, undef, .string t, .bool false, .string t, .func (.func 109) #[] #[.pointer (some ⟨w.heap.size + 1 + 1 + 1 + 1, 0, none⟩), .pointer (some ⟨w.heap.size + 1 + 1 + 1 + 1 + 1, 0, none⟩)], .string s, undef, undef, undef, undef, undef, undef, undef, undef, undef, undef, undef, undef, undef, undef, undef, undef, undef, undef, undef, undef, undef, undef, undef], defers := [] }) ?_ ?_ ?_ ?_ ?_
    · rintro pre A ⟨o, g, _, _, _, _, k4, k5, _⟩
      exact ⟨k4, k5⟩
    · rintro s A A' row ⟨o, g, k0, k1, k2, k3, k4, k5, k6, k7, k8⟩ hg hr
      exact ⟨o, g, at_turn k0 hg (fun r e => (hr r e).2), at_turn k1 hg (fun r e => (hr r e).2), at_turn k2 hg (fun r e => (hr r e).2), at_turn k3 hg (fun r e => (hr r e).2), at_turn k4 hg (fun r e => (hr r e).2), at_turn k5 hg (fun r e => (hr r e).2), k6, row_turn k7 hg (fun r e => (hr r e).2), k8.trans (below_grown hg k8.size (fun g e => by have := (hr g e).1; omega))⟩
    · rintro c s A A' row ⟨h1, h2, k0, k1, k8⟩ hg hr
      exact ⟨h1, h2, at_turn k0 hg (fun r e => (hr r e).2), at_turn k1 hg (fun r e => (hr r e).2), k8.trans (below_grown hg k8.size (fun g e => by have := (hr g e).1; omega))⟩
    · exact ⟨_, _, x0, x1, x2, x3, x4, x5, ⟨fun p _ => rfl, MV_nil⟩, ⟨rfl, .inl ⟨rfl, rfl⟩⟩, hB5⟩
    · rintro m a' s A A' row h hg hr
      exact h
    · intro l pre x W K hI hp hsz hK
      gi_wp2
      exact hK _ _ (KeepsNew.refl _ _) hI rfl
    · clear x0 x1 x2 x3 x4 x5
      rintro l pre x a' W ⟨o, g, k0, k1, k2, k3, k4, k5, k6, k7, k8⟩ rfl hp hsz
      have hxz : x.size ≤ 1048576 := Nat.le_trans (pcs_mem hp) ht
      have hWs : w.heap.size + 6 ≤ W.heap.size := by omega
      gi_wp2_with fail
      refine ⟨trivial, CallsIn.inRound l (callsIn_wide.2 ((strCut_c x 61 W hxz).mono ?_))⟩
      rintro e V2 ⟨rfl, hb2⟩
      have HX : Hid (cutM x = ((cutB x 61).1, (cutB x 61).2.1)) := rfl
      have HSN := Lib.hid (MV_snoc (pre.map cutM) (cutM x))
      have HTS := Lib.hid (fun h1 h2 p hp => tabOf_snoc (pre.map cutM) (cutM x) h1 h2 p hp)
      have HTE := Lib.hid (fun p => tabOf_emp k6.out.2 (p := p))
      have HMP : Hid ((pre ++ [x]).map cutM = pre.map cutM ++ [cutM x]) := by show _ = _; simp
      rw [HX.out] at HSN HTS HMP
      generalize (cutB x 61).1 = a at *
      generalize (cutB x 61).2.1 = b at *
      generalize (cutB x 61).2.2 = m at *
      generalize pre.map cutM = ys at *
      have hs2 := hb2.size
      have KF2 : KeepsFrom W5.heap.size W V2 := (KeepsNew.below hb2).from
      replace k0 := k0.keep hb2
      replace k1 := k1.keep hb2
      replace k2 := k2.keep hb2
      replace k3 := k3.keep hb2
      replace k4 := k4.keep hb2
      replace k5 := k5.keep hb2
      replace k7 := own_keep k7 hb2
      replace k8 := k8.trans (hb2.mono k8.size)
      have hy8 : ys.length ≤ 9 := MV_len k6.out.2
      clear hb2
      have B3 : Below V2.heap.size V2 (V2.alloc (.cells #[.string a, .string b] 38)) := (Below.refl _ _).alloc (Nat.le_refl _) _
      have hT := k3.keep B3
      gi_wp2_with (refine ldIn_row rfl 66 (.tmp 5) rfl (w.heap.size + 1 + 1 + 1) 66 (tabC g) hT (by rfl) 9 9 Try.underlying66 (by kernel_rfl) ?_)
      by_cases hstep : isP a = true ∧ g (pidx a) = emp ∧ isS b = true
      · obtain ⟨ha, hf, hbs⟩ := hstep
        refine ⟨trivial, CallsIn.inRound l (callsIn_wide.2 ((with_yes g a b ha hf hbs _).mono ?_))⟩
        rintro e V4 ⟨rfl, hb4⟩
        have hs4 := (B3.trans (hb4.mono B3.size)).size
        have B4 : Below V2.heap.size V2 (V4.alloc (.cells (tabA (upd g (pidx a) b)) 66)) := (B3.trans (hb4.mono B3.size)).alloc hs4 _
        have mM := ((At.new V2 38 #[.string a, .string b]).keep hb4).alloc (.cells (tabA (upd g (pidx a) b)) 66)
        replace k0 := k0.keep B4
        replace k1 := k1.keep B4
        replace k2 := k2.keep B4
        replace k3 := k3.keep B4
        replace k4 := k4.keep B4
        replace k5 := k5.keep B4
        replace k7 := own_keep k7 B4
        replace k8 := k8.trans (B4.mono k8.size)
        have KF4 : KeepsFrom W5.heap.size W (V4.alloc (.cells (tabA (upd g (pidx a) b)) 66)) := KF2.trans (KeepsNew.below B4).from
        have kN : At (V4.alloc (.cells (tabA (upd g (pidx a) b)) 66)) V4.heap.size 66 (tabC (upd g (pidx a) b)) := At.new V4 66 (tabA (upd g (pidx a) b))
        have hal : (V4.alloc (.cells (tabA (upd g (pidx a) b)) 66)).heap.size = V4.heap.size + 1 := by simp
        have hg2 : ∀ p, p < 9 → upd g (pidx a) b p = tabOf (ys ++ [(a, b)]) p := fun p hp => by
          have e0 := (HTE.out (pidx a)).1 (by rw [← k6.out.1 (pidx a) (pidx_spec ha).1]; exact hf)
          rw [(pidx_spec ha).2] at e0
          rw [HTS.out ha e0 p hp]
          unfold upd
          split
          · rfl
          · exact k6.out.1 p hp
        have hMV : MV (ys ++ [(a, b)]) := by
          have e0 := (HTE.out (pidx a)).1 (by rw [← k6.out.1 (pidx a) (pidx_spec ha).1]; exact hf)
          rw [(pidx_spec ha).2] at e0
          exact HSN.out.2 ⟨k6.out.2, by unfold mok; rw [ha, hbs]; rfl, e0⟩
        have H6 := Lib.hid (And.intro hg2 hMV)
        clear hg2 hMV HTE HTS HSN ha hf hbs hT B3 hb4 KF2
        generalize upd g (pidx a) b = g2 at *
        gi_wp2_with (first
          | (refine ldIn_row rfl 66 (.tmp 11) rfl V4.heap.size 66 (tabC g2) kN (by rfl) 9 9 Try.underlying66 (by kernel_rfl) ?_)
          | (refine stIn_row rfl 66 (.tmp 5) (.tmp 35) rfl rfl (w.heap.size + 1 + 1 + 1) 66 (tabC g) (tabC g2) k3 (by rfl) (by rfl) (by kernel_rfl) rfl (tabC_one _) ?_
             refine held ?_))
        unfold Held
        intro V7 k3n gC
        replace k0 := k0.grown gC (by simp <;> omega)
        replace k1 := k1.grown gC (by simp <;> omega)
        replace k2 := k2.grown gC (by simp <;> omega)
        replace k4 := k4.grown gC (by simp <;> omega)
        replace k5 := k5.grown gC (by simp <;> omega)
        replace mM := mM.grown gC (by simp <;> omega)
        replace k8 := k8.trans (below_grown gC (by omega) (fun g e => by cases e; omega))
        replace k7 := own_grown k7 gC (.inl (box_apart k7 k3 (by decide)).symm)
        replace KF4 := KF4.trans (kf_grown gC (fun g o e hge _ => by cases e; omega))
        have hs7 : V4.heap.size + 1 ≤ V7.heap.size := by have := gC.size; simpa using this
        have c2 := k2.cell 0
        have cM0 := mM.cell 0
        have cM1 := mM.cell 1
        have hnw := two_new V7 (.string a) (.string b) 38
        gi_wp2_with (gi_at_builtin; refine held ?_)
        unfold Held
        refine listIn_mv rfl (.tmp 36) (.tmp 38) rfl (W5.heap.size + 2) o ys (a, b) ⟨V7.heap.size, 0, none⟩ 1 (by rfl) (by rfl) (own_keep k7 ((Below.refl _ _).alloc (Nat.le_refl _) _)) hnw (by omega) (by simp; omega) ?_
        intro o' V9 hown9 hgrow9
        have Ba := (Below.refl V7.heap.size V7).alloc (Nat.le_refl _) (.cells #[.string a, .string b] 38)
        replace k0 := k0.keep Ba
        replace k1 := k1.keep Ba
        replace k2 := k2.keep Ba
        replace k3n := k3n.keep Ba
        replace k4 := k4.keep Ba
        replace k5 := k5.keep Ba
        replace k7 := own_keep k7 Ba
        replace KF4 := KF4.trans ((KeepsNew.below Ba).from.trans (kf_grown hgrow9 (fun g o e _ h => own_cells k7 g o e h)))
        replace k8 := (k8.trans (Ba.mono k8.size)).trans (below_grown hgrow9 (by have := k8.size; simp; omega) (fun g hg => by have := own_block_ge k7 g hg; omega))
        have m0 := k0.grown hgrow9 (box_apart k7 k0 (by decide))
        have m1 := k1.grown hgrow9 (box_apart k7 k1 (by decide))
        have m2 := k2.grown hgrow9 (box_apart k7 k2 (by decide))
        have m3 := k3n.grown hgrow9 (box_apart k7 k3n (by decide))
        have m4 := k4.grown hgrow9 (box_apart k7 k4 (by decide))
        have m5 := k5.grown hgrow9 (box_apart k7 k5 (by decide))
        have hs9 := hgrow9.size
        have hsa : (V7.alloc (.cells #[.string a, .string b] 38)).heap.size = V7.heap.size + 1 := by simp
        rw [hsa] at hs9
        have hne9 := box_apart hown9 m2 (by decide)
        have d1 := m2.cell 0
        have d2 := m2.frozen 0
        obtain ⟨A9, cap9, rfl, _⟩ := Rd.of_own hown9
        generalize ys ++ [(a, b)] = zs at *
        have gS := grownBy_setCell' V9 (w.heap.size + 1 + 1) (.slice A9 zs.length cap9)
        have n2 : At (V9.setCell ⟨w.heap.size + 1 + 1, 0, none⟩ (.slice A9 zs.length cap9)) (w.heap.size + 1 + 1) 23 #[.slice A9 zs.length cap9] := m2.set 0 _
        have n0 := m0.grown gS (by simp <;> omega)
        have n1 := m1.grown gS (by simp <;> omega)
        have n3 := m3.grown gS (by simp <;> omega)
        have n4 := m4.grown gS (by simp <;> omega)
        have n5 := m5.grown gS (by simp <;> omega)
        have n7 := own_grown hown9 gS (.inl hne9.symm)
        have KF9 := KF4.trans (kf_grown (B := W5.heap.size) gS (fun g o e hge _ => by cases e; omega))
        have k9 := k8.trans (below_grown gS (by have := k8.size; omega) (fun g e => by cases e; omega))
        clear k0 k1 k2 k3 k3n k4 k5 k7 KF4 m0 m1 m2 m3 m4 m5 c2 cM0 cM1 mM hnw hgrow9 Ba
        gi_wp2
        exact ⟨KF9, KeepsIn.zero (by have := gS.size; omega), _, g2, n0, n1, n2, n3, n4, n5, by rw [HMP.out]; exact H6, by rw [HMP.out]; exact n7, k9⟩
      · refine ⟨trivial, CallsIn.inRound l (callsIn_wide.2 ((with_no g a b hstep _).mono ?_))⟩
        rintro e V4 ⟨rfl, hb4⟩
        have hs4 := (B3.trans (hb4.mono B3.size)).size
        have B4 : Below V2.heap.size V2 (V4.alloc (.cells zA 66)) := (B3.trans (hb4.mono B3.size)).alloc hs4 _
        replace k0 := k0.keep B4
        replace k1 := k1.keep B4
        replace k8 := k8.trans (B4.mono k8.size)
        have KF4 : KeepsFrom W5.heap.size W (V4.alloc (.cells zA 66)) := KF2.trans (KeepsNew.below B4).from
        have hno : ¬ MV (ys ++ [(a, b)]) := fun h => by
          obtain ⟨h1, h2, h3⟩ := HSN.out.1 h
          unfold mok at h2
          rw [Bool.and_eq_true] at h2
          refine hstep ⟨h2.1, ?_, h2.2⟩
          rw [k6.out.1 _ (pidx_spec h2.1).1]
          refine (HTE.out _).2 ?_
          rw [(pidx_spec h2.1).2]
          exact h3
        have HNO := Lib.hid hno
        have c0 := k0.cell 0
        have f0 := k0.frozen 0
        have c1 := k1.cell 0
        have f1 := k1.frozen 0
        have g0 := grownBy_setCell' (V4.alloc (.cells zA 66)) w.heap.size (.slice none 0 0)
        have n0 : At ((V4.alloc (.cells zA 66)).setCell ⟨w.heap.size, 0, none⟩ (.slice none 0 0)) w.heap.size 23 #[.slice none 0 0] := k0.set 0 _
        have n1 := k1.grown g0 (by simp)
        have d1 := n1.cell 0
        have e1 := n1.frozen 0
        have g1 := grownBy_setCell' ((V4.alloc (.cells zA 66)).setCell ⟨w.heap.size, 0, none⟩ (.slice none 0 0)) (w.heap.size + 1) (.bool false)
        have p0 := n0.grown g1 (by simp)
        have p1 : At (((V4.alloc (.cells zA 66)).setCell ⟨w.heap.size, 0, none⟩ (.slice none 0 0)).setCell ⟨w.heap.size + 1, 0, none⟩ (.bool false)) (w.heap.size + 1) 4 #[.bool false] := n1.set 0 _
        have p8 := (k8.trans (below_grown g0 k8.size (fun g e => by cases e; omega))).trans (below_grown g1 (by have := k8.size; have := g0.size; omega) (fun g e => by cases e; omega))
        have pk := KF4.trans ((kf_grown (B := W5.heap.size) g0 (fun g o e hge _ => by cases e; omega)).trans (kf_grown (B := W5.heap.size) g1 (fun g o e hge _ => by cases e; omega)))
        clear k0 k1 k2 k3 k4 k5 k7 k8 KF4 HTE HTS HSN hno hstep k6 KF2 B3 hT n0 n1 g0 g1 B4 hb4
        gi_wp2
        exact ⟨pk, rfl, by rw [HMP.out]; exact HNO.out, p0, p1, p8⟩
    · intro D W hD hI hd
      obtain ⟨o, g, k0, k1, k2, k3, k4, k5, k6, k7, k8⟩ := hI
      have hmv : mvalid ((pcsB 44 t).map cutM) = true := by simpa [mvalid] using k6.out.2
      have HR1 : Hid (prsOk t = true) := by show _ = _; rw [HPC.out.1, hmv]
      have HR2 : Hid (prsM t = (pcsB 44 t).map cutM) := by show _ = _; rw [HPC.out.2, if_pos hmv]
      generalize hnn : ((pcsB 44 t).map cutM).length = nn at k7
      obtain ⟨A0, cap0, rfl, _⟩ := Rd.of_own k7
      have hWs := k8.size
      have c0 := k0.cell 0
      have f0 := k0.frozen 0
      have c2 := k2.cell 0
      have g0 := grownBy_setCell' W w.heap.size (.slice A0 nn cap0)
      have n0 : At (W.setCell ⟨w.heap.size, 0, none⟩ (.slice A0 nn cap0)) w.heap.size 23 #[.slice A0 nn cap0] := k0.set 0 _
      have n1 := k1.grown g0 (by simp)
      have d1 := n1.cell 0
      have e1 := n1.frozen 0
      have g1 := grownBy_setCell' (W.setCell ⟨w.heap.size, 0, none⟩ (.slice A0 nn cap0)) (w.heap.size + 1) (.bool true)
      have p0 := n0.grown g1 (by simp)
      have p1 : At ((W.setCell ⟨w.heap.size, 0, none⟩ (.slice A0 nn cap0)).setCell ⟨w.heap.size + 1, 0, none⟩ (.bool true)) (w.heap.size + 1) 4 #[.bool true] := n1.set 0 _
      have o1 := own_grown k7 g0 (.inl (box_apart k7 k0 (by decide)).symm)
      have o2 := own_more (own_grown o1 g1 (.inl (box_apart o1 n1 (by decide)).symm)) (show w.heap.size ≤ W5.heap.size + 2 by omega)
      have p8 := (k8.trans (below_grown g0 k8.size (fun g e => by cases e; omega))).trans (below_grown g1 (by have := g0.size; omega) (fun g e => by cases e; omega))
      have hd2 : ((W.setCell ⟨w.heap.size, 0, none⟩ (.slice A0 nn cap0)).setCell ⟨w.heap.size + 1, 0, none⟩ (.bool true)).heap[D]? = some (.deferred (some [])) :=
        (g1.block D (by have := (Array.getElem?_eq_some_iff.1 hd).1; have := g0.size; omega) (by simp; omega)).trans ((g0.block D (Array.getElem?_eq_some_iff.1 hd).1 (by simp; omega)).trans hd)
      clear k0 k1 k2 k3 k4 k5 k6 k7 k8 n0 n1 g0 g1 o1 hmv
      gi_wp2
      refine ⟨by simp, .inl ⟨D, _, rfl, run_takeDeferred hd2, ?_⟩⟩
      have hrow : ∀ r, (some D : Option Nat) = some r → ∃ o' : Obj, ((W.setCell ⟨w.heap.size, 0, none⟩ (.slice A0 nn cap0)).setCell ⟨w.heap.size + 1, 0, none⟩ (.bool true)).heap[r]? = some o' ∧ o'.isCells = false := fun r e => by cases e; exact ⟨_, hd2, rfl⟩
      refine ⟨_, results_prs _ _ _ _ _ (at_turn p0 (grownBy_putObj' _ D _) hrow) (at_turn p1 (grownBy_putObj' _ D _) hrow) _ rfl rfl, .slice A0 nn cap0, by rw [HR1.out], by rw [HR2.out, hnn]; exact row_turn o2 (grownBy_putObj' _ D _) hrow, p8.trans ⟨rfl, rfl, rfl, by simp [World.putObj], fun k hk => World.putObj_heap_other (by omega)⟩⟩
    · rintro D c pre W hD hp ⟨rfl, hn, k0, k1, k8⟩ hd
      have hmv : mvalid ((pcsB 44 t).map cutM) = false := by
        simp only [mvalid, decide_eq_false_iff_not]
        exact fun h => hn (MV_prefix (hp.map cutM) h)
      have HR1 : Hid (prsOk t = false) := by show _ = _; rw [HPC.out.1, hmv]
      have HR2 : Hid (prsM t = []) := by show _ = _; rw [HPC.out.2, hmv]; rfl
      have hWs := k8.size
      gi_wp2
      refine ⟨by simp, .inl ⟨D, _, rfl, run_takeDeferred hd, ?_⟩⟩
      have hrow : ∀ r, (some D : Option Nat) = some r → ∃ o' : Obj, W.heap[r]? = some o' ∧ o'.isCells = false := fun r e => by cases e; exact ⟨_, hd, rfl⟩
      refine ⟨_, results_prs _ _ _ _ _ (at_turn k0 (grownBy_putObj' _ D _) hrow) (at_turn k1 (grownBy_putObj' _ D _) hrow) _ rfl rfl, .slice none 0 0, by rw [HR1.out], by rw [HR2.out]; exact ⟨rfl, .inl ⟨rfl, rfl⟩⟩, k8.trans ⟨rfl, rfl, rfl, by simp [World.putObj], fun k hk => World.putObj_heap_other (by omega)⟩⟩
end Go.Proofs.Ytmifmfljiaoeaab
