import Derived.Test.YtmifmfljiaoeaabForest
import Derived.Test.YtmifmfljiaoeaabRow
import Derived.Test.YtmifmfljiaoeaabOwn
import Derived.Test.YtmifmfljiaoeaabWheelR
namespace Go.PW
open Go.RowKit Go.PM
abbrev zW : Array Value := #[.int .i64 0, .int .i64 0, .int .i64 0, .int .i64 0, .int .i64 0, .int .i64 0, .int .i64 0, .int .i64 0, .int .i64 0]
theorem zW_eq : zW = whA (fun _ => 0) := rfl
/-- the first k places lead to themselves -/
def idK (k : Nat) : Nat → Nat := fun q => if q < k then q else 0
theorem idK_zero : whA (idK 0) = zW := by simp [idK, whA, zW]
theorem idK_succ (k : Nat) : (fun r => if r = k then k else idK k r) = idK (k + 1) := by
  funext q
  unfold idK
  by_cases h : q = k
  · subst h; simp
  · by_cases h2 : q < k
    · simp [h, h2, Nat.lt_succ_of_lt h2]
    · have : ¬ q < k + 1 := by omega
      simp [h, h2, this]
theorem idK_nine : whA (idK 9) = whA (fun q => q) := by simp [idK, whA]
theorem isP_sn' {a : ByteArray} (h : isP a = true) : a = sn (pidx a) := by
  have := pidx_spec h
  rw [sn_nm _ this.1, this.2]
end Go.PW
namespace Go.Proofs.Ytmifmfljiaoeaab
open Go.RowKit Go.PM Go.PW
attribute [local go_sem] Oper.semAt_some

set_option maxRecDepth 100000 in
set_option maxHeartbeats 1000000 in
theorem wheelsIn_c (f : Nat → ByteArray) (hf : SV f) (w : World) :
    Calls Try.prog 78 #[tabX f] w fun e w' => (∃ b g dp, e = .returned (.pointer (some ⟨b, 0, none⟩)) ∧ w.heap.size ≤ b ∧ At w' b 134 (whA g) ∧ Forest g (hdF f 9) dp) ∧ Below w.heap.size w w' := by
  refine (callsIn_wide (n := 5)).1 ?_
  refine callsIn_of_wp_marks Try.func78 rfl trivial ?_ rfl
  simp only [Try.ntmps78, List.size_toArray, List.length_cons, List.length_nil, Nat.reduceAdd, Nat.reduceSub, Array.replicate_succ, Array.replicate_zero, List.push_toArray, List.append_toArray, List.nil_append, List.cons_append]
  gi_wp2
  obtain ⟨W0, hW0⟩ : ∃ W0 : World, W0 = ((w.alloc (.cells (tabA f) 66)).alloc (.cells zW 134)).alloc (.cells #[.pointer (some ⟨w.heap.size + 1, 0, none⟩)] 90) := ⟨_, rfl⟩
  have hS0 : W0.heap.size = w.heap.size + 3 := by rw [hW0]; simp only [World.size_alloc]
  have hA0 : At W0 w.heap.size 66 (tabA f) := by rw [hW0]; exact ((At.new _ _ _).alloc _).alloc _
  have hA1 : At W0 (w.heap.size + 1) 134 (whA (idK 0)) := by
    rw [hW0, idK_zero]; have := At.new (w.alloc (.cells (tabA f) 66)) 134 zW
    rw [World.size_alloc] at this
    exact this.alloc _
  have hA2 : At W0 (w.heap.size + 2) 90 #[.pointer (some ⟨w.heap.size + 1, 0, none⟩)] := by
    rw [hW0]; have := At.new ((w.alloc (.cells (tabA f) 66)).alloc (.cells zW 134)) 90 #[.pointer (some ⟨w.heap.size + 1, 0, none⟩)]
    rw [World.size_alloc, World.size_alloc] at this
    exact this
  have hB0 : Below w.heap.size w W0 := by rw [hW0]; (repeat' (first | (with_reducible exact Below.refl _ _) | (with_reducible assumption) | (with_reducible refine Below.alloc ?_ ?_ _) | (with_reducible refine Below.drew ?_) | (with_reducible refine Below.setCell ?_ ?_ _) | (with_reducible exact Nat.le_refl _) | omega | ((repeat (first | rewrite [World.size_alloc] | rewrite [World.size_setCell] | rewrite [World.size_drew])); omega) | (simp; omega) | (simp; done)))
  rw [← hW0]
  clear hW0
  refine range_law (F := Fence.wide) (gf := 79) (lf := #[.int .i64 9]) (lb := #[]) rfl (by decide) rfl trivial (fun args w => rfl) (encs := fun p : Nat => #[.int .i64 p]) (xs := List.range 9)
    (below_iter _ _ trivial rfl (by decide)) (fun _ => rfl)
    (fun pre W => At W w.heap.size 66 (tabA f) ∧ At W (w.heap.size + 1) 134 (whA (idK pre.length)) ∧ At W (w.heap.size + 2) 90 #[.pointer (some ⟨w.heap.size + 1, 0, none⟩)] ∧ Below w.heap.size w W)
    (fun _ _ _ => False) ?own (fun _ => ownFrom_pure _ _) ?start ?a1 ?assign ?body ?done ?stop
  case own =>
    rintro s A A' row ⟨q1, q2, q3, q4⟩ hg hr
    exact ⟨at_turn' q1 hg (fun r e => (hr r e).2), at_turn' q2 hg (fun r e => (hr r e).2), at_turn' q3 hg (fun r e => (hr r e).2), q4.trans (below_grown hg q4.size (fun g e => by have := (hr g e).1; omega))⟩
  case start => exact ⟨hA0, hA1, hA2, hB0⟩
  case assign =>
    intro l p W Kc hK
    gi_wp2
    exact hK
  case body =>
    clear hA0 hA1 hA2 hB0
    rintro l pre p W ⟨q1, q2, q3, q4⟩ hp hsz
    obtain ⟨hl, hp9⟩ := pre_len pre p hp
    rw [hl] at q2
    have HL : Hid ((pre ++ [p]).length = p + 1) := by show _ = _; simp [hl]
    have HS := Lib.hid (whA_set (idK p) p hp9 p)
    have c3 : W.cell? ⟨w.heap.size + 2, 0, none⟩ = some (.pointer (some ⟨w.heap.size + 1, 0, none⟩)) := q3.cell 0
    have c2 : W.cell? ⟨w.heap.size + 1, p, none⟩ = some (.int .i64 (idK p p : Nat)) := (q2.cell p).trans (whA_at _ _ hp9)
    have f2 : W.frozen? ⟨w.heap.size + 1, p, none⟩ = false := q2.frozen p
    have l2 := q2.lt
    have i0 : (0 : Int) ≤ (p : Int) := by omega
    have i1 : (p : Int) < 9 := by omega
    have d1 := q1.far (p := ⟨w.heap.size + 1, p, none⟩) (by simp) (.int .i64 (p : Nat))
    have d2 := q2.set p (.int .i64 (p : Nat))
    have d3 := q3.far (p := ⟨w.heap.size + 1, p, none⟩) (by simp) (.int .i64 (p : Nat))
    have d4 := q4.setCell (p := ⟨w.heap.size + 1, p, none⟩) (by simp) (.int .i64 (p : Nat))
    rw [HS.out, idK_succ] at d2
    have D := Lib.hid (And.intro d1 (And.intro d2 (And.intro d3 d4)))
    clear d1 d2 d3 d4 q1 q2 q3 q4 hl
    gi_wp2
    exact ⟨(KeepsOthers.setCell _ _ _).from _, KeepsIn.zero (by simp [World.size_setCell]), D.out.1, by rw [HL.out]; exact D.out.2.1, D.out.2.2.1, D.out.2.2.2⟩
  case done =>
    clear hA0 hA1 hA2 hB0
    intro D1 W1 hD1 hI hd1
    obtain ⟨q1, q2, q3, q4⟩ := hI
    have q2' : At W1 (w.heap.size + 1) 134 (whA (fun q => q)) := by rw [← idK_nine]; exact q2
    clear q2
    have HSRC := Lib.hid (fun (p : Nat) (hp : p < 9) (W : World) => show Calls Try.prog 91 #[tabX f, .int .i64 p] W fun e w' => e = .returned (.string (sn (sx f p))) ∧ Below W.heap.size W w' from by
      have := source_c f p hp W
      rwa [← (sx_lt hf hp).2] at this)
    have HSX := Lib.hid (fun (p : Nat) (hp : p < 9) => (sx_lt hf hp).1)
    have l1 := q1.lt
    have l2 := q2'.lt
    have l3 := q3.lt
    have hD1l : D1 < W1.heap.size := (Array.getElem?_eq_some_iff.1 hd1).1
    have hD1g : w.heap.size + 3 ≤ D1 := by omega
    clear hf
    gi_wp2
    refine range_law (F := Fence.wide) (gf := 79) (lf := #[.int .i64 9]) (lb := #[]) rfl (by decide) rfl trivial (fun args w => rfl) (encs := fun p : Nat => #[.int .i64 p]) (xs := List.range 9)
      (below_iter _ _ trivial rfl (by decide)) (fun _ => rfl)
      (fun pre W => At W w.heap.size 66 (tabA f) ∧ (∃ g dp, At W (w.heap.size + 1) 134 (whA g) ∧ Forest g (hdF f pre.length) dp) ∧ At W (w.heap.size + 2) 90 #[.pointer (some ⟨w.heap.size + 1, 0, none⟩)] ∧ Below w.heap.size w W ∧ W.heap[D1]? = some (.deferred (some [])))
      (fun _ _ _ => False) ?own2 (fun _ => ownFrom_pure _ _) ?start2 ?a2 ?assign2 ?body2 ?done2 ?stop2
    case own2 =>
      rintro s A A' row ⟨q1, ⟨g, dp, q2, hF⟩, q3, q4, q5⟩ hg hr
      exact ⟨at_turn' q1 hg (fun r e => (hr r e).2), ⟨g, dp, at_turn' q2 hg (fun r e => (hr r e).2), hF⟩, at_turn' q3 hg (fun r e => (hr r e).2), q4.trans (below_grown hg q4.size (fun g e => by have := (hr g e).1; omega)), (hg.block _ (Array.getElem?_eq_some_iff.1 q5).1 (fun e => by have := (hr _ e.symm).1; omega)).trans q5⟩
    case start2 => exact ⟨q1, ⟨_, _, q2', Forest.id⟩, q3, q4, hd1⟩
    case assign2 =>
      intro l p W Kc hK
      gi_wp2
      exact hK
    case body2 =>
      clear q1 q2' q3 q4 hd1
      rintro l pre p W ⟨q1, ⟨g, dp, q2, hF⟩, q3, q4, q5⟩ hp hsz
      obtain ⟨hl, hp9⟩ := pre_len pre p hp
      rw [hl] at hF
      have HL : Hid ((pre ++ [p]).length = p + 1) := by show _ = _; simp [hl]
      have hsx := HSX.out p hp9
      have HSP := Lib.hid (HSRC.out p hp9)
      have c0 : W.cell? ⟨w.heap.size, 0, none⟩ = some (.string (f 0)) := q1.cell 0
      have c1 : W.cell? ⟨w.heap.size, 1, none⟩ = some (.string (f 1)) := q1.cell 1
      have c2 : W.cell? ⟨w.heap.size, 2, none⟩ = some (.string (f 2)) := q1.cell 2
      have c3 : W.cell? ⟨w.heap.size, 3, none⟩ = some (.string (f 3)) := q1.cell 3
      have c4 : W.cell? ⟨w.heap.size, 4, none⟩ = some (.string (f 4)) := q1.cell 4
      have c5 : W.cell? ⟨w.heap.size, 5, none⟩ = some (.string (f 5)) := q1.cell 5
      have c6 : W.cell? ⟨w.heap.size, 6, none⟩ = some (.string (f 6)) := q1.cell 6
      have c7 : W.cell? ⟨w.heap.size, 7, none⟩ = some (.string (f 7)) := q1.cell 7
      have c8 : W.cell? ⟨w.heap.size, 8, none⟩ = some (.string (f 8)) := q1.cell 8
      clear hl
      gi_wp2
      refine ⟨trivial, ?_⟩
      refine CallsIn.inRound l (callsIn_wide.2 ((HSP.out W).mono ?_))
      rintro e W2 ⟨rfl, hb2⟩
      have hz4 := q4.size
      have k1 := q1.keep hb2
      have k2 := q2.keep hb2
      have k3 := q3.keep hb2
      have k4 : Below w.heap.size w W2 := q4.trans (hb2.mono hz4)
      have k5 : W2.heap[D1]? = some (.deferred (some [])) := (hb2.block D1 (Array.getElem?_eq_some_iff.1 q5).1).trans q5
      have kf := KeepsNew.below (B := W1.heap.size) hb2
      have kz := hb2.size
      clear c0 c1 c2 c3 c4 c5 c6 c7 c8 q1 q2 q3 q4 q5 hb2
      have hpp := (ch_all _ hsx).2.2.1
      by_cases hj : sx f p < 9
      · have hip : isP (sn (sx f p)) = true := by rw [hpp]; simpa using hj
        have hpi : pidx (sn (sx f p)) = sx f p := by rw [sn_nm _ hj]; exact pidx_nm hj
        have HIX := Lib.hid (fun W => indexOf_yes (sn (sx f p)) hip W)
        rw [hpi] at HIX
        obtain ⟨dp', hF'⟩ := hF.join hp9 hj
        rw [← hdF_yes hj] at hF'
        have HJ := Lib.hid (fun W hW => join_c (w.heap.size + 1) g (hdF f p) dp hF p (sx f p) hp9 hj W hW)
        have HF' := Lib.hid hF'
        clear hF hF' hip hpi hpp
        gi_wp2
        refine ⟨trivial, CallsIn.inRound l (callsIn_wide.2 ((HIX.out W2).mono ?_))⟩
        rintro e wq ⟨rfl, rfl⟩
        have c3 : W2.cell? ⟨w.heap.size + 2, 0, none⟩ = some (.pointer (some ⟨w.heap.size + 1, 0, none⟩)) := k3.cell 0
        gi_wp2
        refine ⟨trivial, CallsIn.inRound l (callsIn_wide.2 ((HJ.out W2 k2).mono ?_))⟩
        rintro e W3 ⟨⟨v, rfl⟩, m2, hg⟩
        have m1 := at_grown' k1 hg (by simp)
        have m3 := at_grown' k3 hg (by simp)
        have m4 := k4.trans (below_grown hg k4.size (fun g e => by cases e; omega))
        have m5 : W3.heap[D1]? = some (.deferred (some [])) := (hg.block D1 (Array.getElem?_eq_some_iff.1 k5).1 (fun e => by cases e; omega)).trans k5
        have mf := kf.trans (KeepsNew.grown (B := W1.heap.size) hg (fun g e => by cases e; omega))
        have mz := hg.size
        clear k1 k2 k3 k4 k5 c3
        gi_wp2
        exact ⟨mf.from, KeepsIn.zero (by omega), m1, ⟨_, _, m2, by rw [HL.out]; exact HF'.out⟩, m3, m4, m5⟩
      · have hip : isP (sn (sx f p)) = false := by rw [hpp]; simpa using hj
        have HIX := Lib.hid (fun W => indexOf_no (sn (sx f p)) hip W)
        have hF2 := hF
        rw [← hdF_no hj] at hF2
        have HF' := Lib.hid hF2
        clear hF hF2 hip hpp
        gi_wp2
        refine ⟨trivial, CallsIn.inRound l (callsIn_wide.2 ((HIX.out W2).mono ?_))⟩
        rintro e wq ⟨rfl, rfl⟩
        gi_wp2
        exact ⟨kf.from, KeepsIn.zero kz, k1, ⟨_, _, k2, by rw [HL.out]; exact HF'.out⟩, k3, k4, k5⟩
    case done2 =>
      clear q1 q2' q3 q4 hd1
      intro D W hD hI hd
      obtain ⟨q1, ⟨g, dp, q2, hF⟩, q3, q4, q5⟩ := hI
      have c3 : W.cell? ⟨w.heap.size + 2, 0, none⟩ = some (.pointer (some ⟨w.heap.size + 1, 0, none⟩)) := q3.cell 0
      have HF := Lib.hid (show Forest g (hdF f 9) dp from hF)
      clear hF
      have hne : D ≠ D1 := by omega
      have q5' : (W.putObj D (.deferred none)).heap[D1]? = some (.deferred (some [])) := (World.putObj_heap_other (fun e => hne e.symm)).trans q5
      gi_wp2
      refine ⟨by simp, .inl ⟨D, _, rfl, run_takeDeferred hd, ?_⟩⟩
      refine ⟨by simp, .inl ⟨D1, _, rfl, run_takeDeferred q5', ?_⟩⟩
      have hl2 := q2.lt
      have e2 : At ((W.putObj D (.deferred none)).putObj D1 (.deferred none)) (w.heap.size + 1) 134 (whA g) := (World.putObj_heap_other (by omega)).trans ((World.putObj_heap_other (by omega)).trans q2)
      have e4 : Below w.heap.size w ((W.putObj D (.deferred none)).putObj D1 (.deferred none)) := q4.trans ⟨rfl, rfl, rfl, by simp [World.putObj], fun k hk => (World.putObj_heap_other (by omega)).trans (World.putObj_heap_other (by omega))⟩
      exact ⟨_, results_tmp rfl _ _ _, ⟨_, g, dp, rfl, by omega, e2, HF.out⟩, e4⟩
    case stop2 =>
      intro _ _ _ _ _ _ hff
      exact hff.elim
  case stop =>
    intro _ _ _ _ _ _ hff
    exact hff.elim
def whB (xs : List Mv) (a : ByteArray) : ByteArray := txt (wheelL (tabOf xs) (pidx a))
set_option maxRecDepth 100000 in
set_option maxHeartbeats 800000 in
theorem imWheelOf_c (xs : List Mv) (v : Value) (a : ByteArray) (w : World) (hx : RdM w v xs) :
    Calls Try.prog 42 #[v, .string a] w fun e w' => e = .returned (.tuple #[.string (okS (mvalid xs && isP a) (whB xs a)), .bool (mvalid xs && isP a)]) ∧ Below w.heap.size w w' := by
  have HO : Hid (∀ b s, okS b s = if b then s else ⟨#[]⟩) := fun _ _ => rfl
  rcases Bool.eq_false_or_eq_true (mvalid xs && isP a) with h | h
  · have h1 : MV xs := by have := (Bool.and_eq_true _ _ ▸ h).1; simpa [mvalid] using this
    have h2 : isP a = true := (Bool.and_eq_true _ _ ▸ h).2
    have hp := (pidx_spec h2).1
    have HT := Lib.hid (tableAndPlace_yes xs v a w hx h1 h2)
    have HSP := Lib.hid (fun W => wheelsIn_c (tabOf xs) (SV_tab h1) W)
    have HY : Hid (namesW (fun q => decide (hdF (tabOf xs) 9 q = hdF (tabOf xs) 9 (pidx a))) = whB xs a) := namesW_txt _
    rw [h]
    clear h h1
    go_enter Try.func42, Try.ntmps42
    go_wp2_with fail
    refine HT.out.mono ?_
    rintro e w1 ⟨rfl, hb1⟩
    have hs1 := hb1.size
    go_wp2_with fail
    refine (HSP.out _).mono ?_
    rintro e w2 ⟨⟨b, g, dp, rfl, hbge, hA, hF⟩, hb2⟩
    have hb12 := (hb1.alloc hs1 (.cells (tabA (tabOf xs)) 66)).trans (hb2.mono (by simp; omega))
    have hs2 := hb12.size
    clear hb2
    go_wp2_with fail
    refine (wheel_c b g _ dp hF _ hp _ hA).mono ?_
    rintro e w3 ⟨rfl, hb3⟩
    rw [HY.out]
    go_wp2
    go_ret2
    exact ⟨by rw [HO.out]; rfl, hb12.trans (hb3.mono hs2)⟩
  · have HT := Lib.hid (tableAndPlace_no xs v a w hx h)
    rw [h]
    clear h
    go_enter Try.func42, Try.ntmps42
    go_wp2_with fail
    refine HT.out.mono ?_
    rintro e w1 ⟨⟨g, n, rfl⟩, hb1⟩
    have hs1 := hb1.size
    go_wp2
    go_ret2
    exact ⟨by rw [HO.out]; rfl, by (repeat' (first | (with_reducible exact Below.refl _ _) | (with_reducible assumption) | (with_reducible refine Below.alloc ?_ ?_ _) | (with_reducible refine Below.drew ?_) | (with_reducible refine Below.setCell ?_ ?_ _) | (with_reducible exact Nat.le_refl _) | omega | ((repeat (first | rewrite [World.size_alloc] | rewrite [World.size_setCell] | rewrite [World.size_drew])); omega) | (simp; omega) | (simp; done)))⟩
end Go.Proofs.Ytmifmfljiaoeaab
