import Derived.Test.YtmifmfljiaoeaaaDeep2
import Derived.Test.YtmifmfljiaoeaaaRingI
import Derived.Test.YtmifmfljiaoeaaaOwn
import Derived.Test.YtmifmfljiaoeaaaHeld
import Derived.Test.YtmifmfljiaoeaaaHold
namespace Go.PO
open Go.PM Go.RowKit Go.PW
/-- the greatest depth of the first k places -/
noncomputable def maxD (nx : Nat → Option Nat) : Nat → Nat
  | 0 => 0
  | k + 1 => max (maxD nx k) (depN nx k)
noncomputable def settleI (xs : List Mv) : Int := if mvalid xs then (maxD (nxT (tabOf xs)) 9 : Int) else -1
theorem depth_nm {xs : List Mv} (h : MV xs) {k : Nat} (hk : k < 9) : depthI xs (nm k) = (depN (nxT (tabOf xs)) k : Int) := by
  have m1 : mvalid xs = true := by simpa [mvalid] using h
  unfold depthI
  rw [m1, isP_nm hk, pidx_nm hk]; rfl
theorem maxD_succ (nx : Nat → Option Nat) (k : Nat) : ((maxD nx (k + 1) : Nat) : Int) = max (maxD nx k : Int) (depN nx k : Int) := by
  show ((max (maxD nx k) (depN nx k) : Nat) : Int) = _
  omega
theorem spots_at {w w' : World} {b : Nat} {nx : Nat → Option Nat} (h : Spots w b nx) (hk : ∀ t cs, At w b t cs → At w' b t cs) : Spots w' b nx := by
  obtain ⟨t, cs, hA⟩ := h.row
  have hB := hk t cs hA
  exact ⟨⟨t, cs, hB⟩, fun i hi => by rw [hB.cell, ← hA.cell]; exact h.name i hi, fun i hi => by rw [hB.cell, ← hA.cell]; exact h.src i hi⟩
end Go.PO
namespace Go.Proofs.Ytmifmfljiaoeaaa
open Go.RowKit Go.PM Go.PW Go.PO
attribute [local go_sem] Oper.semAt_some

set_option maxRecDepth 100000 in
set_option maxHeartbeats 1000000 in
theorem spSettlesAfter_c (xs : List Mv) (v : Value) (w : World) (hx : RdM w v xs) (hz : ∀ m ∈ xs, m.1.size ≤ 9223372036854775807 ∧ m.2.size ≤ 9223372036854775807) (hn' : xs.length ≤ 1048576) :
    Calls Try.prog 24 #[v] w fun e w' => e = .returned (.int .i64 (settleI xs)) ∧ Below w.heap.size w w' := by
  have HO : Hid (settleI xs = if mvalid xs then (maxD (nxT (tabOf xs)) 9 : Int) else -1) := rfl
  have HV := Lib.hid (spMovesValid_c xs v w hx hz hn')
  have HX := Lib.hid (fun W (hW : Below w.heap.size w W) => hx.below hW)
  rcases Bool.eq_false_or_eq_true (mvalid xs) with h1 | h1
  · have HN : Hid (∀ q, q < 9 → (ByteArray.mk #[97, 98, 99, 100, 101, 102, 65, 66, 67]).extract q (q+1) = nm q) := by
      show ∀ q, _
      intro q hq
      match q, hq with
      | 0, _ | 1, _ | 2, _ | 3, _ | 4, _ | 5, _ | 6, _ | 7, _ | 8, _ => decide +kernel
    have HD := Lib.hid (fun W hW a => spDepthOf_c xs v a W hW hz hn')
    have HDN := Lib.hid (fun k hk => depth_nm (xs := xs) (by simpa [mvalid] using h1) (k := k) hk)
    have H1 := Lib.hid h1
    clear hx hz h1
    generalize nxT (tabOf xs) = nx at *
    go_enter Try.func24, Try.ntmps24
    go_wp2_with fail
    refine HV.out.mono ?_
    rintro e w1 ⟨he, hb1⟩
    rw [H1.out] at he
    subst he
    have hs1 := hb1.size
    go_wp2
    go_loopw [3, 8] (fun o i wr => ∃ k : Nat, k ≤ 9 ∧ i = .int .i64 k ∧ o = .int .i64 (maxD nx k : Nat) ∧ Below w.heap.size w wr) (fun _ i _ => 9 - (intOf i).toNat)
    case atStart => exact ⟨0, by omega, rfl, rfl, hb1⟩
    case round =>
      obtain ⟨k, hk, rfl, rfl, hb⟩ := hrel
      have hbs := hb.size
      by_cases hlt : k < 9
      · have hex := HN.out k hlt
        have hc := HD.out wr (HX.out wr hb) (nm k)
        rw [HDN.out k hlt] at hc
        have HC := Lib.hid hc
        have HS := Lib.hid (maxD_succ nx k)
        clear hc
        generalize maxD nx k = mk at *
        generalize depN nx k = dk at *
        generalize nm k = q at *
        go_wp2_with fail
        refine HC.out.mono ?_
        rintro e w2 ⟨rfl, hb2⟩
        have hbw := hb.trans (hb2.mono hbs)
        clear hb2 hb
        go_wp2
        go_roundw
        case rel => exact ⟨k + 1, by omega, by go_num, by rw [HS.out], hbw⟩
        case measure => simp [intOf]; omega
      · have hk9 : k = 9 := by omega
        subst hk9
        go_wp2
        go_ret
        exact ⟨by rw [HO.out, H1.out]; rfl, hb⟩
  · go_enter Try.func24, Try.ntmps24
    go_wp2_with fail
    refine HV.out.mono ?_
    rintro e w1 ⟨rfl, hb1⟩
    go_wp2
    go_ret
    exact ⟨by rw [HO.out, h1]; rfl, hb1⟩
set_option maxRecDepth 100000 in
set_option maxHeartbeats 4000000 in
theorem imSettlesAfter_c (xs : List Mv) (v : Value) (w : World) (hx : RdM w v xs) :
    Calls Try.prog 23 #[v] w fun e w' => e = .returned (.int .i64 (settleI xs)) ∧ Below w.heap.size w w' := by
  have HO : Hid (settleI xs = if mvalid xs then (maxD (nxT (tabOf xs)) 9 : Int) else -1) := rfl
  by_cases h1 : MV xs
  · have HT := Lib.hid (tableOf_yes xs h1 v w hx)
    have hm1 : mvalid xs = true := by simpa [mvalid] using h1
    have HM := Lib.hid hm1
    have hn := nice (SV_tab h1)
    have HSP := Lib.hid (fun W => spotsOf_c (tabOf xs) (SV_tab h1) W)
    have HDP := Lib.hid (fun b p (hp : p < 9) W hS => depth_c b (nxT (tabOf xs)) hn p (by omega) _ (depN_stops hn (show p < 19 by omega)) W hS)
    clear h1 hx hm1 hn
    generalize nxT (tabOf xs) = nx at *
    generalize tabOf xs = t at *
    refine (callsIn_wide (n := 5)).1 ?_
    refine callsIn_of_wp_marks Try.func23 rfl trivial ?_ rfl
    simp only [Try.ntmps23, List.size_toArray, List.length_cons, List.length_nil, Nat.reduceAdd, Nat.reduceSub, Array.replicate_succ, Array.replicate_zero, List.push_toArray, List.append_toArray, List.nil_append, List.cons_append]
    gi_wp2_with fail
    refine ⟨trivial, callsIn_wide.2 (HT.out.mono ?_)⟩
    rintro e w1 ⟨rfl, hb1⟩
    have hs1 := hb1.size
    have hB0 : Below w.heap.size w (w1.alloc (.cells (tabA t) 52)) := hb1.alloc hs1 _
    have hS0 := hB0.size
    have k1 : At (w1.alloc (.cells (tabA t) 52)) w1.heap.size 52 (tabA t) := At.new w1 _ _
    gi_wp2
    refine ⟨trivial, callsIn_wide.2 ?_⟩
    refine (HSP.out _).mono ?_
    rintro e W1 ⟨⟨bs, rfl, hbs, hSW⟩, hb2⟩
    have hB1 : Below w.heap.size w W1 := hB0.trans (hb2.mono hS0)
    have hS1 := hB1.size
    have hbl := hSW.lt
    clear hb2 hB0 k1 hb1
    obtain ⟨W2, hW2⟩ : ∃ W2 : World, W2 = (W1.alloc (.cells #[.pointer (some ⟨bs, 0, none⟩)] 73)).alloc (.cells #[.int .i64 0] 3) := ⟨_, rfl⟩
    have hA1 : At W2 W1.heap.size 73 #[.pointer (some ⟨bs, 0, none⟩)] := by rw [hW2]; exact (At.new W1 _ _).alloc _
    have hA2 : At W2 (W1.heap.size + 1) 3 #[.int .i64 0] := by
      rw [hW2]; have := At.new (W1.alloc (.cells #[.pointer (some ⟨bs, 0, none⟩)] 73)) 3 #[.int .i64 0]
      rwa [World.size_alloc] at this
    have hSW2 : Spots W2 bs nx := by rw [hW2]; exact spots_at hSW fun t' cs h => (h.alloc _).alloc _
    have hB2 : Below w.heap.size w W2 := by rw [hW2]; (repeat' (first | (with_reducible exact Below.refl _ _) | (with_reducible assumption) | (with_reducible refine Below.alloc ?_ ?_ _) | (with_reducible refine Below.drew ?_) | (with_reducible refine Below.setCell ?_ ?_ _) | (with_reducible exact Nat.le_refl _) | omega | ((repeat (first | rewrite [World.size_alloc] | rewrite [World.size_setCell] | rewrite [World.size_drew])); omega) | (simp; omega) | (simp; done)))
    have hS2 : W2.heap.size = W1.heap.size + 2 := by rw [hW2]; simp only [World.size_alloc]
    gi_wp2
    rw [← hW2]
    clear hW2
    refine range_law (F := Fence.wide) (gf := 62) (lf := #[.int .i64 9]) (lb := #[]) rfl (by decide) rfl trivial (fun args w => rfl) (encs := fun p : Nat => #[.int .i64 p]) (xs := List.range 9)
      (below_iter _ _ trivial rfl (by decide)) (fun _ => rfl)
      (fun pre W => At W (W1.heap.size + 1) 3 #[.int .i64 (maxD nx pre.length : Nat)] ∧ At W W1.heap.size 73 #[.pointer (some ⟨bs, 0, none⟩)] ∧ Spots W bs nx ∧ Below w.heap.size w W)
      (fun _ _ _ => False) ?own (fun _ => ownFrom_pure _ _) ?start ?a1 ?assign ?body ?done ?stop
    case own =>
      rintro s A A' row ⟨h1, h2, h3, h4⟩ hg hr
      have hr' : ∀ r, row = some r → W1.heap.size + 2 ≤ r := fun r e => by have := (hr r e).1; omega
      have hne : ∀ b, b < W1.heap.size + 2 → some b ≠ row := fun b hb e => by have := hr' _ e.symm; omega
      exact ⟨h1.grown hg (hne _ (by omega)), h2.grown hg (hne _ (by omega)), spots_at h3 fun t' cs h => h.grown hg (hne _ (by omega)), h4.trans (below_grown hg h4.size (fun g e => by have := hr' _ e; omega))⟩
    case start => exact ⟨hA2, hA1, hSW2, hB2⟩
    case assign =>
      intro l p W Kc hK
      gi_wp2
      exact hK
    case body =>
      rintro l pre p W ⟨h1, h2, h3, h4⟩ hp hsz
      obtain ⟨hl, hp9⟩ := pre_len pre p hp
      rw [hl] at h1
      have HL : Hid ((pre ++ [p]).length = p + 1) := by show _ = _; simp [hl]
      have HMS := Lib.hid (maxD_succ nx p)
      have hdp : ∀ x : Ext W.heap.size W.drew, Calls Try.prog 63 #[.pointer (some ⟨bs, p * 2, none⟩)] x.val fun e w' => e = .returned (.int .i64 (depN nx p : Nat)) ∧ Below x.val.heap.size x.val w' := fun x => HDP.out bs p hp9 x.val (h3.below ((Below.refl _ _).drew.trans x.property))
      have hc1 : ∀ x : Ext W.heap.size W.drew, x.val.cell? ⟨W1.heap.size + 1, 0, none⟩ = some (.int .i64 (maxD nx p : Nat)) := fun x => (x.property.cell (p := ⟨W1.heap.size + 1, 0, none⟩) h1.lt).trans (h1.cell 0)
      have hc2 : ∀ x : Ext W.heap.size W.drew, x.val.cell? ⟨W1.heap.size, 0, none⟩ = some (.pointer (some ⟨bs, 0, none⟩)) := fun x => (x.property.cell (p := ⟨W1.heap.size, 0, none⟩) h2.lt).trans (h2.cell 0)
      clear hl
      generalize depN nx p = dk at *
      generalize hmk : maxD nx p = mk at *
      have i0 : (0 : Int) ≤ (p : Int) := by omega
      have i1 : (p : Int) < 19 := by omega
      gi_wp2
      refine region_tail_inRound (F := Fence.wide) (C := fun w' => ∃ x : Ext W.heap.size W.drew, w' = x.val) 7 rfl (by kernel_rfl) (by kernel_rfl) (by kernel_rfl) ⟨⟨_, Below.refl _ _⟩, rfl⟩ ?_
      simp only [List.take_succ_cons, List.take_zero, List.drop_succ_cons, List.drop_zero]
      gi_big_quiet_step (fail)
      gi_big_quiet_step (fail)
      gi_big_quiet_step (fail)
      gi_big_quiet_step (fail)
      gi_big_quiet_step (fail)
      (refine BigFrame.wpQuietIn_want (fun _ _ _ _ => trivial) rfl (fun K hK => ?_); gi_big_quiet_op; refine ⟨_, fun _ => callsIn_wide.2 (ext_call _ (Nat.le_refl _) (hdp _)), hK _ ?_⟩; clear hK K)
      gi_big_quiet_step (fail)
      refine wpQuietIn_nil ?_
      rintro W3 ⟨xw, rfl⟩
      have hb2 : Below W.heap.size W xw.val := ((Below.refl _ _).drew).trans xw.property
      clear hc1 hc2 hdp
      generalize xw.val = W3 at *
      have k1 := h1.keep hb2
      have k2 := h2.keep hb2
      have k3 := spots_at h3 fun t' cs h => h.keep hb2
      have k4 := h4.trans (hb2.mono h4.size)
      have kf := k1.frozen 0
      have kc := k1.cell 0
      have kl := k1.lt
      have kS := hb2.size
      have kF : KeepsFrom W2.heap.size W W3 := keepsFrom_below hb2
      clear h1 h2 h3 h4 hb2
      gi_wp2
      refine ⟨kF.trans ((KeepsOthers.setCell _ _ _).from _), KeepsIn.zero (by simp [World.size_setCell]; exact kS), ?_, k2.far (by first | (simp; done) | (simp; omega)) _, spots_at k3 fun t' cs h => h.far (by show bs ≠ W1.heap.size + 1; omega) _, k4.setCell (by show w.heap.size ≤ W1.heap.size + 1; omega) _⟩
      rw [HL.out, HMS.out]
      exact k1.set 0 _
    case done =>
      intro D W hD hI hd
      obtain ⟨h1, h2, h3, h4⟩ := hI
      have h1' : At W (W1.heap.size + 1) 3 #[.int .i64 (maxD nx 9 : Nat)] := h1
      have hc := h1'.cell 0
      clear h1 h1' h2 h3
      gi_wp2
      refine ⟨by simp, .inl ⟨D, _, rfl, run_takeDeferred hd, ?_⟩⟩
      refine ⟨_, results_tmp rfl _ _ _, by rw [HO.out, HM.out]; rfl, h4.trans ⟨rfl, rfl, rfl, by simp [World.putObj], fun k hk => World.putObj_heap_other (by omega)⟩⟩
    case stop =>
      intro _ _ _ _ _ _ hf
      exact hf.elim
  · have HM := Lib.hid (show mvalid xs = false by simpa [mvalid] using h1)
    have HT := Lib.hid (tableOf_no xs h1 v w hx)
    clear h1 hx
    go_enter Try.func23, Try.ntmps23
    go_wp2_with fail
    refine HT.out.mono ?_
    rintro e w1 ⟨rfl, hb1⟩
    have hs1 := hb1.size
    go_wp2
    go_ret
    exact ⟨by rw [HO.out, HM.out]; rfl, by (repeat' (first | (with_reducible exact Below.refl _ _) | (with_reducible assumption) | (with_reducible refine Below.alloc ?_ ?_ _) | (with_reducible refine Below.drew ?_) | (with_reducible refine Below.setCell ?_ ?_ _) | (with_reducible exact Nat.le_refl _) | omega | ((repeat (first | rewrite [World.size_alloc] | rewrite [World.size_setCell] | rewrite [World.size_drew])); omega) | (simp; omega) | (simp; done)))⟩
end Go.Proofs.Ytmifmfljiaoeaaa
