import Derived.Test.YtdhhmphnmllbhaaSp5
namespace Go.PM
open Go.RowKit
theorem add_off (b off j : Nat) : (⟨b, off, none⟩ : Addr).add j = ⟨b, off + j, none⟩ := by
  unfold Addr.add; split <;> simp_all
theorem own_lit1 (w : World) (e : TypeId) (base B : Nat) (hB : w.heap.size = B) (hb : base ≤ B) : (w.alloc (.cells #[] e)).drew.ownsRow base e 2 (.slice (some ⟨B, 0, none⟩) 0 0) ([] : List Mv).length (mcells []) := by
  subst hB
  exact World.ownsRow_lit (e := e) (base := base) (size := 2) w #[] 0 hb (Nat.zero_le _) rfl
end Go.PM
namespace Go.Proofs.Ytdhhmphnmllbhaa
open Go.RowKit Go.PM
attribute [local go_sem] Oper.semAt_some

/-- append of moves that lie somewhere, as a step of a region that draws -/
theorem step_appM {ops : Array Oper} {o : Oper} {a : Act} {w : World} {K : Act → World → Prop} {Q : Exit → Act → World → Prop} {E : Prop} (hgd : o.guard = none) (s x : Operand)
    (ho : o.op = .call { callee := .builtin .append, args := #[s, x], argTypes := #[26, 26] })
    (base : Nat) (v : Value) (ys zs : List Mv) (ad : Addr) (c : Nat) (hs : a.eval s = v) (hx : a.eval x = .slice (some ad) zs.length c)
    (hown : w.ownsRow base 37 2 v ys.length (mcells ys)) (hnew : ∀ j u, (mcells zs)[j]? = some u → w.cell? (ad.add j) = some u)
    (hlen : ys.length + zs.length ≤ 1048576) (hbase : base ≤ w.heap.size)
    (h : ∀ v' w', Hid (w'.ownsRow base 37 2 v' (ys ++ zs).length (mcells (ys ++ zs))) → w.grownBy w' v.ownBlock → K (a.put o.dst v') w') :
    if Region.wanted o (yielded ops a.tmps) = true then Oper.wp Try.prog o a w K Q else E := by
  have hw : Region.wanted o (yielded ops a.tmps) = true := by simp [Region.wanted, hgd]
  rw [if_pos hw]
  obtain ⟨i0, hi0, hz0, hz1, hz2⟩ := info_parts infoMv
  obtain ⟨v', w', hr, h2, h3, _⟩ := run_append_own (P := Try.prog) w base 26 o.type 37 i0 _ 2 32 Try.underlying26 hi0 hz0 hz1 hz2 rfl (by omega) v ys.length (mcells ys) hown ad zs.length c (mcells zs) (mcells_length zs) hnew (mcells_one zs) (by simp only [maxLen]; omega) (by omega) hbase
  unfold Oper.wp
  simp [execOp, ho, resolve, invoke, builtin, hs, hx, hr, Result.andThen]
  refine h v' w' ?_ h3
  show World.ownsRow _ _ _ _ _ _ _
  rw [mcells_append, List.length_append]
  exact h2

set_option maxRecDepth 100000 in
set_option maxHeartbeats 3200000 in
theorem l5Next_c (xs : List Mv) (v : Value) (w : World) (hx : RdM w v xs) (hn' : xs.length ≤ 1048575) (hne : ∀ m ∈ xs, m.1 ≠ m.2) :
    Calls Try.prog 64 #[v] w fun e w' => e = .returned (.int .i64 (aheadZ xs)) ∧ Below w.heap.size w w' := by
  have hx0 := hx
  obtain ⟨A, cap, rfl, hn, hc, hcell⟩ := hx.open
  have HZ := Lib.hid (aheadZ_none (xs := xs))
  have HK := Lib.hid (fun k hk h => aheadZ_at (xs := xs) (k := k) hk h)
  have HRD := Lib.hid (fun ys v a W h => l5Read_c ys v a W h)
  have HNE := Lib.hid hne
  clear hne hx
  go_enter Try.func64, Try.ntmps64
  go_wp2
  go_loopw [3, 4, 5, 8] (fun _ _ _ i wr => ∃ (k : Nat), k ≤ xs.length ∧ i = .int .i64 k ∧ Below w.heap.size w wr ∧ Hid (∀ j (hj : j < k) (hj2 : j < xs.length), freeB xs xs[j] = false)) (fun _ _ _ i _ => xs.length - (RowKit.intOf i).toNat)
  case atStart => exact ⟨0, by omega, rfl, Below.refl _ _, fun j hj => by omega⟩
  case round =>
    obtain ⟨k, hk, rfl, hb, hm⟩ := hrel
    have hbs := hb.size
    by_cases hlt : k < xs.length
    · obtain ⟨b, off, rfl, hbl, hc1, hc2⟩ := hcell k hlt
      have hd1 := (hb.cell (p := ⟨b, off + k * 2, none⟩) hbl).trans hc1
      have hd2 := (hb.cell (p := ⟨b, off + k * 2 + 1, none⟩) hbl).trans hc2
      have hsrc := Rd.cellsFrom hx0
      have hcp : ∀ (W : World), Below w.heap.size w W → ∀ (j : Nat) (u : Value), (mcells (xs.take k))[j]? = some u → W.cell? ((⟨b, off, none⟩ : Addr).add j) = some u := fun W hW j u h => by
        rw [add_off]
        refine (hW.cell hbl).trans (hsrc j u ?_)
        rw [← mcells_take, List.getElem?_take] at h
        split at h
        · exact h
        · cases h
      have hcq : ∀ (W : World), Below w.heap.size w W → ∀ (j : Nat) (u : Value), (mcells (xs.drop (k + 1)))[j]? = some u → W.cell? ((⟨b, off + (k + 1) * 2, none⟩ : Addr).add j) = some u := fun W hW j u h => by
        rw [add_off, Nat.add_assoc]
        refine (hW.cell hbl).trans (hsrc _ u ?_)
        rw [← mcells_drop, List.getElem?_drop] at h
        exact h
      have hltk : (xs.take k).length = k := by rw [List.length_take]; omega
      have hldk : (xs.drop (k + 1)).length = xs.length - (k + 1) := by rw [List.length_drop]
      have hsum : (xs.take k).length + (xs.drop (k + 1)).length ≤ 1048576 := by omega
      have i0 : (0 : Int) ≤ (k : Int) := by omega
      have i1 : (k : Int) ≤ (xs.length : Int) := by omega
      have i2 : (k : Int) + 1 ≤ (xs.length : Int) := by omega
      have HER : Hid (xs.take k ++ xs.drop (k + 1) = xs.eraseIdx k) := by show _ = _; rw [List.eraseIdx_eq_take_drop_succ]
      have HFB : Hid (readB (xs.eraseIdx k) xs[k].1 = !freeB xs xs[k]) := by
        show _ = _
        have h1 := rdN_erase xs k hlt xs[k].1
        rw [if_neg (fun e => HNE.out _ (List.getElem_mem hlt) e.symm), Nat.add_zero] at h1
        unfold readB freeB
        rw [h1]
        by_cases e : rdN (xs.eraseIdx k) xs[k].1 = 0 <;> simp [e]
      have HKK := Lib.hid (fun h => HK.out k hlt h)
      have HNX : Hid (freeB xs xs[k] = false → ∀ j (hj : j < k + 1) (hj2 : j < xs.length), freeB xs xs[j] = false) := fun h j hj hj2 => by
        by_cases e : j = k
        · subst e; exact h
        · exact hm.out j (by omega) hj2
      have HCP := Lib.hid hcp
      have HCQ := Lib.hid hcq
      clear hc1 hc2 hcell hcp hcq hsrc
      generalize hfb : freeB xs xs[k] = fb at *
      clear hfb
      generalize xs[k].1 = x1 at *
      generalize xs[k].2 = x2 at *
      generalize xs.take k = p1 at *
      generalize xs.drop (k + 1) = p2 at *
      generalize xs.eraseIdx k = er at *
      have HB1 : Hid (Below w.heap.size w (wr.alloc (.cells #[.string x1, .string x2] 37))) := hb.alloc hbs _
      have n1 : k ≤ cap := by omega
      have n2 : k + 1 ≤ xs.length := by omega
      have n3 : k + 1 ≤ cap := by omega
      have n4 : IntKind.i64.wrap ((k : Int) + 1) = (k : Int) + 1 := IntWalk.i64_in _ ⟨by omega, by omega⟩
      have n5 : ((k : Int) + 1).toNat = k + 1 := by omega
      have n6 : (0 : Int) ≤ (k : Int) + 1 := by omega
      by_cases hcap : cap = k + 1
      · subst hcap
        have hp20 : p2.length = 0 := by omega
        have n7 : (k : Int) ≤ (k : Int) + 1 := by omega
        have HCZ : Hid (∀ (W : World) (j : Nat) (u : Value), (mcells p2)[j]? = some u → W.cell? ((⟨b, off, none⟩ : Addr).add j) = some u) := fun W j u h => by
          have : p2 = [] := List.length_eq_zero_iff.1 (by omega)
          rw [this] at h; simp [mcells] at h
        go_wp2
        go_region_law (first
          | (refine step_appM rfl (.tmp 13) (.tmp 16) rfl (wr.heap.size + 1) (.slice (some ⟨wr.heap.size + 1, 0, none⟩) 0 0) [] p1 ⟨b, off, none⟩ (k + 1) (by rfl) (by rw [hltk]; rfl) (own_lit1 _ _ _ _ (by simp) (by omega)) (HCP.out _ (by (repeat' (first | (with_reducible exact Below.refl _ _) | (with_reducible assumption) | (with_reducible refine Below.alloc ?_ ?_ _) | (with_reducible refine Below.drew ?_) | (with_reducible refine Below.setCell ?_ ?_ _) | (with_reducible exact Nat.le_refl _) | omega | ((repeat (first | rewrite [World.size_alloc] | rewrite [World.size_setCell] | rewrite [World.size_drew])); omega) | (simp; omega) | (simp; done))))) (by simp; omega) (by simp only [World.size_alloc, World.size_drew]; omega) ?_; intro v1 w1 ho1 hg1; have hb1 := Below.trans (show Below w.heap.size w ((wr.alloc (.cells #[.string x1, .string x2] 37)).alloc (.cells #[] 37)).drew by (repeat' (first | (with_reducible exact Below.refl _ _) | (with_reducible assumption) | (with_reducible refine Below.alloc ?_ ?_ _) | (with_reducible refine Below.drew ?_) | (with_reducible refine Below.setCell ?_ ?_ _) | (with_reducible exact Nat.le_refl _) | omega | ((repeat (first | rewrite [World.size_alloc] | rewrite [World.size_setCell] | rewrite [World.size_drew])); omega) | (simp; omega) | (simp; done)))) (below_grown hg1 (by simp; omega) (fun g e => by have e' : some (wr.heap.size + 1) = some g := e; cases e'; omega)))
          | (refine step_appM rfl (.tmp 17) (.tmp 21) rfl (wr.heap.size + 1) _ _ p2 ⟨b, off, none⟩ 0 (by rfl) (by rw [hp20]; rfl) ho1.out (HCZ.out _) (by simpa using hsum) (by have := hg1.size; simp at this; omega) ?_; intro v2 w2 ho2 hg2))
        have hz1 := hg1.size
        have hz2 := hg2.size
        simp only [World.size_alloc, World.size_drew] at hz1
        have hrd2 : RdM w2 v2 er := by
          have := Rd.of_own ho2.out
          rw [List.nil_append, HER.out] at this
          exact this
        have hge1 := own_block_ge ho1.out
        have hN0 : At ((wr.alloc (.cells #[.string x1, .string x2] 37)).alloc (.cells #[] 37)).drew wr.heap.size 37 #[.string x1, .string x2] := (At.new wr 37 #[.string x1, .string x2]).alloc _
        have hN1 : At w1 wr.heap.size 37 #[.string x1, .string x2] := hN0.grown hg1 (by intro e; have e' : some wr.heap.size = some (wr.heap.size + 1) := e; have := Option.some.inj e'; omega)
        have hN2 : At w2 wr.heap.size 37 #[.string x1, .string x2] := hN1.grown hg2 (fun e => by have := hge1 _ e.symm; omega)
        have q1 : w2.cell? ⟨wr.heap.size, 0, none⟩ = some (.string x1) := hN2.cell 0
        have hb2 : Below w.heap.size w w2 := hb1.trans (below_grown hg2 (by omega) (fun g e => by have := hge1 g e; omega))
        have hs2 := hb2.size
        clear hg1 hg2 hN0 hN1 hN2 ho1 ho2 hd1 hd2 hb1
        have HRR := Lib.hid (HRD.out er v2 x1 w2 hrd2)
        rw [HFB.out] at HRR
        clear hrd2
        cases fb with
        | true =>
          go_wp2_with (go_at_call 61; refine HRR.out.mono ?_; rintro e w3 ⟨rfl, hb3⟩)
          go_ret
          exact ⟨by rw [HKK.out (fun j hj => hm.out j hj (by omega)) (by first | trivial | rfl)]; rfl, hb2.trans (hb3.mono hs2)⟩
        | false =>
          go_wp2_with (go_at_call 61; refine HRR.out.mono ?_; rintro e w3 ⟨rfl, hb3⟩)
          go_roundw
          case rel => exact ⟨k + 1, by omega, by go_num, hb2.trans (hb3.mono hs2), HNX.out (by first | trivial | rfl)⟩
          case measure => simp [RowKit.intOf]; omega
      · go_wp2
        go_region_law (first
          | (refine step_appM rfl (.tmp 13) (.tmp 16) rfl (wr.heap.size + 1) (.slice (some ⟨wr.heap.size + 1, 0, none⟩) 0 0) [] p1 ⟨b, off, none⟩ cap (by rfl) (by rw [hltk]; rfl) (own_lit1 _ _ _ _ (by simp) (by omega)) (HCP.out _ (by (repeat' (first | (with_reducible exact Below.refl _ _) | (with_reducible assumption) | (with_reducible refine Below.alloc ?_ ?_ _) | (with_reducible refine Below.drew ?_) | (with_reducible refine Below.setCell ?_ ?_ _) | (with_reducible exact Nat.le_refl _) | omega | ((repeat (first | rewrite [World.size_alloc] | rewrite [World.size_setCell] | rewrite [World.size_drew])); omega) | (simp; omega) | (simp; done))))) (by simp; omega) (by simp only [World.size_alloc, World.size_drew]; omega) ?_; intro v1 w1 ho1 hg1; have hb1 := Below.trans (show Below w.heap.size w ((wr.alloc (.cells #[.string x1, .string x2] 37)).alloc (.cells #[] 37)).drew by (repeat' (first | (with_reducible exact Below.refl _ _) | (with_reducible assumption) | (with_reducible refine Below.alloc ?_ ?_ _) | (with_reducible refine Below.drew ?_) | (with_reducible refine Below.setCell ?_ ?_ _) | (with_reducible exact Nat.le_refl _) | omega | ((repeat (first | rewrite [World.size_alloc] | rewrite [World.size_setCell] | rewrite [World.size_drew])); omega) | (simp; omega) | (simp; done)))) (below_grown hg1 (by simp; omega) (fun g e => by have e' : some (wr.heap.size + 1) = some g := e; cases e'; omega)))
          | (refine step_appM rfl (.tmp 17) (.tmp 21) rfl (wr.heap.size + 1) _ _ p2 ⟨b, off + (k + 1) * 2, none⟩ (cap - (k + 1)) (by rfl) (by rw [hldk]; rfl) ho1.out (HCQ.out _ hb1) (by simpa using hsum) (by have := hg1.size; simp at this; omega) ?_; intro v2 w2 ho2 hg2))
        have hz1 := hg1.size
        have hz2 := hg2.size
        simp only [World.size_alloc, World.size_drew] at hz1
        have hrd2 : RdM w2 v2 er := by
          have := Rd.of_own ho2.out
          rw [List.nil_append, HER.out] at this
          exact this
        have hge1 := own_block_ge ho1.out
        have hN0 : At ((wr.alloc (.cells #[.string x1, .string x2] 37)).alloc (.cells #[] 37)).drew wr.heap.size 37 #[.string x1, .string x2] := (At.new wr 37 #[.string x1, .string x2]).alloc _
        have hN1 : At w1 wr.heap.size 37 #[.string x1, .string x2] := hN0.grown hg1 (by intro e; have e' : some wr.heap.size = some (wr.heap.size + 1) := e; have := Option.some.inj e'; omega)
        have hN2 : At w2 wr.heap.size 37 #[.string x1, .string x2] := hN1.grown hg2 (fun e => by have := hge1 _ e.symm; omega)
        have q1 : w2.cell? ⟨wr.heap.size, 0, none⟩ = some (.string x1) := hN2.cell 0
        have hb2 : Below w.heap.size w w2 := hb1.trans (below_grown hg2 (by omega) (fun g e => by have := hge1 g e; omega))
        have hs2 := hb2.size
        clear hg1 hg2 hN0 hN1 hN2 ho1 ho2 hd1 hd2 hb1
        have HRR := Lib.hid (HRD.out er v2 x1 w2 hrd2)
        rw [HFB.out] at HRR
        clear hrd2
        cases fb with
        | true =>
          go_wp2_with (go_at_call 61; refine HRR.out.mono ?_; rintro e w3 ⟨rfl, hb3⟩)
          go_ret
          exact ⟨by rw [HKK.out (fun j hj => hm.out j hj (by omega)) (by first | trivial | rfl)]; rfl, hb2.trans (hb3.mono hs2)⟩
        | false =>
          go_wp2_with (go_at_call 61; refine HRR.out.mono ?_; rintro e w3 ⟨rfl, hb3⟩)
          go_roundw
          case rel => exact ⟨k + 1, by omega, by go_num, hb2.trans (hb3.mono hs2), HNX.out (by first | trivial | rfl)⟩
          case measure => simp [RowKit.intOf]; omega
    · have hz := HZ.out fun j hj => hm.out j (by omega) hj
      have HZZ := Lib.hid hz
      clear hz
      go_wp2
      go_ret
      exact ⟨by rw [HZZ.out]; rfl, hb⟩
end Go.Proofs.Ytdhhmphnmllbhaa
