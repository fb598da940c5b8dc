import Derived.Test.YtbgchjjaaelkbaaSpO
namespace Go.PM
open Go.RowKit
/-- what is taken, and what waits, at the head of a round -/
def TakS (w : World) (e : TypeId) (bs : List Mv) (k : Nat) (ov wv : Value) (A : World) : Prop :=
  ∃ (pre ws : List Mv), pre ++ takF k ws = takF 9 bs ∧ Wt ws ∧ ws.length ≤ k ∧ ws.length ≤ 9 ∧ pre.length + ws.length = bs.length ∧ A.ownsRow w.heap.size e 2 wv ws.length (mcells ws) ∧ A.ownsRow w.heap.size e 2 ov pre.length (mcells pre) ∧ (wv.ownBlock ≠ ov.ownBlock ∨ ov.ownBlock = none) ∧ Below w.heap.size w A
theorem busyF_ne (xs : List Mv) : ∀ m ∈ busyF xs 9, m.1 ≠ m.2 := by
  intro m hm
  have hl : busyF xs 9 = lsF (fun p => srcM xs (nm p)) 9 := rfl
  rw [hl] at hm
  obtain ⟨p, _, hne, e⟩ := lsF_mem hm
  rw [e]; exact fun e => hne e.symm
end Go.PM
namespace Go.Proofs.Ytbgchjjaaelkbaa
open Go.RowKit Go.PM
attribute [local go_sem] Oper.semAt_some

/-- append of one move, and where it lies -/
theorem app_lies {ops : Array Oper} {rest : List Oper} {o : Oper} {a : Act} {Q : Exit → Act → World → Prop} {w : World} (hgd : o.guard = none) (s x : Operand)
    (ho : o.op = .call { callee := .builtin .append, args := #[s, x], argTypes := #[23, 23] })
    (base : Nat) (v : Value) (ys : List Mv) (m : Mv) (ad : Addr) (c : Nat) (hs : a.eval s = v) (hx : a.eval x = .slice (some ad) 1 c)
    (hown : w.ownsRow base 33 2 v ys.length (mcells ys)) (hnew : ∀ j u, [Value.string m.1, Value.string m.2][j]? = some u → w.cell? (ad.add j) = some u)
    (hlen : ys.length ≤ 1048576) (hbase : base ≤ w.heap.size)
    (h : ∀ v' w', w'.ownsRow base 33 2 v' (ys ++ [m]).length (mcells (ys ++ [m])) → w.grownBy w' v.ownBlock → (v'.ownBlock = v.ownBlock ∨ v'.ownBlock = some w.heap.size) → wpList Try.prog ops Q rest (a.put o.dst v') w') : wpList Try.prog ops Q (o :: rest) a w := by
  obtain ⟨i0, hi0, hz0, hz1, hz2⟩ := info_parts infoMv
  refine wpList_append_lies w hgd s x _ ho base 33 i0 _ 2 32 Try.underlying23 hi0 hz0 hz1 hz2 rfl (by omega) v ys.length (mcells ys) hs hown ad 1 c [Value.string m.1, Value.string m.2] hx rfl hnew
    (by intro u hu; simp at hu; rcases hu with rfl | rfl <;> rfl) (by omega) (by simp only [maxLen]; omega) (by omega) hbase _ rfl ?_
  intro g cap w' h2 h3 h4 _
  have hcs : mcells ys ++ [Value.string m.1, Value.string m.2] = mcells (ys ++ [m]) := by rw [mcells_append]; simp [mcells]
  refine h _ w' ?_ h3 ?_
  · rw [← hcs, List.length_append]; exact h2
  · rcases h4 with h4 | h4
    · exact .inl h4.symm
    · right; rw [h4]; rfl

set_option maxRecDepth 100000 in
set_option maxHeartbeats 6400000 in
theorem spWithout_yes (xs : List Mv) (h1 : MV xs) (v : Value) (w : World) (hx : RdM w v xs) (hz : ∀ m ∈ xs, m.1.size ≤ 9223372036854775807 ∧ m.2.size ≤ 9223372036854775807) (hn' : xs.length ≤ 1048576) :
    Calls Try.prog 46 #[v] w fun e w' => ∃ v', e = .returned (.tuple #[v', .bool (wspB xs)]) ∧ w'.ownsRow w.heap.size 33 2 v' (wspM xs).length (mcells (wspM xs)) ∧ Below w.heap.size w w' := by
  have hm1 : mvalid xs = true := by simpa [mvalid] using h1
  have hW := busyF_Wt h1
  have hl9 := busyF_len xs 9
  have HWB : Hid (wspB xs = decide ((takF 9 (busyF xs 9)).length = (busyF xs 9).length)) := by show _ = _; unfold wspB takM; rw [hm1]; rfl
  have HWM : Hid (wspM xs = if wspB xs then takF 9 (busyF xs 9) else []) := rfl
  have HNX := Lib.hid (fun ws wv A hx hl hn => l5Next_c ws wv A hx (by omega : ws.length ≤ 1048575) hn)
  have HMV := Lib.hid (fun W h => spMovesValid_c xs v W h hz hn')
  rw [hm1] at HMV
  have HX := Lib.hid (fun W (hW : Below w.heap.size w W) => hx.below hW)
  have hE0 := World.ownsRow_lit (e := 33) (base := w.heap.size) (size := 2) w #[] 0 (Nat.le_refl _) (Nat.zero_le _) rfl
  have hb0 : Below w.heap.size w (w.alloc (.cells #[] 33)) := (Below.refl _ _).alloc (Nat.le_refl _) _
  have HB := Lib.hid (l1Busy_c xs v _ (hx.below hb0))
  go_enter Try.func46, Try.ntmps46
  go_wp2_with (go_at_call 75; refine HB.out.mono ?_; rintro e w1 ⟨v1, rfl, ho1, hb1⟩; refine held ?_)
  unfold Held
  have hb01 := hb0.trans (hb1.mono (by simp))
  have hR0 : TakS w 33 (busyF xs 9) 9 (.slice (some ⟨w.heap.size, 0, none⟩) 0 0) v1 w1 :=
    ⟨[], busyF xs 9, rfl, hW, hl9, hl9, by simp, own_more ho1 hb0.size, own_keep hE0 hb1, ne_turn (own_ne hE0 ho1 (Nat.le_refl _)), hb01⟩
  have hlv : lenV v1 = (busyF xs 9).length := by obtain ⟨A, c, e, _⟩ := Rd.of_own ho1; rw [e]; rfl
  clear hE0 hb0 HB ho1 hb1 hb01 hx hW h1 hlv
  generalize hbe : busyF xs 9 = bs at *
  clear hbe
  go_wp2
  go_loopw [4, 5, 6] (fun ov wv _ wr => ∃ k, TakS w 33 bs k ov wv wr) (fun _ wv _ _ => lenV wv)
  case atStart => exact ⟨9, hR0⟩
  case round =>
    clear hR0
    obtain ⟨k, pre, ws, hpr, hwt, hk, h9, hps, ho, hov, hap, hb⟩ := hrel
    have hbs := hb.size
    have hrd : RdM wr u5 ws := Rd.of_own ho
    obtain ⟨A, cap, rfl, hn1, hc1, hcell⟩ := hrd.open
    by_cases h0 : 0 < ws.length
    · obtain ⟨k, rfl⟩ : ∃ k', k = k' + 1 := ⟨k - 1, by omega⟩
      have i00 : (0 : Int) < (ws.length : Int) := by omega
      have hnx := HNX.out ws _ wr hrd (by omega) hwt.ne
      rcases aheadZ_lt ws with hz2 | ⟨i, hi, hz2, ha⟩
      · have ha := aheadI_of_neg hz2
        have hF : Hid (wspB xs = false) := by
          show _ = _
          rw [HWB.out, decide_eq_false_iff_not, ← hpr, takF_none ha, List.append_nil]
          omega
        rw [hz2] at hnx
        clear hz2 hcell
        go_wp2_with (go_at_call 97; refine hnx.mono ?_; rintro e w1' ⟨rfl, hb1⟩; refine held ?_)
        unfold Held
        have hB1 := hb.trans (hb1.mono hbs)
        have hs1 := hB1.size
        have hE := World.ownsRow_lit (e := 33) (base := w.heap.size) (size := 2) w1' #[] 0 (by omega) (Nat.zero_le _) rfl
        have hB2 := hB1.alloc hs1 (.cells #[] 33)
        clear hb1 ho hov hrd hb
        go_wp2
        go_ret2
        exact ⟨_, by rw [hF.out]; rfl, by rw [HWM.out, hF.out]; exact hE, hB2⟩
      · have htk := takF_some (n := k) hi ha
        obtain ⟨b, off, rfl, hbl, d1, d2⟩ := hcell i hi
        have HNEW : Hid ((pre ++ [ws[i]]) ++ takF k (ws.eraseIdx i) = takF 9 bs ∧ Wt (ws.eraseIdx i) ∧ (ws.eraseIdx i).length ≤ k ∧ (ws.eraseIdx i).length ≤ 9 ∧ (pre ++ [ws[i]]).length + (ws.eraseIdx i).length = bs.length ∧ (ws.eraseIdx i).length < ws.length) := by
          have hle : (ws.eraseIdx i).length = ws.length - 1 := List.length_eraseIdx_of_lt hi
          refine ⟨by rw [← hpr, htk]; simp, hwt.erase i, by omega, by omega, by simp only [List.length_append, List.length_cons, List.length_nil]; omega, by omega⟩
        have i0 : (0 : Int) ≤ (i : Int) := by omega
        have i1 : (i : Int) < (ws.length : Int) := by omega
        rw [hz2] at hnx
        clear hz2 htk hcell hpr ha
        generalize ws[i] = m at *
        rw [show m = (m.1, m.2) from rfl] at HNEW
        generalize m.1 = x1 at *
        generalize m.2 = x2 at *
        go_wp2_with (go_at_call 97; refine hnx.mono ?_; rintro e w1' ⟨rfl, hb1⟩; refine held ?_)
        unfold Held
        have hB1 := hb.trans (hb1.mono hbs)
        have hmv := HMV.out _ (HX.out _ hB1)
        have ho1 := own_keep ho hb1
        have hov1 := own_keep hov hb1
        have e1 := (hb1.cell (p := ⟨b, off + i * 2, none⟩) hbl).trans d1
        have e2 := (hb1.cell (p := ⟨b, off + i * 2 + 1, none⟩) hbl).trans d2
        have hbl1 := Nat.lt_of_lt_of_le hbl hb1.size
        have hs1 := hB1.size
        clear hb1 ho hov hrd hb d1 d2 hnx
        go_wp2_with (go_at_call 73; refine hmv.mono ?_; rintro e w2' ⟨rfl, hb2⟩; refine held ?_)
        unfold Held
        have hB2 := hB1.trans (hb2.mono hs1)
        have ho2a := own_keep ho1 hb2
        have hov2 := own_keep hov1 hb2
        have f1 := (hb2.cell (p := ⟨b, off + i * 2, none⟩) hbl1).trans e1
        have f2 := (hb2.cell (p := ⟨b, off + i * 2 + 1, none⟩) hbl1).trans e2
        have hs2 := hB2.size
        have hnw := two_new w2' (.string x1) (.string x2) 33
        clear hb2 ho1 hov1 hB1 e1 e2 hmv
        go_wp2_with (at_builtin; refine held ?_)
        unfold Held
        refine app_lies rfl (.tmp 23) (.tmp 28) rfl w.heap.size _ pre (x1, x2) ⟨w2'.heap.size, 0, none⟩ 1 (by rfl) (by rfl) (own_keep hov2 ((Below.refl _ _).alloc (Nat.le_refl _) _)) hnw (by omega) (by simp; omega) ?_
        intro v3 wx hov3 hg3 hl3
        have hbx : Below w.heap.size w (w2'.alloc (.cells #[.string x1, .string x2] 33)) := hB2.alloc hs2 _
        have hB3 := hbx.trans (below_grown hg3 (by simp; omega) (own_block_ge hov2))
        have hs3 := hB3.size
        have ho3 := own_grown (own_keep ho2a ((Below.refl _ _).alloc (Nat.le_refl _) (.cells #[.string x1, .string x2] 33))) hg3 hap
        have hrdx : RdM wx (.slice (some ⟨b, off, none⟩) ws.length cap) ws := Rd.of_own ho3
        have hblx : b < wx.heap.size := (own_blk ho3 rfl).1
        have hsrc := Rd.cellsFrom hrdx
        clear hg3 hbx hB2 hov2 ho2a f1 f2 hnw hl3 hap
        have hcp : ∀ (W : World), Below wx.heap.size wx W → ∀ (j : Nat) (u : Value), (mcells (ws.take i))[j]? = some u → W.cell? ((⟨b, off, none⟩ : Addr).add j) = some u := fun W hW j u h => by
          rw [add_off]
          refine (hW.cell hblx).trans (hsrc j u ?_)
          rw [← mcells_take, List.getElem?_take] at h
          split at h
          · exact h
          · cases h
        have hcq : ∀ (W : World), Below wx.heap.size wx W → ∀ (j : Nat) (u : Value), (mcells (ws.drop (i + 1)))[j]? = some u → W.cell? ((⟨b, off + (i + 1) * 2, none⟩ : Addr).add j) = some u := fun W hW j u h => by
          rw [add_off, Nat.add_assoc]
          refine (hW.cell hblx).trans (hsrc _ u ?_)
          rw [← mcells_drop, List.getElem?_drop] at h
          exact h
        have hltk : (ws.take i).length = i := by rw [List.length_take]; omega
        have hldk : (ws.drop (i + 1)).length = ws.length - (i + 1) := by rw [List.length_drop]
        have hsum : (ws.take i).length + (ws.drop (i + 1)).length ≤ 1048576 := by omega
        have i2 : (i : Int) + 1 ≤ (ws.length : Int) := by omega
        have i3 : (i : Int) ≤ (ws.length : Int) := by omega
        have HER : Hid (ws.take i ++ ws.drop (i + 1) = ws.eraseIdx i) := by show _ = _; rw [List.eraseIdx_eq_take_drop_succ]
        have HCP := Lib.hid hcp
        have HCQ := Lib.hid hcq
        have n1 : i ≤ cap := by omega
        have n2 : i + 1 ≤ ws.length := by omega
        have n3 : i + 1 ≤ cap := by omega
        have n4 : IntKind.i64.wrap ((i : Int) + 1) = (i : Int) + 1 := IntWalk.i64_in _ ⟨by omega, by omega⟩
        have n5 : ((i : Int) + 1).toNat = i + 1 := by omega
        have n6 : (0 : Int) ≤ (i : Int) + 1 := by omega
        clear hcp hcq hsrc
        generalize ws.take i = p1 at *
        generalize ws.drop (i + 1) = p2 at *
        by_cases hcap : cap = i + 1
        · subst hcap
          have hp20 : p2.length = 0 := by omega
          have n7 : (i : Int) ≤ (i : Int) + 1 := by omega
          have HCZ : Hid (∀ (W : World) (j : Nat) (u : Value), (mcells p2)[j]? = some u → W.cell? ((⟨b, off, none⟩ : Addr).add j) = some u) := fun W j u h => by
            have : p2 = [] := List.length_eq_zero_iff.1 (by omega)
            rw [this] at h; simp [mcells] at h
          go_wp2
          go_region_law (first
                    | (refine step_appM rfl (.tmp 30) (.tmp 33) rfl wx.heap.size (.slice (some ⟨wx.heap.size, 0, none⟩) 0 0) [] p1 ⟨b, off, none⟩ (i + 1) (by rfl) (by rw [hltk]; rfl) (own_lit1 _ _ _ _ rfl (Nat.le_refl _)) (HCP.out _ (by (repeat' (first | (with_reducible exact Below.refl _ _) | (with_reducible assumption) | (with_reducible refine Below.alloc ?_ ?_ _) | (with_reducible refine Below.drew ?_) | (with_reducible refine Below.setCell ?_ ?_ _) | (with_reducible exact Nat.le_refl _) | omega | ((repeat (first | rewrite [World.size_alloc] | rewrite [World.size_setCell] | rewrite [World.size_drew])); omega) | (simp; omega) | (simp; done))))) (by simp; omega) (by simp) ?_; intro vq wq ho1 hg1; have hb1' := Below.trans (show Below wx.heap.size wx ((wx.alloc (.cells #[] 33)).drew) by (repeat' (first | (with_reducible exact Below.refl _ _) | (with_reducible assumption) | (with_reducible refine Below.alloc ?_ ?_ _) | (with_reducible refine Below.drew ?_) | (with_reducible refine Below.setCell ?_ ?_ _) | (with_reducible exact Nat.le_refl _) | omega | ((repeat (first | rewrite [World.size_alloc] | rewrite [World.size_setCell] | rewrite [World.size_drew])); omega) | (simp; omega) | (simp; done)))) (below_grown hg1 (by simp) (fun g e => by have e' : some wx.heap.size = some g := e; cases e'; omega)))
                    | (refine step_appM rfl (.tmp 34) (.tmp 38) rfl wx.heap.size _ _ p2 ⟨b, off, none⟩ 0 (by rfl) (by rw [hp20]; rfl) ho1.out (HCZ.out _) (by simpa using hsum) (by have := hg1.size; simp at this; omega) ?_; intro v2 w2 ho2 hg2))
          have hz1 := hg1.size
          have hz2 := hg2.size
          simp only [World.size_alloc, World.size_drew] at hz1
          have hge1 := own_block_ge ho1.out
          have hb2 : Below wx.heap.size wx w2 := hb1'.trans (below_grown hg2 (by omega) (fun g e => by have := hge1 g e; omega))
          have ho2' : w2.ownsRow wx.heap.size 33 2 v2 (ws.eraseIdx i).length (mcells (ws.eraseIdx i)) := by
            have := ho2.out
            rw [List.nil_append, HER.out] at this
            exact this
          have HO2 := Lib.hid ho2'
          clear hg1 hg2 ho1 ho2 hb1' ho2' hge1 hz1 hz2 HCP HCQ HER
          
          have hov4 := own_keep hov3 hb2
          have hB4 := hB3.trans (hb2.mono hs3)
          have hap4 : v2.ownBlock ≠ v3.ownBlock ∨ v3.ownBlock = none := ne_turn (own_ne hov3 HO2.out (Nat.le_refl _))
          have hlv2 : lenV v2 = (ws.eraseIdx i).length := by obtain ⟨A, c, e, _⟩ := Rd.of_own HO2.out; rw [e]; rfl
          have hR : TakS w 33 bs k v3 v2 w2 := ⟨_, ws.eraseIdx i, HNEW.out.1, HNEW.out.2.1, HNEW.out.2.2.1, HNEW.out.2.2.2.1, HNEW.out.2.2.2.2.1, own_more HO2.out hs3, hov4, hap4, hB4⟩
          have hlt5 := HNEW.out.2.2.2.2.2
          clear hov4 hB4 hap4 hov3 hrdx ho3 hB3 hb2
          go_simp
          try go_wp2
          go_roundw
          case rel => exact ⟨k, hR⟩
          case measure => rw [hlv2]; exact hlt5
        · go_wp2
          go_region_law (first
                    | (refine step_appM rfl (.tmp 30) (.tmp 33) rfl wx.heap.size (.slice (some ⟨wx.heap.size, 0, none⟩) 0 0) [] p1 ⟨b, off, none⟩ cap (by rfl) (by rw [hltk]; rfl) (own_lit1 _ _ _ _ rfl (Nat.le_refl _)) (HCP.out _ (by (repeat' (first | (with_reducible exact Below.refl _ _) | (with_reducible assumption) | (with_reducible refine Below.alloc ?_ ?_ _) | (with_reducible refine Below.drew ?_) | (with_reducible refine Below.setCell ?_ ?_ _) | (with_reducible exact Nat.le_refl _) | omega | ((repeat (first | rewrite [World.size_alloc] | rewrite [World.size_setCell] | rewrite [World.size_drew])); omega) | (simp; omega) | (simp; done))))) (by simp; omega) (by simp) ?_; intro vq wq ho1 hg1; have hb1' := Below.trans (show Below wx.heap.size wx ((wx.alloc (.cells #[] 33)).drew) by (repeat' (first | (with_reducible exact Below.refl _ _) | (with_reducible assumption) | (with_reducible refine Below.alloc ?_ ?_ _) | (with_reducible refine Below.drew ?_) | (with_reducible refine Below.setCell ?_ ?_ _) | (with_reducible exact Nat.le_refl _) | omega | ((repeat (first | rewrite [World.size_alloc] | rewrite [World.size_setCell] | rewrite [World.size_drew])); omega) | (simp; omega) | (simp; done)))) (below_grown hg1 (by simp) (fun g e => by have e' : some wx.heap.size = some g := e; cases e'; omega)))
                    | (refine step_appM rfl (.tmp 34) (.tmp 38) rfl wx.heap.size _ _ p2 ⟨b, off + (i + 1) * 2, none⟩ (cap - (i + 1)) (by rfl) (by rw [hldk]; rfl) ho1.out (HCQ.out _ hb1') (by simpa using hsum) (by have := hg1.size; simp at this; omega) ?_; intro v2 w2 ho2 hg2))
          have hz1 := hg1.size
          have hz2 := hg2.size
          simp only [World.size_alloc, World.size_drew] at hz1
          have hge1 := own_block_ge ho1.out
          have hb2 : Below wx.heap.size wx w2 := hb1'.trans (below_grown hg2 (by omega) (fun g e => by have := hge1 g e; omega))
          have ho2' : w2.ownsRow wx.heap.size 33 2 v2 (ws.eraseIdx i).length (mcells (ws.eraseIdx i)) := by
            have := ho2.out
            rw [List.nil_append, HER.out] at this
            exact this
          have HO2 := Lib.hid ho2'
          clear hg1 hg2 ho1 ho2 hb1' ho2' hge1 hz1 hz2 HCP HCQ HER
          
          have hov4 := own_keep hov3 hb2
          have hB4 := hB3.trans (hb2.mono hs3)
          have hap4 : v2.ownBlock ≠ v3.ownBlock ∨ v3.ownBlock = none := ne_turn (own_ne hov3 HO2.out (Nat.le_refl _))
          have hlv2 : lenV v2 = (ws.eraseIdx i).length := by obtain ⟨A, c, e, _⟩ := Rd.of_own HO2.out; rw [e]; rfl
          have hR : TakS w 33 bs k v3 v2 w2 := ⟨_, ws.eraseIdx i, HNEW.out.1, HNEW.out.2.1, HNEW.out.2.2.1, HNEW.out.2.2.2.1, HNEW.out.2.2.2.2.1, own_more HO2.out hs3, hov4, hap4, hB4⟩
          have hlt5 := HNEW.out.2.2.2.2.2
          clear hov4 hB4 hap4 hov3 hrdx ho3 hB3 hb2
          go_simp
          try go_wp2
          go_roundw
          case rel => exact ⟨k, hR⟩
          case measure => rw [hlv2]; exact hlt5

    · have : ws = [] := List.length_eq_zero_iff.1 (by omega)
      subst this
      rw [takF_nil, List.append_nil] at hpr
      have hT : Hid (wspB xs = true) := by
        show _ = _
        rw [HWB.out, decide_eq_true_eq, ← hpr]
        simpa using hps
      have hov2 := hov
      rw [hpr] at hov2
      have hmv := HMV.out _ (HX.out _ hb)
      clear hov ho hcell hrd
      go_wp2_with (go_at_call 73; refine hmv.mono ?_; rintro e w2' ⟨rfl, hb2⟩; refine held ?_)
      unfold Held
      have hov3 := own_keep hov2 hb2
      have hB2 := hb.trans (hb2.mono hbs)
      clear hov2 hb2 hmv hb
      go_wp2
      go_ret2
      exact ⟨_, by rw [hT.out]; rfl, by rw [HWM.out, hT.out, if_pos rfl]; exact hov3, hB2⟩
set_option maxRecDepth 100000 in
set_option maxHeartbeats 3200000 in
theorem spWithout_no (xs : List Mv) (h1 : ¬ MV xs) (v : Value) (w : World) (hx : RdM w v xs) (hz : ∀ m ∈ xs, m.1.size ≤ 9223372036854775807 ∧ m.2.size ≤ 9223372036854775807) (hn' : xs.length ≤ 1048576) :
    Calls Try.prog 46 #[v] w fun e w' => ∃ v', e = .returned (.tuple #[v', .bool (wspB xs)]) ∧ w'.ownsRow w.heap.size 33 2 v' (wspM xs).length (mcells (wspM xs)) ∧ Below w.heap.size w w' := by
  have hm1 : mvalid xs = false := by simpa [mvalid] using h1
  have hl9 := busyF_len xs 9
  have hF : Hid (wspB xs = false) := by show _ = _; unfold wspB; rw [hm1]; rfl
  have HWM : Hid (wspM xs = if wspB xs then takM xs else []) := rfl
  have hne := busyF_ne xs
  have HNX := Lib.hid (fun ws wv A hx hl hn => l5Next_c ws wv A hx (by omega : ws.length ≤ 1048575) hn)
  have HMV := Lib.hid (fun W h => spMovesValid_c xs v W h hz hn')
  rw [hm1] at HMV
  have HX := Lib.hid (fun W (hW : Below w.heap.size w W) => hx.below hW)
  have hE0 := World.ownsRow_lit (e := 33) (base := w.heap.size) (size := 2) w #[] 0 (Nat.le_refl _) (Nat.zero_le _) rfl
  have hb0 : Below w.heap.size w (w.alloc (.cells #[] 33)) := (Below.refl _ _).alloc (Nat.le_refl _) _
  have HB := Lib.hid (l1Busy_c xs v _ (hx.below hb0))
  go_enter Try.func46, Try.ntmps46
  go_wp2_with (go_at_call 75; refine HB.out.mono ?_; rintro e w1 ⟨v1, rfl, ho1, hb1⟩; refine held ?_)
  unfold Held
  have hb01 := hb0.trans (hb1.mono (by simp))
  have hrd1 : RdM w1 v1 (busyF xs 9) := Rd.of_own ho1
  have hE1 := own_keep hE0 hb1
  have hs1 := hb01.size
  clear hE0 hb0 HB ho1 hb1 hx
  generalize busyF xs 9 = bs at *
  go_wp2
  go_loopw [4, 5, 6] (fun ov wv _ wr => ov = .slice (some ⟨w.heap.size, 0, none⟩) 0 0 ∧ wv = v1 ∧ wr = w1) (fun _ wv _ _ => 0)
  case atStart => exact ⟨rfl, rfl, rfl⟩
  case round =>
    obtain ⟨rfl, rfl, rfl⟩ := hrel
    obtain ⟨A, cap, rfl, hn1, hc1, hcell⟩ := hrd1.open
    by_cases h0 : 0 < bs.length
    · have i00 : (0 : Int) < (bs.length : Int) := by omega
      have hnx := HNX.out bs _ wr hrd1 (by omega) hne
      clear hcell
      rcases aheadZ_lt bs with hz2 | ⟨i, hi, hz2, ha⟩
      · rw [hz2] at hnx
        go_wp2_with (go_at_call 97; refine hnx.mono ?_; rintro e w1' ⟨rfl, hb1⟩; refine held ?_)
        unfold Held
        have hB1 := hb01.trans (hb1.mono hs1)
        have hs2 := hB1.size
        have hE := World.ownsRow_lit (e := 33) (base := w.heap.size) (size := 2) w1' #[] 0 (by omega) (Nat.zero_le _) rfl
        have hB2 := hB1.alloc hs2 (.cells #[] 33)
        clear hb1 hE1 hrd1
        go_wp2
        go_ret2
        exact ⟨_, by rw [hF.out]; rfl, by rw [HWM.out, hF.out]; exact hE, hB2⟩
      · rw [hz2] at hnx
        have i0 : (0 : Int) ≤ (i : Int) := by omega
        have i1 : ¬ (i : Int) < 0 := by omega
        go_wp2_with (go_at_call 97; refine hnx.mono ?_; rintro e w1' ⟨rfl, hb1⟩; refine held ?_)
        unfold Held
        have hB1 := hb01.trans (hb1.mono hs1)
        have hs2 := hB1.size
        have hmv := HMV.out _ (HX.out _ hB1)
        clear hb1 hE1 hrd1 hnx
        go_wp2_with (go_at_call 73; refine hmv.mono ?_; rintro e w2' ⟨rfl, hb2⟩; refine held ?_)
        unfold Held
        have hB2 := hB1.trans (hb2.mono hs2)
        have hs3 := hB2.size
        have hE := World.ownsRow_lit (e := 33) (base := w.heap.size) (size := 2) w2' #[] 0 (by omega) (Nat.zero_le _) rfl
        have hB3 := hB2.alloc hs3 (.cells #[] 33)
        clear hb2 hmv
        go_wp2
        go_ret2
        exact ⟨_, by rw [hF.out]; rfl, by rw [HWM.out, hF.out]; exact hE, hB3⟩
    · have : bs = [] := List.length_eq_zero_iff.1 (by omega)
      subst this
      have hmv := HMV.out _ (HX.out _ hb01)
      clear hcell hrd1
      go_wp2_with (go_at_call 73; refine hmv.mono ?_; rintro e w2' ⟨rfl, hb2⟩; refine held ?_)
      unfold Held
      have hE2 := own_keep hE1 hb2
      have hB2 := hb01.trans (hb2.mono hs1)
      clear hb2 hmv hE1
      go_wp2
      go_ret2
      exact ⟨_, by rw [hF.out]; rfl, by rw [HWM.out, hF.out]; exact hE2, hB2⟩
theorem spWithoutSpare_c (xs : List Mv) (v : Value) (w : World) (hx : RdM w v xs) (hz : ∀ m ∈ xs, m.1.size ≤ 9223372036854775807 ∧ m.2.size ≤ 9223372036854775807) (hn' : xs.length ≤ 1048576) :
    Calls Try.prog 46 #[v] w fun e w' => ∃ v', e = .returned (.tuple #[v', .bool (wspB xs)]) ∧ w'.ownsRow w.heap.size 33 2 v' (wspM xs).length (mcells (wspM xs)) ∧ Below w.heap.size w w' := by
  by_cases h1 : MV xs
  · exact spWithout_yes xs h1 v w hx hz hn'
  · exact spWithout_no xs h1 v w hx hz hn'
end Go.Proofs.Ytbgchjjaaelkbaa
