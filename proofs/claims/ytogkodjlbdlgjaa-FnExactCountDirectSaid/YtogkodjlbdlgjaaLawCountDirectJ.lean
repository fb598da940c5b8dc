/- Proved: for every input of the form's own reach the law FnExactCountDirect answers true and its arguments read afterwards as before; no further condition. -/
import Derived.Test.YtogkodjlbdlgjaaSlJA
import Derived.Test.YtogkodjlbdlgjaaSlS2
import Derived.Test.YtogkodjlbdlgjaaRows
import Derived.Test.YtogkodjlbdlgjaaLib
import Derived.ProofKit
import Derived.OpenShut
import Derived.ShutString
import Derived.ChangeOld
import Derived.Deep.Slices
import Derived.ChangeSame
import Derived.Carry
import Derived.Test.YtogkodjlbdlgjaaHar
namespace Go.PM
open Go.RowKit
theorem rows_ne {w : World} {base base' : Nat} {e e' : TypeId} {size size' n n' : Nat} {v v' : Value} {cs cs' : List Value} (h : w.ownsRow base e size v n cs) (h' : w.ownsRow base' e' size' v' n' cs') (hne : e ≠ e') : v.ownBlock ≠ v'.ownBlock ∨ v'.ownBlock = none := by
  rcases h'.2 with ⟨rfl, _⟩ | ⟨g, cap, cur, rfl, _, hg, _⟩
  · exact .inr rfl
  · refine .inl fun e1 => ?_
    rcases h.2 with ⟨rfl, _⟩ | ⟨g2, cap2, cur2, rfl, _, hg2, _⟩
    · cases e1
    · cases e1
      rw [hg] at hg2
      cases hg2
      exact hne rfl
theorem redM_spec {ws : List Mv} (h : Wt ws) {i : Nat} (hi : i < ws.length) : redM ws[i] (ws.eraseIdx i) = if isP ws[i].2 = true then instM ws[i].2 ws[i].1 (ws.eraseIdx i) else ws.eraseIdx i := by
  have hm := List.getElem_mem hi
  unfold redM
  rcases h.from_ _ hm with h1 | h1 | h1
  · rw [if_neg (by rw [(isP_cases h1).1]; decide), if_pos h1]
  · rw [if_pos h1, if_neg (by rw [(isD_cases h1).1]; decide)]
  · rw [h1, if_neg (by rw [spT_cases.2]; decide), if_neg (by rw [spT_cases.1]; decide)]
    refine instM_none ?_
    have h2 := rdN_erase ws i hi spT
    rw [if_pos h1] at h2
    have := h.one
    omega
theorem redM_spec0 {ws : List Mv} (h : Wt ws) (h0 : 0 < ws.length) : redM (spT, ws[0].1) ws = instM ws[0].1 spT ws := by
  unfold redM
  rw [if_neg (by show ¬ isD ws[0].1 = true; rw [(isP_cases (h.to_ _ (List.getElem_mem h0))).1]; decide)]
/-- what the ordering holds at the head of a round: k steps are enough for what waits -/
def OrdS (w : World) (e f : TypeId) (xs : List Mv) (k : Nat) (ov wv : Value) (A : World) : Prop :=
  ∃ (pre ws : List Mv), pre ++ ordF k ws = ordF 19 xs ∧ Wt ws ∧ muW ws ≤ k ∧ ws.length ≤ 9 ∧ A.ownsRow w.heap.size e 2 wv ws.length (mcells ws) ∧ A.ownsRow w.heap.size f 3 ov pre.length (scells (stL pre)) ∧ Below w.heap.size w A
end Go.PM
namespace Go.Proofs.Ytogkodjlbdlgjaa
open Go.RowKit Go.PM
attribute [local go_sem] Oper.semAt_some

/-- append of one step -/
theorem app_stp {ops : Array Oper} {rest : List Oper} {o : Oper} {a : Act} {Q : Exit → Act → World → Prop} {w : World} (hgd : o.guard = none) (s x : Operand)
    (ho : o.op = .call { callee := .builtin .append, args := #[s, x], argTypes := #[23, 23] })
    (base : Nat) (v : Value) (ys : List Mv) (m : Mv) (ad : Addr) (c : Nat) (hs : a.eval s = v) (hx : a.eval x = .slice (some ad) 1 c)
    (hown : w.ownsRow base 67 3 v ys.length (scells (stL ys))) (hnew : ∀ j u, [Value.int .i64 0, Value.string m.1, Value.string m.2][j]? = some u → w.cell? (ad.add j) = some u)
    (hlen : ys.length ≤ 1048576) (hbase : base ≤ w.heap.size)
    (h : ∀ v' w', w'.ownsRow base 67 3 v' (ys ++ [m]).length (scells (stL (ys ++ [m]))) → w.grownBy w' v.ownBlock → wpList Try.prog ops Q rest (a.put o.dst v') w') : wpList Try.prog ops Q (o :: rest) a w := by
  obtain ⟨i0, hi0, hz0, hz1, hz2⟩ := info_parts infoStp
  refine wpList_append_own w hgd s x _ ho base 67 i0 _ 3 40 Try.underlying23 hi0 hz0 hz1 hz2 rfl (by omega) v ys.length (scells (stL ys)) hs hown ad 1 c [Value.int .i64 0, Value.string m.1, Value.string m.2] hx rfl hnew
    (by intro u hu; simp at hu; rcases hu with rfl | rfl | rfl <;> rfl) (by simp only [maxLen]; omega) (by omega) hbase ?_
  intro v' w' h2 h3 _
  refine h v' w' ?_ h3
  have hcs : scells (stL ys) ++ [Value.int .i64 0, Value.string m.1, Value.string m.2] = scells (stL (ys ++ [m])) := by unfold stL; rw [List.map_append, scells_append]; simp [scells, stpM]
  rw [← hcs, List.length_append]
  simpa using h2

set_option maxRecDepth 100000 in
set_option maxHeartbeats 6400000 in
theorem l5Order_c (xs : List Mv) (h1 : MV xs) (v : Value) (w : World) (hx : RdM w v xs) :
    Calls Try.prog 121 #[v] w fun e w' => ∃ v', e = .returned v' ∧ w'.ownsRow w.heap.size 67 3 v' (ordF 19 (busyF xs 9)).length (scells (stL (ordF 19 (busyF xs 9)))) ∧ Below w.heap.size w w' := by
  have hW := busyF_Wt h1
  have hl9 := busyF_len xs 9
  have HNX := Lib.hid (fun ws wv A hx hl hn => l5Next_c ws wv A hx (by omega : ws.length ≤ 1048575) hn)
  have HIN := Lib.hid (fun ws wv a c A hx hl => l5Instead_c ws wv a c A hx (by omega : ws.length ≤ 1048575))
  have hE0 := World.ownsRow_lit (e := 67) (base := w.heap.size) (size := 3) w #[] 0 (Nat.le_refl _) (Nat.zero_le _) rfl
  have hb0 : Below w.heap.size w (w.alloc (.cells #[] 67)) := (Below.refl _ _).alloc (Nat.le_refl _) _
  have HB := Lib.hid (l1Busy_c xs v _ (hx.below hb0))
  go_enter Try.func121, Try.ntmps121
  go_wp2_with (go_at_call 133; refine HB.out.mono ?_; rintro e w1 ⟨v1, rfl, ho1, hb1⟩; refine held ?_)
  unfold Held
  have hb01 := hb0.trans (hb1.mono (by simp))
  have hR0 : OrdS w 65 67 (busyF xs 9) 19 (.slice (some ⟨w.heap.size, 0, none⟩) 0 0) v1 w1 :=
    ⟨[], busyF xs 9, rfl, hW, by have := hl9; unfold muW; split <;> omega, hl9, own_more ho1 hb0.size, own_keep hE0 hb1, hb01⟩
  clear hE0 hb0 HB ho1 hb1 hb01 hx hl9 hW h1
  generalize hbe : busyF xs 9 = bs at *
  have HBE := Lib.hid hbe
  clear hbe
  go_wp2
  go_loopw [3, 4, 5, 6, 7] (fun ov wv _ _ _ wr => ∃ k, OrdS w 65 67 bs k ov wv wr) (fun ov wv _ _ _ wr => leastK (fun k => OrdS w 65 67 bs k ov wv wr))
  case atStart => exact ⟨19, hR0⟩
  case round =>
    obtain ⟨hru, _⟩ := leastK_spec hrel
    generalize hkk : leastK (fun k => OrdS w 65 67 bs k u3 u4 wr) = kk at *
    have HKK := Lib.hid hkk
    clear hrel hkk hR0
    obtain ⟨pre, ws, hpr, hwt, hmu, h9, ho, hov, hb⟩ := hru
    have hbs := hb.size
    have hrd : RdM wr u4 ws := Rd.of_own ho
    obtain ⟨A, cap, rfl, hn1, hc1, hcell⟩ := hrd.open
    have hpl : pre.length ≤ 100 := by
      have h1 := congrArg List.length hpr
      rw [List.length_append] at h1
      have h2 := ordF_len 19 bs
      omega
    by_cases h0 : 0 < ws.length
    · obtain ⟨k, rfl⟩ : ∃ k', kk = k' + 1 := ⟨kk - 1, by unfold muW at hmu; omega⟩
      obtain ⟨b, off, rfl, hbl, d1', d2'⟩ := hcell 0 h0
      have hblo := (own_lt ho)
      have hcs : ∀ q (hq : q < ws.length), wr.cell? ⟨b, off + q * 2, none⟩ = some (.string ws[q].1) ∧ wr.cell? ⟨b, off + q * 2 + 1, none⟩ = some (.string ws[q].2) := fun q hq => by
        obtain ⟨b', off', e, _, q1, q2⟩ := hcell q hq
        cases e; exact ⟨q1, q2⟩
      have d1 : wr.cell? ⟨b, off, none⟩ = some (.string ws[0].1) := by simpa using d1'
      have i00 : (0 : Int) < (ws.length : Int) := by omega
      have hnx := HNX.out ws _ wr hrd (by omega) hwt.ne
      clear d1' d2' hcell
      rcases aheadZ_lt ws with hz | ⟨i, hi, hz, ha⟩
      · have ha := aheadI_of_neg hz
        have hof := ordF_none (n := k) h0 ha
        have hrn := hwt.none_ h0 ha
        have hrs := redM_spec0 hwt h0
        have hmn := muW_none hwt h0 ha
        rw [hrs] at hof hrn hmn
        have hin := HIN.out ws (.slice (some ⟨b, off, none⟩) ws.length cap) ws[0].1 spT
        have hnw := three_new
        have HNEW : Hid ((pre ++ [(spT, ws[0].1)]) ++ ordF k (instM ws[0].1 spT ws) = ordF 19 bs ∧ Wt (instM ws[0].1 spT ws) ∧ muW (instM ws[0].1 spT ws) ≤ k ∧ (instM ws[0].1 spT ws).length ≤ 9) :=
          ⟨by rw [← hpr, hof]; simp, hrn.1, by omega, by rw [instM_len]; exact h9⟩
        have HSP : Hid (spT = ⟨#[116]⟩) := rfl
        rw [hz] at hnx
        clear hz hof hrn hrs hmn hcs ha hpr
        generalize instM ws[0].1 spT ws = ws2 at *
        generalize ws[0].1 = x1 at *
        generalize spT = sp at *
        have hsp := HSP.out
        subst hsp
        go_wp2_with (go_at_call 134; refine hnx.mono ?_; rintro e w1' ⟨rfl, hb1⟩; refine held ?_)
        unfold Held
        have e1 := (hb1.cell (p := ⟨b, off, none⟩) hbl).trans d1
        have hov1 := own_keep hov hb1
        have ho1 := own_keep ho hb1
        have hB1 := hb.trans (hb1.mono hbs)
        have hs1 := hB1.size
        clear d1 hov ho hrd hb hb1
        go_wp2_with (at_builtin; refine held ?_)
        unfold Held
        refine app_stp rfl (.tmp 22) (.tmp 26) rfl w.heap.size _ pre (⟨#[116]⟩, x1) ⟨w1'.heap.size, 0, none⟩ 1 (by rfl) (by rfl) (own_keep hov1 ((Below.refl _ _).alloc (Nat.le_refl _) _)) (three_new w1' _ _ _ _) (by omega) (by simp; omega) ?_
        intro v3 w3 hov3 hg3
        have hbx : Below w.heap.size w (w1'.alloc (.cells #[.int .i64 0, .string ⟨#[116]⟩, .string x1] 67)) := hB1.alloc hs1 _
        have hB3 := hbx.trans (below_grown hg3 (by simp; omega) (own_block_ge hov1))
        have hs3 := hB3.size
        have ho3 := own_grown (own_keep ho1 ((Below.refl _ _).alloc (Nat.le_refl _) (.cells #[.int .i64 0, .string ⟨#[116]⟩, .string x1] 67))) hg3 (rows_ne ho1 hov1 (by decide))
        have hrd3 : RdM w3 _ ws := Rd.of_own ho3
        clear hg3 hbx hB1 hov1 ho1 e1
        go_wp2_with fail
        refine (hin w3 hrd3 (by omega)).mono ?_
        rintro e w4 ⟨v4, rfl, ho4, hb4⟩
        have hOR : OrdS w 65 67 bs k v3 v4 w4 := ⟨_, ws2, HNEW.out.1, HNEW.out.2.1, HNEW.out.2.2.1, HNEW.out.2.2.2, own_more ho4 hs3, own_keep hov3 hb4, hB3.trans (hb4.mono hs3)⟩
        clear ho4 hov3 hb4 ho3 hrd3
        go_wp2
        go_roundw
        case rel => exact ⟨k, hOR⟩
        case measure =>
          rw [HKK.out]
          have := (leastK_spec (P := fun k => OrdS w 65 67 bs k v3 v4 w4) ⟨k, hOR⟩).2 _ hOR
          omega
      · have hof := ordF_some (n := k) hi ha
        have hrn := hwt.some_ hi (aheadI_some ha).2
        have hrs := redM_spec hwt hi
        have hmn := muW_some hi ws[i]
        have hlr : (redM ws[i] (ws.eraseIdx i)).length ≤ 9 := by rw [redM_len, List.length_eraseIdx_of_lt hi]; omega
        have hin := fun v => HIN.out (ws.eraseIdx i) v ws[i].2 ws[i].1
        have hle9 : (ws.eraseIdx i).length ≤ 9 := by rw [List.length_eraseIdx_of_lt hi]; omega
        have HNEW : Hid ((pre ++ [ws[i]]) ++ ordF k (redM ws[i] (ws.eraseIdx i)) = ordF 19 bs ∧ Wt (redM ws[i] (ws.eraseIdx i)) ∧ muW (redM ws[i] (ws.eraseIdx i)) ≤ k ∧ (redM ws[i] (ws.eraseIdx i)).length ≤ 9) :=
          ⟨by rw [← hpr, hof]; simp, hrn, by omega, hlr⟩
        have HRS := Lib.hid hrs
        have hci := hcs i hi
        have i0 : (0 : Int) ≤ (i : Int) := by omega
        have i1 : (i : Int) < (ws.length : Int) := by omega
        rw [hz] at hnx
        clear hz hof hrn hrs hmn hcs ha hpr hlr d1
        generalize redM ws[i] (ws.eraseIdx i) = ws2 at *
        rw [show ws[i] = (ws[i].1, ws[i].2) from rfl] at HNEW
        generalize ws[i].1 = x1 at *
        generalize ws[i].2 = x2 at *
        go_wp2_with (go_at_call 134; refine hnx.mono ?_; rintro e w1' ⟨rfl, hb1⟩; refine held ?_)
        unfold Held
        have e1 := (hb1.cell (p := ⟨b, off + i * 2, none⟩) hbl).trans hci.1
        have e2 := (hb1.cell (p := ⟨b, off + i * 2 + 1, none⟩) hbl).trans hci.2
        have hov1 := own_keep hov hb1
        have ho1 := own_keep ho hb1
        have hB1 := hb.trans (hb1.mono hbs)
        have hs1 := hB1.size
        clear hov ho hrd hb hb1 hci
        have hN1 := At.new w1' 65 #[.string x1, .string x2]
        have hax : Below w1'.heap.size w1' (w1'.alloc (.cells #[.string x1, .string x2] 65)) := (Below.refl _ _).alloc (Nat.le_refl _) _
        have hov1b := own_keep hov1 hax
        have ho1b := own_keep ho1 hax
        have hnw := three_new (w1'.alloc (.cells #[.string x1, .string x2] 65)) (.int .i64 0) (.string x1) (.string x2) 67
        rw [World.size_alloc] at hnw
        go_wp2_with (at_builtin; refine held ?_)
        unfold Held
        refine app_stp rfl (.tmp 35) (.tmp 38) rfl w.heap.size _ pre (x1, x2) ⟨w1'.heap.size + 1, 0, none⟩ 1 (by rfl) (by rfl) (own_keep hov1b ((Below.refl _ _).alloc (Nat.le_refl _) _)) hnw (by omega) (by simp; omega) ?_
        intro v3 wx hov3 hg3
        have hbx : Below w.heap.size w ((w1'.alloc (.cells #[.string x1, .string x2] 65)).alloc (.cells #[.int .i64 0, .string x1, .string x2] 67)) := (hB1.alloc hs1 _).alloc (by simp; omega) _
        have hB3 := hbx.trans (below_grown hg3 (by simp; omega) (own_block_ge hov1))
        have hs3 := hB3.size
        have ho3 := own_grown (own_keep ho1b ((Below.refl _ _).alloc (Nat.le_refl _) (.cells #[.int .i64 0, .string x1, .string x2] 67))) hg3 (rows_ne ho1b hov1b (by decide))
        have hN3 := (hN1.alloc (.cells #[.int .i64 0, .string x1, .string x2] 67)).grown hg3 (own_box_ne hov1b hN1 (by decide))
        have hrdx : RdM wx (.slice (some ⟨b, off, none⟩) ws.length cap) ws := Rd.of_own ho3
        have hblx : b < wx.heap.size := (own_blk ho3 rfl).1
        have hsrc := Rd.cellsFrom hrdx
        clear hg3 hbx hB1 hov1 ho1 e1 e2 hov1b ho1b hax hN1 hnw hnx
        have hcp : ∀ (W : World), Below wx.heap.size wx W → ∀ (j : Nat) (u : Value), (mcells (ws.take i))[j]? = some u → W.cell? ((⟨b, off, none⟩ : Addr).add j) = some u := fun W hW j u h => by
          rw [add_off]
          refine (hW.cell hblx).trans (hsrc j u ?_)
          rw [← mcells_take, List.getElem?_take] at h
          split at h
          · exact h
          · cases h
        have hcq : ∀ (W : World), Below wx.heap.size wx W → ∀ (j : Nat) (u : Value), (mcells (ws.drop (i + 1)))[j]? = some u → W.cell? ((⟨b, off + (i + 1) * 2, none⟩ : Addr).add j) = some u := fun W hW j u h => by
          rw [add_off, Nat.add_assoc]
          refine (hW.cell hblx).trans (hsrc _ u ?_)
          rw [← mcells_drop, List.getElem?_drop] at h
          exact h
        have hltk : (ws.take i).length = i := by rw [List.length_take]; omega
        have hldk : (ws.drop (i + 1)).length = ws.length - (i + 1) := by rw [List.length_drop]
        have hsum : (ws.take i).length + (ws.drop (i + 1)).length ≤ 1048576 := by omega
        have i2 : (i : Int) + 1 ≤ (ws.length : Int) := by omega
        have i3 : (i : Int) ≤ (ws.length : Int) := by omega
        have HER : Hid (ws.take i ++ ws.drop (i + 1) = ws.eraseIdx i) := by show _ = _; rw [List.eraseIdx_eq_take_drop_succ]
        have HCP := Lib.hid hcp
        have HCQ := Lib.hid hcq
        have n1 : i ≤ cap := by omega
        have n2 : i + 1 ≤ ws.length := by omega
        have n3 : i + 1 ≤ cap := by omega
        have n4 : IntKind.i64.wrap ((i : Int) + 1) = (i : Int) + 1 := IntWalk.i64_in _ ⟨by omega, by omega⟩
        have n5 : ((i : Int) + 1).toNat = i + 1 := by omega
        have n6 : (0 : Int) ≤ (i : Int) + 1 := by omega
        clear hcp hcq hsrc
        generalize ws.take i = p1 at *
        generalize ws.drop (i + 1) = p2 at *
        by_cases hcap : cap = i + 1
        · subst hcap
          have hp20 : p2.length = 0 := by omega
          have n7 : (i : Int) ≤ (i : Int) + 1 := by omega
          have HCZ : Hid (∀ (W : World) (j : Nat) (u : Value), (mcells p2)[j]? = some u → W.cell? ((⟨b, off, none⟩ : Addr).add j) = some u) := fun W j u h => by
            have : p2 = [] := List.length_eq_zero_iff.1 (by omega)
            rw [this] at h; simp [mcells] at h
          go_wp2
          go_region_law (first
                    | (refine step_appM rfl (.tmp 40) (.tmp 43) rfl wx.heap.size (.slice (some ⟨wx.heap.size, 0, none⟩) 0 0) [] p1 ⟨b, off, none⟩ (i + 1) (by rfl) (by rw [hltk]; rfl) (own_lit1 _ _ _ _ rfl (Nat.le_refl _)) (HCP.out _ (by (repeat' (first | (with_reducible exact Below.refl _ _) | (with_reducible assumption) | (with_reducible refine Below.alloc ?_ ?_ _) | (with_reducible refine Below.drew ?_) | (with_reducible refine Below.setCell ?_ ?_ _) | (with_reducible exact Nat.le_refl _) | omega | ((repeat (first | rewrite [World.size_alloc] | rewrite [World.size_setCell] | rewrite [World.size_drew])); omega) | (simp; omega) | (simp; done))))) (by simp; omega) (by simp) ?_; intro vq wq ho1 hg1; have hb1' := Below.trans (show Below wx.heap.size wx ((wx.alloc (.cells #[] 65)).drew) by (repeat' (first | (with_reducible exact Below.refl _ _) | (with_reducible assumption) | (with_reducible refine Below.alloc ?_ ?_ _) | (with_reducible refine Below.drew ?_) | (with_reducible refine Below.setCell ?_ ?_ _) | (with_reducible exact Nat.le_refl _) | omega | ((repeat (first | rewrite [World.size_alloc] | rewrite [World.size_setCell] | rewrite [World.size_drew])); omega) | (simp; omega) | (simp; done)))) (below_grown hg1 (by simp) (fun g e => by have e' : some wx.heap.size = some g := e; cases e'; omega)))
                    | (refine step_appM rfl (.tmp 44) (.tmp 48) rfl wx.heap.size _ _ p2 ⟨b, off, none⟩ 0 (by rfl) (by rw [hp20]; rfl) ho1.out (HCZ.out _) (by simpa using hsum) (by have := hg1.size; simp at this; omega) ?_; intro v2 w2 ho2 hg2))
          have hz1 := hg1.size
          have hz2 := hg2.size
          simp only [World.size_alloc, World.size_drew] at hz1
          have hge1 := own_block_ge ho1.out
          have hb2 : Below wx.heap.size wx w2 := hb1'.trans (below_grown hg2 (by omega) (fun g e => by have := hge1 g e; omega))
          have ho2' : w2.ownsRow wx.heap.size 65 2 v2 (ws.eraseIdx i).length (mcells (ws.eraseIdx i)) := by
            have := ho2.out
            rw [List.nil_append, HER.out] at this
            exact this
          have HO2 := Lib.hid ho2'
          clear hg1 hg2 ho1 ho2 hb1' ho2' hge1 hz1 hz2 HCP HCQ HER
          
          have q1 := hN3.keep hb2
          have q11 : w2.cell? ⟨w1'.heap.size, 0, none⟩ = some (.string x1) := q1.cell 0
          have q12 : w2.cell? ⟨w1'.heap.size, 1, none⟩ = some (.string x2) := q1.cell 1
          have hov4 := own_keep hov3 hb2
          have hB4 := hB3.trans (hb2.mono hs3)
          have hs4 := hB4.size
          have hs5 := hb2.size
          clear q1 hN3 hov3 hrdx ho3 hB3 hb2
          rcases Bool.eq_false_or_eq_true (isP x2) with hp | hp
          · have hr := HRS.out
            rw [if_pos hp] at hr
            have hrd5 : RdM w2 v2 (ws.eraseIdx i) := Rd.of_own HO2.out
            have HI := Lib.hid (hin v2 w2 hrd5 (by omega))
            rw [← hr] at HI
            clear hr hrd5 hin
            go_wp2_with (first | (go_at_call 114; refine (l1Place_c _ _).mono ?_; rintro e w' ⟨rfl, rfl⟩) | (go_at_call 135; refine HI.out.mono ?_; rintro e w6 ⟨v6, rfl, ho6, hb6⟩; refine held ?_))
            unfold Held
            have hOR : OrdS w 65 67 bs k v3 v6 w6 := ⟨_, ws2, HNEW.out.1, HNEW.out.2.1, HNEW.out.2.2.1, HNEW.out.2.2.2, own_more ho6 hs4, own_keep hov4 hb6, hB4.trans (hb6.mono hs4)⟩
            clear ho6 hov4 hb6 hB4
            go_wp2
            go_roundw
            case rel => exact ⟨k, hOR⟩
            case measure =>
              rw [HKK.out]
              have := (leastK_spec (P := fun k => OrdS w 65 67 bs k v3 v6 w6) ⟨k, hOR⟩).2 _ hOR
              omega
          · have hr := HRS.out
            rw [if_neg (by rw [hp]; decide)] at hr
            have ho7 := HO2.out
            rw [← hr] at ho7
            have hOR : OrdS w 65 67 bs k v3 v2 w2 := ⟨_, ws2, HNEW.out.1, HNEW.out.2.1, HNEW.out.2.2.1, HNEW.out.2.2.2, own_more ho7 (by omega), hov4, hB4⟩
            clear hr ho7 hov4 hB4 hin
            go_wp2_with (go_at_call 114; refine (l1Place_c _ _).mono ?_; rintro e w' ⟨rfl, rfl⟩)
            go_roundw
            case rel => exact ⟨k, hOR⟩
            case measure =>
              rw [HKK.out]
              have := (leastK_spec (P := fun k => OrdS w 65 67 bs k v3 v2 w2) ⟨k, hOR⟩).2 _ hOR
              omega
        · go_wp2
          go_region_law (first
                    | (refine step_appM rfl (.tmp 40) (.tmp 43) rfl wx.heap.size (.slice (some ⟨wx.heap.size, 0, none⟩) 0 0) [] p1 ⟨b, off, none⟩ cap (by rfl) (by rw [hltk]; rfl) (own_lit1 _ _ _ _ rfl (Nat.le_refl _)) (HCP.out _ (by (repeat' (first | (with_reducible exact Below.refl _ _) | (with_reducible assumption) | (with_reducible refine Below.alloc ?_ ?_ _) | (with_reducible refine Below.drew ?_) | (with_reducible refine Below.setCell ?_ ?_ _) | (with_reducible exact Nat.le_refl _) | omega | ((repeat (first | rewrite [World.size_alloc] | rewrite [World.size_setCell] | rewrite [World.size_drew])); omega) | (simp; omega) | (simp; done))))) (by simp; omega) (by simp) ?_; intro vq wq ho1 hg1; have hb1' := Below.trans (show Below wx.heap.size wx ((wx.alloc (.cells #[] 65)).drew) by (repeat' (first | (with_reducible exact Below.refl _ _) | (with_reducible assumption) | (with_reducible refine Below.alloc ?_ ?_ _) | (with_reducible refine Below.drew ?_) | (with_reducible refine Below.setCell ?_ ?_ _) | (with_reducible exact Nat.le_refl _) | omega | ((repeat (first | rewrite [World.size_alloc] | rewrite [World.size_setCell] | rewrite [World.size_drew])); omega) | (simp; omega) | (simp; done)))) (below_grown hg1 (by simp) (fun g e => by have e' : some wx.heap.size = some g := e; cases e'; omega)))
                    | (refine step_appM rfl (.tmp 44) (.tmp 48) rfl wx.heap.size _ _ p2 ⟨b, off + (i + 1) * 2, none⟩ (cap - (i + 1)) (by rfl) (by rw [hldk]; rfl) ho1.out (HCQ.out _ hb1') (by simpa using hsum) (by have := hg1.size; simp at this; omega) ?_; intro v2 w2 ho2 hg2))
          have hz1 := hg1.size
          have hz2 := hg2.size
          simp only [World.size_alloc, World.size_drew] at hz1
          have hge1 := own_block_ge ho1.out
          have hb2 : Below wx.heap.size wx w2 := hb1'.trans (below_grown hg2 (by omega) (fun g e => by have := hge1 g e; omega))
          have ho2' : w2.ownsRow wx.heap.size 65 2 v2 (ws.eraseIdx i).length (mcells (ws.eraseIdx i)) := by
            have := ho2.out
            rw [List.nil_append, HER.out] at this
            exact this
          have HO2 := Lib.hid ho2'
          clear hg1 hg2 ho1 ho2 hb1' ho2' hge1 hz1 hz2 HCP HCQ HER
          
          have q1 := hN3.keep hb2
          have q11 : w2.cell? ⟨w1'.heap.size, 0, none⟩ = some (.string x1) := q1.cell 0
          have q12 : w2.cell? ⟨w1'.heap.size, 1, none⟩ = some (.string x2) := q1.cell 1
          have hov4 := own_keep hov3 hb2
          have hB4 := hB3.trans (hb2.mono hs3)
          have hs4 := hB4.size
          have hs5 := hb2.size
          clear q1 hN3 hov3 hrdx ho3 hB3 hb2
          rcases Bool.eq_false_or_eq_true (isP x2) with hp | hp
          · have hr := HRS.out
            rw [if_pos hp] at hr
            have hrd5 : RdM w2 v2 (ws.eraseIdx i) := Rd.of_own HO2.out
            have HI := Lib.hid (hin v2 w2 hrd5 (by omega))
            rw [← hr] at HI
            clear hr hrd5 hin
            go_wp2_with (first | (go_at_call 114; refine (l1Place_c _ _).mono ?_; rintro e w' ⟨rfl, rfl⟩) | (go_at_call 135; refine HI.out.mono ?_; rintro e w6 ⟨v6, rfl, ho6, hb6⟩; refine held ?_))
            unfold Held
            have hOR : OrdS w 65 67 bs k v3 v6 w6 := ⟨_, ws2, HNEW.out.1, HNEW.out.2.1, HNEW.out.2.2.1, HNEW.out.2.2.2, own_more ho6 hs4, own_keep hov4 hb6, hB4.trans (hb6.mono hs4)⟩
            clear ho6 hov4 hb6 hB4
            go_wp2
            go_roundw
            case rel => exact ⟨k, hOR⟩
            case measure =>
              rw [HKK.out]
              have := (leastK_spec (P := fun k => OrdS w 65 67 bs k v3 v6 w6) ⟨k, hOR⟩).2 _ hOR
              omega
          · have hr := HRS.out
            rw [if_neg (by rw [hp]; decide)] at hr
            have ho7 := HO2.out
            rw [← hr] at ho7
            have hOR : OrdS w 65 67 bs k v3 v2 w2 := ⟨_, ws2, HNEW.out.1, HNEW.out.2.1, HNEW.out.2.2.1, HNEW.out.2.2.2, own_more ho7 (by omega), hov4, hB4⟩
            clear hr ho7 hov4 hB4 hin
            go_wp2_with (go_at_call 114; refine (l1Place_c _ _).mono ?_; rintro e w' ⟨rfl, rfl⟩)
            go_roundw
            case rel => exact ⟨k, hOR⟩
            case measure =>
              rw [HKK.out]
              have := (leastK_spec (P := fun k => OrdS w 65 67 bs k v3 v2 w2) ⟨k, hOR⟩).2 _ hOR
              omega

    · have : ws = [] := List.length_eq_zero_iff.1 (by omega)
      subst this
      rw [ordF_nil, List.append_nil] at hpr
      rw [hpr] at hov
      go_wp2
      go_ret
      exact ⟨_, rfl, by rw [HBE.out]; exact hov, hb⟩
set_option maxRecDepth 100000 in
set_option maxHeartbeats 1600000 in
theorem spOrderMoves_c (xs : List Mv) (v : Value) (w : World) (hx : RdM w v xs) (hz : ∀ m ∈ xs, m.1.size ≤ 9223372036854775807 ∧ m.2.size ≤ 9223372036854775807) (hn' : xs.length ≤ 1048576) :
    Calls Try.prog 97 #[v] w fun e w' => ∃ v', e = .returned (.tuple #[v', .bool (mvalid xs)]) ∧ w'.ownsRow w.heap.size 67 3 v' (ordM xs).length (scells (stL (ordM xs))) ∧ Below w.heap.size w w' := by
  rcases Bool.eq_false_or_eq_true (mvalid xs) with h1 | h1
  · have hO := Lib.hid (show ordM xs = ordF 19 (busyF xs 9) from if_pos h1)
    have hOC := Lib.hid (fun W h => l5Order_c xs (by simpa [mvalid] using h1) v W h)
    have HX := Lib.hid (fun W (hW : Below w.heap.size w W) => hx.below hW)
    go_enter Try.func97, Try.ntmps97
    go_wp2_with fail
    refine (spMovesValid_c xs _ _ hx hz hn').mono ?_
    rintro e w1 ⟨he, hb1⟩
    rw [h1] at he
    subst he
    have hs1 := hb1.size
    go_wp2_with fail
    refine (hOC.out _ (HX.out _ hb1)).mono ?_
    rintro e w2 ⟨v2, rfl, ho2, hb2⟩
    have hB := hb1.trans (hb2.mono hs1)
    have ho3 := own_more ho2 hs1
    rw [← hO.out] at ho3
    clear ho2 hb2
    go_wp2
    go_ret2
    exact ⟨_, by rw [h1]; rfl, ho3, hB⟩
  · have hno : ordM xs = [] := if_neg (by rw [h1]; decide)
    have HNO := Lib.hid hno
    clear hno
    go_enter Try.func97, Try.ntmps97
    go_wp2_with fail
    refine (spMovesValid_c xs _ _ hx hz hn').mono ?_
    rintro e w1 ⟨he, hb1⟩
    rw [h1] at he
    subst he
    have hs1 := hb1.size
    have hE := World.ownsRow_lit (e := 67) (base := w.heap.size) (size := 3) w1 #[] 0 (by omega) (Nat.zero_le _) rfl
    have hB := hb1.alloc hs1 (.cells #[] 67)
    go_wp2
    go_ret2
    exact ⟨_, by rw [h1]; rfl, by rw [HNO.out]; exact hE, hB⟩
theorem spOrderMovesL_c (xs : List Mv) (v : Value) (w : World) (hx : RdM w v xs) (hz : ∀ m ∈ xs, m.1.size ≤ 9223372036854775807 ∧ m.2.size ≤ 9223372036854775807) (hn' : xs.length ≤ 1048576) :
    Calls Try.prog 97 #[v] w fun e w' => ∃ v', e = .returned (.tuple #[v', .bool (mvalid xs)]) ∧ w'.ownsRow w.heap.size 67 3 v' (stL (ordM xs)).length (scells (stL (ordM xs))) ∧ Below w.heap.size w w' := by
  rw [stL_len]; exact spOrderMoves_c xs v w hx hz hn'
end Go.Proofs.Ytogkodjlbdlgjaa
namespace Go.Proofs.Ytogkodjlbdlgjaa
open Go.RowKit Go.PM Go.PD Go.Lib
set_option maxRecDepth 100000 in
set_option maxHeartbeats 1600000 in
theorem spOrderDirect_c (xs : List Mv) (v : Value) (w : World) (hx : RdM w v xs) (hz : ∀ m ∈ xs, m.1.size ≤ 9223372036854775807 ∧ m.2.size ≤ 9223372036854775807) (hn' : xs.length ≤ 1048576) :
    Calls Try.prog 44 #[v] w fun e w' => ∃ v', e = .returned (.tuple #[v', .bool (mvalid xs)]) ∧ w'.ownsRow w.heap.size 67 3 v' (odS xs).length (scells (odS xs)) ∧ Below w.heap.size w w' := by
  have HO := Lib.hid (spOrderMoves_c xs v w hx hz hn')
  rcases Bool.eq_false_or_eq_true (mvalid xs) with h1 | h1
  · have HE := Lib.hid (odS_yes h1)
    have hl : (ordM xs).length ≤ 19 := by
      have hx : MV xs := by simpa [mvalid] using h1
      rw [ordM_yes hx]; exact ordF_len _ _
    have HL : Hid ((stL (ordM xs)).length = (ordM xs).length) := by show _ = _; simp [stL]
    have H1 := Lib.hid h1
    clear h1
    go_enter Try.func44, Try.ntmps44
    go_wp2_with fail
    refine HO.out.mono ?_
    rintro e w1 ⟨v1, rfl, ho, hb1⟩
    rw [H1.out]
    rw [← HL.out] at ho
    have hx1 : RdS w1 v1 (stL (ordM xs)) := Rd.of_own ho
    have HMD := Lib.hid (l8Direct_c (stL (ordM xs)) v1 w1 hx1 (by rw [HL.out]; omega))
    rw [← HE.out] at HMD
    have hs1 := hb1.size
    clear ho hx1
    go_wp2_with fail
    refine HMD.out.mono ?_
    rintro e w2 ⟨v2, rfl, ho2, hb2⟩
    have ho3 := own_more ho2 hs1
    have hb3 := hb1.trans (hb2.mono hs1)
    clear HMD ho2 hb2
    go_wp2
    go_ret2
    exact ⟨_, by rw [H1.out]; rfl, ho3, hb3⟩
  · have HE := Lib.hid (odS_no h1)
    have H1 := Lib.hid h1
    clear h1
    go_enter Try.func44, Try.ntmps44
    go_wp2_with fail
    refine HO.out.mono ?_
    rintro e w1 ⟨v1, rfl, ho, hb1⟩
    rw [H1.out]
    have hO := World.ownsRow_lit (e := 67) (base := w.heap.size) (size := 3) w1 #[] 0 hb1.size (Nat.zero_le _) rfl
    clear ho
    go_wp2
    go_ret2
    exact ⟨_, by rw [H1.out]; rfl, by rw [HE.out]; exact hO, hb1.alloc hb1.size _⟩
set_option maxHeartbeats 800000 in
theorem spCountDirect_c (xs : List Mv) (v : Value) (w : World) (hx : RdM w v xs) (hz : ∀ m ∈ xs, m.1.size ≤ 9223372036854775807 ∧ m.2.size ≤ 9223372036854775807) (hn' : xs.length ≤ 1048576) :
    Calls Try.prog 49 #[v] w fun e w' => e = .returned (.int .i64 (cdI xs)) ∧ Below w.heap.size w w' := by
  have HO := Lib.hid (spOrderDirect_c xs v w hx hz hn')
  have HY := Lib.hid (fun h => cdI_yes (xs := xs) h)
  have HN := Lib.hid (fun h => cdI_no (xs := xs) h)
  rcases Bool.eq_false_or_eq_true (mvalid xs) with h1 | h1
  all_goals
    have H1 := Lib.hid h1
    clear h1
    go_enter Try.func49, Try.ntmps49
    go_wp2_with fail
    refine HO.out.mono ?_
    rintro e w1 ⟨v1, rfl, ho, hb1⟩
    obtain ⟨A, cap, rfl, _⟩ := Rd.of_own ho
    rw [H1.out]
    clear ho
    go_wp2
    go_ret
    exact ⟨by first | (rw [HY.out H1.out]; rfl) | (rw [HN.out H1.out]; rfl), hb1⟩
end Go.Proofs.Ytogkodjlbdlgjaa
namespace Go.Proofs.Ytogkodjlbdlgjaa
open Go.RowKit Go.PM Go.ChangeShapes Go.WideShapes Go.Deep

theorem own : ownKnob Try.prog.godebug = none := by kernel_rfl
theorem laidOut : laidOutB Try.prog = true := by kernel_rfl

theorem exists_list {α : Type} (Q : Nat → α → Prop) : ∀ n, (∀ i, i < n → ∃ m, Q i m) → ∃ xs : List α, xs.length = n ∧ ∀ i (h : i < xs.length), Q i xs[i]
  | 0, _ => ⟨[], rfl, fun i h => absurd h (Nat.not_lt_zero _)⟩
  | n + 1, h => by
    obtain ⟨xs, hl, hx⟩ := exists_list Q n fun i hi => h i (by omega)
    obtain ⟨m, hm⟩ := h n (by omega)
    refine ⟨xs ++ [m], by simp [hl], fun i hi => ?_⟩
    by_cases h1 : i < xs.length
    · rw [List.getElem_append_left h1]; exact hx i h1
    · have h2 : i = xs.length := by simp at hi; omega
      subst h2
      rw [List.getElem_append_right (Nat.le_refl _)]
      simpa [hl] using hm

theorem rdM_mk {w : World} {ad : Addr} {cap : Nat} (xs : List Mv) (hc : xs.length ≤ cap) (hn : xs.length ≤ 9223372036854775807)
    (h : ∀ i (hi : i < xs.length), w.cell? (ad.add (i * 2)) = some (.string xs[i].1) ∧ w.cell? ((ad.add (i * 2)).add 1) = some (.string xs[i].2)) : RdM w (.slice (some ad) xs.length cap) xs := by
  refine ⟨some ad, cap, rfl, hc, hn, mcells_length xs, fun h0 => ?_⟩
  have h1 := (h 0 h0).1
  obtain ⟨b, off, spot⟩ := ad
  have hs : spot = none := by
    have := World.cell?_spot h1
    simpa [Addr.add] using this
  subst hs
  have hadd : ∀ o i, (Addr.mk b o none).add i = ⟨b, o + i, none⟩ := fun o i => by
    unfold Addr.add; split
    · next h => subst h; rfl
    · rfl
  refine ⟨b, off, rfl, ?_, fun j u hu => ?_⟩
  · rcases Nat.lt_or_ge b w.heap.size with hlt | hge
    · exact hlt
    · rw [hadd] at h1
      simp [World.cell?, Array.getElem?_eq_none hge] at h1
  · have hj : j < xs.length * 2 := by rw [← mcells_length]; exact (List.getElem?_eq_some_iff.1 hu).1
    have hk : j / 2 < xs.length := by omega
    have hm := mcells_at xs (j / 2) _ (List.getElem?_eq_getElem hk)
    have hh := h (j / 2) hk
    rw [hadd, hadd] at hh
    rcases Nat.mod_two_eq_zero_or_one j with h0 | h0
    · have e : j / 2 * 2 = j := by omega
      rw [e] at hm hh
      rw [hm.1] at hu
      rw [hh.1, hu]
    · have e : j / 2 * 2 + 1 = j := by omega
      rw [e] at hm
      rw [Nat.add_assoc, e] at hh
      rw [hm.2] at hu
      rw [hh.2, hu]

set_option maxRecDepth 100000 in
theorem open_moves {H : Type} {enc : TypeId × Value → H} {W : World} {base fuel : Nat} {spare : Nat → Bool} {held : Bool} {a : Option Addr} {n c : Nat} {x : DataW H × List MemPlace}
    (h : DataW.trod enc Try.prog W base spare held fuel 51 [.slice a n c] = some x) :
    ∃ xs : List Mv, RdM W (.slice a n c) xs ∧ ∀ m ∈ xs, m.1.size ≤ 9223372036854775807 ∧ m.2.size ≤ 9223372036854775807 := by
  rcases open_slice Try.underlying51 h with ⟨hcs, _⟩ | ⟨ad, len, cap, m, k, D, Pl, hcs, hb, hl, hm, hmm, hx, hi⟩
  · simp at hcs
    obtain ⟨rfl, rfl, rfl⟩ := hcs
    exact ⟨[], ⟨none, 0, rfl, by simp, by simp, rfl, by simp⟩, by simp⟩
  · simp at hcs
    obtain ⟨rfl, rfl, rfl⟩ := hcs
    have hC : Try.prog.cellsOf 110 = 2 := by kernel_rfl
    have hml : n ≤ m := by rw [hmm]; split <;> omega
    have hM : maxLen = 9223372036854775807 := rfl
    obtain ⟨xs, hxl, hxs⟩ := exists_list (fun i (m : Mv) => W.cell? (ad.add (i * 2)) = some (.string m.1) ∧ W.cell? ((ad.add (i * 2)).add 1) = some (.string m.2) ∧ m.1.size ≤ 9223372036854775807 ∧ m.2.size ≤ 9223372036854775807) n (fun i hin => by
      obtain ⟨cs', hc', ht⟩ := hi i (by omega)
      rw [hC] at hc'
      obtain ⟨y0, y1, k', _, hlen, h0, h1⟩ := trod_struct2 Try.underlying110 ht
      obtain ⟨_, hcl, hat⟩ := World.cells?_some hc'
      rw [hC] at hlen
      match cs', hlen with
      | [c0, c1], _ =>
        have e0 : Try.prog.cellsOf 9 = 1 := by kernel_rfl
        simp only [e0] at h0 h1
        simp at h0 h1
        obtain ⟨s, hs, _, hs1⟩ := DataW.trod_string Try.underlying9 h0
        obtain ⟨t, hta, _, ht1⟩ := DataW.trod_string Try.underlying9 h1
        simp at hs hta
        subst hs hta
        refine ⟨(s, t), ?_, ?_, hM ▸ hs1, hM ▸ ht1⟩
        · have := hat 0 (by omega)
          simpa [Addr.add] using this
        · have := hat 1 (by omega)
          simpa using this)
    subst hxl
    refine ⟨xs, rdM_mk xs hl (by omega) fun i hi => ⟨(hxs i hi).1, (hxs i hi).2.1⟩, fun m hm => ?_⟩
    obtain ⟨i, hi, rfl⟩ := List.getElem_of_mem hm
    exact (hxs i hi).2.2
end Go.Proofs.Ytogkodjlbdlgjaa
namespace Go.Proofs.Ytogkodjlbdlgjaa
open Go.RowKit Go.PM Go.PD
set_option maxRecDepth 100000 in
set_option maxHeartbeats 1600000 in
theorem exCountDirect (w : World) (xs0 : List Mv) (v0 : Value) (hx0 : RdM w v0 xs0) (hz0 : ∀ m ∈ xs0, m.1.size ≤ 9223372036854775807 ∧ m.2.size ≤ 9223372036854775807) :
    Calls Try.prog 9 #[v0] w fun e w' => e = .returned (.bool true) ∧ Below w.heap.size w w' := by
  go_enter Try.func9, Try.ntmps9
  go_wp2_with fail
  refine (szMoveS_c xs0 v0 1048576 _ (by decide) (by decide) hx0 hz0).mono ?_
  rintro e w1 ⟨⟨r0, rfl, hr0, hq0⟩, Hw1⟩
  have HR0 := Lib.hid hr0
  clear hr0
  have Bw1 := Hw1
  have Zw1 := Bw1.size
  by_cases hneg0 : r0 < 0
  · go_wp2
    go_ret
    exact ⟨rfl, Bw1⟩
  have hl0 : xs0.length ≤ 1048576 := by have := HR0.out (by omega); have := msize_len xs0; omega
  have hm0 : msize xs0 ≤ 1048576 := by have := HR0.out (by omega); omega
  go_wp2_with fail
  refine (toMoveS_c xs0 v0 _ (hx0.below Bw1) hl0).mono ?_
  rintro e w2 ⟨uw2, rfl, how2, Hw2⟩
  have Bw2 : Below w.heap.size w w2 := Bw1.trans (Hw2.mono Zw1)
  have Zw2 := Bw2.size
  have Rw2 : RdM w2 uw2 xs0 := Rd.of_own how2
  go_wp2_with fail
  refine (spCountDirect_c xs0 uw2 _ Rw2 hz0 hl0).mono ?_
  rintro e w3 ⟨rfl, Hw3⟩
  have Bw3 : Below w.heap.size w w3 := Bw2.trans (Hw3.mono Zw2)
  have Zw3 := Bw3.size
  go_wp2_with fail
  refine (toMoveS_c xs0 v0 _ (hx0.below Bw3) hl0).mono ?_
  rintro e w4 ⟨uw4, rfl, how4, Hw4⟩
  have Bw4 : Below w.heap.size w w4 := Bw3.trans (Hw4.mono Zw3)
  have Zw4 := Bw4.size
  have Rw4 : RdM w4 uw4 xs0 := Rd.of_own how4
  go_wp2_with fail
  refine (imCountDirect_c xs0 uw4 _ Rw4).mono ?_
  rintro e w5 ⟨rfl, Hw5⟩
  have Bw5 : Below w.heap.size w w5 := Bw4.trans (Hw5.mono Zw4)
  have Zw5 := Bw5.size
  have Q0 : RdM w5 uw4 xs0 := Rw4.below Hw5
  go_wp2_with fail
  refine (toMoveS_c xs0 v0 _ (hx0.below Bw5) hl0).mono ?_
  rintro e w6 ⟨uw6, rfl, how6, Hw6⟩
  have Bw6 : Below w.heap.size w w6 := Bw5.trans (Hw6.mono Zw5)
  have Zw6 := Bw6.size
  have Rw6 : RdM w6 uw6 xs0 := Rd.of_own how6
  go_wp2_with fail
  refine (eqMoveS_c xs0 xs0 uw4 uw6 _ (Q0.below Hw6) Rw6).mono ?_
  rintro e w7 ⟨he0, Hw7⟩
  rw [show decide (xs0 = xs0) = true by simp] at he0
  subst he0
  have Bw7 : Below w.heap.size w w7 := Bw6.trans (Hw7.mono Zw6)
  have Zw7 := Bw7.size
  go_wp2
  go_ret
  exact ⟨rfl, Bw7⟩

namespace fnExactCountDirect
open Go.RowKit Go.PM Go.ChangeShapes Go.WideShapes Go.ChangeAt
open Go.ChangeMaps (open_string shut_string)
set_option maxRecDepth 100000 in
theorem lifted (os : Os) (started : os.Started) (H : Type) (enc : TypeId × Value → H) :
    ReturnsInHanded {} Try.checked os 9 .any (Rows.fnExactCountDirectSpec.pre6 enc Try.prog Try.f9 Rows.fnExactCountDirectRow.domain false) (Rows.fnExactCountDirectSpec.post enc Try.prog Try.f9 false true false false) := by
  refine returnsInHanded_of_change (C := Try.checked) own started (by kernel_rfl) Try.func9
    (ChangeSpec.witness6 (enc := enc) (C := Try.checked) false ⟨#[], #[.slice none 0 0], []⟩ 8 (by kernel_rfl) (by kernel_rfl) (by kernel_rfl) (by kernel_rfl)) ?_
  intro W base args ds gs before hval0 hW hcnd _
  have hval : ∀ (j : Nat) t v, Try.f9.params[j]? = some t → args[j]? = some v → Value.okWide Try.prog W .any base t v := hval0
  have hW' := hW
  obtain ⟨p, q, hA0, hV, rfl, hfz, hnd⟩ := hW
  have hA : DataW.TrodAll enc Try.prog W 0 (fun _ => true) true Try.f9.params.toList args.toList ds p := hA0
  rw [Try.params9] at hA hval
  obtain ⟨v0, vs0, d0, ds0, p0, q0, hargs, rfl, rfl, h0, r0⟩ := trodAll_cons hA
  obtain ⟨rfl, rfl, rfl⟩ := trodAll_nil r0
  obtain rfl : args = #[v0] := by cases args; simp_all
  obtain ⟨rfl, rfl⟩ := trodVars_none hV
  have k0 := h0
  have lt0 : ∀ x ∈ p0, x.block < W.heap.size := by obtain ⟨m, hm⟩ := k0; exact DataW.trod_lt m _ _ _ hm
  obtain ⟨a0, len0, cap0, rfl⟩ := okWide_slice Try.underlying51 (hval 0 51 v0 rfl rfl)
  obtain ⟨xs0, hx0, hz0⟩ : ∃ xs : List Mv, RdM W (.slice a0 len0 cap0) xs ∧ ∀ m ∈ xs, m.1.size ≤ 9223372036854775807 ∧ m.2.size ≤ 9223372036854775807 := by obtain ⟨fuel, hf⟩ := h0; exact open_moves hf
  clear hA0 hval0
  refine (exCountDirect W xs0 _ hx0 hz0).mono fun e W' ⟨he, bel⟩ => ?_
  subst he
  exact ⟨_, rfl, _, _, _, [], _, [], hW', trodAll_mk1 (shut_bool Try.underlying4 _), (trodAll_cons_mk (Below.trod laidOut (by kernel_rfl) (of_decide_eq_true (by kernel_rfl)) k0 bel lt0) trodAll_mk0), rfl, bel.frame _, fun h => by cases h⟩

theorem over : Rows.fnExactCountDirectRow.holds Try.pinned (OpenSpec.ofChange Rows.fnExactCountDirectSpec) :=
  OpenClaim.holds_of_wide 9 Try.f9 rfl rfl rfl rfl rfl rfl rfl ⟨rfl, rfl, rfl, rfl, rfl⟩ rfl rfl rfl rfl rfl (by kernel_rfl) Try.func9 (by kernel_rfl)
    (of_decide_eq_true (by kernel_rfl)) (by unfold Func.isWrapper; first | (rw [if_pos (by decide +kernel)]; kernel_rfl) | (rw [if_neg (by decide +kernel)]; exact ⟨rfl, rfl⟩))
    (fun os started H enc _ => lifted os started H enc)

/-- The statement. -/
theorem proved : Rows.FnExactCountDirectSaid := over
end fnExactCountDirect
end Go.Proofs.Ytogkodjlbdlgjaa
